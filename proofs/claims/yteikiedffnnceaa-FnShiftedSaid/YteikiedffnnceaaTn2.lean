/- Shifts and pressings as function values: what one of them does. -/
import Derived.Test.YteikiedffnnceaaTn1
import Derived.Test.YteikiedffnnceaaFams8
import Derived.Test.YteikiedffnnceaaLawsC
namespace Go.Proofs.Yteikiedffnnceaa
open Go.ChangeShapes Go.WideShapes Go.ChangeAt Go.RowKit Go.Proofs

/-- the blocks hold what they are said to hold. -/
def Has (w : World) (bs : List (Nat × Obj)) : Prop := ∀ p ∈ bs, w.heap[p.1]? = some p.2
theorem Has.lt {w : World} {bs : List (Nat × Obj)} (h : Has w bs) {p : Nat × Obj} (hp : p ∈ bs) : p.1 < w.heap.size := (Array.getElem?_eq_some_iff.1 (h p hp)).1
theorem Has.below {w W : World} {bs : List (Nat × Obj)} (h : Has w bs) (hb : Below w.heap.size w W) : Has W bs := fun p hp => (hb.block p.1 (h.lt hp)).trans (h p hp)
theorem Has.tail {w : World} {p : Nat × Obj} {bs : List (Nat × Obj)} (h : Has w (p :: bs)) : Has w bs := fun q hq => h q (List.mem_cons_of_mem _ hq)
theorem Has.head {w : World} {p : Nat × Obj} {bs : List (Nat × Obj)} (h : Has w (p :: bs)) : w.heap[p.1]? = some p.2 := h p List.mem_cons_self
theorem Has.nil (w : World) : Has w [] := fun _ h => nomatch h
theorem Has.cons {w : World} {b : Nat} {o : Obj} {bs : List (Nat × Obj)} (h0 : w.heap[b]? = some o) (h : Has w bs) : Has w ((b, o) :: bs) := fun q hq => by
  rcases List.mem_cons.1 hq with rfl | hq
  · exact h0
  · exact h q hq
/-- none of the blocks is a list of turns. -/
def NoT (bs : List (Nat × Obj)) : Prop := ∀ p ∈ bs, ∀ (cur : Array Value) (fz : Nat × Nat), p.2 ≠ .cells cur 44 fz
/-- what a function that gives a family to be read returns. -/
def FamR (w : World) (ys : List Int) (e : Ending) (w' : World) : Prop := ∃ v, e = .returned (.agg #[v, (Value.func (.func 71) #[] #[])]) ∧ SRow w' w'.heap.size v ys ∧ Below w.heap.size w w'
/-- the function value says what becomes of a set. -/
def BecV (n : Int) (v : Value) (φ : Int → Int) (bs : List (Nat × Obj)) : Prop :=
  ∃ g cs, v = .func (.func g) #[] cs ∧ EntersG g ∧ ∀ (W : World) (x : Int), setB n x = true → Has W bs → Calls Try.prog g (#[.int .u64 x] ++ cs) W fun e w' => e = .returned (.int .u64 (φ x)) ∧ Below W.heap.size W w'
/-- the function value is a turn. -/
def TurnV (n : Int) (v : Value) (φ : Int → Int) (bs : List (Nat × Obj)) : Prop :=
  ∃ g cs, v = .func (.func g) #[] cs ∧ EntersG g ∧ ∀ (W : World) (lv : Value) (xs : List Int), famB n xs = true → Has W bs → SRow W W.heap.size lv xs → Calls Try.prog g (#[.agg #[lv, (Value.func (.func 71) #[] #[])]] ++ cs) W (FamR W (tnL φ xs))
theorem one_cell_at {w : World} {b : Nat} {v : Value} {t : TypeId} (h : w.heap[b]? = some (.cells #[v] t (0, 0))) : w.cell? ⟨b, 0, none⟩ = some v := by rw [cell_of_row w b 0 _ t (0, 0) h]; rfl

theorem shift_bec (n i k : Int) (hi : ptB n i = true) (hk : ptB n k = true) (b c : Nat) : BecV n (.func (.func 34) #[] #[.pointer (some ⟨b, 0, none⟩), .pointer (some ⟨c, 0, none⟩)]) (fun x => movedI x i k)
    [(b, .cells #[.int .i64 i] 3 (0, 0)), (c, .cells #[.int .i64 k] 3 (0, 0))] := by
  refine ⟨_, _, rfl, enters_of Try.func34 (by kernel_rfl) rfl, fun W x hx hW => ?_⟩
  have hc1 := one_cell_at hW.head
  have hc2 := one_cell_at hW.tail.head
  obtain ⟨x1, x2⟩ := setB_lt hx
  obtain ⟨n1, n2, _, _⟩ := setB_yes hx
  have i1 := ptB_yes hi
  have k1 := ptB_yes hk
  have hmv := Lib.hid (fun W => set_moved x i k x1 x2 i1.1 (by omega) k1.1 (by omega) W)
  replace hx := Lib.hid hx
  replace hi := Lib.hid hi
  replace hk := Lib.hid hk
  show Calls Try.prog 34 #[.int .u64 x, .pointer (some ⟨b, 0, none⟩), .pointer (some ⟨c, 0, none⟩)] W fun e w' => e = .returned (.int .u64 (movedI x i k)) ∧ Below W.heap.size W w'
  obtain ⟨r, hr⟩ : ∃ r, movedI x i k = r := ⟨_, rfl⟩
  rw [hr] at hmv ⊢
  replace hr := Lib.hid hr
  clear hW
  go_enter Try.func34, Try.ntmps34
  go_wp2_with (go_at_call 35; refine (hmv.out _).mono ?_; rintro e w' ⟨rfl, rfl⟩)
  go_ret
  exact ⟨rfl, Below.refl _ _⟩
theorem fam_cells {w : World} {c : Nat} {lv u : Value} (h : w.heap[c]? = some (.cells #[lv, u] 39 (0, 0))) : w.cell? ⟨c, 0, none⟩ = some lv ∧ w.cell? ⟨c, 1, none⟩ = some u :=
  ⟨by rw [cell_of_row w c 0 _ 39 (0, 0) h]; rfl, by rw [cell_of_row w c 1 _ 39 (0, 0) h]; rfl⟩
set_option maxHeartbeats 1000000 in
theorem repl_map (n : Int) (v : Value) (φ : Int → Int) (bs : List (Nat × Obj)) (hB : BecV n v φ bs) (b c : Nat) (lv : Value) (xs : List Int) (w : World) (hf : famB n xs = true) (hb : w.heap[b]? = some (.cells #[v] 59 (0, 0)))
    (hc : w.heap[c]? = some (.cells #[lv, (Value.func (.func 71) #[] #[])] 39 (0, 0))) (hx : SRow w w.heap.size lv xs) (hbs : Has w bs) :
    MapV 51 #[] #[.pointer (some ⟨b, 0, none⟩), .pointer (some ⟨c, 0, none⟩)] (rpI φ xs) xs w := fun W x hm hbel => by
  obtain ⟨g, cs, rfl, eg, hcall⟩ := hB
  have eg1 : ∀ args w, (callFunc g args).run Try.prog w = .ok (.enter g args) w := eg
  have hxs := (famB_all hf).2.2 x hm
  have h1 := hcall W x hxs (hbs.below hbel)
  have hblt := (Array.getElem?_eq_some_iff.1 hb).1
  have hclt := (Array.getElem?_eq_some_iff.1 hc).1
  have cb := one_cell_at ((hbel.block b hblt).trans hb)
  obtain ⟨cc0, cc1⟩ := fam_cells ((hbel.block c hclt).trans hc)
  have hxW := hx.below hbel (Nat.le_refl _)
  have hA := famB_asc hf
  have hl := fam_len hf
  have hsz := hbel.size
  obtain ⟨la, lc, rfl, _⟩ := id hx
  obtain ⟨r, hr⟩ : ∃ r, φ x = r := ⟨_, rfl⟩
  rw [hr] at h1
  replace h1 := Lib.hid h1
  replace hxW := Lib.hid hxW
  replace hA := Lib.hid hA
  have hrp : rpI φ xs x = if memB r xs then x else r := by unfold rpI; rw [hr]
  obtain ⟨y, hy⟩ : ∃ y, rpI φ xs x = y := ⟨_, rfl⟩
  show Calls Try.prog 51 #[.int .u64 x, .pointer (some ⟨b, 0, none⟩), .pointer (some ⟨c, 0, none⟩)] W fun e w' => e = .returned (.int .u64 (rpI φ xs x)) ∧ Below W.heap.size W w'
  rw [hy] at hrp ⊢
  replace hy := Lib.hid hy
  replace hr := Lib.hid hr
  replace hm := Lib.hid hm
  replace hxs := Lib.hid hxs
  replace hf := Lib.hid hf
  clear hbel hx hb hc hbs hcall
  rcases (by cases memB r xs <;> simp : memB r xs = true ∨ memB r xs = false) with hmb | hmb
  · rw [hmb, if_pos rfl] at hrp
    subst hrp
    replace hmb := Lib.hid hmb
    go_enter Try.func51, Try.ntmps51
    go_wp2_with fail
    refine h1.out.mono ?_
    rintro e w1 ⟨rfl, hb1⟩
    obtain ⟨d0, d1⟩ : w1.cell? ⟨c, 0, none⟩ = some (.slice la xs.length lc) ∧ w1.cell? ⟨c, 1, none⟩ = some (Value.func (.func 71) #[] #[]) := ⟨(hb1.cell (p := ⟨c, 0, none⟩) (by show c < W.heap.size; omega)).trans cc0, (hb1.cell (p := ⟨c, 1, none⟩) (by show c < W.heap.size; omega)).trans cc1⟩
    have hh := Lib.hid (has_any (.slice la xs.length lc) xs r w1.heap.size w1 ((hxW.out.below hb1 (by omega)).mono (by have := hb1.size; omega)) hA.out hl (Nat.le_refl _))
    rw [hmb.out] at hh
    replace hb1 := Lib.hid hb1
    go_wp2_with fail
    refine hh.out.mono ?_
    rintro e w2 ⟨rfl, hb2⟩
    replace hb2 := Lib.hid (hb1.out.trans (hb2.mono hb1.out.size))
    go_wp2_with fail
    go_ret
    exact ⟨rfl, hb2.out⟩
  · rw [hmb, if_neg (by simp)] at hrp
    subst hrp
    replace hmb := Lib.hid hmb
    go_enter Try.func51, Try.ntmps51
    go_wp2_with fail
    refine h1.out.mono ?_
    rintro e w1 ⟨rfl, hb1⟩
    obtain ⟨d0, d1⟩ : w1.cell? ⟨c, 0, none⟩ = some (.slice la xs.length lc) ∧ w1.cell? ⟨c, 1, none⟩ = some (Value.func (.func 71) #[] #[]) := ⟨(hb1.cell (p := ⟨c, 0, none⟩) (by show c < W.heap.size; omega)).trans cc0, (hb1.cell (p := ⟨c, 1, none⟩) (by show c < W.heap.size; omega)).trans cc1⟩
    have hh := Lib.hid (has_any (.slice la xs.length lc) xs y w1.heap.size w1 ((hxW.out.below hb1 (by omega)).mono (by have := hb1.size; omega)) hA.out hl (Nat.le_refl _))
    rw [hmb.out] at hh
    replace hb1 := Lib.hid hb1
    go_wp2_with fail
    refine hh.out.mono ?_
    rintro e w2 ⟨rfl, hb2⟩
    replace hb2 := Lib.hid (hb1.out.trans (hb2.mono hb1.out.size))
    go_wp2_with fail
    go_ret
    exact ⟨rfl, hb2.out⟩
set_option maxHeartbeats 1000000 in
theorem repl_turn (n : Int) (v : Value) (φ : Int → Int) (bs : List (Nat × Obj)) (hB : BecV n v φ bs) (hs : SetT n φ) (b : Nat) :
    TurnV n (.func (.func 49) #[] #[.pointer (some ⟨b, 0, none⟩)]) φ ((b, .cells #[v] 59 (0, 0)) :: bs) := by
  refine ⟨_, _, rfl, enters_of Try.func49 (by kernel_rfl) rfl, fun W lv xs hf hW hx => ?_⟩
  have hmf := mkfunc
  obtain ⟨a, cap, rfl, _⟩ := id hx
  have hbw := ((Below.refl W.heap.size W).alloc (Nat.le_refl _) (.cells #[.slice a xs.length cap, (Value.func (.func 71) #[] #[])] 39)).alloc (by simp) (.cells #[.slice none 0 0, .nilFunc] 39)
  have hW2 := hW.below hbw
  have hnew := new_cell2 W #[.slice a xs.length cap, (Value.func (.func 71) #[] #[])] 39 (.cells #[.slice none 0 0, .nilFunc] 39)
  have hk := Lib.hid (changed_any 51 (enters_of Try.func51 (by kernel_rfl) rfl) #[] #[.pointer (some ⟨b, 0, none⟩), .pointer (some ⟨W.heap.size, 0, none⟩)] (rpI φ xs) _ xs _ _ (hx.below hbw (Nat.le_refl _)) (by simp; omega) (fam_len hf)
    (fun z hz => setB_lt (rp_set hs ((famB_all hf).2.2 z hz)))
    (repl_map n v φ bs hB b W.heap.size (.slice a xs.length cap) xs _ hf hW2.head hnew ((hx.below hbw (Nat.le_refl _)).mono (by simp; omega)) hW2.tail))
  obtain ⟨l0, l1⟩ := fam_cells hnew
  replace hbw := Lib.hid hbw
  replace hf := Lib.hid hf
  clear hx hW hW2 hnew
  show Calls Try.prog 49 #[.agg #[.slice a xs.length cap, (Value.func (.func 71) #[] #[])], .pointer (some ⟨b, 0, none⟩)] W (FamR W (sortL (xs.map (rpI φ xs))))
  obtain ⟨ys, hys⟩ : ∃ ys, sortL (xs.map (rpI φ xs)) = ys := ⟨_, rfl⟩
  rw [hys] at hk ⊢
  replace hys := Lib.hid hys
  go_enter Try.func49, Try.ntmps49
  go_wp2_with fail
  refine hk.out.mono ?_
  rintro e w2 ⟨v, rfl, hS2, hb2⟩
  obtain ⟨a', c', rfl⟩ := hS2.form
  rw [World.size_alloc, World.size_alloc] at hS2 hb2
  obtain ⟨d0, d1, df0, df1⟩ := res_cells (new_cell1 W _ _ _) hb2
  have rr := two_cells (.slice a' ys.length c') (Value.func (.func 71) #[] #[]) d0 d1
  have hff := Lib.hid (fam_fin hS2 (hbw.out.trans (hb2.mono (by omega))) (by omega))
  clear hS2 hb2 hk
  go_wp2_with fail
  exact bodyPost_ret (v := .agg #[.slice a' ys.length c', (Value.func (.func 71) #[] #[])]) (by simp [results, Try.results49, go_sem, rr.1, rr.2]) rfl ⟨_, rfl, hff.out.1.row, hff.out.2⟩

/-- what a function that makes a turn leaves. -/
def MadeT (n : Int) (φ : Int → Int) (w : World) (e : Ending) (w' : World) : Prop := ∃ v bs, e = .returned v ∧ TurnV n v φ bs ∧ Has w' bs ∧ NoT bs ∧ Below w.heap.size w w'
theorem not_turn {t : TypeId} {cs : Array Value} {f0 : Nat × Nat} (h : t ≠ 44) (cur : Array Value) (fz : Nat × Nat) : Obj.cells cs t f0 ≠ .cells cur 44 fz := fun e => h (by cases e; rfl)
theorem shift_at (n i k : Int) (hi : ptB n i = true) (hk : ptB n k = true) (w : World) : Calls Try.prog 20 #[.int .i64 i, .int .i64 k] w (MadeT n (fun x => movedI x i k) w) := by
  have hT := Lib.hid (repl_turn n _ _ _ (shift_bec n i k hi hk w.heap.size (w.heap.size + 1)) (mv_set hi hk) (w.heap.size + 1 + 1))
  have hmf := mkfunc
  replace hi := Lib.hid hi
  replace hk := Lib.hid hk
  have hH := Lib.hid (Has.cons (w := ((w.alloc (.cells #[.int .i64 i] 3)).alloc (.cells #[.int .i64 k] 3)).alloc (.cells #[.func (.func 34) #[] #[.pointer (some ⟨w.heap.size, 0, none⟩), .pointer (some ⟨w.heap.size + 1, 0, none⟩)]] 59)) (b := w.heap.size + 1 + 1) (new_cell3c w _ _ _ _)
    (Has.cons (b := w.heap.size) (new_cell3a w _ _ _ _) (Has.cons (b := w.heap.size + 1) (new_cell3b w _ _ _ _) (Has.nil _))))
  have hbw := Lib.hid ((((Below.refl w.heap.size w).alloc (Nat.le_refl _) (.cells #[.int .i64 i] 3)).alloc (by simp) (.cells #[.int .i64 k] 3)).alloc (by simp; omega) (.cells #[.func (.func 34) #[] #[.pointer (some ⟨w.heap.size, 0, none⟩), .pointer (some ⟨w.heap.size + 1, 0, none⟩)]] 59))
  go_enter Try.func20, Try.ntmps20
  go_wp2_with (first | (go_at_call 33; go_in) | fail)
  go_ret
  refine ⟨_, _, rfl, hT.out, hH.out, ?_, hbw.out⟩
  intro p hp
  simp at hp
  rcases hp with rfl | rfl | rfl
  · exact not_turn (by decide)
  · exact not_turn (by decide)
  · exact not_turn (by decide)
end Go.Proofs.Yteikiedffnnceaa
