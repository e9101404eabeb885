/- The program's closed families: a set put into one in a variable; the least closed family that has all sets of a family. -/
import Derived.Test.YthljimmhgpbmbaaCo1
import Derived.Test.YthljimmhgpbmbaaCw2
namespace Go.Proofs.Ythljimmhgpbmbaa
open Go.ChangeShapes Go.WideShapes Go.ChangeAt Go.RowKit Go.Proofs

/-- bx holds a closed family: the list xs, owned from block B on, its comparison, and cv, which makes one set of two; the list does not lie in block D. -/
def CBox (cv : Value) (w : World) (B bx : Nat) (D : Option Nat) (xs : List Int) : Prop := B ≤ bx ∧ ∃ v, w.heap[bx]? = some (.cells #[v, (Value.func (.func 99) #[] #[]), cv] 46 (0, 0)) ∧ SetL w B v xs ∧ ∀ d, D = some d → v.ownBlock ≠ some d
theorem CBox.lt {cv : Value} {w : World} {B bx : Nat} {D : Option Nat} {xs : List Int} (h : CBox cv w B bx D xs) : bx < w.heap.size := by
  obtain ⟨_, v, hv, _, _⟩ := h
  exact (Array.getElem?_eq_some_iff.1 hv).1
theorem CBox.apart {cv : Value} {w : World} {B bx : Nat} {v : Value} {xs : List Int} (hv : w.heap[bx]? = some (.cells #[v, (Value.func (.func 99) #[] #[]), cv] 46 (0, 0))) (h : SetL w B v xs) : v.ownBlock ≠ some bx := by
  intro e
  rcases h.out with ⟨rfl, _⟩ | ⟨g, cap, cur, rfl, _, hg, _⟩
  · cases e
  · cases e
    rw [hv] at hg
    injection hg with hg
    injection hg with _ h2
    exact absurd h2 (by decide)
theorem CBox.below {cv : Value} {w w' : World} {B C bx : Nat} {D : Option Nat} {xs : List Int} (h : CBox cv w B bx D xs) (hb : Below C w w') (hC : w.heap.size ≤ C) : CBox cv w' B bx D xs := by
  have hlt := h.lt
  obtain ⟨h0, v, hv, hS, hD⟩ := h
  exact ⟨h0, v, by rw [hb.block bx (by omega)]; exact hv, hS.below hb hC, hD⟩
/-- a block that the family's world does not have yet is none of its list. -/
theorem CBox.other {cv : Value} {w : World} {B bx : Nat} {D D' : Option Nat} {xs : List Int} (h : CBox cv w B bx D xs) (hD : ∀ d, D' = some d → w.heap.size ≤ d) : CBox cv w B bx D' xs := by
  obtain ⟨h0, v, hv, hS, _⟩ := h
  exact ⟨h0, v, hv, hS, fun d hd e => by have := (hS.lt _ e).2; have := hD d hd; omega⟩
theorem cbox_new {cv : Value} {w : World} {B : Nat} {v : Value} {ys : List Int} (hS : SetL w B v ys) (hB : B ≤ w.heap.size) : CBox cv (w.alloc (.cells #[v, (Value.func (.func 99) #[] #[]), cv] 46)) B w.heap.size none ys :=
  ⟨hB, v, heap_alloc_new w _, hS.alloc _, fun _ h => by cases h⟩
theorem cbox_cells {cv : Value} {w : World} {B bx : Nat} {D : Option Nat} {xs : List Int} (h : CBox cv w B bx D xs) : ∃ a c, w.cell? ⟨bx, 0, none⟩ = some (.slice a xs.length c) ∧ w.cell? ⟨bx, 1, none⟩ = some (Value.func (.func 99) #[] #[]) ∧ w.cell? ⟨bx, 2, none⟩ = some cv ∧ SetL w B (.slice a xs.length c) xs := by
  obtain ⟨h0, v, hv, hS, _⟩ := h
  obtain ⟨a, c, rfl⟩ := hS.form
  exact ⟨a, c, by rw [cell_of_row w _ 0 _ 46 (0, 0) hv]; rfl, by rw [cell_of_row w _ 1 _ 46 (0, 0) hv]; rfl, by rw [cell_of_row w _ 2 _ 46 (0, 0) hv]; rfl, hS⟩
/-- what slices.Insert leaves, and where: in the list's own block, or in a new one. -/
def InsPostO (B : Nat) (v : Value) (w : World) (ys : List Int) (e : Ending) (w' : World) : Prop := ∃ v', e = .returned v' ∧ SetL w' B v' ys ∧ w.grownBy w' v.ownBlock ∧ (v'.ownBlock = v.ownBlock ∨ ∃ k, v'.ownBlock = some k ∧ w.heap.size ≤ k)
set_option maxHeartbeats 1000000 in
theorem ins0_o (B vb : Nat) (x : Int) (w : World) (hB : B ≤ w.heap.size) (hv : w.cell? ⟨vb, 0, none⟩ = some (.int .u64 x)) :
    Calls Try.prog 106 #[.slice none 0 0, .int .i64 0, .slice (some ⟨vb, 0, none⟩) 1 1] w (InsPostO B (.slice none 0 0) w [x]) := by
  obtain ⟨i0, hi0, hz0, hz1, hz2⟩ := info_parts Try.setInfo
  have hS := Lib.hid (SetL.nil w B)
  have hone := Lib.hid (one_cell hv)
  clear hv
  go_enter Try.func106, Try.ntmps106
  go_wp2_with (at_builtin; refine wpList_append_own_at _ rfl _ _ 40 rfl B 50 i0 (.int .u64 0) 1 8 Try.underlying40 hi0 hz0 hz1 hz2 rfl (by decide) _ 0 [] rfl hS.out ⟨vb, 0, none⟩ 1 1 [.int .u64 x] rfl rfl hone.out (by simp [Value.oneCell']) (by unfold maxLen; omega) (by omega) hB ?_; intro v' w' hown hg _ hat)
  go_ret
  exact ⟨_, rfl, own_snoc (xs := []) rfl hown, hg, hat.imp id (fun h => ⟨_, h, Nat.le_refl _⟩)⟩
set_option maxRecDepth 100000 in
set_option maxHeartbeats 1000000 in
theorem ins1_o (g cap : Nat) (xs : List Int) (B vb : Nat) (x : Int) (w : World) (hS : SetL w B (.slice (some ⟨g, 0, none⟩) xs.length cap) xs) (hl : xs.length ≤ 100000) (_hcap : xs.length ≤ cap) (_hcm : cap ≤ 9223372036854775807) (hB : B ≤ w.heap.size) (hv : w.cell? ⟨vb, 0, none⟩ = some (.int .u64 x)) :
    Calls Try.prog 106 #[.slice (some ⟨g, 0, none⟩) xs.length cap, .int .i64 (xs.length : Nat), .slice (some ⟨vb, 0, none⟩) 1 1] w (InsPostO B (.slice (some ⟨g, 0, none⟩) xs.length cap) w (xs ++ [x])) := by
  obtain ⟨i0, hi0, hz0, hz1, hz2⟩ := info_parts Try.setInfo
  replace hS := Lib.hid hS
  have hone := Lib.hid (one_cell hv)
  obtain ⟨n, hn⟩ : ∃ n, xs.length = n := ⟨_, rfl⟩
  rw [hn] at hS hl _hcap ⊢
  replace hn := Lib.hid hn
  clear hv
  go_enter Try.func106, Try.ntmps106
  go_wp2_with (at_builtin; refine wpList_append_own_at _ rfl _ _ 40 rfl B 50 i0 (.int .u64 0) 1 8 Try.underlying40 hi0 hz0 hz1 hz2 rfl (by decide) _ n (sv xs) rfl (hn.out ▸ hS.out) ⟨vb, 0, none⟩ 1 1 [.int .u64 x] rfl rfl hone.out (by simp [Value.oneCell']) (by unfold maxLen; omega) (by omega) hB ?_; intro v' w' hown hg _ hat)
  all_goals
    go_ret
    exact ⟨_, rfl, own_snoc hn.out hown, hg, hat.imp id (fun h => ⟨_, h, Nat.le_refl _⟩)⟩
theorem ins_o (v : Value) (xs : List Int) (i B vb : Nat) (x : Int) (w : World) (hS : SetL w B v xs) (hi : i ≤ xs.length) (hl : xs.length ≤ 100000) (hB : B ≤ w.heap.size) (hv : w.heap[vb]? = some (.cells #[.int .u64 x] 50 (0, 0))) (hne : v.ownBlock ≠ some vb) :
    Calls Try.prog 106 #[v, .int .i64 (i : Nat), .slice (some ⟨vb, 0, none⟩) 1 1] w (InsPostO B v w (putAt i x xs)) := by
  have hvc : w.cell? ⟨vb, 0, none⟩ = some (.int .u64 x) := by rw [cell_of_row w vb 0 _ 50 (0, 0) hv]; rfl
  have hvs : ∀ j v, (sv [x])[j]? = some v → w.cell? ⟨vb, 0 + j, none⟩ = some v := fun j u hj => by
    obtain ⟨h1, rfl⟩ := sv_get hj
    have : j = 0 := by simpa using h1
    subst this
    exact hvc
  rcases hS.out with ⟨rfl, rfl⟩ | ⟨g, cap, cur, rfl, hg, hh, hn, hm, hs, hc⟩
  · obtain rfl : i = 0 := by simpa using hi
    exact ins0_o B vb x w hB hvc
  · have hcm : cap ≤ 9223372036854775807 := by unfold maxLen at hm; omega
    by_cases he : i = xs.length
    · subst he
      have e : putAt xs.length x xs = xs ++ [x] := by unfold putAt; rw [List.take_length, List.drop_length]
      rw [e]
      exact ins1_o g cap xs B vb x w hS hl hn hcm hB hvc
    · have hcs : ∀ j v, (sv xs)[j]? = some v → w.cell? ⟨g, 0 + j, none⟩ = some v := fun j u hj => by
        obtain ⟨h1, rfl⟩ := sv_get hj
        rw [Nat.zero_add]; exact hc j h1
      have hvg : vb ≠ g := fun e => hne (by rw [e]; rfl)
      by_cases hroom : xs.length + 1 ≤ cap
      · have hsome : ∀ j, j < xs.length + 1 → (w.cell? ⟨g, j, none⟩).isSome = true := fun j hj => by
          rw [cell_of_row w g j cur 50 (0, 0) hh, Array.getElem?_eq_getElem (by omega)]; rfl
        refine (ins_shift g 0 xs.length cap i vb 0 1 1 (sv xs) (sv [x]) w (by omega) (by omega) hroom hcm hvg (sv_len xs) rfl hcs (fun j hj => by rw [Nat.zero_add]; exact hsome j hj) (fun j hj => frozen_of hh _) hvs (sv_one xs) (sv_one [x]) 50 50 1 cap (shape_of hv) (by rw [shape_of hh, hs]) (by omega) (frozen_of hv _) (frozen_of hv _)).mono ?_
        rintro e w' ⟨rfl, rfl⟩
        rw [Nat.zero_add, Nat.zero_add]
        have hd : (sv xs).drop i = sv (xs.drop i) := by unfold sv; rw [List.map_drop]
        rw [hd]
        obtain ⟨c1, h1, z1⟩ := heap_setCells_same g 50 (sv (xs.drop i)) (i + 1) w.drew cur hh
        obtain ⟨c2, h2, z2⟩ := heap_setCells_same g 50 (sv [x]) i _ c1 h1
        have hcell := cells_putAt (w := w.drew) (g := g) (x := x) hi _ _ rfl rfl hsome (fun j hj => hc j (by omega))
        have hlen := putAt_len (x := x) hi
        refine ⟨_, rfl, ?_, ?_, .inl rfl⟩
        · rw [← hlen]
          exact SetL.mk hg h2 (by omega) hm (by omega) (fun j hj => hcell j (by omega))
        · exact grown_setCells (.inl rfl) _ _ _ (grown_setCells (.inl rfl) _ _ _ (grown_drew (grown_refl w _)))
      · have hd : (sv xs).drop i = sv (xs.drop i) := by unfold sv; rw [List.map_drop]
        refine (ins_grow g 0 xs.length cap i vb 0 1 1 (sv xs) (sv [x]) w (by omega) (by omega) hn (by omega) (by omega) (sv_len xs) rfl hcs hvs (sv_one xs) (sv_one [x])).mono ?_
        rintro e w' ⟨rfl, rfl⟩
        rw [hd]
        have hG1 := grownCap_ge w (xs.length + 1) cap 50
        have hG2 := grownCap_le_maxLen w (xs.length + 1) cap 50 (by unfold maxLen; omega)
        have hlen := putAt_len (x := x) hi
        obtain ⟨G, hG⟩ : ∃ G, grownCap w (xs.length + 1) cap 50 = G := ⟨_, rfl⟩
        rw [hG] at hG1 hG2 ⊢
        obtain ⟨ROW, hR⟩ : ∃ ROW : Array Value, ((sv xs).take i).toArray ++ Builtin.zeroCells (Value.int .u64 0).cells (xs.length + 1 - i) ++ Builtin.zeroCells (Value.int .u64 0).cells (G - (xs.length + 1)) = ROW := ⟨_, rfl⟩
        have hRs : ROW.size = G := by
          rw [← hR]
          simp [Builtin.zeroCells, Value.cells, List.length_take, sv_len]
          omega
        have hRlo : ∀ j, j < i → ROW[j]? = some (.int .u64 (xs.getD j 0)) := fun j hj => by
          rw [← hR, Array.append_assoc, Array.getElem?_append_left (by simp [List.length_take, sv_len]; omega), List.getElem?_toArray, List.getElem?_take, if_pos hj]
          exact sv_at (by omega)
        rw [hR, drew_setCells]
        have hn0 : (w.alloc (.cells ROW 50)).drew.drew.heap[w.heap.size]? = some (.cells ROW 50 (0, 0)) := heap_alloc_new w _
        obtain ⟨c1, h1, z1⟩ := heap_setCells_same w.heap.size 50 (sv [x]) i (w.alloc (.cells ROW 50)).drew.drew ROW hn0
        obtain ⟨c2, h2, z2⟩ := heap_setCells_same w.heap.size 50 (sv (xs.drop i)) (i + 1) _ c1 h1
        have hcell := cells_putAt2 (w := (w.alloc (.cells ROW 50)).drew.drew) (g := w.heap.size) (x := x) hi (fun j hj => by
          rw [cell_of_row _ w.heap.size j ROW 50 (0, 0) hn0, Array.getElem?_eq_getElem (by omega)]; rfl) (fun j hj => by
          rw [cell_of_row _ w.heap.size j ROW 50 (0, 0) hn0]; exact hRlo j hj)
        refine ⟨_, rfl, ?_, ?_, .inr ⟨_, rfl, Nat.le_refl _⟩⟩
        · rw [← hlen]
          exact SetL.mk hB h2 (by omega) hG2 (by omega) (fun j hj => hcell j (by omega))
        · exact grown_setCells (.inr (Nat.le_refl _)) _ _ _ (grown_setCells (.inr (Nat.le_refl _)) _ _ _ (grown_drew (grown_drew (World.grownBy_alloc w _ _))))

/-- what put leaves of a closed family: block D, in which its list does not lie, stays. -/
def PutPostC (cv : Value) (B bx : Nat) (D : Option Nat) (w : World) (ys : List Int) (e : Ending) (w' : World) : Prop := (∃ v, e = .returned v) ∧ CBox cv w' B bx D ys ∧ Below B w w' ∧ w.heap.size ≤ w'.heap.size ∧ ∀ d, D = some d → w'.heap[d]? = w.heap[d]?
set_option maxHeartbeats 1000000 in
theorem put_c (cv : Value) (B bx : Nat) (D : Option Nat) (xs : List Int) (x : Int) (w : World) (hF : CBox cv w B bx D xs) (hDw : ∀ d, D = some d → d ≠ bx ∧ d < w.heap.size) (hA : Asc xs) (hl : xs.length ≤ 1000) (hB : B ≤ w.heap.size) :
    Calls Try.prog 93 #[.pointer (some ⟨bx, 0, none⟩), .int .u64 x] w (PutPostC cv B bx D w (insI x xs)) := by
  have hlt := hF.lt
  obtain ⟨hBx, v, hv, hS, hDv⟩ := hF
  replace hDv := Lib.hid hDv
  have hap := Lib.hid (CBox.apart hv hS)
  have c0 : w.cell? ⟨bx, 0, none⟩ = some v := by rw [cell_of_row w bx 0 _ 46 (0, 0) hv]; rfl
  have c1 : w.cell? ⟨bx, 1, none⟩ = some (Value.func (.func 99) #[] #[]) := by rw [cell_of_row w bx 1 _ 46 (0, 0) hv]; rfl
  have hpl := Lib.hid (place_any v xs x w.heap.size w hS.row hA (by omega) (Nat.le_refl _))
  have hpi := plN_le x xs
  replace hv := Lib.hid hv
  replace hS := Lib.hid hS
  have hne : bx ≠ w.heap.size := by omega
  rcases (by cases memB x xs <;> simp : memB x xs = true ∨ memB x xs = false) with hm | hm
  · have hpl2 := hpl.out
    rw [hm] at hpl2
    replace hpl := Lib.hid hpl2
    replace hm := Lib.hid hm
    clear hpl2
    go_enter Try.func93, Try.ntmps93
    go_wp2_with (go_at_call 105; refine hpl.out.mono ?_; rintro e w' ⟨rfl, rfl⟩)
    go_end0
    exact ⟨⟨_, rfl⟩, ⟨hBx, v, by rw [Below.heap_alloc _ _ _ hlt, hv.out], by rw [ins_yes hm.out]; exact hS.out.alloc _, hDv.out⟩, (Below.refl _ _).alloc hB _, by simp, fun d hd => Below.heap_alloc _ _ _ (hDw d hd).2⟩
  · have hpl2 := hpl.out
    rw [hm] at hpl2
    replace hpl := Lib.hid hpl2
    have hpi2 := Lib.hid (putAt_ins hm)
    replace hm := Lib.hid hm
    clear hpl2
    have hins := Lib.hid (ins_o v xs (plN x xs) B (w.heap.size + 1) x ((w.alloc (.cells #[v, (Value.func (.func 99) #[] #[])] 43)).alloc (.cells #[.int .u64 x] 50)) ((hS.out.alloc _).alloc _) hpi (by omega) (by simp; omega) (by
      have := heap_alloc_new (w.alloc (.cells #[v, (Value.func (.func 99) #[] #[])] 43)) (.cells #[.int .u64 x] 50)
      simpa using this) (by intro e; have := hS.out.lt _ e; omega))
    go_enter Try.func93, Try.ntmps93
    go_wp2_with (go_at_call 105; refine hpl.out.mono ?_; rintro e w' ⟨rfl, rfl⟩)
    refine hins.out.mono ?_
    rintro e w3 ⟨v', rfl, hS3, hg3, hat⟩
    have hh3 : w3.heap[bx]? = some (.cells #[v, (Value.func (.func 99) #[] #[]), cv] 46 (0, 0)) := by
      rw [hg3.block bx (by simp; omega) (fun e => hap.out e.symm), Below.heap_alloc _ _ _ (by simp; omega), Below.heap_alloc _ _ _ hlt]
      exact hv.out
    have d0 : w3.cell? ⟨bx, 0, none⟩ = some v := by rw [cell_of_row w3 bx 0 _ 46 (0, 0) hh3]; rfl
    have df : w3.frozen? ⟨bx, 0, none⟩ = false := frozen_of hh3 _
    have hb3 := Lib.hid (below_grow (((Below.refl B w).alloc hB _).alloc (by simp; omega) _) hg3 ((hS.out.alloc _).alloc _) (by simp; omega))
    have hz := hg3.size
    simp at hz
    have hDD := Lib.hid (show ∀ d, D = some d → w3.heap[d]? = w.heap[d]? from fun d hd => by
      rw [hg3.block d (by have := (hDw d hd).2; simp; omega) (fun e => hDv.out d hd e.symm), Below.heap_alloc _ _ _ (by have := (hDw d hd).2; simp; omega), Below.heap_alloc _ _ _ (hDw d hd).2])
    have hDn := Lib.hid (show ∀ d, D = some d → v'.ownBlock ≠ some d from fun d hd e => by
      have h2 := (hDw d hd).2
      rcases hat with h | ⟨k, h, hk⟩
      · exact hDv.out d hd (h ▸ e)
      · rw [h] at e; injection e with e; simp at hk; omega)
    replace hS3 := Lib.hid hS3
    replace hh3 := Lib.hid hh3
    clear hg3 hins hat
    obtain ⟨a', c', rfl⟩ := hS3.out.form
    go_wp2_with fail
    go_end0
    have hst := heap_setCell_same w3 bx 0 _ 46 (.slice a' (putAt (plN x xs) x xs).length c') hh3.out
    refine ⟨⟨_, rfl⟩, ⟨hBx, _, by rw [hst]; rfl, ?_, hDn.out⟩, below_setCell hb3.out hBx _, ?_, fun d hd => by rw [Below.heap_setCell _ _ _ _ (hDw d hd).1]; exact hDD.out d hd⟩
    · rw [← hpi2.out]
      exact hS3.out.store _ _ (by
        intro e
        rcases hS3.out.out with ⟨h0, _⟩ | ⟨g, cap, cur, h0, _, hg, _⟩
        · injection h0 with h1; rw [h1] at e; cases e
        · injection h0 with h1; rw [h1] at e; cases e
          rw [hh3.out] at hg
          injection hg with hg
          injection hg with _ h2
          exact absurd h2 (by decide))
    · simp [World.setCell]; omega


/-- what one more round of add leaves. -/
def putsL (op : Int → Int → Int) (C : List Int) (s : Int) (k : Nat) : List Int := (C.take k).foldl (fun a x => insI (op x s) a) C
theorem puts_step {op : Int → Int → Int} {C : List Int} {s x : Int} {k : Nat} (hk : k < C.length) (hx : C.getD k 0 = x) : putsL op C s (k + 1) = insI (op x s) (putsL op C s k) := by
  unfold putsL; rw [take_snoc hk, hx, List.foldl_append]; rfl
theorem puts_all (op : Int → Int → Int) (C : List Int) (s : Int) : insI s (putsL op C s C.length) = addL op C s := by
  unfold putsL addL; rw [List.take_length]
theorem asc_puts {op : Int → Int → Int} {C : List Int} {s : Int} (k : Nat) (h : Asc C) : Asc (putsL op C s k) := asc_foldI (fun x => op x s) _ _ h
theorem puts_len {op : Int → Int → Int} {C : List Int} {s : Int} (k : Nat) (h : Asc C) (hz : ∀ z ∈ C, 0 ≤ z ∧ z < 256) (ho : ∀ z ∈ C, 0 ≤ op z s ∧ op z s < 256) : (putsL op C s k).length ≤ 256 :=
  asc_len256 (asc_puts k h) (fun z hz' => by
    rcases (mem_foldI (fun x => op x s) _ _ z).1 hz' with h | ⟨x, hx, rfl⟩
    · exact hz z h
    · exact ho x (List.mem_of_mem_take hx))
theorem SetL.same {w w' : World} {B : Nat} {v : Value} {xs : List Int} (h : SetL w B v xs) (hD : ∀ d, v.ownBlock = some d → w'.heap[d]? = w.heap[d]?) : SetL w' B v xs := by
  refine ⟨h.1, ?_⟩
  rcases h.2 with hn | ⟨g, cap, cur, rfl, hB, hg, rest⟩
  · exact .inl hn
  · exact .inr ⟨g, cap, cur, rfl, hB, by rw [hD g rfl]; exact hg, rest⟩
/-- the function value g makes op of two sets, in every world. -/
def OpV (g : Nat) (op : Int → Int → Int) (xs ys : List Int) : Prop := ∀ (W : World) (x y : Int), x ∈ xs → y ∈ ys → Calls Try.prog g #[.int .u64 x, .int .u64 y] W fun e w' => e = .returned (.int .u64 (op x y)) ∧ Below W.heap.size W w'
set_option maxHeartbeats 4000000 in
theorem add_c (g : Nat) (eg : EntersG g) (op : Int → Int → Int) (B bx : Nat) (C : List Int) (s : Int) (w : World) (hF : CBox (.func (.func g) #[] #[]) w B bx none C) (hA : Asc C) (hB : B ≤ w.heap.size) (hz : ∀ z ∈ C, 0 ≤ z ∧ z < 256) (ho : ∀ z ∈ C, 0 ≤ op z s ∧ op z s < 256)
    (hp : OpV g op C [s]) :
    Calls Try.prog 77 #[.pointer (some ⟨bx, 0, none⟩), .int .u64 s] w (PutPostC (.func (.func g) #[] #[]) B bx none w (addL op C s)) := by
  have eg1 : ∀ args w, (callFunc g args).run Try.prog w = .ok (.enter g args) w := eg
  have hlt := hF.lt
  have hBx := hF.1
  obtain ⟨a, c, c0, c1, c2, hS⟩ := cbox_cells hF
  have hl := asc_len256 hA hz
  have hcl := Lib.hid (clone_at a c C w.heap.size w hS.row (Nat.le_refl _) (by omega))
  replace hF := Lib.hid hF
  replace hz := Lib.hid hz
  replace ho := Lib.hid ho
  replace hp := Lib.hid hp
  replace hA := Lib.hid hA
  replace hS := Lib.hid hS
  go_enter Try.func77, Try.ntmps77
  go_wp2_with fail
  refine hcl.out.mono ?_
  rintro e w1 ⟨v1, rfl, hS1, hb1⟩
  obtain ⟨a1, k1, rfl⟩ := hS1.form
  have hz1 := hb1.size
  have hF1 := Lib.hid ((hF.out.other (D' := (Value.slice a1 C.length k1).ownBlock) (fun d hd => (hS1.lt d hd).1)).below hb1 (Nat.le_refl _))
  have hb1' := Lib.hid (hb1.mono hB)
  replace hS1 := Lib.hid hS1
  clear hcl hb1
  go_wp2_with fail
  go_loopw [13] (fun q wr => ∃ k : Nat, k ≤ C.length ∧ q = .int .i64 k ∧ Hid (CBox (.func (.func g) #[] #[]) wr B bx (Value.slice a1 C.length k1).ownBlock (putsL op C s k)) ∧ Hid (SetL wr w.heap.size (.slice a1 C.length k1) C) ∧ Hid (Below B w wr)) (fun q _ => C.length - (intOf q).toNat)
  case atStart => exact ⟨0, by omega, rfl, hF1, hS1, hb1'⟩
  case round =>
    obtain ⟨k, hk, rfl, hFk, hSk, hbk⟩ := hrel
    have hzz := hbk.out.size
    have hFlt := hFk.out.lt
    obtain ⟨aa, ca, q0, q1, q2, hSS⟩ := cbox_cells hFk.out
    replace hSS := Lib.hid hSS
    have hpl := Lib.hid (puts_len k hA.out hz.out ho.out)
    by_cases hlt2 : k < C.length
    · obtain ⟨a2, k2, he, ha2⟩ := hSk.out.row
      cases he
      obtain ⟨b1, o1, he1, s1, cc⟩ := ha2 (by omega)
      subst he1
      have k1' : (0 : Int) ≤ (k : Int) := by omega
      have k2' : (k : Int) < (C.length : Nat) := by omega
      have e1 : wr.cell? ⟨b1, o1 + k, none⟩ = some (.int .u64 (C.getD k 0)) := cc k hlt2
      obtain ⟨x, hx⟩ : ∃ x, C.getD k 0 = x := ⟨_, rfl⟩
      rw [hx] at e1
      have hmem : x ∈ C := by rw [← hx]; exact getD_mem hlt2
      have hst := Lib.hid (puts_step (op := op) (s := s) hlt2 hx)
      have hcall := hp.out wr.drew x s hmem (by simp)
      obtain ⟨y, hy⟩ : ∃ y, op x s = y := ⟨_, rfl⟩
      rw [hy] at hcall hst
      replace hcall := Lib.hid hcall
      replace hy := Lib.hid hy
      replace hx := Lib.hid hx
      have hput := Lib.hid (fun (w2 : World) (hb2 : Below wr.drew.heap.size wr.drew w2) => put_c (.func (.func g) #[] #[]) B bx _ _ y w2 (CBox.below (w := wr.drew) hFk.out hb2 (Nat.le_refl _)) (fun d hd => by have h1 := hSk.out.lt d hd; have h2 := hb2.size; have h3 : wr.drew.heap.size = wr.heap.size := rfl; omega) (asc_puts k hA.out) (by have := hpl.out; omega) (by have h2 := hb2.size; have h3 : wr.drew.heap.size = wr.heap.size := rfl; omega))
      clear cc ha2
      go_wp2_with fail
      go_region_with (first
        | ((with_reducible refine hcall.out.mono ?_); rintro e w2 ⟨rfl, hb2⟩)
        | (go_at_call 93; (with_reducible refine (hput.out _ hb2).mono ?_); rintro e w3 ⟨⟨v, rfl⟩, hF', hb', hz', hD'⟩))
      all_goals
        rw [← hst.out] at hF'
        have hbd : Below B w wr.drew := hbk.out.drew
        have hSd : SetL wr.drew w.heap.size (.slice (some ⟨b1, o1, none⟩) C.length k1) C := hSk.out
        have hbb := Lib.hid ((hbd.trans (hb2.mono (Nat.le_trans hB hzz))).trans hb')
        have hSc := Lib.hid ((hSd.below hb2 (Nat.le_refl _)).same hD')
        replace hF' := Lib.hid hF'
        clear hput hFk hSk hSd hbd hb2 hb' hD'
        go_wp2_with fail
        go_roundw
        case rel => exact ⟨k + 1, by omega, by go_num, hF', hSc, hbb⟩
        case measure => simp [intOf]; omega
    · obtain rfl : k = C.length := by omega
      have hp3 := Lib.hid (put_c (.func (.func g) #[] #[]) B bx _ _ s wr hFk.out (fun d hd => by have := hSk.out.lt d hd; omega) (asc_puts C.length hA.out) (by have := hpl.out; omega) (by omega))
      have hpa := Lib.hid (puts_all op C s)
      clear hFk hSk
      go_wp2_with fail
      refine hp3.out.mono ?_
      rintro e w3 ⟨⟨v, rfl⟩, hF', hb', hz', hD'⟩
      rw [hpa.out] at hF'
      replace hb' := Lib.hid (hbk.out.trans hb')
      replace hF' := Lib.hid (hF'.other (D' := none) (fun d hd => by cases hd))
      clear hD'
      go_wp2_with fail
      go_end0
      exact ⟨⟨_, rfl⟩, hF'.out, hb'.out, by omega, fun d hd => by cases hd⟩
theorem three_cells {w : World} {h : Nat} {u0 u1 u2 : Value} (X Y Z : Value) (d0 : w.cell? ⟨h, 0, none⟩ = some u0) (d1 : w.cell? ⟨h, 1, none⟩ = some u1) (d2 : w.cell? ⟨h, 2, none⟩ = some u2) :
    (((w.setCell ⟨h, 0, none⟩ X).setCell ⟨h, 1, none⟩ Y).setCell ⟨h, 2, none⟩ Z).cell? ⟨h, 0, none⟩ = some X ∧ (((w.setCell ⟨h, 0, none⟩ X).setCell ⟨h, 1, none⟩ Y).setCell ⟨h, 2, none⟩ Z).cell? ⟨h, 1, none⟩ = some Y ∧ (((w.setCell ⟨h, 0, none⟩ X).setCell ⟨h, 1, none⟩ Y).setCell ⟨h, 2, none⟩ Z).cell? ⟨h, 2, none⟩ = some Z := by
  have r := two_cells X Y d0 d1
  refine ⟨?_, ?_, ?_⟩
  · rw [World.cell?_setCell_other _ _ _ _ (by intro e; injection e with _ e2; cases e2)]
    exact r.1
  · rw [World.cell?_setCell_other _ _ _ _ (by intro e; injection e with _ e2; cases e2)]
    exact r.2
  · refine World.cell?_setCell_same _ _ _ (u := u2) ?_
    rw [World.cell?_setCell_other _ _ _ _ (by intro e; injection e with _ e2; cases e2), World.cell?_setCell_other _ _ _ _ (by intro e; injection e with _ e2; cases e2)]
    exact d2
theorem res_cells3 {W0 W1 : World} {h : Nat} (hh : W0.heap[h]? = some (.cells #[.slice none 0 0, .nilFunc, .nilFunc] 46 (0, 0))) (hb : Below (h + 1) W0 W1) :
    W1.cell? ⟨h, 0, none⟩ = some (.slice none 0 0) ∧ W1.cell? ⟨h, 1, none⟩ = some .nilFunc ∧ W1.cell? ⟨h, 2, none⟩ = some .nilFunc ∧ W1.frozen? ⟨h, 0, none⟩ = false ∧ W1.frozen? ⟨h, 1, none⟩ = false ∧ W1.frozen? ⟨h, 2, none⟩ = false := by
  have hr : W1.heap[h]? = some (.cells #[.slice none 0 0, .nilFunc, .nilFunc] 46 (0, 0)) := by rw [hb.block h (by omega)]; exact hh
  exact ⟨by rw [cell_of_row W1 _ 0 _ 46 (0, 0) hr]; rfl, by rw [cell_of_row W1 _ 1 _ 46 (0, 0) hr]; rfl, by rw [cell_of_row W1 _ 2 _ 46 (0, 0) hr]; rfl, frozen_of hr _, frozen_of hr _, frozen_of hr _⟩
theorem clos_fin {w W1 : World} {h : Nat} {v cv : Value} {ys : List Int} (hS : SetL W1 (h + 1) v ys) (hb : Below w.heap.size w W1) (hh : w.heap.size ≤ h) :
    SetL (((W1.setCell ⟨h, 0, none⟩ v).setCell ⟨h, 1, none⟩ (Value.func (.func 99) #[] #[])).setCell ⟨h, 2, none⟩ cv) w.heap.size v ys ∧ Below w.heap.size w (((W1.setCell ⟨h, 0, none⟩ v).setCell ⟨h, 1, none⟩ (Value.func (.func 99) #[] #[])).setCell ⟨h, 2, none⟩ cv) :=
  ⟨(((hS.store _ _ (by intro e; have := hS.lt _ e; dsimp only at this; omega)).store _ _ (by intro e; have := hS.lt _ e; dsimp only at this; omega)).store _ _ (by intro e; have := hS.lt _ e; dsimp only at this; omega)).mono (by omega),
    below_setCell (below_setCell (below_setCell hb hh _) hh _) hh _⟩
theorem set_take {n : Int} {xs : List Int} (hf : ∀ z ∈ xs, setB n z = true) (k : Nat) : ∀ z ∈ xs.take k, setB n z = true := fun z hz => hf z (List.mem_of_mem_take hz)
set_option maxHeartbeats 4000000 in
theorem closed_by (g : Nat) (eg : EntersG g) (op : Int → Int → Int) (hs : Semi op) (n : Int) (lv : Value) (xs : List Int) (S : Nat) (w : World) (hx : SRow w S lv xs) (hS : S ≤ w.heap.size) (hl : xs.length ≤ 100000) (hf : ∀ z ∈ xs, setB n z = true)
    (hp : ∀ (C : List Int) (s : Int), (∀ z ∈ C, setB n z = true) → setB n s = true → OpV g op C [s]) :
    Calls Try.prog 48 #[.agg #[lv, (Value.func (.func 99) #[] #[])], .func (.func g) #[] #[]] w fun e w' => ∃ v, e = .returned (.agg #[v, (Value.func (.func 99) #[] #[]), .func (.func g) #[] #[]]) ∧ SetL w' w.heap.size v (ucL op xs) ∧ Below w.heap.size w w' := by
  have eg1 : ∀ args w, (callFunc g args).run Try.prog w = .ok (.enter g args) w := eg
  obtain ⟨a, cap, rfl, ha⟩ := hx
  replace ha := Lib.hid ha
  replace hf := Lib.hid hf
  replace hp := Lib.hid hp
  have hsn := Lib.hid (family_nil ((w.alloc (.cells #[.slice a xs.length cap, (Value.func (.func 99) #[] #[])] 43)).alloc (.cells #[.slice none 0 0, .nilFunc, .nilFunc] 46)))
  go_enter Try.func48, Try.ntmps48
  go_wp2_with fail
  refine hsn.out.mono ?_
  rintro e w1 ⟨v1, rfl, hS1, hb1⟩
  obtain ⟨a', c', rfl⟩ := hS1.form
  rw [World.size_alloc, World.size_alloc] at hS1 hb1
  have hz1 := hb1.size
  simp at hz1
  have hF1 := Lib.hid (cbox_new (cv := .func (.func g) #[] #[]) hS1 hz1)
  replace hS1 := Lib.hid hS1
  replace hb1 := Lib.hid hb1
  obtain ⟨l0, l1⟩ := pair_cells (new_cell2 w _ _ _) hb1.out (by omega)
  have hlt0 : w.heap.size < w1.heap.size := by omega
  have hlt1 : w.heap.size + 1 < w1.heap.size := by omega
  have hbw := Lib.hid (((Below.refl w.heap.size w).alloc (Nat.le_refl _) (.cells #[.slice a xs.length cap, (Value.func (.func 99) #[] #[])] 43)).alloc (by simp) (.cells #[.slice none 0 0, .nilFunc, .nilFunc] 46))
  clear hsn
  go_wp2_with fail
  go_loopw [14] (fun q wr => ∃ k : Nat, k ≤ xs.length ∧ q = .int .i64 k ∧ Hid (CBox (.func (.func g) #[] #[]) wr (w.heap.size + 2) w1.heap.size none (ucL op (xs.take k))) ∧ Hid (Below (w.heap.size + 2) ((w.alloc (.cells #[.slice a xs.length cap, (Value.func (.func 99) #[] #[])] 43)).alloc (.cells #[.slice none 0 0, .nilFunc, .nilFunc] 46)) wr)) (fun q _ => xs.length - (intOf q).toNat)
  case atStart => exact ⟨0, by omega, rfl, hF1, Lib.hid (hb1.out.alloc hz1 _)⟩
  case round =>
    obtain ⟨k, hk, rfl, hF, hb⟩ := hrel
    have hzz := hb.out.size
    simp at hzz
    have hFlt := hF.out.lt
    have hbb := Lib.hid (hbw.out.trans (hb.out.mono (by omega)))
    by_cases hlt : k < xs.length
    · obtain ⟨b1, o1, rfl, s1, c1⟩ := ha.out (by omega)
      have k1 : (0 : Int) ≤ (k : Int) := by omega
      have k2 : (k : Int) < (xs.length : Nat) := by omega
      have e1 : wr.cell? ⟨b1, o1 + k, none⟩ = some (.int .u64 (xs.getD k 0)) := by
        rw [hbb.out.cell (p := ⟨b1, o1 + k, none⟩) (show b1 < w.heap.size by omega)]
        exact c1 k hlt
      have hst := ucL_take (op := op) hlt
      obtain ⟨x, hx⟩ : ∃ x, xs.getD k 0 = x := ⟨_, rfl⟩
      have hsx : setB n x = true := by rw [← hx]; exact hf.out _ (getD_mem hlt)
      have hCs := ucL_set hs (set_take hf.out k)
      rw [hx] at e1 hst
      have hp3 := add_c g eg op (w.heap.size + 2) w1.heap.size _ x wr hF.out (asc_ucL op _) (by omega) (fun z hz => setB_lt (hCs z hz)) (fun z hz => setB_lt (hs.keep n z x (hCs z hz) hsx)) (hp.out _ x hCs hsx)
      rw [← hst] at hp3
      replace hp3 := Lib.hid hp3
      replace hsx := Lib.hid hsx
      clear c1 hst hx hF hCs
      go_wp2_with fail
      refine hp3.out.mono ?_
      rintro e w3 ⟨⟨v, rfl⟩, hF', hb', hz', _⟩
      replace hb' := Lib.hid (hb.out.trans hb')
      replace hF' := Lib.hid hF'
      go_wp2_with fail
      go_roundw
      case rel => exact ⟨k + 1, by omega, by go_num, hF', hb'⟩
      case measure => simp [intOf]; omega
    · obtain rfl : k = xs.length := by omega
      have hF2 := hF.out
      rw [List.take_length] at hF2
      obtain ⟨a2, c2, b0, b1, b2, hS2⟩ := cbox_cells hF2
      obtain ⟨d0, d1, d2, df0, df1, df2⟩ := res_cells3 (new_cell1 w _ _ _) hb.out
      have rr := three_cells (.slice a2 (ucL op xs).length c2) (Value.func (.func 99) #[] #[]) (.func (.func g) #[] #[]) d0 d1 d2
      have hff := Lib.hid (clos_fin (cv := .func (.func g) #[] #[]) hS2 hbb.out (by omega))
      clear hF hF2 hS2
      go_wp2_with fail
      exact bodyPost_ret (v := .agg #[.slice a2 (ucL op xs).length c2, (Value.func (.func 99) #[] #[]), .func (.func g) #[] #[]]) (by simp [results, Try.results48, go_sem, rr.1, rr.2.1, rr.2.2]) rfl ⟨_, rfl, hff.out⟩
end Go.Proofs.Ythljimmhgpbmbaa
