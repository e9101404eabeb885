/- IntersectGrow: the program. -/
import Derived.Test.YtgkbaenjniapiaaIs2
import Derived.Test.YtgkbaenjniapiaaFams11
import Derived.Test.YtgkbaenjniapiaaFams12
import Derived.Deep.RegionHeld
namespace Go.Proofs.Ytgkbaenjniapiaa
open Go.ChangeShapes Go.WideShapes Go.ChangeAt Go.RowKit Go.Proofs

theorem fam_frozen6 {w : World} {c : Nat} {lv u : Value} (h : w.heap[c]? = some (.cells #[lv, u] 43 (0, 0))) : w.frozen? ⟨c, 0, none⟩ = false ∧ w.frozen? ⟨c, 1, none⟩ = false := ⟨frozen_of h 0, frozen_of h 1⟩
theorem fam_cells6 {w : World} {c : Nat} {lv u : Value} (h : w.heap[c]? = some (.cells #[lv, u] 43 (0, 0))) : w.cell? ⟨c, 0, none⟩ = some lv ∧ w.cell? ⟨c, 1, none⟩ = some u :=
  ⟨by rw [cell_of_row w c 0 _ 43 (0, 0) h]; rfl, by rw [cell_of_row w c 1 _ 43 (0, 0) h]; rfl⟩
theorem fam_stored6 {w : World} {c : Nat} {p q : Value} (h : w.heap[c]? = some (.cells #[p, q] 43 (0, 0))) (X Y : Value) : ((w.setCell ⟨c, 0, none⟩ X).setCell ⟨c, 1, none⟩ Y).heap[c]? = some (.cells #[X, Y] 43 (0, 0)) := by
  have h1 := heap_setCell_same w c 0 _ 43 X h
  have h2 := heap_setCell_same _ c 1 _ 43 Y h1
  rw [h2]; rfl
/-- a store into a box that holds a family leaves a list of sets. -/
theorem SRow.stored6 {w : World} {S c n k : Nat} {v q : Value} {a : Option Addr} {xs : List Int} (h : SRow w S v xs) (hc : w.heap[c]? = some (.cells #[.slice a n k, q] 43 (0, 0))) (hq : ∀ x, q ≠ .int .u64 x) (X Y : Value) :
    SRow ((w.setCell ⟨c, 0, none⟩ X).setCell ⟨c, 1, none⟩ Y) S v xs := by
  obtain ⟨a, cap, rfl, h⟩ := h
  refine ⟨a, cap, rfl, fun hl => ?_⟩
  obtain ⟨b, off, rfl, hs, hx⟩ := h hl
  have hne : c ≠ b := by
    intro e
    subst e
    have h0 := hx 0 hl
    rw [cell_of_row w c (off + 0) _ 43 (0, 0) hc] at h0
    match off, h0 with
    | 0, h0 => cases h0
    | 1, h0 => exact hq _ (Option.some.inj h0)
    | off + 2, h0 => simp at h0
  refine ⟨b, off, rfl, hs, fun i hi => ?_⟩
  rw [World.cell?_setCell_far _ _ _ _ hne, World.cell?_setCell_far _ _ _ _ hne]
  exact hx i hi
/-- the function value g, bound to cs, makes ys of the family xs, as a list to be read. -/
def RowMap (g : Nat) (cs : Array Value) (xs ys : List Int) (w : World) : Prop :=
  ∀ (W : World) (lv : Value), Below w.heap.size w W → SRow W W.heap.size lv xs → Calls Try.prog g (#[.agg #[lv, (Value.func (.func 71) #[] #[])]] ++ cs) W (FirstPost W ys)
set_option maxHeartbeats 2000000 in
theorem made_row (g : Nat) (eg : EntersG g) (cs : Array Value) (n : Int) (lv : Value) (xs ys : List Int) (S : Nat) (w : World) (hx : Row w S lv xs) (hS : S ≤ w.heap.size) (hl : xs.length ≤ 100000000)
    (hF : famB n xs = true → RowMap g cs xs ys w ∧ (∀ z ∈ ys, 0 ≤ z ∧ z < 256) ∧ ys.length ≤ 1000) :
    Calls Try.prog 26 #[.int .i64 n, lv, .func (.func g) #[] cs] w (ListPost (ifL (famB n xs) ys) (famB n xs) w) := by
  have eg1 : ∀ args w, (callFunc g args).run Try.prog w = .ok (.enter g args) w := eg
  have hr := Lib.hid (read_any n lv xs S w hx hS hl)
  obtain ⟨la, lc, rfl, _⟩ := id hx
  replace hF := Lib.hid hF
  clear hx
  go_enter Try.func26, Try.ntmps26
  go_wp2_with fail
  refine hr.out.mono ?_
  rintro e w1 (⟨hf, v, rfl, hS1, hb1⟩ | ⟨hf, rfl, hb1⟩)
  · obtain ⟨a', c', rfl⟩ := hS1.form
    have hz1 := hb1.size
    obtain ⟨hM, hzz, hlen⟩ := hF.out hf
    have hb2 := hb1.alloc hz1 (.cells #[.slice a' xs.length c', (Value.func (.func 71) #[] #[])] 43)
    have hS2 := hS1.alloc (.cells #[.slice a' xs.length c', (Value.func (.func 71) #[] #[])] 43)
    have hm := Lib.hid (hM _ _ hb2 hS2.row)
    have hL := Lib.hid (show ys = ifL (famB n xs) ys by unfold ifL; rw [if_pos hf])
    replace hf := Lib.hid hf.symm
    replace hb2 := Lib.hid hb2
    replace hzz := Lib.hid hzz
    clear hr hS1 hb1 hS2 hM hF
    go_wp2_with fail
    refine hm.out.mono ?_
    rintro e w2 ⟨u, rfl, hS3, hb3⟩
    obtain ⟨a3, c3, rfl, _⟩ := id hS3
    have hnum := Lib.hid (numbers_at _ _ _ _ hS3 (Nat.le_refl _) (by omega) hzz.out)
    rw [World.size_alloc] at hb3
    have hz3 := hb3.size
    rw [World.size_alloc] at hz3
    replace hb3 := Lib.hid (hb2.out.trans (hb3.mono (by omega)))
    clear hS3
    go_wp2_with fail
    refine hnum.out.mono ?_
    rintro e w3 ⟨t, rfl, hO, hb4⟩
    obtain ⟨ua, uc, rfl, _⟩ := id hO
    replace hb4 := Lib.hid (hb3.out.trans (hb4.mono (by omega)))
    replace hO := Lib.hid (hO.mono (show w.heap.size ≤ w2.heap.size by omega) (Nat.le_refl _))
    go_wp2_with fail
    go_ret2
    exact ⟨_, ret_vb hf.out, hL.out ▸ hO.out, hb4.out⟩
  · have hz1 := hb1.size
    have hL := Lib.hid (show [] = ifL (famB n xs) ys by unfold ifL; rw [hf]; rfl)
    replace hf := Lib.hid hf.symm
    replace hb1 := Lib.hid hb1
    clear hr hF
    go_wp2_with fail
    go_ret2
    exact ⟨_, ret_vb hf.out, hL.out ▸ own_empty _ _ _ _ _, (hb1.out.alloc hz1 _).alloc (by simp; omega) _⟩
/-- a set comes in if it meets itself and all others. -/
def grS (L : List Int) (s : Int) : List Int := if !(s == 0) && L.all (meetB s) then insI s L else L
def grL (xs : List Int) : Nat → List Int
  | 0 => xs
  | k + 1 => grS (grL xs k) (k : Nat)
theorem grS_yes {L : List Int} {s : Int} (h0 : s ≠ 0) (h : L.all (meetB s) = true) : grS L s = insI s L := by
  unfold grS
  rw [h, show (s == 0) = false by simp [h0]]; rfl
theorem grS_no0 (L : List Int) : grS L 0 = L := rfl
theorem grS_no {L : List Int} {s : Int} (h : L.all (meetB s) = false) : grS L s = L := by
  unfold grS
  rw [h, Bool.and_false]; rfl
theorem gr_asc {xs : List Int} (hA : Asc xs) : ∀ k, Asc (grL xs k)
  | 0 => hA
  | k + 1 => by
    have ih := gr_asc hA k
    show Asc (grS (grL xs k) (k : Nat))
    unfold grS
    split
    · exact asc_insI ih
    · exact ih
theorem gr_mem {xs : List Int} {z : Int} : ∀ k, z ∈ grL xs k → z ∈ xs ∨ (0 ≤ z ∧ z < k)
  | 0, h => .inl h
  | k + 1, h => by
    have h : z ∈ grS (grL xs k) (k : Nat) := h
    unfold grS at h
    split at h
    · rcases mem_insI.1 h with h | h
      · exact .inr (by omega)
      · rcases gr_mem k h with h | h
        · exact .inl h
        · exact .inr (by omega)
    · rcases gr_mem k h with h | h
      · exact .inl h
      · exact .inr (by omega)
theorem gr_lt {xs : List Int} (hz : ∀ z ∈ xs, 0 ≤ z ∧ z < 256) {k : Nat} (hk : k ≤ 256) : ∀ z ∈ grL xs k, 0 ≤ z ∧ z < 256 := fun z h => by
  rcases gr_mem k h with h | h
  · exact hz z h
  · omega
theorem gr_len {xs : List Int} (hA : Asc xs) (hz : ∀ z ∈ xs, 0 ≤ z ∧ z < 256) {k : Nat} (hk : k ≤ 256) : (grL xs k).length ≤ 256 := asc_len256 (gr_asc hA k) (gr_lt hz hk)
theorem up_get {N k : Nat} (h : k < N) : (upI N).getD k 0 = (k : Int) := by
  unfold upI
  simp [List.getD, h]
theorem sort_one (x : Int) : sortL [x] = [x] := sortL_asc (by unfold Asc; simp)
theorem sort_put {L : List Int} (h : Asc L) (x : Int) : sortL (L ++ [x]) = insI x L := by rw [sortL_snoc, sortL_asc h]
theorem fldS0 (x y : Value) (w : World) : (Instr.field 43 (.agg #[x, y]) 0).run Try.prog w = .ok x w := by kernel_rfl
theorem one_row (w : World) (x : Int) : SRow (w.alloc (.cells #[.int .u64 x] 50)) (w.alloc (.cells #[.int .u64 x] 50)).heap.size (.slice (some ⟨w.heap.size, 0, none⟩) 1 1) [x] := by
  refine ⟨_, 1, rfl, fun _ => ⟨w.heap.size, 0, rfl, by simp, fun i hi => ?_⟩⟩
  simp at hi
  subst hi
  exact cell_new _ _ _
set_option maxHeartbeats 8000000 in
theorem grown_at (n : Int) (n1 : 1 ≤ n) (n2 : n ≤ 8) (lv : Value) (xs : List Int) (W : World) (hx : SRow W W.heap.size lv xs) (hA : Asc xs) (hz : ∀ z ∈ xs, 0 ≤ z ∧ z < 256) :
    Calls Try.prog 28 #[.int .i64 n, .agg #[lv, (Value.func (.func 71) #[] #[])]] W (FirstPost W (grL xs (2 ^ n.toNat))) := by
  have hfl := fldS0
  have hall := all_sets n n1 n2
  obtain ⟨p1, p2, p3⟩ := pow_nat n1 n2
  rw [up_sort] at hall
  obtain ⟨N, hN⟩ : ∃ N : Nat, 2 ^ n.toNat = N := ⟨_, rfl⟩
  rw [hN] at hall p1 p2 ⊢
  have hul := upI_len N
  have hug := Lib.hid (fun k (h : k < N) => up_get h)
  obtain ⟨us, hus⟩ : ∃ us, upI N = us := ⟨_, rfl⟩
  rw [hus] at hall hul hug
  obtain ⟨a, cap, rfl, _⟩ := id hx
  obtain ⟨W2, hW2⟩ : ∃ W2, (W.alloc (.cells #[.slice a xs.length cap, (Value.func (.func 71) #[] #[])] 43)).alloc (.cells #[.slice none 0 0, .nilFunc] 43) = W2 := ⟨_, rfl⟩
  have hbw := ((Below.refl W.heap.size W).alloc (Nat.le_refl _) (.cells #[.slice a xs.length cap, (Value.func (.func 71) #[] #[])] 43)).alloc (by simp) (.cells #[.slice none 0 0, .nilFunc] 43)
  have hn1 := new_cell2 W #[.slice a xs.length cap, (Value.func (.func 71) #[] #[])] 43 (.cells #[.slice none 0 0, .nilFunc] 43)
  have hn2 := new_cell1 W #[.slice none 0 0, .nilFunc] 43 (.cells #[.slice a xs.length cap, (Value.func (.func 71) #[] #[])] 43)
  have hs2 : W2.heap.size = W.heap.size + 2 := by rw [← hW2]; simp
  rw [hW2] at hbw hn1 hn2
  have hx2 := Lib.hid ((hx.below hbw (Nat.le_refl _)).mono (show W.heap.size ≤ W2.heap.size by omega))
  have hlenk := Lib.hid (fun k (hk : k ≤ N) => gr_len hA hz (show k ≤ 256 by omega))
  have hltk := Lib.hid (fun k (hk : k ≤ N) => gr_lt hz (show k ≤ 256 by omega))
  have hasc := Lib.hid (fun k => gr_asc hA k)
  replace hall := Lib.hid hall
  replace hN := Lib.hid hN
  replace p3 := Lib.hid p3
  replace hA := Lib.hid hA
  replace hz := Lib.hid hz
  replace hbw := Lib.hid hbw
  replace hW2 := Lib.hid hW2
  replace hn1 := Lib.hid hn1
  replace hn2 := Lib.hid hn2
  replace hus := Lib.hid hus
  replace hul := Lib.hid hul
  clear hx
  go_enter Try.func28, Try.ntmps28
  go_wp2_with fail
  rw [hW2.out]
  refine (hall.out _).mono ?_
  rintro e w1 ⟨v1, rfl, hS1, hb1⟩
  obtain ⟨a1, c1, rfl⟩ := hS1.form
  have hz1 := hb1.size
  have hU := Lib.hid hS1.row
  have g1 := Lib.hid ((hb1.block W.heap.size (by omega)).trans hn1.out)
  have g2 := Lib.hid ((hb1.block (W.heap.size + 1) (by omega)).trans hn2.out)
  have hx1 := Lib.hid ((hx2.out.below hb1 (Nat.le_refl _)).mono hz1)
  have hb1' := Lib.hid (hbw.out.trans (hb1.mono (by omega)))
  clear hS1 hb1
  go_wp2_with fail
  go_loopw [11] (fun q wr => ∃ k : Nat, k ≤ us.length ∧ q = .int .i64 k ∧ Hid (∃ v, wr.heap[W.heap.size]? = some (.cells #[v, (Value.func (.func 71) #[] #[])] 43 (0, 0)) ∧ SRow wr wr.heap.size v (grL xs k)) ∧ Hid (wr.heap[W.heap.size + 1]? = some (.cells #[.slice none 0 0, .nilFunc] 43 (0, 0))) ∧ Hid (SRow wr wr.heap.size (.slice a1 us.length c1) us) ∧ Hid (Below W.heap.size W wr) ∧ Hid (W.heap.size + 2 ≤ wr.heap.size)) (fun q _ => us.length - (intOf q).toNat)
  case atStart => exact ⟨0, by omega, rfl, Lib.hid ⟨_, g1.out, hx1.out⟩, g2, hU, hb1', Lib.hid (by omega)⟩
  case round =>
    obtain ⟨k, hk, rfl, hv, hr, hu, hb, hzs⟩ := hrel
    obtain ⟨v, hv0, hv1⟩ := hv.out
    obtain ⟨va, vc, rfl, _⟩ := id hv1
    obtain ⟨l0, l1⟩ := fam_cells6 hv0
    have hzz := hzs.out
    clear hv
    by_cases hlt : k < us.length
    · have k1 : (0 : Int) ≤ (k : Int) := by omega
      have k2 : (k : Int) < (us.length : Nat) := by omega
      obtain ⟨a', c', e, hTc⟩ := id hu.out
      injection e with e1 e2 e3
      subst e1 e3
      obtain ⟨b1, o1, rfl, s1, cc⟩ := hTc (by omega)
      have e1 := cc k hlt
      rw [hug.out k (by have := hul.out; omega)] at e1
      clear hTc cc
      have hL1 := hlenk.out k (by have := hul.out; omega)
      have hL2 := hltk.out k (by have := hul.out; omega)
      have hL3 := hasc.out k
      have hst : grL xs (k + 1) = grS (grL xs k) (k : Nat) := rfl
      have hk256 : (k : Int) < 256 := by have := hul.out; omega
      have hmt := fun W => set_meets (k : Int) (k : Int) k1 hk256 k1 hk256 W
      rw [meet_self k1] at hmt
      obtain ⟨L, hL⟩ : ∃ L, grL xs k = L := ⟨_, rfl⟩
      rw [hL] at l0 hv0 hv1 hL1 hL2 hL3 hst
      by_cases h0 : k = 0
      · rw [show ((k : Nat) : Int) = 0 by omega, grS_no0] at hst
        rw [show ((k : Int) == 0) = true by simp [h0], Bool.not_true] at hmt
        replace hmt := Lib.hid hmt
        replace h0 := Lib.hid h0
        have hn := Lib.hid (show ∃ v, wr.heap[W.heap.size]? = some (.cells #[v, (Value.func (.func 71) #[] #[])] 43 (0, 0)) ∧ SRow wr wr.heap.size v (grL xs (k + 1)) by rw [hst]; exact ⟨_, hv0, hv1⟩)
        replace hv0 := Lib.hid hv0
        replace hv1 := Lib.hid hv1
        replace hL := Lib.hid hL
        replace hL1 := Lib.hid hL1
        replace hL2 := Lib.hid hL2
        replace hL3 := Lib.hid hL3
        replace hst := Lib.hid hst
        go_wp2_with (go_at_call 61; refine (hmt.out _).mono ?_; rintro e w' ⟨rfl, rfl⟩)
        go_roundw
        case rel => exact ⟨k + 1, by omega, by go_num, hn, hr, hu, hb, hzs⟩
        case measure => simp [intOf]; omega
      · have hk0 : ((k : Int) == 0) = false := by simp; omega
        rw [hk0, Bool.not_false] at hmt
        have hme := meeting_at (k : Int) _ L _ wr hv1 (by omega) k1 hk256 hL2
        obtain ⟨o, ho⟩ : ∃ o, missL (k : Int) L = o := ⟨_, rfl⟩
        rw [ho] at hme
        cases o with
        | some x0 =>
          have hme' : Calls Try.prog 62 #[.int .u64 (k : Int), .slice va L.length vc] wr fun e w' => e = .returned (.iface 102 (.agg #[.int .u64 x0])) ∧ wr = w' := hme
          rw [grS_no (miss_some ho).2.2] at hst
          replace hme := Lib.hid hme'
          replace hmt := Lib.hid hmt
          have hn := Lib.hid (show ∃ v, wr.heap[W.heap.size]? = some (.cells #[v, (Value.func (.func 71) #[] #[])] 43 (0, 0)) ∧ SRow wr wr.heap.size v (grL xs (k + 1)) by rw [hst]; exact ⟨_, hv0, hv1⟩)
          replace hv0 := Lib.hid hv0
          replace hv1 := Lib.hid hv1
          replace hL := Lib.hid hL
          replace hL1 := Lib.hid hL1
          replace hL2 := Lib.hid hL2
          replace hL3 := Lib.hid hL3
          replace hst := Lib.hid hst
          replace ho := Lib.hid ho
          clear hme'
          go_wp2_with (first | (go_at_call 61; refine (hmt.out _).mono ?_; rintro e w' ⟨rfl, rfl⟩) | (go_at_call 62; refine hme.out.mono ?_; rintro e w' ⟨rfl, rfl⟩))
          go_roundw
          case rel => exact ⟨k + 1, by omega, by go_num, hn, hr, hu, hb, hzs⟩
          case measure => simp [intOf]; omega
        | none =>
          have hme' : Calls Try.prog 62 #[.int .u64 (k : Int), .slice va L.length vc] wr fun e w' => e = .returned .nilIface ∧ wr = w' := hme
          rw [grS_yes (show (k : Int) ≠ 0 by omega) (miss_none.1 ho), ← sort_put hL3] at hst
          have hT : TwoFam L [(k : Int)] := ⟨hL3, by unfold Asc; simp, hL2, fun z hz => by simp at hz; subst hz; exact ⟨k1, hk256⟩⟩
          obtain ⟨W5, hW5⟩ : ∃ W5, (wr.alloc (.cells #[.int .u64 (k : Int)] 50)).drew = W5 := ⟨_, rfl⟩
          have hz5 : W5.heap.size = wr.heap.size + 1 := by rw [← hW5]; show (wr.alloc _).heap.size = _; rw [World.size_alloc]
          have hb5 : Below wr.heap.size wr W5 := by rw [← hW5]; exact ((Below.refl wr.heap.size wr).alloc (Nat.le_refl _) _).drew
          have hfo := family_of (.slice (some ⟨wr.heap.size, 0, none⟩) 1 1) [(k : Int)] W5.heap.size W5 (by rw [← hW5]; exact one_row wr (k : Int)) (Nat.le_refl _) (fun j hj => by
            have := len_small (xs := [(k : Int)].take j) (fun z hz => by have := List.mem_of_mem_take hz; simp at this; subst this; exact ⟨k1, hk256⟩)
            omega) (by simp)
          rw [sort_one] at hfo
          have hB0 : W.heap.size < wr.heap.size := by omega
          have hB1 : W.heap.size + 1 < wr.heap.size := by omega
          replace hme := Lib.hid hme'
          replace hmt := Lib.hid hmt
          replace hfo := Lib.hid hfo
          replace hv0 := Lib.hid hv0
          replace hv1 := Lib.hid hv1
          replace hL := Lib.hid hL
          replace hL1 := Lib.hid hL1
          replace hL2 := Lib.hid hL2
          replace hL3 := Lib.hid hL3
          replace hst := Lib.hid hst
          replace ho := Lib.hid ho
          replace hT := Lib.hid hT
          replace hb5 := Lib.hid hb5
          replace hz5 := Lib.hid hz5
          replace hW5 := Lib.hid hW5
          clear hme'
          go_wp2_with (first | (go_at_call 61; refine (hmt.out _).mono ?_; rintro e w' ⟨rfl, rfl⟩) | (go_at_call 62; refine hme.out.mono ?_; rintro e w' ⟨rfl, rfl⟩))
          go_region_with (first
            | (go_at_call 38; (try rw [hW5.out]); refine hfo.out.mono ?_; rintro e w2 ⟨v2, rfl, hS2, hb2⟩; obtain ⟨a2, c2, rfl⟩ := hS2.form; replace hb2 := Lib.hid (hb5.out.trans (hb2.mono (by rw [hz5.out]; omega))); obtain ⟨m0, m1⟩ := fam_cells6 ((hb2.out.block W.heap.size hB0).trans hv0.out); have hun := Lib.hid (show Calls Try.prog 63 #[.agg #[.slice va L.length vc, (Value.func (.func 71) #[] #[])], .agg #[.slice a2 [(k : Int)].length c2, (Value.func (.func 71) #[] #[])]] w2 (FamPost w2 (sortL (L ++ [(k : Int)]))) by simpa using union_fam L [(k : Int)] w2 hT.out w2 _ _ (Below.refl _ _) ((hv1.out.below hb2.out (Nat.le_refl _)).mono hb2.out.size) hS2.row); replace hS2 := Lib.hid hS2)
            | (go_at_call 63; refine hun.out.mono ?_; rintro e w4 ⟨v4, rfl, hS4, hb4⟩; obtain ⟨a4, c4, rfl⟩ := hS4.form; replace hb4 := Lib.hid (hb2.out.trans (hb4.mono hb2.out.size)); obtain ⟨d0, d1⟩ := fam_cells6 ((hb4.out.block W.heap.size hB0).trans hv0.out); obtain ⟨f0, f1⟩ := fam_frozen6 ((hb4.out.block W.heap.size hB0).trans hv0.out); replace hS4 := Lib.hid hS4))
          all_goals
            have hh4 := (hb4.out.block W.heap.size hB0).trans hv0.out
            have hs4 := Lib.hid (fam_stored6 hh4 (.slice a4 (sortL (L ++ [(k : Int)])).length c4) (Value.func (.func 71) #[] #[]))
            have hrs := Lib.hid (hS4.out.row.stored6 hh4 (fun _ => by simp) (.slice a4 (sortL (L ++ [(k : Int)])).length c4) (Value.func (.func 71) #[] #[]))
            have hus' := Lib.hid (((hu.out.below hb4.out (Nat.le_refl _)).mono hb4.out.size).stored6 hh4 (fun _ => by simp) (.slice a4 (sortL (L ++ [(k : Int)])).length c4) (Value.func (.func 71) #[] #[]))
            have hr2 := Lib.hid ((hb4.out.block (W.heap.size + 1) hB1).trans hr.out)
            have hsz4 := hb4.out.size
            have hb6 := Lib.hid (below_setCell (below_setCell (hb.out.trans (hb4.out.mono (by omega))) (p := ⟨W.heap.size, 0, none⟩) (Nat.le_refl _) (.slice a4 (sortL (L ++ [(k : Int)])).length c4)) (p := ⟨W.heap.size, 1, none⟩) (Nat.le_refl _) (Value.func (.func 71) #[] #[]))
            replace hh4 := Lib.hid hh4
            go_wp2_with fail
            go_roundw
            case rel =>
              refine ⟨k + 1, by omega, by go_num, Lib.hid ⟨_, hs4.out, ?_⟩, Lib.hid ?_, Lib.hid (hus'.out.mono (by simp [World.setCell])), hb6, Lib.hid (by simp [World.setCell]; omega)⟩
              · rw [hst.out]
                exact hrs.out.mono (by simp [World.setCell])
              · rw [Below.heap_setCell _ _ _ _ (by simp), Below.heap_setCell _ _ _ _ (by simp)]
                exact hr2.out
            case measure => simp [intOf]; omega
    · have hkN : k = N := by have := hul.out; omega
      obtain ⟨d0, d1⟩ := fam_cells6 hr.out
      obtain ⟨f0, f1⟩ := fam_frozen6 hr.out
      obtain ⟨ys, hys⟩ : ∃ ys, grL xs k = ys := ⟨_, rfl⟩
      rw [hys] at hv1 l0
      rw [hkN] at hys
      replace hys := Lib.hid hys
      clear hkN
      have rr := two_cells (.slice va ys.length vc) (Value.func (.func 71) #[] #[]) d0 d1
      have hfin := Lib.hid (show SRow ((wr.setCell ⟨W.heap.size + 1, 0, none⟩ (.slice va ys.length vc)).setCell ⟨W.heap.size + 1, 1, none⟩ (Value.func (.func 71) #[] #[])) wr.heap.size (.slice va ys.length vc) ys ∧ Below W.heap.size W ((wr.setCell ⟨W.heap.size + 1, 0, none⟩ (.slice va ys.length vc)).setCell ⟨W.heap.size + 1, 1, none⟩ (Value.func (.func 71) #[] #[])) from
        ⟨hv1.stored6 hr.out (fun _ => by simp) _ _, below_setCell (below_setCell hb.out (p := ⟨W.heap.size + 1, 0, none⟩) (Nat.le_succ _) _) (p := ⟨W.heap.size + 1, 1, none⟩) (Nat.le_succ _) _⟩)
      have hsz := Lib.hid (show wr.heap.size ≤ ((wr.setCell ⟨W.heap.size + 1, 0, none⟩ (.slice va ys.length vc)).setCell ⟨W.heap.size + 1, 1, none⟩ (Value.func (.func 71) #[] #[])).heap.size by simp [World.setCell])
      clear hv1
      replace hv0 := Lib.hid hv0
      go_wp2_with fail
      exact bodyPost_ret (v := .agg #[.slice va ys.length vc, (Value.func (.func 71) #[] #[])]) (by simp [results, Try.results28, go_sem, rr.1, rr.2]) rfl (by rw [hys.out]; exact ⟨_, rfl, hfin.out.1.mono hsz.out, hfin.out.2⟩)
end Go.Proofs.Ytgkbaenjniapiaa
