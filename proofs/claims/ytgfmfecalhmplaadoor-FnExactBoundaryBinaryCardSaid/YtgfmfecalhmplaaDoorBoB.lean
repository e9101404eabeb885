/- BoundaryOrder: the model, the law; the first sets of an order: the program. -/
import Derived.Test.YtgfmfecalhmplaaDoorBoA
import Derived.Test.YtgfmfecalhmplaaDoorFLaws
namespace Go.Proofs.YtgfmfecalhmplaaDoor
open Go.ChangeShapes Go.WideShapes Go.ChangeAt Go.RowKit Go.Proofs

set_option maxHeartbeats 1000000 in
theorem sp_BoundaryOrder (n : Int) (w : World) : Calls Tryd.prog 12 #[.int .i64 n] w (ListPost (ifL (ptsB n) (orL n)) (ptsB n) w) := by
  have hpp := fun W => l1pts n W
  rcases (by cases ptsB n <;> simp : ptsB n = true ∨ ptsB n = false) with hp | hp
  · obtain ⟨n1, n2⟩ := ptsB_yes hp
    have ho := Lib.hid (sp_order n n1 n2 w)
    rw [hp] at hpp ⊢
    show Calls Tryd.prog 12 #[.int .i64 n] w (ListPost (orL n) true w)
    replace hpp := Lib.hid hpp
    replace hp := Lib.hid hp
    go_enter Tryd.func12, Tryd.ntmps12
    go_wp2_with (go_at_call 35; refine (hpp.out _).mono ?_; rintro e w' ⟨rfl, rfl⟩)
    refine ho.out.mono ?_
    rintro e w1 ⟨v, rfl, hO, hb, _⟩
    obtain ⟨a', c', rfl⟩ := hO.form
    replace hO := Lib.hid hO.own
    replace hb := Lib.hid hb
    go_wp2_with fail
    go_ret2
    exact ⟨_, rfl, hO.out, hb.out⟩
  · rw [hp] at hpp ⊢
    replace hpp := Lib.hid hpp
    replace hp := Lib.hid hp
    go_enter Tryd.func12, Tryd.ntmps12
    go_wp2_with (go_at_call 35; refine (hpp.out _).mono ?_; rintro e w' ⟨rfl, rfl⟩)
    go_ret2
    exact ⟨_, rfl, own_empty0 _ _ _ _ _, (Below.refl _ _).alloc (Nat.le_refl _) _⟩
theorem law_BoundaryOrder_at (n : Int) (L : List Int) (b : Bool) (hL : L.length ≤ 1000000) (P0 : World → Prop) (hP : ∀ W W', P0 W → Below W.heap.size W W' → P0 W')
    (hi : ∀ W, P0 W → Calls Tryd.prog 11 #[.int .i64 n] W fun e w' => ∃ v, e = .returned (.tuple #[v, .bool b]) ∧ Own w' W.heap.size w'.heap.size v L ∧ Below W.heap.size W w')
    (hs : ∀ W, P0 W → Calls Tryd.prog 12 #[.int .i64 n] W fun e w' => ∃ v, e = .returned (.tuple #[v, .bool b]) ∧ Own w' W.heap.size w'.heap.size v L ∧ Below W.heap.size W w')
    (w : World) (h0 : P0 w) : Calls Tryd.prog 7 #[.int .i64 n] w fun e w' => e = .returned (.bool true) ∧ Below w.heap.size w w' := by
  have hi := Lib.hid hi
  have hs := Lib.hid hs
  have h0 := Lib.hid h0
  have hP := Lib.hid hP
  have hsame : sameB L L = true := decide_eq_true rfl
  have hbb : (b != b) = false := by simp
  go_enter Tryd.func7, Tryd.ntmps7
  go_wp2_with fail
  refine (hs.out _ h0.out).mono ?_
  rintro e w1 ⟨v0, rfl, hO0, hb1⟩
  obtain ⟨a0, c0, rfl, _⟩ := id hO0
  have hO0 := Lib.hid hO0
  have h1 := Lib.hid (hP.out _ _ h0.out hb1)
  go_wp2_with fail
  refine (hi.out _ h1.out).mono ?_
  rintro e w2 ⟨v1, rfl, hO1, hb2⟩
  obtain ⟨a1, c1, rfl, _⟩ := id hO1
  have hO1 := Lib.hid hO1
  have hR0 := Lib.hid ((hO0.out.row.below hb2 (Nat.le_refl _)).mono hb2.size)
  go_wp2_with fail
  refine (eq_ints _ _ L L _ _ hO1.out.row hR0.out (by omega) (by omega)).mono ?_
  rintro e w' ⟨rfl, n1, rfl⟩
  go_wp2_with fail
  refine (mark_ints _ L 1 _ _ _ (hO1.out.drewN n1) (by omega) (by omega) (by omega)).mono ?_
  rintro e w3 ⟨rfl, hO3, hb3⟩
  have hO3 := Lib.hid hO3
  go_wp2_with fail
  have hlen : (marks 1 L.length).length ≤ 1000000 := by rw [marks_len]; exact hL
  refine (held_ints _ (marks 1 L.length) 1 _ _ (by have := hO3.out.row; exact this) (by omega) (by omega) (by omega)).mono ?_
  rintro e w' ⟨rfl, rfl⟩
  rw [heldV_marks]
  have hq : (0 : Int) ≤ 1 + (L.length : Nat) := by omega
  have hqq : ((1 : Int) + (L.length : Nat) != 1 + (L.length : Nat)) = false := by simp
  have s1 := hb1.size
  have s2 := hb2.size
  have s3 : w2.heap.size ≤ w3.heap.size := hb3.size
  have hb123 := Lib.hid ((hb1.trans (hb2.mono s1)).trans ((below_drewN (Below.refl _ w2) n1).trans (hb3.mono s1)))
  have h3 := Lib.hid (hP.out _ _ h0.out hb123.out)
  go_wp2_with fail
  refine (hi.out _ h3.out).mono ?_
  rintro e w4 ⟨v4, rfl, hO4, hb4⟩
  obtain ⟨a4, c4, rfl, _⟩ := id hO4
  have hO4 := Lib.hid hO4
  have s4 := hb4.size
  have hR4 := Lib.hid ((((hO0.out.row.below hb2 (Nat.le_refl _)).drewN n1).below hb3 (Nat.le_refl _)).below hb4 (by omega))
  have hO5 := Lib.hid (hO3.out.below hb4 s3)
  go_wp2_with fail
  refine (eq_ints _ _ L L w4.heap.size _ hO4.out.row (hR4.out.mono (by omega)) (by omega) (by omega)).mono ?_
  rintro e w' ⟨rfl, n5, rfl⟩
  go_wp2_with fail
  refine (held_ints _ (marks 1 L.length) 1 _ _ ((hO5.out.drewN n5).row) (by omega) (by omega) (by omega)).mono ?_
  rintro e w' ⟨rfl, rfl⟩
  rw [heldV_marks]
  go_wp2_with fail
  go_ret
  exact ⟨rfl, below_drewN (hb123.out.trans (hb4.mono (by omega))) n5⟩
theorem Law_BoundaryOrder (n : Int) (w : World) (hT : Tab w) : Calls Tryd.prog 7 #[.int .i64 n] w fun e w' => e = .returned (.bool true) ∧ Below w.heap.size w w' :=
  law_BoundaryOrder_at n _ _ (by
    rcases (by cases ptsB n <;> simp : ptsB n = true ∨ ptsB n = false) with hb | hb
    · rw [hb]; have := (kL_up_len (ptsB_yes hb).1 (ptsB_yes hb).2).1; show (orL n).length ≤ 1000000; omega
    · rw [hb]; simp [ifL]) Tab (fun W W' h hb => h.below hb h.lt) (fun W h => im_BoundaryOrder n W h) (fun W _ => sp_BoundaryOrder n W) w hT
/-- m sets of n points can be told. -/
def fiB (n m : Int) : Bool := ptsB n && decide (0 ≤ m ∧ m ≤ 2 ^ n.toNat)
/-- what BoundaryFirst gives. -/
def fiL (n m : Int) : List Int := sortL ((orL n).take m.toNat)
/-- what first leaves. -/
def FirstPostK (w : World) (ys : List Int) (e : Ending) (w' : World) : Prop := ∃ v, e = .returned (.agg #[v, (Value.func (.func 70) #[] #[])]) ∧ SRow w' w'.heap.size v ys ∧ Below w.heap.size w w'
set_option maxRecDepth 100000 in
set_option maxHeartbeats 4000000 in
theorem first_ball (lv : Value) (xs : List Int) (m : Nat) (S : Nat) (w : World) (hx : SRow w S lv xs) (hS : S ≤ w.heap.size) (hl : xs.length ≤ 1000) (hm : m ≤ xs.length) :
    Calls Tryd.prog 68 #[.agg #[lv, (Value.func (.func 70) #[] #[])], .int .i64 (m : Nat)] w (FirstPostK w (xs.take m)) := by
  have hmk := fun W => run_make_row' (P := Tryd.prog) 43 64 (.int .u64 0) 8 Tryd.underlying43 Tryd.setInfo rfl .i64 .i64 xs.length (by omega) (by omega) W
  simp only [made_list] at hmk
  obtain ⟨a, cap, rfl, ha⟩ := hx
  obtain ⟨N, hN⟩ : ∃ N, xs.length = N := ⟨_, rfl⟩
  rw [hN] at hmk hl hm ⊢
  have hm0 : (0 : Int) ≤ (m : Nat) := by omega
  have hm1 : ((m : Nat) : Int) ≤ (N : Nat) := by omega
  obtain ⟨w3, hw3⟩ : ∃ w3, ((w.alloc (.cells #[.slice a N cap, (Value.func (.func 70) #[] #[])] 46)).alloc (.cells #[.slice none 0 0, .nilFunc] 46)).alloc (.cells (Array.replicate N (Value.int .u64 0)) 64) = w3 := ⟨_, rfl⟩
  have hbb : Below w.heap.size w w3 := hw3 ▸ (((Below.refl w.heap.size w).alloc (Nat.le_refl _) (.cells #[.slice a N cap, (Value.func (.func 70) #[] #[])] 46)).alloc (by simp) (.cells #[.slice none 0 0, .nilFunc] 46)).alloc (by simp; omega) _
  have hz3 : w3.heap.size = w.heap.size + 3 := by rw [← hw3]; simp
  have hg3 : w3.heap[w.heap.size + 1 + 1]? = some (.cells (List.replicate N (Value.int .u64 0)).toArray 64 (0, 0)) := by
    have := heap_alloc_new ((w.alloc (.cells #[.slice a N cap, (Value.func (.func 70) #[] #[])] 46)).alloc (.cells #[.slice none 0 0, .nilFunc] 46)) (.cells (Array.replicate N (Value.int .u64 0)) 64)
    rw [hw3] at this
    simpa using this
  have hc3 : w3.heap[w.heap.size]? = some (.cells #[.slice a N cap, (Value.func (.func 70) #[] #[])] 46 (0, 0)) := by rw [← hw3]; exact new_cell3a w _ _ _ _
  have hr3 : w3.heap[w.heap.size + 1]? = some (.cells #[.slice none 0 0, .nilFunc] 46 (0, 0)) := by rw [← hw3]; exact new_cell3b w _ _ _ _
  have hcs : 0 < (sv xs).length → ∃ ad, a = some ad ∧ ∀ j u, (sv xs)[j]? = some u → w3.cell? (ad.add j) = some u := fun h0 => by
    rw [sv_len] at h0
    obtain ⟨b, off, rfl, hb, hc⟩ := ha (by omega)
    refine ⟨_, rfl, fun j u hj => ?_⟩
    obtain ⟨h1, rfl⟩ := sv_get hj
    have hadd : (⟨b, off, none⟩ : Addr).add j = ⟨b, off + j, none⟩ := by simp [Addr.add]
    rw [hadd, hbb.cell (p := ⟨b, off + j, none⟩) (by show b < w.heap.size; omega)]
    exact hc j h1
  have hss : (sv xs).length = N := by rw [sv_len, hN]
  have hsp := sp_copied xs N hN.symm
  have e0 : w3.cell? ⟨w.heap.size, 0, none⟩ = some (.slice a N cap) := by rw [cell_of_row w3 _ 0 _ 46 (0, 0) hc3]; rfl
  have e1 : w3.cell? ⟨w.heap.size, 1, none⟩ = some (Value.func (.func 70) #[] #[]) := by rw [cell_of_row w3 _ 1 _ 46 (0, 0) hc3]; rfl
  replace ha := Lib.hid ha
  replace hbb := Lib.hid hbb
  replace hcs := Lib.hid hcs
  replace hg3 := Lib.hid hg3
  replace hc3 := Lib.hid hc3
  replace hr3 := Lib.hid hr3
  replace hss := Lib.hid hss
  replace hsp := Lib.hid hsp
  replace hz3 := Lib.hid hz3
  replace hN := Lib.hid hN
  go_enter Tryd.func68, Tryd.ntmps68
  go_wp2_with (with_reducible refine wpList_copy_splice rfl (.tmp 10) (.tmp 12) 43 43 rfl 64 Tryd.underlying43 set_size1 (some ⟨w.heap.size + 1 + 1, 0, none⟩) a N N N cap rfl rfl (w.heap.size + 1 + 1) 0 (List.replicate N (Value.int .u64 0)) 64 hg3.out (sv xs) (by rw [hss.out]; exact (Nat.min_self N).symm) (fun h => ⟨rfl, hcs.out h⟩) (by rw [hss.out]; simp) (sv_one xs) (w.heap.size + 2) w3 (Below.refl _ _) (by omega) ?_; intro w4 hg4 hb4)
  rw [hsp.out] at hg4
  have hz4 : w3.heap.size ≤ w4.heap.size := hb4.size
  have f0 : w4.cell? ⟨w.heap.size, 0, none⟩ = some (.slice a N cap) := by rw [hb4.cell (p := ⟨w.heap.size, 0, none⟩) (by simp)]; exact e0
  have f1 : w4.cell? ⟨w.heap.size, 1, none⟩ = some (Value.func (.func 70) #[] #[]) := by rw [hb4.cell (p := ⟨w.heap.size, 1, none⟩) (by simp)]; exact e1
  obtain ⟨d0, d1, df0, df1⟩ := res_cells hr3.out hb4
  have rr := fun v => two_cells v (Value.func (.func 70) #[] #[]) d0 d1
  have hb5 := Lib.hid (hbb.out.trans (hb4.mono (by omega)))
  have hrow := Lib.hid (row_take (show m ≤ xs.length by rw [hN.out]; exact hm) hg4.out (w.heap.size + 3) (by omega))
  have hz5 := hz3.out
  clear hbb hcs hg3 hc3 hr3 hss hsp hg4 hb4 e0 e1 hmk ha
  have hff := Lib.hid (fun u => (hrow.out.setCell (p := ⟨w.heap.size + 1, 0, none⟩) (u := u) (by simp)).setCell (p := ⟨w.heap.size + 1, 1, none⟩) (u := (Value.func (.func 70) #[] #[])) (by simp))
  have hbf := Lib.hid (fun u => below_setCell (below_setCell hb5.out (p := ⟨w.heap.size + 1, 0, none⟩) (by simp) u) (p := ⟨w.heap.size + 1, 1, none⟩) (by simp) (Value.func (.func 70) #[] #[]))
  have hzf := Lib.hid (show w.heap.size + 3 ≤ w4.heap.size by omega)
  go_region
  go_wp2_with fail
  exact bodyPost_ret (v := .agg #[.slice (some ⟨w.heap.size + 1 + 1, 0, none⟩) m m, (Value.func (.func 70) #[] #[])]) (by simp [results, Tryd.results68, go_sem, (rr _).1, (rr _).2]) rfl ⟨_, rfl, ((hff.out _).mono (by have := hzf.out; simp [World.drew]; omega)).drewS, below_drewN (hbf.out _) 1⟩
theorem orL_len {n : Int} (n1 : 1 ≤ n) (n2 : n ≤ 8) : (orL n).length = 2 ^ n.toNat := by
  obtain ⟨p1, p2, p3⟩ := pow_nat n1 n2
  unfold orL
  rw [up_sort, unL_len, ku_len _ p1]
theorem sort_bd {xs : List Int} (hz : ∀ z ∈ xs, 0 ≤ z ∧ z < 256) : (sortL xs).length ≤ 256 ∧ ∀ z ∈ sortL xs, 0 ≤ z ∧ z < 256 := by
  have h : ∀ z ∈ sortL xs, 0 ≤ z ∧ z < 256 := fun z hz2 => hz z (mem_sortL.1 hz2)
  exact ⟨asc_len256 (asc_sortL xs) h, h⟩
set_option maxRecDepth 100000 in
set_option maxHeartbeats 2000000 in
theorem first_in_ball (n m : Int) (w : World) (hT : Tab w) : Calls Tryd.prog 48 #[balO n, .int .i64 m] w (ListPost (ifL (fiB n m) (fiL n m)) (fiB n m) w) := by
  have hpt := fun W => pts_bal n W
  have hpp := fun W => pts_in n W
  have hmt := mth_bal n
  replace hpt := Lib.hid hpt
  rcases (by cases ptsB n <;> simp : ptsB n = true ∨ ptsB n = false) with hp | hp
  · obtain ⟨n1, n2⟩ := ptsB_yes hp
    rw [hp] at hpp
    replace hpp := Lib.hid hpp
    obtain ⟨p1, p2, p3⟩ := pow_nat n1 n2
    have hol := orL_len n1 n2
    obtain ⟨N, hN⟩ : ∃ N : Nat, 2 ^ n.toNat = N := ⟨_, rfl⟩
    have hNi : (2 : Int) ^ n.toNat = (N : Nat) := by rw [← hN]; simp
    have hn0 : (0 : Int) ≤ n := by omega
    have hn64 : n < 64 := by omega
    rw [hN] at p1 p2 p3 hol
    by_cases hm : 0 ≤ m ∧ m ≤ (N : Int)
    · have hb : fiB n m = true := by unfold fiB; rw [hp, hNi]; exact decide_eq_true hm
      rw [hb]
      show Calls Tryd.prog 48 #[balO n, .int .i64 m] w (ListPost (fiL n m) true w)
      obtain ⟨m1, m2⟩ := hm
      obtain ⟨M, rfl⟩ : ∃ M : Nat, m = (M : Nat) := ⟨m.toNat, by omega⟩
      have hin := in_ball n n1 n2 w hT
      change Calls Tryd.prog 34 #[balO n] w fun e w' => ∃ v, e = .returned (.agg #[v, (Value.func (.func 70) #[] #[])]) ∧ SetL w' w.heap.size v (orL n) ∧ Below w.heap.size w w' at hin
      have hz := (kL_up_len n1 n2).2
      unfold fiL
      obtain ⟨ys, hys⟩ : ∃ ys, orL n = ys := ⟨_, rfl⟩
      rw [hys] at hin hz hol ⊢
      rw [show ((M : Nat) : Int).toNat = M from Int.toNat_natCast M]
      have hzt : ∀ z ∈ ys.take M, 0 ≤ z ∧ z < 256 := fun z h => hz z (List.mem_of_mem_take h)
      obtain ⟨hsl, hsz⟩ := sort_bd hzt
      have hfl := fld0b
      have hMl : M ≤ ys.length := by omega
      have hyl : ys.length ≤ 256 := by omega
      obtain ⟨ts, hts⟩ : ∃ ts, ys.take M = ts := ⟨_, rfl⟩
      have htl : ts.length ≤ 256 := by rw [← hts, List.length_take]; omega
      rw [hts] at hzt hsl hsz ⊢
      replace hts := Lib.hid hts
      replace hin := Lib.hid hin
      replace hsz := Lib.hid hsz
      replace hzt := Lib.hid hzt
      replace hz := Lib.hid hz
      replace hys := Lib.hid hys
      replace hb := Lib.hid hb
      replace hp := Lib.hid hp
      replace hN := Lib.hid hN
      replace hNi := Lib.hid hNi
      replace hol := Lib.hid hol
      go_enter Tryd.func48, Tryd.ntmps48
      go_wp2_with (first | (go_at_call 142; refine (hpt.out _).mono ?_; rintro e w' ⟨rfl, rfl⟩) | (go_at_call 32; refine (hpp.out _).mono ?_; rintro e w' ⟨rfl, rfl⟩))
      refine hin.out.mono ?_
      rintro e w1 ⟨v1, rfl, hS1, hb1⟩
      obtain ⟨a1, c1, rfl⟩ := hS1.form
      have hz1 := hb1.size
      have hfs := first_ball _ ys M _ w1 hS1.row (Nat.le_refl _) (by omega) hMl
      rw [hts.out] at hfs
      replace hfs := Lib.hid hfs
      replace hb1 := Lib.hid hb1
      clear hS1 hin
      go_wp2_with fail
      refine hfs.out.mono ?_
      rintro e w2 ⟨v2, rfl, hS2, hb2⟩
      have hz2 := hb2.size
      have hfo := Lib.hid (family_of _ ts _ w2 hS2 (Nat.le_refl _) (fun k _ => by
        have := (sort_bd (xs := ts.take k) (fun z h => hzt.out z (List.mem_of_mem_take h))).1
        omega) (by omega))
      obtain ⟨a2, c2, rfl, _⟩ := id hS2
      replace hb2 := Lib.hid (hb1.out.trans (hb2.mono hz1))
      clear hS2 hfs
      go_wp2_with fail
      refine hfo.out.mono ?_
      rintro e w3 ⟨v3, rfl, hS3, hb3⟩
      obtain ⟨a3, c3, rfl⟩ := hS3.form
      have hz3 := hb3.size
      have hnum := Lib.hid (numbers_at _ _ _ w3 hS3.row (Nat.le_refl _) (by omega) hsz.out)
      replace hb3 := Lib.hid (hb2.out.trans (hb3.mono (by omega)))
      clear hS3 hfo
      go_wp2_with fail
      refine hnum.out.mono ?_
      rintro e w4 ⟨t, rfl, hO, hb4⟩
      obtain ⟨ua, uc, rfl, _⟩ := id hO
      replace hb4 := Lib.hid (hb3.out.trans (hb4.mono (by omega)))
      replace hO := Lib.hid (hO.mono (show w.heap.size ≤ w3.heap.size by omega) (Nat.le_refl _))
      go_wp2_with fail
      go_ret2
      exact ⟨_, rfl, hO.out, hb4.out⟩
    · have hb : fiB n m = false := by unfold fiB; rw [hp, hNi]; exact decide_eq_false hm
      rw [hb]
      replace hb := Lib.hid hb
      replace hp := Lib.hid hp
      replace hN := Lib.hid hN
      replace hNi := Lib.hid hNi
      replace hol := Lib.hid hol
      by_cases h0 : m < 0
      · clear hm
        go_enter Tryd.func48, Tryd.ntmps48
        go_wp2_with (first | (go_at_call 142; refine (hpt.out _).mono ?_; rintro e w' ⟨rfl, rfl⟩) | (go_at_call 32; refine (hpp.out _).mono ?_; rintro e w' ⟨rfl, rfl⟩))
        go_ret2
        exact ⟨_, rfl, own_empty0 _ _ _ _ _, (Below.refl _ _).alloc (Nat.le_refl _) _⟩
      · have h1 : (N : Int) < m := by omega
        clear hm
        go_enter Tryd.func48, Tryd.ntmps48
        go_wp2_with (first | (go_at_call 142; refine (hpt.out _).mono ?_; rintro e w' ⟨rfl, rfl⟩) | (go_at_call 32; refine (hpp.out _).mono ?_; rintro e w' ⟨rfl, rfl⟩))
        go_ret2
        exact ⟨_, rfl, own_empty0 _ _ _ _ _, (Below.refl _ _).alloc (Nat.le_refl _) _⟩
  · have hb : fiB n m = false := by unfold fiB; rw [hp]; rfl
    rw [hp] at hpp
    rw [hb]
    replace hpp := Lib.hid hpp
    replace hb := Lib.hid hb
    replace hp := Lib.hid hp
    go_enter Tryd.func48, Tryd.ntmps48
    go_wp2_with (first | (go_at_call 142; refine (hpt.out _).mono ?_; rintro e w' ⟨rfl, rfl⟩) | (go_at_call 32; refine (hpp.out _).mono ?_; rintro e w' ⟨rfl, rfl⟩))
    go_ret2
    exact ⟨_, rfl, own_empty0 _ _ _ _ _, (Below.refl _ _).alloc (Nat.le_refl _) _⟩
end Go.Proofs.YtgfmfecalhmplaaDoor
