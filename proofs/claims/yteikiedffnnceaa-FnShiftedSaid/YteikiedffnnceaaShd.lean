/- The law FnShifted over the program: shifted families stay so. -/
import Derived.Test.YteikiedffnnceaaDrawF
import Derived.Test.YteikiedffnnceaaTn8
import Derived.Test.YteikiedffnnceaaTs3
import Derived.Test.YteikiedffnnceaaSameL
namespace Go.Proofs.Yteikiedffnnceaa
open Go.ChangeShapes Go.WideShapes Go.ChangeAt Go.RowKit Go.Proofs

theorem stays_eq {n : Int} {φs : List (Int → Int)} (h : TurnsT n φs) (xs : List Int) : staysB n φs xs = (famB n xs && sameB xs (rdL φs xs)) := by
  unfold staysB
  rcases (by cases famB n xs <;> simp : famB n xs = true ∨ famB n xs = false) with hf | hf
  · rw [hf, Bool.true_and, Bool.true_and]
    by_cases hr : rdL φs xs = xs
    · have h1 := rd_one h hf hr
      have h2 : φs.any (fun φ => !sameB (tnL φ xs) xs) = false := List.any_eq_false.2 fun φ hφ => by rw [h1 φ hφ]; simp [sameB]
      rw [h2, hr]; simp [sameB]
    · have h2 : φs.any (fun φ => !sameB (tnL φ xs) xs) = true := Classical.byContradiction fun hc => hr (rd_same fun φ hφ => Classical.byContradiction fun hn => hc (List.any_eq_true.2 ⟨φ, hφ, by simp [sameB, hn]⟩))
      rw [h2]
      have : sameB xs (rdL φs xs) = false := decide_eq_false fun e => hr e.symm
      rw [this]; rfl
  · rw [hf, Bool.false_and, Bool.false_and]
theorem stL_self {φs : List (Int → Int)} {xs : List Int} (h : rdL φs xs = xs) : stL φs xs = xs := (st_eq (φs := φs) (xs := xs) (j := 0) h).symm
theorem shL_10 {n : Int} (h : 2 ≤ n) : (fun x => movedI x 1 0) ∈ shL n := by
  unfold shL shTo
  refine List.mem_append.2 (Or.inl (List.mem_flatMap.2 ⟨1, mem_upI.2 ⟨by omega, by omega⟩, List.mem_map.2 ⟨0, mem_upI.2 ⟨by omega, by decide⟩, rfl⟩⟩))
set_option maxRecDepth 100000 in
set_option maxHeartbeats 1000000 in
theorem draw_shifted (v : Value) (a : Option Addr) (len cap : Nat) (w : World) (hv : v = .slice a len cap) (hc : len ≤ cap) (hcap : cap ≤ 9223372036854775807) (hB : Bytes w w.heap.size a len) :
    Calls Try.prog 10 #[v] w (GivenDraw w) := by
  have h0 := Lib.hid (draw_given v a len cap w hv hc hcap hB)
  subst hv
  clear hB
  go_enter Try.func10, Try.ntmps10
  go_wp2_with fail
  refine (h0.out).mono ?_
  rintro e w1 ⟨n, u, xs, rfl, hl, hO, hb⟩
  obtain ⟨ua, uc, rfl, _⟩ := id hO
  have z1 := hb.size
  have h1 := sp_ShiftAll n _ xs _ w1 hO.row (Nat.le_refl _) (by omega)
  have h2 := fun (W : World) (hW : Below w1.heap.size w1 W) => sp_PressAll n _ xs w1.heap.size W (hO.row.below hW (Nat.le_refl _)) hW.size (by omega)
  replace hO := Lib.hid hO
  replace hb := Lib.hid hb
  rcases (by cases famB n xs <;> simp : famB n xs = true ∨ famB n xs = false) with hbv | hbv
  · have f1 := famB_len (st_in (shL_turns n) hbv)
    have f2 := famB_len (st_in (prL_turns n) hbv)
    rw [hbv] at h1 h2
    obtain ⟨T1, hT1⟩ : ∃ T, stL (shL n) xs = T := ⟨_, rfl⟩
    obtain ⟨T2, hT2⟩ : ∃ T, stL (prL n) xs = T := ⟨_, rfl⟩
    rw [hT1] at h1 f1
    rw [hT2] at h2 f2
    replace h1 := Lib.hid (show Calls _ _ _ _ (ListPost T1 true w1) from h1)
    replace h2 := Lib.hid (fun (W : World) (hW : Below w1.heap.size w1 W) => (show Calls _ _ _ _ (ListPost T2 true W) from h2 W hW))
    replace hbv := Lib.hid hbv
    go_wp2_with fail
    refine h1.out.mono ?_
    rintro e w2 ⟨v2, rfl, hO2, hb2⟩
    obtain ⟨va, vc, rfl, _⟩ := id hO2
    have z2 := hb2.size
    have h3 := Lib.hid (h2.out w2 hb2)
    have hO12 := Lib.hid (hO.out.below hb2 (Nat.le_refl _))
    replace hO2 := Lib.hid hO2
    replace hb2 := Lib.hid (hb.out.trans (hb2.mono z1))
    have hm0 : (0 : Int) ≤ (len : Nat) := by omega
    rcases (by omega : (len : Int) % 3 = 0 ∨ (len : Int) % 3 = 1 ∨ (len : Int) % 3 = 2) with hm | hm | hm
    · go_wp2_with fail
      go_ret2
      exact ⟨_, _, T1, rfl, by omega, hO2.out.mono (by omega) (Nat.le_refl _), hb2.out⟩
    · go_wp2_with fail
      refine h3.out.mono ?_
      rintro e w3 ⟨v3, rfl, hO3, hb3⟩
      obtain ⟨ya, yc, rfl, _⟩ := id hO3
      have z3 := hb3.size
      replace hO3 := Lib.hid hO3
      replace hb3 := Lib.hid (hb2.out.trans (hb3.mono hb2.out.size))
      go_wp2_with fail
      go_ret2
      exact ⟨_, _, T2, rfl, by omega, hO3.out.mono (by omega) (Nat.le_refl _), hb3.out⟩
    · go_wp2_with fail
      refine h3.out.mono ?_
      rintro e w3 ⟨v3, rfl, hO3, hb3⟩
      obtain ⟨ya, yc, rfl, _⟩ := id hO3
      have z3 := hb3.size
      have hO13 := Lib.hid (hO12.out.below hb3 z2)
      replace hb3 := Lib.hid (hb2.out.trans (hb3.mono hb2.out.size))
      go_wp2_with fail
      go_ret2
      exact ⟨_, _, xs, rfl, hl, hO13.out.mono (by omega) (by omega), hb3.out⟩
  · rw [hbv] at h1 h2
    replace h1 := Lib.hid (show Calls _ _ _ _ (ListPost [] false w1) from h1)
    replace h2 := Lib.hid (fun (W : World) (hW : Below w1.heap.size w1 W) => (show Calls _ _ _ _ (ListPost [] false W) from h2 W hW))
    replace hbv := Lib.hid hbv
    go_wp2_with fail
    refine h1.out.mono ?_
    rintro e w2 ⟨v2, rfl, hO2, hb2⟩
    obtain ⟨va, vc, rfl, _⟩ := id hO2
    have z2 := hb2.size
    have h3 := Lib.hid (h2.out w2 hb2)
    have hO12 := Lib.hid (hO.out.below hb2 (Nat.le_refl _))
    replace hb2 := Lib.hid (hb.out.trans (hb2.mono z1))
    clear hO2
    go_wp2_with fail
    refine h3.out.mono ?_
    rintro e w3 ⟨v3, rfl, hO3, hb3⟩
    obtain ⟨ya, yc, rfl, _⟩ := id hO3
    have z3 := hb3.size
    have hO13 := Lib.hid (hO12.out.below hb3 z2)
    replace hb3 := Lib.hid (hb2.out.trans (hb3.mono hb2.out.size))
    clear hO3
    go_wp2_with fail
    go_ret2
    exact ⟨_, _, xs, rfl, hl, hO13.out.mono (by omega) (by omega), hb3.out⟩
set_option maxRecDepth 100000 in
set_option maxHeartbeats 1000000 in
theorem draw_ShiftedIn (v : Value) (a : Option Addr) (len cap : Nat) (w : World) (hv : v = .slice a len cap) (hc : len ≤ cap) (hcap : cap ≤ 9223372036854775807) (hB : Bytes w w.heap.size a len) :
    Calls Try.prog 4 #[v] w (GivenDraw w) := by
  have h0 := Lib.hid (draw_shifted v a len cap w hv hc hcap hB)
  clear hv hc hcap hB
  go_enter Try.func4, Try.ntmps4
  go_wp2_with fail
  refine (h0.out).mono ?_
  rintro e w1 ⟨n, u, xs, rfl, hl, hO, hb⟩
  obtain ⟨fa, fc, rfl, _⟩ := id hO
  replace hO := Lib.hid hO
  replace hb := Lib.hid hb
  go_wp2_with fail
  go_ret2
  exact ⟨_, _, xs, rfl, hl, hO.out, hb.out⟩
set_option maxRecDepth 100000 in
set_option maxHeartbeats 4000000 in
theorem law_FnShifted (v : Value) (a : Option Addr) (len cap : Nat) (w : World) (hv : v = .slice a len cap) (hc : len ≤ cap) (hcap : cap ≤ 9223372036854775807) (hB : Bytes w w.heap.size a len) :
    Calls Try.prog 3 #[v] w fun e w' => e = .returned (.bool true) ∧ Below w.heap.size w w' := by
  have h0 := Lib.hid (draw_ShiftedIn v a len cap w hv hc hcap hB)
  subst hv
  clear hB
  by_cases hbig : 1048576 < len
  · go_enter Try.func3, Try.ntmps3
    go_wp2_with fail
    go_ret
    exact ⟨rfl, Below.refl _ _⟩
  · go_enter Try.func3, Try.ntmps3
    go_wp2_with fail
    refine (h0.out).mono ?_
    rintro e w1 ⟨n, u, xs, rfl, hl, hO, hb⟩
    obtain ⟨ua, uc, rfl, _⟩ := id hO
    have z1 := hb.size
    have hi := im_ShiftedIn n _ xs _ w1 hO.row (Nat.le_refl _) (by omega)
    have hs := fun (W : World) (hW : Below w1.heap.size w1 W) => sp_ShiftedIn n _ xs w1.heap.size W (hO.row.below hW (Nat.le_refl _)) hW.size (by omega)
    simp only [← stays_eq (shL_turns n)] at hs
    have hA := fun (W : World) (hW : Below w1.heap.size w1 W) => im_ShiftAll n _ xs w1.heap.size W (hO.row.below hW (Nat.le_refl _)) hW.size (by omega)
    have hF := fun (W : World) (hW : Below w1.heap.size w1 W) => im_ShiftOf n _ xs 1 0 w1.heap.size W (hO.row.below hW (Nat.le_refl _)) hW.size (by omega)
    have RX1 := Lib.hid hO.row
    have hb1 := Lib.hid hb
    clear hb hO
    rcases (by cases staysB n (shL n) xs <;> simp : staysB n (shL n) xs = true ∨ staysB n (shL n) xs = false) with hbv | hbv
    · have h2 := hbv
      rw [stays_eq (shL_turns n)] at h2
      obtain ⟨f1, f2⟩ : famB n xs = true ∧ sameB xs (rdL (shL n) xs) = true := by simpa using h2
      have f3 : rdL (shL n) xs = xs := (of_decide_eq_true f2).symm
      have l1 := famB_len f1
      obtain ⟨n1, n2, _⟩ := famB_all f1
      rw [hbv] at hi hs
      simp only [f1, stL_self f3] at hA
      replace hA := Lib.hid (fun (W : World) (hW : Below w1.heap.size w1 W) => (show Calls _ _ _ _ (ListPost xs true W) from hA W hW))
      have hsame : sameB xs xs = true := decide_eq_true rfl
      replace hi := Lib.hid hi
      replace hs := Lib.hid hs
      replace hbv := Lib.hid hbv
      by_cases hn : n < 2
      · have hp : (famB n xs && (ptB n 1 && ptB n 0)) = false := by
          have : ptB n 1 = false := by unfold ptB; simp; omega
          rw [this]; simp
        simp only [hp] at hF
        replace hF := Lib.hid (fun (W : World) (hW : Below w1.heap.size w1 W) => (show Calls _ _ _ _ (ListPost [] false W) from hF W hW))
        clear h2 f1 f2 f3 hp
        go_wp2_with fail
        refine hi.out.mono ?_
        rintro e w2 ⟨rfl, hb2⟩
        have q2 := Lib.hid hb2
        have c2 := Lib.hid (hs.out w2 hb2)
        clear hb2
        go_wp2_with fail
        refine c2.out.mono ?_
        rintro e w3 ⟨rfl, hb3⟩
        have q3 := Lib.hid (q2.out.trans (hb3.mono q2.out.size))
        have c3 := Lib.hid (hA.out w3 q3.out)
        clear hb3
        go_wp2_with fail
        refine c3.out.mono ?_
        rintro e w4 ⟨v4, rfl, hO4, hb4⟩
        obtain ⟨va, vc, rfl, _⟩ := id hO4
        have z4 := hb4.size
        have q4 := Lib.hid (q3.out.trans (hb4.mono q3.out.size))
        have c4 := Lib.hid (hF.out w4 q4.out)
        replace hO4 := Lib.hid hO4
        clear hb4
        go_wp2_with fail
        refine c4.out.mono ?_
        rintro e w5 ⟨v5, rfl, hO5, hb5⟩
        obtain ⟨ya, yc, rfl, _⟩ := id hO5
        have z5 := hb5.size
        have hO45 := Lib.hid (hO4.out.below hb5 (Nat.le_refl _))
        have q5 := Lib.hid (q4.out.trans (hb5.mono q4.out.size))
        have R5 := Lib.hid (RX1.out.below q5.out (Nat.le_refl _))
        have y5 := q5.out.size
        clear hb5 hO5
        have hq := same_l _ _ xs xs w5.heap.size w5 (hO45.out.row.mono z5) (R5.out.mono y5) (by omega) (by omega)
        rw [hsame] at hq
        replace hq := Lib.hid hq
        go_wp2_with fail
        refine hq.out.mono ?_
        rintro e w6 ⟨rfl, q, rfl⟩
        go_wp2_with fail
        go_ret
        exact ⟨rfl, below_drewN (hb1.out.trans (q5.out.mono hb1.out.size)) _⟩
      · have g1 : ptB n 1 = true := ptB_mk (by omega) (by omega)
        have g2 : ptB n 0 = true := ptB_mk (by omega) (by omega)
        have hp : (famB n xs && (ptB n 1 && ptB n 0)) = true := by rw [f1, g1, g2]; rfl
        have ht : tnL (fun x => movedI x 1 0) xs = xs := rd_one (shL_turns n) f1 f3 _ (shL_10 (by omega))
        simp only [hp, ht] at hF
        replace hF := Lib.hid (fun (W : World) (hW : Below w1.heap.size w1 W) => (show Calls _ _ _ _ (ListPost xs true W) from hF W hW))
        clear h2 f1 f2 f3 hp ht g1 g2
        go_wp2_with fail
        refine hi.out.mono ?_
        rintro e w2 ⟨rfl, hb2⟩
        have q2 := Lib.hid hb2
        have c2 := Lib.hid (hs.out w2 hb2)
        clear hb2
        go_wp2_with fail
        refine c2.out.mono ?_
        rintro e w3 ⟨rfl, hb3⟩
        have q3 := Lib.hid (q2.out.trans (hb3.mono q2.out.size))
        have c3 := Lib.hid (hA.out w3 q3.out)
        clear hb3
        go_wp2_with fail
        refine c3.out.mono ?_
        rintro e w4 ⟨v4, rfl, hO4, hb4⟩
        obtain ⟨va, vc, rfl, _⟩ := id hO4
        have z4 := hb4.size
        have q4 := Lib.hid (q3.out.trans (hb4.mono q3.out.size))
        have c4 := Lib.hid (hF.out w4 q4.out)
        replace hO4 := Lib.hid hO4
        clear hb4
        go_wp2_with fail
        refine c4.out.mono ?_
        rintro e w5 ⟨v5, rfl, hO5, hb5⟩
        obtain ⟨ya, yc, rfl, _⟩ := id hO5
        have z5 := hb5.size
        have hO45 := Lib.hid (hO4.out.below hb5 (Nat.le_refl _))
        have q5 := Lib.hid (q4.out.trans (hb5.mono q4.out.size))
        have R5 := Lib.hid (RX1.out.below q5.out (Nat.le_refl _))
        have y5 := q5.out.size
        replace hO5 := Lib.hid hO5
        clear hb5
        have hq := same_l _ _ xs xs w5.heap.size w5 (hO45.out.row.mono z5) (R5.out.mono y5) (by omega) (by omega)
        rw [hsame] at hq
        replace hq := Lib.hid hq
        have hr := fun k => same_l _ _ xs xs w5.heap.size (w5.drewN k) (hO5.out.row.drewN k) ((R5.out.mono y5).drewN k) (by omega) (by omega)
        rw [hsame] at hr
        replace hr := Lib.hid hr
        go_wp2_with fail
        refine hq.out.mono ?_
        rintro e w6 ⟨rfl, q, rfl⟩
        go_wp2_with fail
        refine (hr.out q).mono ?_
        rintro e w7 ⟨rfl, q7, rfl⟩
        go_wp2_with fail
        go_ret
        exact ⟨rfl, below_drewN (hb1.out.trans (q5.out.mono hb1.out.size)) _⟩
    · rw [hbv] at hi hs
      replace hi := Lib.hid hi
      replace hs := Lib.hid hs
      replace hbv := Lib.hid hbv
      clear hA hF
      go_wp2_with fail
      refine hi.out.mono ?_
      rintro e w2 ⟨rfl, hb2⟩
      have q2 := Lib.hid hb2
      have c2 := Lib.hid (hs.out w2 hb2)
      clear hb2
      go_wp2_with fail
      refine c2.out.mono ?_
      rintro e w3 ⟨rfl, hb3⟩
      have q3 := Lib.hid (q2.out.trans (hb3.mono q2.out.size))
      clear hb3
      go_wp2_with fail
      go_ret
      exact ⟨rfl, hb1.out.trans (q3.out.mono hb1.out.size)⟩
end Go.Proofs.Yteikiedffnnceaa
