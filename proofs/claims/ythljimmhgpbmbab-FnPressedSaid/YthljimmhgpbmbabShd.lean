/- The law FnShifted over the program: shifted families stay so. -/
import Derived.Test.YthljimmhgpbmbabAllD
import Derived.Test.YthljimmhgpbmbabAllTn
import Derived.Test.YthljimmhgpbmbabAllTs
import Derived.Test.YthljimmhgpbmbabSameL
namespace Go.Proofs.Ythljimmhgpbmbab
open Go.ChangeShapes Go.WideShapes Go.ChangeAt Go.RowKit Go.Proofs

theorem stays_eq {n : Int} {φs : List (Int → Int)} (h : TurnsT n φs) (xs : List Int) : staysB n φs xs = (famB n xs && sameB xs (rdL φs xs)) := by
  unfold staysB
  rcases (by cases famB n xs <;> simp : famB n xs = true ∨ famB n xs = false) with hf | hf
  · rw [hf, Bool.true_and, Bool.true_and]
    by_cases hr : rdL φs xs = xs
    · have h1 := rd_one h hf hr
      have h2 : φs.any (fun φ => !sameB (tnL φ xs) xs) = false := List.any_eq_false.2 fun φ hφ => by rw [h1 φ hφ]; simp [sameB]
      rw [h2, hr]; simp [sameB]
    · have h2 : φs.any (fun φ => !sameB (tnL φ xs) xs) = true := Classical.byContradiction fun hc => hr (rd_same fun φ hφ => Classical.byContradiction fun hn => hc (List.any_eq_true.2 ⟨φ, hφ, by simp [sameB, hn]⟩))
      rw [h2]
      have : sameB xs (rdL φs xs) = false := decide_eq_false fun e => hr e.symm
      rw [this]; rfl
  · rw [hf, Bool.false_and, Bool.false_and]
theorem stL_self {φs : List (Int → Int)} {xs : List Int} (h : rdL φs xs = xs) : stL φs xs = xs := (st_eq (φs := φs) (xs := xs) (j := 0) h).symm
theorem shL_10 {n : Int} (h : 2 ≤ n) : (fun x => movedI x 1 0) ∈ shL n := by
  unfold shL shTo
  refine List.mem_append.2 (Or.inl (List.mem_flatMap.2 ⟨1, mem_upI.2 ⟨by omega, by omega⟩, List.mem_map.2 ⟨0, mem_upI.2 ⟨by omega, by decide⟩, rfl⟩⟩))
set_option maxRecDepth 100000 in
set_option maxHeartbeats 1000000 in
theorem draw_shifted (v : Value) (a : Option Addr) (len cap : Nat) (w : World) (hv : v = .slice a len cap) (hc : len ≤ cap) (hcap : cap ≤ 9223372036854775807) (hB : Bytes w w.heap.size a len) :
    Calls Try.prog 92 #[v] w (GivenDraw w) := by
  have h0 := Lib.hid (draw_given v a len cap w hv hc hcap hB)
  subst hv
  clear hB
  go_enter Try.func92, Try.ntmps92
  go_wp2_with fail
  refine (h0.out).mono ?_
  rintro e w1 ⟨n, u, xs, rfl, hl, hO, hb⟩
  obtain ⟨ua, uc, rfl, _⟩ := id hO
  have z1 := hb.size
  have h1 := sp_ShiftAll n _ xs _ w1 hO.row (Nat.le_refl _) (by omega)
  have h2 := fun (W : World) (hW : Below w1.heap.size w1 W) => sp_PressAll n _ xs w1.heap.size W (hO.row.below hW (Nat.le_refl _)) hW.size (by omega)
  replace hO := Lib.hid hO
  replace hb := Lib.hid hb
  rcases (by cases famB n xs <;> simp : famB n xs = true ∨ famB n xs = false) with hbv | hbv
  · have f1 := famB_len (st_in (shL_turns n) hbv)
    have f2 := famB_len (st_in (prL_turns n) hbv)
    rw [hbv] at h1 h2
    obtain ⟨T1, hT1⟩ : ∃ T, stL (shL n) xs = T := ⟨_, rfl⟩
    obtain ⟨T2, hT2⟩ : ∃ T, stL (prL n) xs = T := ⟨_, rfl⟩
    rw [hT1] at h1 f1
    rw [hT2] at h2 f2
    replace h1 := Lib.hid (show Calls _ _ _ _ (ListPost T1 true w1) from h1)
    replace h2 := Lib.hid (fun (W : World) (hW : Below w1.heap.size w1 W) => (show Calls _ _ _ _ (ListPost T2 true W) from h2 W hW))
    replace hbv := Lib.hid hbv
    go_wp2_with fail
    refine h1.out.mono ?_
    rintro e w2 ⟨v2, rfl, hO2, hb2⟩
    obtain ⟨va, vc, rfl, _⟩ := id hO2
    have z2 := hb2.size
    have h3 := Lib.hid (h2.out w2 hb2)
    have hO12 := Lib.hid (hO.out.below hb2 (Nat.le_refl _))
    replace hO2 := Lib.hid hO2
    replace hb2 := Lib.hid (hb.out.trans (hb2.mono z1))
    have hm0 : (0 : Int) ≤ (len : Nat) := by omega
    rcases (by omega : (len : Int) % 3 = 0 ∨ (len : Int) % 3 = 1 ∨ (len : Int) % 3 = 2) with hm | hm | hm
    · go_wp2_with fail
      go_ret2
      exact ⟨_, _, T1, rfl, by omega, hO2.out.mono (by omega) (Nat.le_refl _), hb2.out⟩
    · go_wp2_with fail
      refine h3.out.mono ?_
      rintro e w3 ⟨v3, rfl, hO3, hb3⟩
      obtain ⟨ya, yc, rfl, _⟩ := id hO3
      have z3 := hb3.size
      replace hO3 := Lib.hid hO3
      replace hb3 := Lib.hid (hb2.out.trans (hb3.mono hb2.out.size))
      go_wp2_with fail
      go_ret2
      exact ⟨_, _, T2, rfl, by omega, hO3.out.mono (by omega) (Nat.le_refl _), hb3.out⟩
    · go_wp2_with fail
      refine h3.out.mono ?_
      rintro e w3 ⟨v3, rfl, hO3, hb3⟩
      obtain ⟨ya, yc, rfl, _⟩ := id hO3
      have z3 := hb3.size
      have hO13 := Lib.hid (hO12.out.below hb3 z2)
      replace hb3 := Lib.hid (hb2.out.trans (hb3.mono hb2.out.size))
      go_wp2_with fail
      go_ret2
      exact ⟨_, _, xs, rfl, hl, hO13.out.mono (by omega) (by omega), hb3.out⟩
  · rw [hbv] at h1 h2
    replace h1 := Lib.hid (show Calls _ _ _ _ (ListPost [] false w1) from h1)
    replace h2 := Lib.hid (fun (W : World) (hW : Below w1.heap.size w1 W) => (show Calls _ _ _ _ (ListPost [] false W) from h2 W hW))
    replace hbv := Lib.hid hbv
    go_wp2_with fail
    refine h1.out.mono ?_
    rintro e w2 ⟨v2, rfl, hO2, hb2⟩
    obtain ⟨va, vc, rfl, _⟩ := id hO2
    have z2 := hb2.size
    have h3 := Lib.hid (h2.out w2 hb2)
    have hO12 := Lib.hid (hO.out.below hb2 (Nat.le_refl _))
    replace hb2 := Lib.hid (hb.out.trans (hb2.mono z1))
    clear hO2
    go_wp2_with fail
    refine h3.out.mono ?_
    rintro e w3 ⟨v3, rfl, hO3, hb3⟩
    obtain ⟨ya, yc, rfl, _⟩ := id hO3
    have z3 := hb3.size
    have hO13 := Lib.hid (hO12.out.below hb3 z2)
    replace hb3 := Lib.hid (hb2.out.trans (hb3.mono hb2.out.size))
    clear hO3
    go_wp2_with fail
    go_ret2
    exact ⟨_, _, xs, rfl, hl, hO13.out.mono (by omega) (by omega), hb3.out⟩
end Go.Proofs.Ythljimmhgpbmbab
