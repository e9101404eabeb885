/- Edges lead to the rest; no family has more inner edges than the first sets in binary order: the laws. -/
import Derived.Test.YtpepcjffolbdcaaDoorBe4
import Derived.Test.YtpepcjffolbdcaaDoorEm1
import Derived.Test.YtpepcjffolbdcaaDoorEm2
import Derived.Test.YtpepcjffolbdcaaDoorDrawF
import Derived.Test.YtpepcjffolbdcaaDoorBn3
namespace Go.Proofs.YtpepcjffolbdcaaDoor
open Go.ChangeShapes Go.WideShapes Go.ChangeAt Go.RowKit Go.Proofs

set_option maxRecDepth 100000 in
set_option maxHeartbeats 4000000 in
theorem draw_BoundaryEdges (v : Value) (a : Option Addr) (len cap : Nat) (w : World) (hv : v = .slice a len cap) (hc : len ≤ cap) (hcap : cap ≤ 9223372036854775807) (hB : Bytes w w.heap.size a len) :
    Calls Tryd.prog 15 #[v] w (GivenDraw w) := by
  have h0 := Lib.hid (draw_given v a len cap w hv hc hcap hB)
  clear hv hc hcap hB
  go_enter Tryd.func15, Tryd.ntmps15
  go_wp2_with fail
  refine (h0.out).mono ?_
  rintro e w1 ⟨n, u, xs, rfl, hl, hO, hb⟩
  obtain ⟨fa, fc, rfl, _⟩ := id hO
  replace hO := Lib.hid hO
  replace hb := Lib.hid hb
  go_wp2_with fail
  go_ret2
  exact ⟨_, _, xs, rfl, hl, hO.out, hb.out⟩
set_option maxRecDepth 100000 in
set_option maxHeartbeats 4000000 in
theorem draw_BoundaryInner (v : Value) (a : Option Addr) (len cap : Nat) (w : World) (hv : v = .slice a len cap) (hc : len ≤ cap) (hcap : cap ≤ 9223372036854775807) (hB : Bytes w w.heap.size a len) :
    Calls Tryd.prog 19 #[v] w (GivenDraw w) := by
  have h0 := Lib.hid (draw_given v a len cap w hv hc hcap hB)
  clear hv hc hcap hB
  go_enter Tryd.func19, Tryd.ntmps19
  go_wp2_with fail
  refine (h0.out).mono ?_
  rintro e w1 ⟨n, u, xs, rfl, hl, hO, hb⟩
  obtain ⟨fa, fc, rfl, _⟩ := id hO
  replace hO := Lib.hid hO
  replace hb := Lib.hid hb
  go_wp2_with fail
  go_ret2
  exact ⟨_, _, xs, rfl, hl, hO.out, hb.out⟩
set_option maxRecDepth 100000 in
set_option maxHeartbeats 4000000 in
theorem law_FnEdges (v : Value) (a : Option Addr) (len cap : Nat) (w : World) (hv : v = .slice a len cap) (hc : len ≤ cap) (hcap : cap ≤ 9223372036854775807) (hB : Bytes w w.heap.size a len) (hT : Tab w) :
    Calls Tryd.prog 4 #[v] w fun e w' => e = .returned (.bool true) ∧ Below w.heap.size w w' := by
  have htl := hT.lt
  have h0 := Lib.hid (draw_BoundaryEdges v a len cap w hv hc hcap hB)
  subst hv
  replace hT := Lib.hid hT
  clear hB
  by_cases hbig : 1048576 < len
  · go_enter Tryd.func4, Tryd.ntmps4
    go_wp2_with fail
    go_ret
    exact ⟨rfl, Below.refl _ _⟩
  · go_enter Tryd.func4, Tryd.ntmps4
    go_wp2_with fail
    refine (h0.out).mono ?_
    rintro e w1 ⟨n, u, xs, rfl, hl, hO, hb⟩
    obtain ⟨ua, uc, rfl, _⟩ := id hO
    have z1 := hb.size
    have hi := im_BoundaryEdges n _ xs _ w1 hO.row (Nat.le_refl _) (by omega) (hT.out.below hb htl)
    have hs := fun (W : World) (hW : Below w1.heap.size w1 W) => sp_BoundaryEdges n _ xs w1.heap.size W (hO.row.below hW (Nat.le_refl _)) hW.size (by omega)
    have hb1 := Lib.hid hb
    have RX1 := Lib.hid hO.row
    clear hb hO h0
    rcases (by cases famB n xs <;> simp : famB n xs = true ∨ famB n xs = false) with hbv | hbv
    · have hrs := fun (W : World) (hR : Row W W.heap.size (.slice ua xs.length uc) xs) => im_FamilyRest n _ xs _ W hR (Nat.le_refl _) (by omega)
      have hin := fun (W : World) (hR : Row W W.heap.size (.slice ua xs.length uc) xs) (hTW : Tab W) => im_BoundaryInner n _ xs _ W hR (Nat.le_refl _) (by omega) hTW
      have hk := fun (W : World) (u : Value) (hR : Row W W.heap.size u (rsL n xs)) (hTW : Tab W) => im_BoundaryEdges n u (rsL n xs) _ W hR (Nat.le_refl _) (by have := famB_len (rs_fam hbv); omega) hTW
      have hrf := rs_fam hbv
      have hE : edV n (rsL n xs) = edV n xs := by unfold edV; rw [hbv, hrf]; exact ed_rest hbv
      have hfin : edV n xs + 2 * inV n xs = n * (xs.length : Nat) := by unfold edV inV; rw [hbv]; simp
      have hlen := famB_len hbv
      obtain ⟨n1, n2, _⟩ := famB_all hbv
      have hie := ieN_le hlen
      have hm1 : (n * (xs.length : Nat) : Int) ≤ 2048 := by
        have : (n * (xs.length : Nat) : Int) ≤ 8 * 256 := Int.mul_le_mul n2 (by omega) (by omega) (by omega)
        omega
      have hm2 : 0 ≤ (n * (xs.length : Nat) : Int) := Int.mul_nonneg (by omega) (by omega)
      have hiv : 0 ≤ inV n xs ∧ inV n xs ≤ 2048 := by unfold inV; rw [hbv]; simp; omega
      rw [hrf, hE] at hk
      rw [hbv] at hi hs hin hrs
      change ∀ (W : World), Row W W.heap.size (.slice ua xs.length uc) xs → Calls _ _ _ _ (ListPost (rsL n xs) true W) at hrs
      obtain ⟨E, hEE⟩ : ∃ E, edV n xs = E := ⟨_, rfl⟩
      obtain ⟨I, hII⟩ : ∃ I, inV n xs = I := ⟨_, rfl⟩
      obtain ⟨R, hR⟩ : ∃ R, rsL n xs = R := ⟨_, rfl⟩
      rw [hEE] at hi hs hk hfin
      rw [hII] at hin hfin hiv
      rw [hR] at hrs hk
      obtain ⟨i1, i2⟩ := hiv
      have hEb : -4096 ≤ E ∧ E ≤ 2048 := by omega
      obtain ⟨E1, E2⟩ := hEb
      replace hi := Lib.hid hi
      replace hs := Lib.hid hs
      replace hk := Lib.hid hk
      replace hin := Lib.hid hin
      replace hrs := Lib.hid hrs
      replace hbv := Lib.hid hbv
      replace hrf := Lib.hid hrf
      replace hE := Lib.hid hE
      replace hEE := Lib.hid hEE
      replace hII := Lib.hid hII
      replace hR := Lib.hid hR
      go_wp2_with fail
      refine hi.out.mono ?_
      rintro e w2 ⟨rfl, hb2⟩
      have z2 := hb2.size
      have RX2 := Lib.hid ((RX1.out.below hb2 (Nat.le_refl _)).mono z2)
      have hs2 := Lib.hid (hs.out w2 hb2)
      replace hb2 := Lib.hid (hb1.out.trans (hb2.mono z1))
      clear hi hs
      go_wp2_with fail
      refine hs2.out.mono ?_
      rintro e w3 ⟨rfl, hb3⟩
      have z3 := hb3.size
      have RX3 := Lib.hid ((RX2.out.below hb3 (Nat.le_refl _)).mono z3)
      have hrs3 := Lib.hid (hrs.out w3 RX3.out)
      replace hb3 := Lib.hid (hb2.out.trans (hb3.mono hb2.out.size))
      clear hs2 hrs RX2
      go_wp2_with fail
      refine hrs3.out.mono ?_
      rintro e w4 ⟨v4, rfl, hO4, hb4⟩
      obtain ⟨a4, c4, rfl, _⟩ := id hO4
      have z4 := hb4.size
      have RX4 := Lib.hid ((RX3.out.below hb4 (Nat.le_refl _)).mono z4)
      replace hb4 := Lib.hid (hb3.out.trans (hb4.mono hb3.out.size))
      have hk4 := Lib.hid (hk.out w4 _ hO4.row (hT.out.below hb4.out htl))
      clear hrs3 hk hO4 RX3
      go_wp2_with fail
      refine hk4.out.mono ?_
      rintro e w5 ⟨rfl, hb5⟩
      have z5 := hb5.size
      have RX5 := Lib.hid ((RX4.out.below hb5 (Nat.le_refl _)).mono z5)
      replace hb5 := Lib.hid (hb4.out.trans (hb5.mono hb4.out.size))
      have hin5 := Lib.hid (hin.out w5 RX5.out (hT.out.below hb5.out htl))
      clear hk4 hin RX4
      go_wp2_with fail
      refine hin5.out.mono ?_
      rintro e w6 ⟨rfl, hb6⟩
      replace hb6 := Lib.hid (hb5.out.trans (hb6.mono hb5.out.size))
      have hfB : (E + 2 * I == n * (xs.length : Nat)) = true := by rw [hfin]; simp
      clear hin5
      go_wp2_with fail
      go_ret
      exact ⟨rfl, hb6.out⟩
    · rw [hbv] at hi hs
      have hv0 : edV n xs = 0 := by unfold edV; rw [hbv]; rfl
      rw [hv0] at hi hs
      replace hi := Lib.hid hi
      replace hs := Lib.hid hs
      replace hbv := Lib.hid hbv
      replace hv0 := Lib.hid hv0
      go_wp2_with fail
      refine hi.out.mono ?_
      rintro e w2 ⟨rfl, hb2⟩
      have hs2 := Lib.hid (hs.out w2 hb2)
      replace hb2 := Lib.hid (hb1.out.trans (hb2.mono z1))
      clear hi hs
      go_wp2_with fail
      refine hs2.out.mono ?_
      rintro e w3 ⟨rfl, hb3⟩
      replace hb3 := Lib.hid (hb2.out.trans (hb3.mono hb2.out.size))
      go_wp2_with fail
      go_ret
      exact ⟨rfl, hb3.out⟩
set_option maxRecDepth 100000 in
set_option maxHeartbeats 4000000 in
theorem law_FnInnerEdges (v : Value) (a : Option Addr) (len cap : Nat) (w : World) (hv : v = .slice a len cap) (hc : len ≤ cap) (hcap : cap ≤ 9223372036854775807) (hB : Bytes w w.heap.size a len) (hT : Tab w) :
    Calls Tryd.prog 5 #[v] w fun e w' => e = .returned (.bool true) ∧ Below w.heap.size w w' := by
  have htl := hT.lt
  have h0 := Lib.hid (draw_BoundaryInner v a len cap w hv hc hcap hB)
  subst hv
  replace hT := Lib.hid hT
  clear hB
  by_cases hbig : 1048576 < len
  · go_enter Tryd.func5, Tryd.ntmps5
    go_wp2_with fail
    go_ret
    exact ⟨rfl, Below.refl _ _⟩
  · go_enter Tryd.func5, Tryd.ntmps5
    go_wp2_with fail
    refine (h0.out).mono ?_
    rintro e w1 ⟨n, u, xs, rfl, hl, hO, hb⟩
    obtain ⟨ua, uc, rfl, _⟩ := id hO
    have z1 := hb.size
    have hi := im_BoundaryInner n _ xs _ w1 hO.row (Nat.le_refl _) (by omega) (hT.out.below hb htl)
    have hs := fun (W : World) (hW : Below w1.heap.size w1 W) => sp_BoundaryInner n _ xs w1.heap.size W (hO.row.below hW (Nat.le_refl _)) hW.size (by omega)
    have hb1 := Lib.hid hb
    clear hb hO h0
    rcases (by cases famB n xs <;> simp : famB n xs = true ∨ famB n xs = false) with hbv | hbv
    · have hle := ie_le (famB_asc hbv) (famB_lt hbv)
      have hlen := famB_len hbv
      have hd := fun W => im_BoundaryDigits (xs.length : Nat) W
      obtain ⟨d1, d2⟩ := dgV_yes (m := (xs.length : Nat)) (by omega)
      have hiv : inV n xs = (ieN xs : Nat) := by unfold inV; rw [hbv]; rfl
      rw [d1, d2, Int.toNat_natCast] at hd
      have hdb := dg_bd xs.length
      rw [hbv, hiv] at hi hs
      obtain ⟨D, hD⟩ : ∃ D, dgS xs.length = D := ⟨_, rfl⟩
      obtain ⟨I, hI⟩ : ∃ I, ieN xs = I := ⟨_, rfl⟩
      rw [hD] at hd hle hdb
      rw [hI] at hi hs hle
      have i0 : (0 : Int) ≤ (I : Nat) := by omega
      replace hi := Lib.hid hi
      replace hs := Lib.hid hs
      replace hd := Lib.hid hd
      replace hbv := Lib.hid hbv
      replace hiv := Lib.hid hiv
      replace hD := Lib.hid hD
      replace hI := Lib.hid hI
      replace d1 := Lib.hid d1
      replace d2 := Lib.hid d2
      clear hdb
      go_wp2_with fail
      refine hi.out.mono ?_
      rintro e w2 ⟨rfl, hb2⟩
      have hs2 := Lib.hid (hs.out w2 hb2)
      replace hb2 := Lib.hid (hb1.out.trans (hb2.mono z1))
      clear hi hs
      go_wp2_with fail
      refine hs2.out.mono ?_
      rintro e w3 ⟨rfl, hb3⟩
      replace hb3 := Lib.hid (hb2.out.trans (hb3.mono hb2.out.size))
      clear hs2
      go_wp2_with fail
      refine (hd.out _).mono ?_
      rintro e w4 ⟨rfl, rfl⟩
      go_wp2_with fail
      go_ret
      exact ⟨rfl, hb3.out⟩
    · rw [hbv] at hi hs
      have hv0 : inV n xs = 0 := by unfold inV; rw [hbv]; rfl
      rw [hv0] at hi hs
      replace hi := Lib.hid hi
      replace hs := Lib.hid hs
      replace hbv := Lib.hid hbv
      replace hv0 := Lib.hid hv0
      go_wp2_with fail
      refine hi.out.mono ?_
      rintro e w2 ⟨rfl, hb2⟩
      have hs2 := Lib.hid (hs.out w2 hb2)
      replace hb2 := Lib.hid (hb1.out.trans (hb2.mono z1))
      clear hi hs
      go_wp2_with fail
      refine hs2.out.mono ?_
      rintro e w3 ⟨rfl, hb3⟩
      replace hb3 := Lib.hid (hb2.out.trans (hb3.mono hb2.out.size))
      go_wp2_with fail
      go_ret
      exact ⟨rfl, hb3.out⟩
end Go.Proofs.YtpepcjffolbdcaaDoor
