/- Sets far apart have balls without common sets: the law. -/
import Derived.Test.YtpepcjffolbdcaaDi1
import Derived.Test.YtpepcjffolbdcaaBn6
import Derived.Test.YtpepcjffolbdcaaDrawF
namespace Go.Proofs.Ytpepcjffolbdcaa
open Go.ChangeShapes Go.WideShapes Go.ChangeAt Go.RowKit Go.Proofs

set_option maxRecDepth 100000 in
set_option maxHeartbeats 4000000 in
theorem draw_BoundaryDistance (v : Value) (a : Option Addr) (len cap : Nat) (w : World) (hv : v = .slice a len cap) (hc : len ≤ cap) (hcap : cap ≤ 9223372036854775807) (hB : Bytes w w.heap.size a len) :
    Calls Try.prog 4 #[v] w (GivenDraw w) := by
  have h0 := Lib.hid (draw_given v a len cap w hv hc hcap hB)
  clear hv hc hcap hB
  go_enter Try.func4, Try.ntmps4
  go_wp2_with fail
  refine (h0.out).mono ?_
  rintro e w1 ⟨n, u, xs, rfl, hl, hO, hb⟩
  obtain ⟨fa, fc, rfl, _⟩ := id hO
  replace hO := Lib.hid hO
  replace hb := Lib.hid hb
  go_wp2_with fail
  go_ret2
  exact ⟨_, _, xs, rfl, hl, hO.out, hb.out⟩
set_option maxRecDepth 100000 in
set_option maxHeartbeats 4000000 in
theorem law_FnDistance (v : Value) (a : Option Addr) (len cap : Nat) (w : World) (hv : v = .slice a len cap) (hc : len ≤ cap) (hcap : cap ≤ 9223372036854775807) (hB : Bytes w w.heap.size a len) :
    Calls Try.prog 3 #[v] w fun e w' => e = .returned (.bool true) ∧ Below w.heap.size w w' := by
  have h0 := Lib.hid (draw_BoundaryDistance v a len cap w hv hc hcap hB)
  subst hv
  clear hB
  by_cases hbig : 1048576 < len
  · go_enter Try.func3, Try.ntmps3
    go_wp2_with fail
    go_ret
    exact ⟨rfl, Below.refl _ _⟩
  · go_enter Try.func3, Try.ntmps3
    go_wp2_with fail
    refine (h0.out).mono ?_
    rintro e w1 ⟨n, u, xs, rfl, hl, hO, hb⟩
    obtain ⟨ua, uc, rfl, _⟩ := id hO
    have z1 := hb.size
    have hi := im_BoundaryDistance n _ xs _ w1 hO.row (Nat.le_refl _) (by omega)
    have hs := fun (W : World) (hW : Below w1.heap.size w1 W) => sp_BoundaryDistance n _ xs w1.heap.size W (hO.row.below hW (Nat.le_refl _)) hW.size (by omega)
    have hb1 := Lib.hid hb
    have RX1 := Lib.hid hO.row
    clear hb hO h0
    rcases (by cases ldB n xs <;> simp : ldB n xs = true ∨ ldB n xs = false) with hbv | hbv
    · have hbv2 := hbv
      unfold ldB at hbv2
      rw [Bool.and_eq_true] at hbv2
      obtain ⟨hf, h2⟩ := hbv2
      have h2 := of_decide_eq_true h2
      obtain ⟨n1, n2, hset⟩ := famB_all hf
      obtain ⟨e1, e2⟩ := ldV_oth hf
      have hV : ldV n xs = ldT 8 xs xs.length := by unfold ldV; rw [hbv]; rfl
      have hpk := pack_fam hf
      have hone := ld_one hf
      have hle := ldT_two xs 8 h2 xs.length h2
      have hd := dst_pts (hset _ (getD_mem (i := 1) (by omega))) (hset _ (getD_mem (i := 0) (by omega)))
      have hlen := famB_len hf
      rw [← hV] at hpk hone hle
      have hbn := bnd_small n1 n2 ((ldV n xs - 1) / 2).toNat.succ (by omega)
      have hot := fun (W : World) (hR : Row W W.heap.size (.slice ua xs.length uc) xs) => im_FamilyOther n _ xs _ W hR (Nat.le_refl _) (by omega)
      have hk := fun (W : World) (u : Value) (hR : Row W W.heap.size u (otL n xs)) => im_BoundaryDistance n u (otL n xs) _ W hR (Nat.le_refl _) (by rw [ot_len hf]; omega)
      have htb := fun W => im_TraceBound n ((ldV n xs - 1) / 2) W
      have hdm : dimB n ((ldV n xs - 1) / 2) = true := by
        unfold dimB
        rw [ptsB_mk n1 n2]
        exact decide_eq_true (by omega)
      have hbV : bndV n ((ldV n xs - 1) / 2) = bndN n (((ldV n xs - 1) / 2).toNat + 1) := by
        unfold bndV
        rw [hdm, show ((ldV n xs - 1) / 2 + 1).toNat = ((ldV n xs - 1) / 2).toNat + 1 by omega]; rfl
      rw [hdm, hbV] at htb
      rw [e1, e2] at hk
      rw [hbv] at hi hs hk
      rw [hf] at hot
      change ∀ (W : World), Row W W.heap.size (.slice ua xs.length uc) xs → Calls _ _ _ _ (ListPost (otL n xs) true W) at hot
      obtain ⟨D, hD⟩ : ∃ D, ldV n xs = D := ⟨_, rfl⟩
      rw [hD] at hi hs hk htb hpk hone hle hbn
      have hD8 : D ≤ 8 := by omega
      have hq : (D - 1).tdiv 2 = (D - 1) / 2 := Int.tdiv_eq_ediv_of_nonneg (by omega)
      obtain ⟨r, hr⟩ : ∃ r, (D - 1) / 2 = r := ⟨_, rfl⟩
      rw [hr] at htb hpk hq hbn
      obtain ⟨b, hbb⟩ : ∃ b, bndN n (r.toNat + 1) = b := ⟨_, rfl⟩
      rw [show r.toNat.succ = r.toNat + 1 from rfl, hbb] at hbn
      rw [hbb] at htb hpk
      obtain ⟨b1, b2, _⟩ := hbn
      obtain ⟨O, hOO⟩ : ∃ O, otL n xs = O := ⟨_, rfl⟩
      rw [hOO] at hot hk
      obtain ⟨p1, p2, p3⟩ := pow_nat n1 n2
      obtain ⟨N, hN⟩ : ∃ N : Nat, 2 ^ n.toNat = N := ⟨_, rfl⟩
      have hNi : (2 : Int) ^ n.toNat = (N : Nat) := by rw [← hN]; simp
      have hn0 : (0 : Int) ≤ n := by omega
      have hn64 : n < 64 := by omega
      rw [hN] at p1 p2 p3
      rw [hNi] at hpk
      have hm0 : 0 ≤ (xs.length : Int) * b := Int.mul_nonneg (by omega) b1
      have hr0 : 0 ≤ r := by omega
      have hr8 : r ≤ 8 := by omega
      replace hi := Lib.hid hi
      replace hs := Lib.hid hs
      replace hk := Lib.hid hk
      replace hot := Lib.hid hot
      replace htb := Lib.hid htb
      replace hbv := Lib.hid hbv
      replace hf := Lib.hid hf
      replace hset := Lib.hid hset
      replace hD := Lib.hid hD
      replace hr := Lib.hid hr
      replace hbb := Lib.hid hbb
      replace hOO := Lib.hid hOO
      replace hN := Lib.hid hN
      replace hNi := Lib.hid hNi
      replace hV := Lib.hid hV
      replace e1 := Lib.hid e1
      replace e2 := Lib.hid e2
      replace hdm := Lib.hid hdm
      replace hbV := Lib.hid hbV
      replace hle := Lib.hid hle
      clear hd
      go_wp2_with fail
      refine hi.out.mono ?_
      rintro e w2 ⟨rfl, hb2⟩
      have z2 := hb2.size
      have RX2 := Lib.hid ((RX1.out.below hb2 (Nat.le_refl _)).mono z2)
      have hs2 := Lib.hid (hs.out w2 hb2)
      replace hb2 := Lib.hid (hb1.out.trans (hb2.mono z1))
      clear hi hs
      go_wp2_with fail
      refine hs2.out.mono ?_
      rintro e w3 ⟨rfl, q, hw3⟩
      have RX3 : Hid (Row w3 w3.heap.size _ xs) := Lib.hid (by rw [hw3]; exact RX2.out.drewN q)
      have hb3 := Lib.hid (show Below w.heap.size w w3 by rw [hw3]; exact below_drewN hb2.out q)
      have hot3 := Lib.hid (hot.out w3 RX3.out)
      clear hs2 hot RX2 hw3
      go_wp2_with fail
      refine hot3.out.mono ?_
      rintro e w4 ⟨v4, rfl, hO4, hb4⟩
      obtain ⟨a4, c4, rfl, _⟩ := id hO4
      have hk4 := Lib.hid (hk.out w4 _ hO4.row)
      replace hb4 := Lib.hid (hb3.out.trans (hb4.mono hb3.out.size))
      clear hot3 hk hO4
      go_wp2_with fail
      refine hk4.out.mono ?_
      rintro e w5 ⟨rfl, hb5⟩
      replace hb5 := Lib.hid (hb4.out.trans (hb5.mono hb4.out.size))
      clear hk4
      go_wp2_with fail
      refine (htb.out _).mono ?_
      rintro e w6 ⟨rfl, rfl⟩
      go_wp2_with fail
      go_ret
      exact ⟨ret_bool (by
        obtain ⟨M, hM⟩ : ∃ M, (xs.length : Int) * b = M := ⟨_, rfl⟩
        rw [hM] at hpk hm0
        show decide (wrap64 ((xs.length : Int) * b) ≤ (N : Int)) = true
        rw [hM]
        exact decide_eq_true (by unfold wrap64; omega)), hb5.out⟩
    · rw [hbv] at hi hs
      have hv0 : ldV n xs = 0 := by unfold ldV; rw [hbv]; rfl
      rw [hv0] at hi hs
      replace hi := Lib.hid hi
      replace hs := Lib.hid hs
      replace hbv := Lib.hid hbv
      replace hv0 := Lib.hid hv0
      go_wp2_with fail
      refine hi.out.mono ?_
      rintro e w2 ⟨rfl, hb2⟩
      have hs2 := Lib.hid (hs.out w2 hb2)
      replace hb2 := Lib.hid (hb1.out.trans (hb2.mono z1))
      clear hi hs
      go_wp2_with fail
      refine hs2.out.mono ?_
      rintro e w3 ⟨rfl, q, hw3⟩
      have hb3 := Lib.hid (show Below w.heap.size w w3 by rw [hw3]; exact below_drewN hb2.out q)
      clear hw3
      go_wp2_with fail
      go_ret
      exact ⟨rfl, hb3.out⟩
end Go.Proofs.Ytpepcjffolbdcaa
