/- Up families meet often, up and down ones seldom. -/
import Derived.Test.YthljimmhgpbmbabAllC9
import Derived.Test.YthljimmhgpbmbabCm
import Derived.Test.YthljimmhgpbmbabAs2
import Derived.Test.YthljimmhgpbmbabAllD
import Derived.Test.YthljimmhgpbmbabSameL
import Derived.Test.YthljimmhgpbmbabAllSp
namespace Go.Proofs.Ythljimmhgpbmbab
open Go.ChangeShapes Go.WideShapes Go.ChangeAt Go.RowKit Go.Proofs

theorem cl_short {n : Int} {xs : List Int} (d : Bool) : (ifL (famB n xs) (clL d xs (2 ^ n.toNat))).length ≤ 300 := by
  rcases (by cases famB n xs <;> simp : famB n xs = true ∨ famB n xs = false) with h | h
  · obtain ⟨n1, n2, _⟩ := famB_all h
    have h1 := clL_len d xs (2 ^ n.toNat)
    have h2 := (pow_nat n1 n2).1
    rw [h]
    show (clL d xs (2 ^ n.toNat)).length ≤ 300
    omega
  · rw [h]; simp [ifL]
set_option maxRecDepth 100000 in
set_option maxHeartbeats 4000000 in
theorem draw_UpCommon (v : Value) (a : Option Addr) (len cap : Nat) (w : World) (hv : v = .slice a len cap) (hc : len ≤ cap) (hcap : cap ≤ 9223372036854775807) (hB : Bytes w w.heap.size a len) :
    Calls Try.prog 43 #[v] w (TwoDraw w) := by
  have h0 := Lib.hid (draw_two v a len cap w hv hc hcap hB)
  subst hv
  clear hB
  go_enter Try.func43, Try.ntmps43
  go_wp2_with fail
  refine (h0.out).mono ?_
  rintro e w1 ⟨n, u, xs, t, ys, rfl, hl, hl2, hO, hO2, hb⟩
  obtain ⟨ua, uc, rfl, _⟩ := id hO
  obtain ⟨ta, tc, rfl, _⟩ := id hO2
  have z1 := hb.size
  have hm0 : (0 : Int) ≤ (len : Nat) := by omega
  have c1 := fun (W : World) (h1 : Row W W.heap.size (.slice ua xs.length uc) xs) => sp_ClosedUp n _ xs W.heap.size W h1 (Nat.le_refl _) (by omega)
  have c2 := fun (W : World) (h1 : Row W W.heap.size (.slice ta ys.length tc) ys) => sp_ClosedUp n _ ys W.heap.size W h1 (Nat.le_refl _) (by omega)
  have c3 := fun (W : World) (h1 : Row W W.heap.size (.slice ta ys.length tc) ys) => sp_ClosedDown n _ ys W.heap.size W h1 (Nat.le_refl _) (by omega)
  have s1 : (ifL (famB n xs) (clL false xs (2 ^ n.toNat))).length ≤ 300 := cl_short false
  have s2 : (ifL (famB n ys) (clL false ys (2 ^ n.toNat))).length ≤ 300 := cl_short false
  have s3 : (ifL (famB n ys) (clL true ys (2 ^ n.toNat))).length ≤ 300 := cl_short true
  obtain ⟨L1, e1⟩ : ∃ L, ifL (famB n xs) (clL false xs (2 ^ n.toNat)) = L := ⟨_, rfl⟩
  obtain ⟨L2, e2⟩ : ∃ L, ifL (famB n ys) (clL false ys (2 ^ n.toNat)) = L := ⟨_, rfl⟩
  obtain ⟨L3, e3⟩ : ∃ L, ifL (famB n ys) (clL true ys (2 ^ n.toNat)) = L := ⟨_, rfl⟩
  simp only [e1, e2, e3] at c1 c2 c3
  rw [e1] at s1
  rw [e2] at s2
  rw [e3] at s3
  obtain ⟨b1, d1⟩ : ∃ b, famB n xs = b := ⟨_, rfl⟩
  obtain ⟨b2, d2⟩ : ∃ b, famB n ys = b := ⟨_, rfl⟩
  simp only [d1, d2] at c1 c2 c3
  have OX1 := Lib.hid hO
  have OY1 := Lib.hid hO2
  have hb1 := Lib.hid hb
  replace c1 := Lib.hid c1
  replace c2 := Lib.hid c2
  replace c3 := Lib.hid c3
  replace e1 := Lib.hid e1
  replace e2 := Lib.hid e2
  replace e3 := Lib.hid e3
  replace d1 := Lib.hid d1
  replace d2 := Lib.hid d2
  clear hO hO2 hb
  go_wp2_with fail
  refine (c1.out w1 OX1.out.row).mono ?_
  rintro e w2 ⟨v2, rfl, hN, hbn⟩
  obtain ⟨p2, q2, rfl, _⟩ := id hN
  have zn := hbn.size
  have OX2 := Lib.hid ((OX1.out.below hbn (Nat.le_refl _)).mono (Nat.le_refl _) zn)
  have OY2 := Lib.hid ((OY1.out.below hbn (Nat.le_refl _)).mono (Nat.le_refl _) zn)
  have OA2 := Lib.hid (hN.mono (show w.heap.size ≤ w1.heap.size by omega) (Nat.le_refl _))
  have hb2 := Lib.hid (hb1.out.trans (hbn.mono hb1.out.size))
  have z2 := hb2.out.size
  clear hN hbn zn
  go_wp2_with fail
  refine (c2.out w2 (OY2.out.row.mono (by omega))).mono ?_
  rintro e w3 ⟨v3, rfl, hN, hbn⟩
  obtain ⟨p3, q3, rfl, _⟩ := id hN
  have zn := hbn.size
  have OX3 := Lib.hid ((OX2.out.below hbn (Nat.le_refl _)).mono (Nat.le_refl _) zn)
  have OY3 := Lib.hid ((OY2.out.below hbn (Nat.le_refl _)).mono (Nat.le_refl _) zn)
  have OA3 := Lib.hid ((OA2.out.below hbn (Nat.le_refl _)).mono (Nat.le_refl _) zn)
  have OB3 := Lib.hid (hN.mono (show w.heap.size ≤ w2.heap.size by omega) (Nat.le_refl _))
  have hb3 := Lib.hid (hb2.out.trans (hbn.mono hb2.out.size))
  have z3 := hb3.out.size
  clear hN hbn zn
  rcases (by omega : (len : Int) % 3 = 0 ∨ (len : Int) % 3 = 1 ∨ (len : Int) % 3 = 2) with hm | hm | hm <;> cases b1 <;> cases b2
  · go_wp2_with fail
    refine (c3.out w3 (OY3.out.row.mono (by omega))).mono ?_
    rintro e w4 ⟨v4, rfl, hN, hbn⟩
    obtain ⟨p4, q4, rfl, _⟩ := id hN
    have zn := hbn.size
    have OX4 := Lib.hid ((OX3.out.below hbn (Nat.le_refl _)).mono (Nat.le_refl _) zn)
    have OY4 := Lib.hid ((OY3.out.below hbn (Nat.le_refl _)).mono (Nat.le_refl _) zn)
    have OA4 := Lib.hid ((OA3.out.below hbn (Nat.le_refl _)).mono (Nat.le_refl _) zn)
    have OB4 := Lib.hid ((OB3.out.below hbn (Nat.le_refl _)).mono (Nat.le_refl _) zn)
    have OC4 := Lib.hid (hN.mono (show w.heap.size ≤ w3.heap.size by omega) (Nat.le_refl _))
    have hb4 := Lib.hid (hb3.out.trans (hbn.mono hb3.out.size))
    have z4 := hb4.out.size
    clear hN hbn zn
    go_wp2_with fail
    go_ret3
    exact ⟨_, _, xs, _, ys, rfl, hl, hl2, OX4.out.mono (Nat.le_refl _) (by omega), OY4.out.mono (Nat.le_refl _) (by omega), hb4.out⟩
  · go_wp2_with fail
    refine (c3.out w3 (OY3.out.row.mono (by omega))).mono ?_
    rintro e w4 ⟨v4, rfl, hN, hbn⟩
    obtain ⟨p4, q4, rfl, _⟩ := id hN
    have zn := hbn.size
    have OX4 := Lib.hid ((OX3.out.below hbn (Nat.le_refl _)).mono (Nat.le_refl _) zn)
    have OY4 := Lib.hid ((OY3.out.below hbn (Nat.le_refl _)).mono (Nat.le_refl _) zn)
    have OA4 := Lib.hid ((OA3.out.below hbn (Nat.le_refl _)).mono (Nat.le_refl _) zn)
    have OB4 := Lib.hid ((OB3.out.below hbn (Nat.le_refl _)).mono (Nat.le_refl _) zn)
    have OC4 := Lib.hid (hN.mono (show w.heap.size ≤ w3.heap.size by omega) (Nat.le_refl _))
    have hb4 := Lib.hid (hb3.out.trans (hbn.mono hb3.out.size))
    have z4 := hb4.out.size
    clear hN hbn zn
    go_wp2_with fail
    go_ret3
    exact ⟨_, _, xs, _, ys, rfl, hl, hl2, OX4.out.mono (Nat.le_refl _) (by omega), OY4.out.mono (Nat.le_refl _) (by omega), hb4.out⟩
  · go_wp2_with fail
    refine (c3.out w3 (OY3.out.row.mono (by omega))).mono ?_
    rintro e w4 ⟨v4, rfl, hN, hbn⟩
    obtain ⟨p4, q4, rfl, _⟩ := id hN
    have zn := hbn.size
    have OX4 := Lib.hid ((OX3.out.below hbn (Nat.le_refl _)).mono (Nat.le_refl _) zn)
    have OY4 := Lib.hid ((OY3.out.below hbn (Nat.le_refl _)).mono (Nat.le_refl _) zn)
    have OA4 := Lib.hid ((OA3.out.below hbn (Nat.le_refl _)).mono (Nat.le_refl _) zn)
    have OB4 := Lib.hid ((OB3.out.below hbn (Nat.le_refl _)).mono (Nat.le_refl _) zn)
    have OC4 := Lib.hid (hN.mono (show w.heap.size ≤ w3.heap.size by omega) (Nat.le_refl _))
    have hb4 := Lib.hid (hb3.out.trans (hbn.mono hb3.out.size))
    have z4 := hb4.out.size
    clear hN hbn zn
    go_wp2_with fail
    go_ret3
    exact ⟨_, _, xs, _, ys, rfl, hl, hl2, OX4.out.mono (Nat.le_refl _) (by omega), OY4.out.mono (Nat.le_refl _) (by omega), hb4.out⟩
  · go_wp2_with fail
    go_ret3
    exact ⟨_, _, L1, _, L2, rfl, s1, s2, OA3.out.mono (Nat.le_refl _) (by omega), OB3.out.mono (Nat.le_refl _) (by omega), hb3.out⟩
  · go_wp2_with fail
    refine (c3.out w3 (OY3.out.row.mono (by omega))).mono ?_
    rintro e w4 ⟨v4, rfl, hN, hbn⟩
    obtain ⟨p4, q4, rfl, _⟩ := id hN
    have zn := hbn.size
    have OX4 := Lib.hid ((OX3.out.below hbn (Nat.le_refl _)).mono (Nat.le_refl _) zn)
    have OY4 := Lib.hid ((OY3.out.below hbn (Nat.le_refl _)).mono (Nat.le_refl _) zn)
    have OA4 := Lib.hid ((OA3.out.below hbn (Nat.le_refl _)).mono (Nat.le_refl _) zn)
    have OB4 := Lib.hid ((OB3.out.below hbn (Nat.le_refl _)).mono (Nat.le_refl _) zn)
    have OC4 := Lib.hid (hN.mono (show w.heap.size ≤ w3.heap.size by omega) (Nat.le_refl _))
    have hb4 := Lib.hid (hb3.out.trans (hbn.mono hb3.out.size))
    have z4 := hb4.out.size
    clear hN hbn zn
    go_wp2_with fail
    go_ret3
    exact ⟨_, _, xs, _, ys, rfl, hl, hl2, OX4.out.mono (Nat.le_refl _) (by omega), OY4.out.mono (Nat.le_refl _) (by omega), hb4.out⟩
  · go_wp2_with fail
    refine (c3.out w3 (OY3.out.row.mono (by omega))).mono ?_
    rintro e w4 ⟨v4, rfl, hN, hbn⟩
    obtain ⟨p4, q4, rfl, _⟩ := id hN
    have zn := hbn.size
    have OX4 := Lib.hid ((OX3.out.below hbn (Nat.le_refl _)).mono (Nat.le_refl _) zn)
    have OY4 := Lib.hid ((OY3.out.below hbn (Nat.le_refl _)).mono (Nat.le_refl _) zn)
    have OA4 := Lib.hid ((OA3.out.below hbn (Nat.le_refl _)).mono (Nat.le_refl _) zn)
    have OB4 := Lib.hid ((OB3.out.below hbn (Nat.le_refl _)).mono (Nat.le_refl _) zn)
    have OC4 := Lib.hid (hN.mono (show w.heap.size ≤ w3.heap.size by omega) (Nat.le_refl _))
    have hb4 := Lib.hid (hb3.out.trans (hbn.mono hb3.out.size))
    have z4 := hb4.out.size
    clear hN hbn zn
    go_wp2_with fail
    go_ret3
    exact ⟨_, _, xs, _, ys, rfl, hl, hl2, OX4.out.mono (Nat.le_refl _) (by omega), OY4.out.mono (Nat.le_refl _) (by omega), hb4.out⟩
  · go_wp2_with fail
    refine (c3.out w3 (OY3.out.row.mono (by omega))).mono ?_
    rintro e w4 ⟨v4, rfl, hN, hbn⟩
    obtain ⟨p4, q4, rfl, _⟩ := id hN
    have zn := hbn.size
    have OX4 := Lib.hid ((OX3.out.below hbn (Nat.le_refl _)).mono (Nat.le_refl _) zn)
    have OY4 := Lib.hid ((OY3.out.below hbn (Nat.le_refl _)).mono (Nat.le_refl _) zn)
    have OA4 := Lib.hid ((OA3.out.below hbn (Nat.le_refl _)).mono (Nat.le_refl _) zn)
    have OB4 := Lib.hid ((OB3.out.below hbn (Nat.le_refl _)).mono (Nat.le_refl _) zn)
    have OC4 := Lib.hid (hN.mono (show w.heap.size ≤ w3.heap.size by omega) (Nat.le_refl _))
    have hb4 := Lib.hid (hb3.out.trans (hbn.mono hb3.out.size))
    have z4 := hb4.out.size
    clear hN hbn zn
    go_wp2_with fail
    go_ret3
    exact ⟨_, _, xs, _, ys, rfl, hl, hl2, OX4.out.mono (Nat.le_refl _) (by omega), OY4.out.mono (Nat.le_refl _) (by omega), hb4.out⟩
  · go_wp2_with fail
    refine (c3.out w3 (OY3.out.row.mono (by omega))).mono ?_
    rintro e w4 ⟨v4, rfl, hN, hbn⟩
    obtain ⟨p4, q4, rfl, _⟩ := id hN
    have zn := hbn.size
    have OX4 := Lib.hid ((OX3.out.below hbn (Nat.le_refl _)).mono (Nat.le_refl _) zn)
    have OY4 := Lib.hid ((OY3.out.below hbn (Nat.le_refl _)).mono (Nat.le_refl _) zn)
    have OA4 := Lib.hid ((OA3.out.below hbn (Nat.le_refl _)).mono (Nat.le_refl _) zn)
    have OB4 := Lib.hid ((OB3.out.below hbn (Nat.le_refl _)).mono (Nat.le_refl _) zn)
    have OC4 := Lib.hid (hN.mono (show w.heap.size ≤ w3.heap.size by omega) (Nat.le_refl _))
    have hb4 := Lib.hid (hb3.out.trans (hbn.mono hb3.out.size))
    have z4 := hb4.out.size
    clear hN hbn zn
    go_wp2_with fail
    go_ret3
    exact ⟨_, _, L1, _, L3, rfl, s1, s3, OA4.out.mono (Nat.le_refl _) (by omega), OC4.out.mono (Nat.le_refl _) (by omega), hb4.out⟩
  · go_wp2_with fail
    refine (c3.out w3 (OY3.out.row.mono (by omega))).mono ?_
    rintro e w4 ⟨v4, rfl, hN, hbn⟩
    obtain ⟨p4, q4, rfl, _⟩ := id hN
    have zn := hbn.size
    have OX4 := Lib.hid ((OX3.out.below hbn (Nat.le_refl _)).mono (Nat.le_refl _) zn)
    have OY4 := Lib.hid ((OY3.out.below hbn (Nat.le_refl _)).mono (Nat.le_refl _) zn)
    have OA4 := Lib.hid ((OA3.out.below hbn (Nat.le_refl _)).mono (Nat.le_refl _) zn)
    have OB4 := Lib.hid ((OB3.out.below hbn (Nat.le_refl _)).mono (Nat.le_refl _) zn)
    have OC4 := Lib.hid (hN.mono (show w.heap.size ≤ w3.heap.size by omega) (Nat.le_refl _))
    have hb4 := Lib.hid (hb3.out.trans (hbn.mono hb3.out.size))
    have z4 := hb4.out.size
    clear hN hbn zn
    go_wp2_with fail
    go_ret3
    exact ⟨_, _, xs, _, ys, rfl, hl, hl2, OX4.out.mono (Nat.le_refl _) (by omega), OY4.out.mono (Nat.le_refl _) (by omega), hb4.out⟩
  · go_wp2_with fail
    refine (c3.out w3 (OY3.out.row.mono (by omega))).mono ?_
    rintro e w4 ⟨v4, rfl, hN, hbn⟩
    obtain ⟨p4, q4, rfl, _⟩ := id hN
    have zn := hbn.size
    have OX4 := Lib.hid ((OX3.out.below hbn (Nat.le_refl _)).mono (Nat.le_refl _) zn)
    have OY4 := Lib.hid ((OY3.out.below hbn (Nat.le_refl _)).mono (Nat.le_refl _) zn)
    have OA4 := Lib.hid ((OA3.out.below hbn (Nat.le_refl _)).mono (Nat.le_refl _) zn)
    have OB4 := Lib.hid ((OB3.out.below hbn (Nat.le_refl _)).mono (Nat.le_refl _) zn)
    have OC4 := Lib.hid (hN.mono (show w.heap.size ≤ w3.heap.size by omega) (Nat.le_refl _))
    have hb4 := Lib.hid (hb3.out.trans (hbn.mono hb3.out.size))
    have z4 := hb4.out.size
    clear hN hbn zn
    go_wp2_with fail
    go_ret3
    exact ⟨_, _, xs, _, ys, rfl, hl, hl2, OX4.out.mono (Nat.le_refl _) (by omega), OY4.out.mono (Nat.le_refl _) (by omega), hb4.out⟩
  · go_wp2_with fail
    refine (c3.out w3 (OY3.out.row.mono (by omega))).mono ?_
    rintro e w4 ⟨v4, rfl, hN, hbn⟩
    obtain ⟨p4, q4, rfl, _⟩ := id hN
    have zn := hbn.size
    have OX4 := Lib.hid ((OX3.out.below hbn (Nat.le_refl _)).mono (Nat.le_refl _) zn)
    have OY4 := Lib.hid ((OY3.out.below hbn (Nat.le_refl _)).mono (Nat.le_refl _) zn)
    have OA4 := Lib.hid ((OA3.out.below hbn (Nat.le_refl _)).mono (Nat.le_refl _) zn)
    have OB4 := Lib.hid ((OB3.out.below hbn (Nat.le_refl _)).mono (Nat.le_refl _) zn)
    have OC4 := Lib.hid (hN.mono (show w.heap.size ≤ w3.heap.size by omega) (Nat.le_refl _))
    have hb4 := Lib.hid (hb3.out.trans (hbn.mono hb3.out.size))
    have z4 := hb4.out.size
    clear hN hbn zn
    go_wp2_with fail
    go_ret3
    exact ⟨_, _, xs, _, ys, rfl, hl, hl2, OX4.out.mono (Nat.le_refl _) (by omega), OY4.out.mono (Nat.le_refl _) (by omega), hb4.out⟩
  · go_wp2_with fail
    refine (c3.out w3 (OY3.out.row.mono (by omega))).mono ?_
    rintro e w4 ⟨v4, rfl, hN, hbn⟩
    obtain ⟨p4, q4, rfl, _⟩ := id hN
    have zn := hbn.size
    have OX4 := Lib.hid ((OX3.out.below hbn (Nat.le_refl _)).mono (Nat.le_refl _) zn)
    have OY4 := Lib.hid ((OY3.out.below hbn (Nat.le_refl _)).mono (Nat.le_refl _) zn)
    have OA4 := Lib.hid ((OA3.out.below hbn (Nat.le_refl _)).mono (Nat.le_refl _) zn)
    have OB4 := Lib.hid ((OB3.out.below hbn (Nat.le_refl _)).mono (Nat.le_refl _) zn)
    have OC4 := Lib.hid (hN.mono (show w.heap.size ≤ w3.heap.size by omega) (Nat.le_refl _))
    have hb4 := Lib.hid (hb3.out.trans (hbn.mono hb3.out.size))
    have z4 := hb4.out.size
    clear hN hbn zn
    go_wp2_with fail
    go_ret3
    exact ⟨_, _, xs, _, ys, rfl, hl, hl2, OX4.out.mono (Nat.le_refl _) (by omega), OY4.out.mono (Nat.le_refl _) (by omega), hb4.out⟩
theorem com_up {n : Int} {xs ys : List Int} (h : (famB n xs && famB n ys) = true) (h1 : (famB n xs && sameB (upF n xs) xs) = true) (h2 : (famB n ys && sameB (upF n ys) ys) = true) : 0 ≤ comI n xs ys := by
  rw [Bool.and_eq_true] at h h1 h2
  have hk := meet_up h.1 h.2 (of_decide_eq_true h1.2) (of_decide_eq_true h2.2)
  unfold comI
  rw [if_pos (by rw [h.1, h.2]; rfl)]
  have e : ((2 ^ n.toNat : Nat) : Int) = 2 ^ n.toNat := by simp
  rw [← e]
  have hk2 := Int.ofNat_le.2 hk
  rw [Int.natCast_mul, Int.natCast_mul] at hk2
  omega
theorem com_down {n : Int} {xs ys : List Int} (h : (famB n xs && famB n ys) = true) (h1 : (famB n xs && sameB (dnF n xs) xs) = true) (h2 : (famB n ys && sameB (dnF n ys) ys) = true) : 0 ≤ comI n xs ys := by
  rw [Bool.and_eq_true] at h h1 h2
  have hk := meet_down h.1 h.2 (of_decide_eq_true h1.2) (of_decide_eq_true h2.2)
  unfold comI
  rw [if_pos (by rw [h.1, h.2]; rfl)]
  have e : ((2 ^ n.toNat : Nat) : Int) = 2 ^ n.toNat := by simp
  rw [← e]
  have hk2 := Int.ofNat_le.2 hk
  rw [Int.natCast_mul, Int.natCast_mul] at hk2
  omega
theorem com_mix {n : Int} {xs ys : List Int} (h : (famB n xs && famB n ys) = true) (h1 : (famB n xs && sameB (upF n xs) xs) = true) (h2 : (famB n ys && sameB (dnF n ys) ys) = true) : comI n xs ys ≤ 0 := by
  rw [Bool.and_eq_true] at h h1 h2
  have hk := meet_both h.1 h.2 (of_decide_eq_true h1.2) (of_decide_eq_true h2.2)
  unfold comI
  rw [if_pos (by rw [h.1, h.2]; rfl)]
  have e : ((2 ^ n.toNat : Nat) : Int) = 2 ^ n.toNat := by simp
  rw [← e]
  have hk2 := Int.ofNat_le.2 hk
  rw [Int.natCast_mul, Int.natCast_mul] at hk2
  omega
theorem com_swap {n : Int} {xs ys : List Int} (hx : famB n xs = true) (hy : famB n ys = true) : comI n xs ys = comI n ys xs := by
  unfold comI
  rw [hx, hy]
  have h : sortL (xs.filter (fun x => memB x ys)) = sortL (ys.filter (fun x => memB x xs)) := asc_ext (asc_sortL _) (asc_sortL _) (fun z => by
    rw [mem_sortL, mem_sortL, List.mem_filter, List.mem_filter]
    exact ⟨fun h => ⟨memB_yes h.2, memB_mk h.1⟩, fun h => ⟨memB_yes h.2, memB_mk h.1⟩⟩)
  rw [h, Int.mul_comm (xs.length : Int) (ys.length : Int)]
set_option maxRecDepth 100000 in
set_option maxHeartbeats 4000000 in
theorem law_FnUpCommon (v : Value) (a : Option Addr) (len cap : Nat) (w : World) (hv : v = .slice a len cap) (hc : len ≤ cap) (hcap : cap ≤ 9223372036854775807) (hB : Bytes w w.heap.size a len) :
    Calls Try.prog 11 #[v] w fun e w' => e = .returned (.bool true) ∧ Below w.heap.size w w' := by
  have h0 := Lib.hid (draw_UpCommon v a len cap w hv hc hcap hB)
  subst hv
  clear hB
  by_cases hbig : 1048576 < len
  · go_enter Try.func11, Try.ntmps11
    go_wp2_with fail
    go_ret
    exact ⟨rfl, Below.refl _ _⟩
  · go_enter Try.func11, Try.ntmps11
    go_wp2_with fail
    refine (h0.out).mono ?_
    rintro e w1 ⟨n, u, xs, t, ys, rfl, hl, hl2, hO, hO2, hb⟩
    obtain ⟨ua, uc, rfl, _⟩ := id hO
    obtain ⟨ta, tc, rfl, _⟩ := id hO2
    have z1 := hb.size
    have hb1 := Lib.hid hb
    have hi := fun (W : World) (h1 : Row W W.heap.size (.slice ua xs.length uc) xs) (h2 : Row W W.heap.size (.slice ta ys.length tc) ys) => im_UpCommon n _ _ xs ys W.heap.size W h1 h2 (Nat.le_refl _) (by omega) (by omega)
    have hs := fun (W : World) (h1 : Row W W.heap.size (.slice ua xs.length uc) xs) (h2 : Row W W.heap.size (.slice ta ys.length tc) ys) => sp_UpCommon n _ _ xs ys W.heap.size W h1 h2 (Nat.le_refl _) (by omega) (by omega)
    have ca := fun (W : World) (h1 : Row W W.heap.size (.slice ua xs.length uc) xs) => im_UpIn n _ xs W.heap.size W h1 (Nat.le_refl _) (by omega)
    have cb := fun (W : World) (h1 : Row W W.heap.size (.slice ta ys.length tc) ys) => im_UpIn n _ ys W.heap.size W h1 (Nat.le_refl _) (by omega)
    have cc := fun (W : World) (h1 : Row W W.heap.size (.slice ua xs.length uc) xs) => im_DownIn n _ xs W.heap.size W h1 (Nat.le_refl _) (by omega)
    have cd := fun (W : World) (h1 : Row W W.heap.size (.slice ta ys.length tc) ys) => im_DownIn n _ ys W.heap.size W h1 (Nat.le_refl _) (by omega)
    have RX1 := Lib.hid hO.row
    have RY1 := Lib.hid hO2.row
    clear hb hO hO2
    have g1 := com_up (n := n) (xs := xs) (ys := ys)
    have g2 := com_down (n := n) (xs := xs) (ys := ys)
    have g3 := com_mix (n := n) (xs := xs) (ys := ys)
    have g4 : (famB n xs && famB n ys) = true → (famB n xs && sameB (dnF n xs) xs) = true → (famB n ys && sameB (upF n ys) ys) = true → comI n xs ys ≤ 0 := fun h h1 h2 => by
      rw [Bool.and_eq_true] at h
      rw [com_swap h.1 h.2]
      exact com_mix (by rw [h.1, h.2]; rfl) h2 h1
    obtain ⟨c, hcom⟩ : ∃ c, comI n xs ys = c := ⟨_, rfl⟩
    obtain ⟨A, hA⟩ : ∃ A, (famB n xs && sameB (upF n xs) xs) = A := ⟨_, rfl⟩
    obtain ⟨B, hB⟩ : ∃ B, (famB n ys && sameB (upF n ys) ys) = B := ⟨_, rfl⟩
    obtain ⟨C, hC⟩ : ∃ C, (famB n xs && sameB (dnF n xs) xs) = C := ⟨_, rfl⟩
    obtain ⟨D, hD⟩ : ∃ D, (famB n ys && sameB (dnF n ys) ys) = D := ⟨_, rfl⟩
    obtain ⟨F, hF⟩ : ∃ F, (famB n xs && famB n ys) = F := ⟨_, rfl⟩
    simp only [hA, hB, hC, hD, hF, hcom] at ca cb cc cd hi hs g1 g2 g3 g4
    have hcc : (c != c) = false := by simp
    have hce : (c == c) = true := by simp
    replace hi := Lib.hid hi
    replace hs := Lib.hid hs
    replace ca := Lib.hid ca
    replace cb := Lib.hid cb
    replace cc := Lib.hid cc
    replace cd := Lib.hid cd
    replace g1 := Lib.hid g1
    replace g2 := Lib.hid g2
    replace g3 := Lib.hid g3
    replace g4 := Lib.hid g4
    replace hA := Lib.hid hA
    replace hB := Lib.hid hB
    replace hC := Lib.hid hC
    replace hD := Lib.hid hD
    replace hF := Lib.hid hF
    replace hcom := Lib.hid hcom
    cases F
    · go_wp2_with fail
      refine (hi.out w1 RX1.out RY1.out).mono ?_
      rintro e w2 ⟨rfl, hbn⟩
      have zn := hbn.size
      have RX2 := Lib.hid ((RX1.out.below hbn (Nat.le_refl _)).mono zn)
      have RY2 := Lib.hid ((RY1.out.below hbn (Nat.le_refl _)).mono zn)
      have hb2 := Lib.hid (hb1.out.trans (hbn.mono hb1.out.size))
      clear hbn zn
      go_wp2_with fail
      refine (hs.out w2 RX2.out RY2.out).mono ?_
      rintro e w3 ⟨rfl, hbn⟩
      have zn := hbn.size
      have RX3 := Lib.hid ((RX2.out.below hbn (Nat.le_refl _)).mono zn)
      have RY3 := Lib.hid ((RY2.out.below hbn (Nat.le_refl _)).mono zn)
      have hb3 := Lib.hid (hb2.out.trans (hbn.mono hb2.out.size))
      clear hbn zn
      go_wp2_with fail
      go_ret
      exact ⟨rfl, hb3.out⟩
    · go_wp2_with fail
      refine (hi.out w1 RX1.out RY1.out).mono ?_
      rintro e w2 ⟨rfl, hbn⟩
      have zn := hbn.size
      have RX2 := Lib.hid ((RX1.out.below hbn (Nat.le_refl _)).mono zn)
      have RY2 := Lib.hid ((RY1.out.below hbn (Nat.le_refl _)).mono zn)
      have hb2 := Lib.hid (hb1.out.trans (hbn.mono hb1.out.size))
      clear hbn zn
      go_wp2_with fail
      refine (hs.out w2 RX2.out RY2.out).mono ?_
      rintro e w3 ⟨rfl, hbn⟩
      have zn := hbn.size
      have RX3 := Lib.hid ((RX2.out.below hbn (Nat.le_refl _)).mono zn)
      have RY3 := Lib.hid ((RY2.out.below hbn (Nat.le_refl _)).mono zn)
      have hb3 := Lib.hid (hb2.out.trans (hbn.mono hb2.out.size))
      clear hbn zn
      go_wp2_with fail
      refine (ca.out w3 RX3.out).mono ?_
      rintro e w4 ⟨rfl, hbn⟩
      have zn := hbn.size
      have RX4 := Lib.hid ((RX3.out.below hbn (Nat.le_refl _)).mono zn)
      have RY4 := Lib.hid ((RY3.out.below hbn (Nat.le_refl _)).mono zn)
      have hb4 := Lib.hid (hb3.out.trans (hbn.mono hb3.out.size))
      clear hbn zn
      go_wp2_with fail
      refine (cb.out w4 RY4.out).mono ?_
      rintro e w5 ⟨rfl, hbn⟩
      have zn := hbn.size
      have RX5 := Lib.hid ((RX4.out.below hbn (Nat.le_refl _)).mono zn)
      have RY5 := Lib.hid ((RY4.out.below hbn (Nat.le_refl _)).mono zn)
      have hb5 := Lib.hid (hb4.out.trans (hbn.mono hb4.out.size))
      clear hbn zn
      go_wp2_with fail
      refine (cc.out w5 RX5.out).mono ?_
      rintro e w6 ⟨rfl, hbn⟩
      have zn := hbn.size
      have RX6 := Lib.hid ((RX5.out.below hbn (Nat.le_refl _)).mono zn)
      have RY6 := Lib.hid ((RY5.out.below hbn (Nat.le_refl _)).mono zn)
      have hb6 := Lib.hid (hb5.out.trans (hbn.mono hb5.out.size))
      clear hbn zn
      go_wp2_with fail
      refine (cd.out w6 RY6.out).mono ?_
      rintro e w7 ⟨rfl, hbn⟩
      have zn := hbn.size
      have RX7 := Lib.hid ((RX6.out.below hbn (Nat.le_refl _)).mono zn)
      have RY7 := Lib.hid ((RY6.out.below hbn (Nat.le_refl _)).mono zn)
      have hb7 := Lib.hid (hb6.out.trans (hbn.mono hb6.out.size))
      clear hbn zn
      cases A <;> cases B <;> cases C <;> cases D
      · go_wp2_with fail
        go_ret
        exact ⟨rfl, hb7.out⟩
      · go_wp2_with fail
        go_ret
        exact ⟨rfl, hb7.out⟩
      · go_wp2_with fail
        go_ret
        exact ⟨rfl, hb7.out⟩
      · have f2 : c ≥ 0 := g2.out (by simp) (by simp) (by simp)
        go_wp2_with fail
        go_ret
        exact ⟨rfl, hb7.out⟩
      · go_wp2_with fail
        go_ret
        exact ⟨rfl, hb7.out⟩
      · go_wp2_with fail
        go_ret
        exact ⟨rfl, hb7.out⟩
      · have f4 : c ≤ 0 := g4.out (by simp) (by simp) (by simp)
        go_wp2_with fail
        go_ret
        exact ⟨rfl, hb7.out⟩
      · have f2 : c ≥ 0 := g2.out (by simp) (by simp) (by simp)
        have f4 : c ≤ 0 := g4.out (by simp) (by simp) (by simp)
        go_wp2_with fail
        go_ret
        exact ⟨rfl, hb7.out⟩
      · go_wp2_with fail
        go_ret
        exact ⟨rfl, hb7.out⟩
      · have f3 : c ≤ 0 := g3.out (by simp) (by simp) (by simp)
        go_wp2_with fail
        go_ret
        exact ⟨rfl, hb7.out⟩
      · go_wp2_with fail
        go_ret
        exact ⟨rfl, hb7.out⟩
      · have f2 : c ≥ 0 := g2.out (by simp) (by simp) (by simp)
        have f3 : c ≤ 0 := g3.out (by simp) (by simp) (by simp)
        go_wp2_with fail
        go_ret
        exact ⟨rfl, hb7.out⟩
      · have f1 : c ≥ 0 := g1.out (by simp) (by simp) (by simp)
        go_wp2_with fail
        go_ret
        exact ⟨rfl, hb7.out⟩
      · have f1 : c ≥ 0 := g1.out (by simp) (by simp) (by simp)
        have f3 : c ≤ 0 := g3.out (by simp) (by simp) (by simp)
        go_wp2_with fail
        go_ret
        exact ⟨rfl, hb7.out⟩
      · have f1 : c ≥ 0 := g1.out (by simp) (by simp) (by simp)
        have f4 : c ≤ 0 := g4.out (by simp) (by simp) (by simp)
        go_wp2_with fail
        go_ret
        exact ⟨rfl, hb7.out⟩
      · have f1 : c ≥ 0 := g1.out (by simp) (by simp) (by simp)
        have f2 : c ≥ 0 := g2.out (by simp) (by simp) (by simp)
        have f3 : c ≤ 0 := g3.out (by simp) (by simp) (by simp)
        have f4 : c ≤ 0 := g4.out (by simp) (by simp) (by simp)
        go_wp2_with fail
        go_ret
        exact ⟨rfl, hb7.out⟩
end Go.Proofs.Ythljimmhgpbmbab
