/- Texts merged: XFk1 XFk2. -/
import Derived.Test.YtjhjmbiecihjhaaDoorAllKs
import Derived.Test.YtjhjmbiecihjhaaDoorAllKn
import Derived.Test.YtjhjmbiecihjhaaDoorAllD
namespace Go.Proofs.YtjhjmbiecihjhaaDoor
section
/- FnKernel: kernels of kernels are kernels. -/
open Go.ChangeShapes Go.WideShapes Go.ChangeAt Go.RowKit Go.Proofs

theorem ker_le2 {n : Int} {xs : List Int} (hf : famB n xs = true) (s : Int) : 0 ≤ kerI n xs s ∧ kerI n xs s ≤ 2 ^ n.toNat - 1 := by
  obtain ⟨n1, n2, _⟩ := famB_all hf
  exact ker_le xs s (2 ^ n.toNat - 1) (all_pow n1 n2).1
theorem ker_set {n : Int} {xs : List Int} (hf : famB n xs = true) (s : Int) : setB n (kerI n xs s) = true := by
  obtain ⟨n1, n2, _⟩ := famB_all hf
  have h := ker_le2 hf s
  exact setB_mk ⟨n1, n2, h.1, by omega⟩
theorem ker_above {n : Int} {xs : List Int} {s : Int} (hs : setB n s = true) {i : Nat} (hi : s.toNat.testBit i = true) : (kerI n xs s).toNat.testBit i = true := by
  obtain ⟨n1, n2, s1, s2⟩ := setB_yes hs
  have hM : ((2 ^ n.toNat : Nat) : Int) = 2 ^ n.toNat := by simp
  rw [ker_bits, Bool.and_eq_true, List.all_eq_true]
  refine ⟨decide_eq_true (bit_small s1 (by rw [hM]; exact s2) hi), fun x _ => ?_⟩
  cases e : partB s x with
  | false => rfl
  | true => rw [(part_bits s1).1 e i hi]; rfl
theorem ker_dif {n : Int} {xs : List Int} {s : Int} (hs : setB n s = true) : difI s (kerI n xs s) = 0 := by
  refine eq_bits (dif_bd (setB_lt hs).1).1 (Int.le_refl _) (fun i => ?_)
  rw [dif_bits]
  cases e : s.toNat.testBit i with
  | false => simp
  | true => rw [ker_above hs e]; simp
theorem ker_in {n : Int} {xs : List Int} (hf : famB n xs = true) {s x : Int} (hs : setB n s = true) (hx : x ∈ xs) : partB (kerI n xs s) x = partB s x := by
  rw [Bool.eq_iff_iff, part_bits (ker_le2 hf s).1, part_bits (setB_lt hs).1]
  constructor
  · exact fun h i hi => h i (ker_above hs hi)
  · intro h i hi
    rw [ker_bits, Bool.and_eq_true, List.all_eq_true] at hi
    have h1 := hi.2 x hx
    rw [(part_bits (setB_lt hs).1).2 h] at h1
    simpa using h1
theorem ker_ker {n : Int} {xs : List Int} (hf : famB n xs = true) {s : Int} (hs : setB n s = true) : kerI n xs (kerI n xs s) = kerI n xs s := by
  refine eq_bits (ker_le2 hf _).1 (ker_le2 hf _).1 (fun i => ?_)
  rw [ker_bits, ker_bits n xs s]
  congr 1
  rw [Bool.eq_iff_iff, List.all_eq_true, List.all_eq_true]
  exact ⟨fun h x hx => by rw [← ker_in hf hs hx]; exact h x hx, fun h x hx => by rw [ker_in hf hs hx]; exact h x hx⟩
theorem part_and {s a b : Int} (hs : 0 ≤ s) (h : partB s (andI a b) = true) : partB s a = true ∧ partB s b = true := by
  rw [part_bits hs, part_bits hs]
  have h1 := (part_bits hs).1 h
  have h2 : ∀ i, s.toNat.testBit i = true → a.toNat.testBit i = true ∧ b.toNat.testBit i = true := fun i hi => by
    have h3 := h1 i hi
    unfold andI at h3
    rw [Int.toNat_natCast, Nat.testBit_and, Bool.and_eq_true] at h3
    exact h3
  exact ⟨fun i hi => (h2 i hi).1, fun i hi => (h2 i hi).2⟩
theorem ker_meets {n : Int} {xs : List Int} (hf : famB n xs = true) {s : Int} (hs : setB n s = true) : kerI n (ucL andI xs) s = kerI n xs s := by
  have hg : famB n (ucL andI xs) = true := ucL_fam semi_and hf
  have s1 := (setB_lt hs).1
  refine eq_bits (ker_le2 hg _).1 (ker_le2 hf _).1 (fun i => ?_)
  rw [ker_bits, ker_bits n xs s]
  congr 1
  rw [Bool.eq_iff_iff, List.all_eq_true, List.all_eq_true]
  constructor
  · exact fun h x hx => h x (ucL_has semi_and (fun z hz => (setB_lt ((famB_all hf).2.2 z hz)).1) x hx)
  · intro h
    have key : ∀ z ∈ ucL andI xs, partB s z = true → z.toNat.testBit i = true := ucL_least
      (fun z hz hp => by have h1 := h z hz; rw [hp] at h1; simpa using h1)
      (fun a b ha hb hp => by
        obtain ⟨p1, p2⟩ := part_and s1 hp
        have h1 := h b hb
        rw [p2] at h1
        have h2 : b.toNat.testBit i = true := by simpa using h1
        unfold andI
        rw [Int.toNat_natCast, Nat.testBit_and, ha p1, h2]; rfl)
    intro z hz
    cases e : partB s z with
    | false => rfl
    | true => rw [key z hz e]; rfl
set_option maxHeartbeats 2000000 in
theorem draw_both (v : Value) (a : Option Addr) (len cap : Nat) (w : World) (hv : v = .slice a len cap) (hc : len ≤ cap) (hcap : cap ≤ 9223372036854775807) (hB : Bytes w w.heap.size a len) :
    Calls Tryd.prog 39 #[v] w (BothDraw w) := by
  have h0 := Lib.hid (rd_open v a len cap w hv hc hcap hB)
  clear hv hc hcap hB
  go_enter Tryd.func39, Tryd.ntmps39
  go_wp2_with fail
  refine (h0.out).mono ?_
  rintro e w0 ⟨r, rfl, hr, hR0, hb0, hz0⟩
  have hrw : w.heap.size ≤ r := by omega
  replace hr := Lib.hid hr
  replace hR0 := Lib.hid hR0
  replace hb0 := Lib.hid hb0
  go_wp2_with fail
  refine (rd_points r _ 0 w0 hR0.out (by omega) (by omega)).mono ?_
  rintro e w1 ⟨n, rfl, hn, hR1, hO1⟩
  have hn1 : 0 ≤ n ∧ n ≤ 9 := by unfold drawnPts at hn; omega
  obtain ⟨hn1, hn2⟩ := hn1
  have hz1 := hO1.size
  have hb1 := Lib.hid (hO1.below hb0.out hrw hb0.out.size)
  have hrl1 := hR1.lt
  replace hR1 := Lib.hid hR1
  clear hn hO1 hR0
  go_wp2_with fail
  refine (draw_family r _ (0 + 2) n w1 hR1.out (by omega) (by omega) hn1 hn2).mono ?_
  rintro e w2 ⟨v2, L, p2, rfl, hL, hF2, hR2, q1, q2, hO2⟩
  obtain ⟨fa, fc, rfl, _⟩ := id hF2
  have hz2 := hO2.size
  have hz01 := hb1.out.size
  have hb2 := Lib.hid (hO2.below hb1.out hrw hb1.out.size)
  replace hR2 := Lib.hid hR2
  replace hF2 := Lib.hid hF2
  clear hO2 hR1
  go_wp2_with fail
  refine (draw_set r _ p2 n w2 hR2.out q1 (by omega) hn1 hn2).mono ?_
  rintro e w3 ⟨s, p3, rfl, s1, s2, hR3, t1, t2, hO3⟩
  have hz3 := hO3.size
  have hF3 := Lib.hid (hF2.out.only hO3 hrl1 (Nat.le_refl _))
  have hb3 := Lib.hid (hO3.below hb2.out hrw hb2.out.size)
  clear hO3 hR2 hR3
  go_wp2_with fail
  go_ret3
  exact ⟨_, _, L, _, rfl, hL, hF3.out.mono (by omega) (by omega), hb3.out⟩
set_option maxRecDepth 100000 in
set_option maxHeartbeats 4000000 in
theorem draw_KernelOf (v : Value) (a : Option Addr) (len cap : Nat) (w : World) (hv : v = .slice a len cap) (hc : len ≤ cap) (hcap : cap ≤ 9223372036854775807) (hB : Bytes w w.heap.size a len) :
    Calls Tryd.prog 20 #[v] w (BothDraw w) := by
  have hboth := Lib.hid (draw_both v a len cap w hv hc hcap hB)
  subst hv
  go_enter Tryd.func20, Tryd.ntmps20
  go_wp2_with fail
  refine (hboth.out).mono ?_
  rintro e w1 ⟨n, u, xs, s, rfl, hl, hO, hb⟩
  obtain ⟨ua, uc, rfl, _⟩ := id hO
  replace hO := Lib.hid hO
  replace hb := Lib.hid hb
  go_wp2_with fail
  go_ret3
  exact ⟨_, _, xs, _, rfl, hl, hO.out, hb.out⟩

end
section
/- FnKernel: the law. -/
open Go.ChangeShapes Go.WideShapes Go.ChangeAt Go.RowKit Go.Proofs

set_option maxRecDepth 100000 in
set_option maxHeartbeats 4000000 in
theorem law_FnKernel (v : Value) (a : Option Addr) (len cap : Nat) (w : World) (hv : v = .slice a len cap) (hc : len ≤ cap) (hcap : cap ≤ 9223372036854775807) (hB : Bytes w w.heap.size a len) (hT : Tab w) :
    Calls Tryd.prog 7 #[v] w fun e w' => e = .returned (.bool true) ∧ Below w.heap.size w w' := by
  have h0 := Lib.hid (draw_KernelOf v a len cap w hv hc hcap hB)
  subst hv
  clear hB
  by_cases hbig : 1048576 < len
  · go_enter Tryd.func7, Tryd.ntmps7
    go_wp2_with fail
    go_ret
    exact ⟨rfl, Below.refl _ _⟩
  · go_enter Tryd.func7, Tryd.ntmps7
    go_wp2_with fail
    refine (h0.out).mono ?_
    rintro e w1 ⟨n, u, xs, s, rfl, hl, hO, hb⟩
    obtain ⟨ua, uc, rfl, _⟩ := id hO
    have z1 := hb.size
    have hb1 := Lib.hid hb
    have hi := fun (W : World) (h1 : Row W W.heap.size (.slice ua xs.length uc) xs) (h2 : Tab W) => im_KernelOf n s _ xs W.heap.size W h1 (Nat.le_refl _) (by omega) h2
    have hs := fun (W : World) (h1 : Row W W.heap.size (.slice ua xs.length uc) xs) => sp_KernelOf n s _ xs W.heap.size W h1 (Nat.le_refl _) (by omega)
    have hk := fun (W : World) (h1 : Row W W.heap.size (.slice ua xs.length uc) xs) (h2 : Tab W) => im_KernelOf n (kerI n xs s) _ xs W.heap.size W h1 (Nat.le_refl _) (by omega) h2
    have hm := fun (W : World) (h1 : Row W W.heap.size (.slice ua xs.length uc) xs) => im_MeetOf n _ xs W.heap.size W h1 (Nat.le_refl _) (by omega)
    have RX1 := Lib.hid hO.row
    clear hb hO
    rcases (by cases kofB n xs s <;> simp : kofB n xs s = true ∨ kofB n xs s = false) with hF | hF
    · obtain ⟨hf, hse⟩ : famB n xs = true ∧ setB n s = true := by simpa [kofB] using hF
      have k1 : kofI n xs s = kerI n xs s := by unfold kofI; rw [hF]; rfl
      have k2 : kofB n xs (kerI n xs s) = true := by unfold kofB; rw [hf, ker_set hf s]; rfl
      have k3 : kofI n xs (kerI n xs s) = kerI n xs s := by unfold kofI; rw [k2, if_pos rfl, ker_ker hf hse]
      have hg : famB n (ucL andI xs) = true := ucL_fam semi_and hf
      have k4 : kofB n (ucL andI xs) s = true := by unfold kofB; rw [hg, hse]; rfl
      have k5 : kofI n (ucL andI xs) s = kerI n xs s := by unfold kofI; rw [k4, if_pos rfl, ker_meets hf hse]
      obtain ⟨s1, s2⟩ := setB_lt hse
      obtain ⟨o1, o2⟩ := ker_lt hf s
      have hd := i64_difI s1 s2 o1 o2
      rw [ker_dif hse] at hd
      have hul : (ucL andI xs).length ≤ 256 := ucL_len semi_and (famB_all hf).2.2
      obtain ⟨M, hM⟩ : ∃ M, ucL andI xs = M := ⟨_, rfl⟩
      have hq := fun (u : Value) (W : World) (h1 : Row W W.heap.size u M) (h2 : Tab W) => im_KernelOf n s u M W.heap.size W h1 (Nat.le_refl _) (by rw [← hM]; omega) h2
      rw [hM] at k4 k5 hul
      simp only [k2, k3] at hk
      obtain ⟨c, hc9⟩ : ∃ c, kerI n xs s = c := ⟨_, rfl⟩
      simp only [hF, k1, k4, k5, hf, hM, hc9, ifL, if_true] at hi hs hk hm hq hd o1 o2
      have hcc : (c != c) = false := by simp
      have hce : (c == c) = true := by simp
      have hTT := Lib.hid (fun W (h : Below w.heap.size w W) => hT.below h hT.lt)
      replace hi := Lib.hid hi
      replace hs := Lib.hid hs
      replace hk := Lib.hid hk
      replace hm := Lib.hid hm
      replace hq := Lib.hid hq
      replace hM := Lib.hid hM
      replace hc9 := Lib.hid hc9
      replace hf := Lib.hid hf
      replace hse := Lib.hid hse
      replace hg := Lib.hid hg
      clear k1 k2 k3 k4 k5 hF hT
      go_wp2_with fail
      refine (hi.out w1 RX1.out (hTT.out _ hb1.out)).mono ?_
      rintro e w2 ⟨rfl, hbn⟩
      have zn := hbn.size
      have RX2 := Lib.hid ((RX1.out.below hbn (Nat.le_refl _)).mono zn)
      have hb2 := Lib.hid (hb1.out.trans (hbn.mono hb1.out.size))
      clear hbn zn
      go_wp2_with fail
      refine (hs.out w2 RX2.out).mono ?_
      rintro e w3 ⟨rfl, hbn⟩
      have zn := hbn.size
      have RX3 := Lib.hid ((RX2.out.below hbn (Nat.le_refl _)).mono zn)
      have hb3 := Lib.hid (hb2.out.trans (hbn.mono hb2.out.size))
      clear hbn zn
      go_wp2_with fail
      refine (hk.out w3 RX3.out (hTT.out _ hb3.out)).mono ?_
      rintro e w4 ⟨rfl, hbn⟩
      have zn := hbn.size
      have RX4 := Lib.hid ((RX3.out.below hbn (Nat.le_refl _)).mono zn)
      have hb4 := Lib.hid (hb3.out.trans (hbn.mono hb3.out.size))
      clear hbn zn
      go_wp2_with fail
      refine (hm.out w4 RX4.out).mono ?_
      rintro e w5 ⟨mv, rfl, hMO, hbn⟩
      obtain ⟨ma, mc, rfl, _⟩ := id hMO
      have RM5 := Lib.hid hMO.row
      have hb5 := Lib.hid (hb4.out.trans (hbn.mono hb4.out.size))
      clear hbn hMO
      go_wp2_with fail
      refine (hq.out _ w5 RM5.out (hTT.out _ hb5.out)).mono ?_
      rintro e w6 ⟨rfl, hbn⟩
      have hb6 := Lib.hid (hb5.out.trans (hbn.mono hb5.out.size))
      clear hbn
      go_wp2_with fail
      go_ret
      exact ⟨rfl, hb6.out⟩
    · have k1 : kofI n xs s = 0 := by unfold kofI; rw [hF]; rfl
      simp only [hF, k1] at hi hs
      have hTT := Lib.hid (fun W (h : Below w.heap.size w W) => hT.below h hT.lt)
      replace hi := Lib.hid hi
      replace hs := Lib.hid hs
      replace hF := Lib.hid hF
      clear hk hm hT
      go_wp2_with fail
      refine (hi.out w1 RX1.out (hTT.out _ hb1.out)).mono ?_
      rintro e w2 ⟨rfl, hbn⟩
      have zn := hbn.size
      have RX2 := Lib.hid ((RX1.out.below hbn (Nat.le_refl _)).mono zn)
      have hb2 := Lib.hid (hb1.out.trans (hbn.mono hb1.out.size))
      clear hbn zn
      go_wp2_with fail
      refine (hs.out w2 RX2.out).mono ?_
      rintro e w3 ⟨rfl, hbn⟩
      have hb3 := Lib.hid (hb2.out.trans (hbn.mono hb2.out.size))
      clear hbn
      go_wp2_with fail
      go_ret
      exact ⟨rfl, hb3.out⟩

end
end Go.Proofs.YtjhjmbiecihjhaaDoor
