/- Pressed families are down families. -/
import Derived.Test.YthljimmhgpbmbabAllC9
import Derived.Test.YthljimmhgpbmbabUnm
import Derived.Test.YthljimmhgpbmbabShd
import Derived.Test.YthljimmhgpbmbabAllD
import Derived.Test.YthljimmhgpbmbabSameL
import Derived.Test.YthljimmhgpbmbabAllSp
namespace Go.Proofs.Ythljimmhgpbmbab
open Go.ChangeShapes Go.WideShapes Go.ChangeAt Go.RowKit Go.Proofs

theorem less_xor_dec : ∀ x : Fin 256, ∀ p : Fin 8, hasB (x.val : Nat) (p.val : Nat) = true → lessI (x.val : Nat) (p.val : Nat) = ((x.val ^^^ 2 ^ p.val : Nat) : Int) := by decide +kernel
theorem part_press {a b p : Nat} (ha : a < 256) (hp : p < 8) (h1 : a.testBit p = true) (h2 : b.testBit p = false) (h : partB (b : Int) (a : Int) = true) : partB (b : Int) (lessI (a : Int) (p : Int)) = true ∧ lessI (a : Int) (p : Int) < a := by
  have e := less_xor_dec ⟨a, ha⟩ ⟨p, hp⟩ (by unfold hasB; simp only [Int.toNat_natCast]; exact h1)
  have e2 : lessI (a : Int) (p : Int) = ((a ^^^ 2 ^ p : Nat) : Int) := e
  refine ⟨?_, ?_⟩
  · rw [e2]
    have h3 := of_decide_eq_true h
    unfold andI at h3
    simp only [Int.toNat_natCast] at h3
    have h4 : b &&& a = b := by omega
    refine decide_eq_true ?_
    unfold andI
    simp only [Int.toNat_natCast]
    have h5 : b &&& (a ^^^ 2 ^ p) = b := Nat.eq_of_testBit_eq fun i => by
      have h6 := congrArg (fun z => z.testBit i) h4
      simp only [Nat.testBit_and] at h6
      simp only [Nat.testBit_and, Nat.testBit_xor, Nat.testBit_two_pow]
      by_cases hi : p = i
      · subst hi; rw [h2]; rfl
      · simp only [hi, decide_false, Bool.xor_false]; exact h6
    rw [h5]
  · have h3 : hasB (a : Int) (p : Int) = true := by unfold hasB; simp only [Int.toNat_natCast]; exact h1
    unfold lessI
    rw [if_pos h3, Int.toNat_natCast]
    have := Nat.two_pow_pos p
    have h4 : ((2 ^ p : Nat) : Int) = 2 ^ p := by simp
    omega
theorem press_down {n : Int} {xs : List Int} (hf : famB n xs = true) (h : ∀ p : Nat, p < n.toNat → ∀ x ∈ xs, lessI x p ∈ xs) : dnF n xs = xs := by
  obtain ⟨n1, n2, hs⟩ := famB_all hf
  refine down_mk hf (fun x hx z hz hp => ?_)
  obtain ⟨z1, z2⟩ := setB_lt hz
  have key : ∀ (k : Nat) (x : Int), x ∈ xs → partB z x = true → (x - z).toNat ≤ k → z ∈ xs := by
    intro k
    induction k with
    | zero =>
      intro x hx hp hk
      have h1 := part_le z1 (setB_lt (hs x hx)).1 hp
      have h2 : x = z := by omega
      rw [← h2]; exact hx
    | succ k ih =>
      intro x hx hp hk
      by_cases e : x = z
      · rw [← e]; exact hx
      · obtain ⟨_, _, x1, x2⟩ := setB_yes (hs x hx)
        have x3 := (setB_lt (hs x hx)).2
        obtain ⟨a, rfl⟩ := Int.eq_ofNat_of_zero_le x1
        obtain ⟨b, rfl⟩ := Int.eq_ofNat_of_zero_le z1
        have h3 := of_decide_eq_true hp
        unfold andI at h3
        simp only [Int.toNat_natCast] at h3
        have h4 : b &&& a = b := by omega
        have hex : ∃ i, a.testBit i = true ∧ b.testBit i = false := by
          apply Classical.byContradiction
          intro hno
          refine e ?_
          have : a = b := Nat.eq_of_testBit_eq fun i => by
            have h6 := congrArg (fun z => z.testBit i) h4
            simp only [Nat.testBit_and] at h6
            cases ha : a.testBit i with
            | false => rw [ha, Bool.and_false] at h6; exact h6
            | true =>
              cases hb : b.testBit i with
              | true => rfl
              | false => exact absurd ⟨i, ha, hb⟩ hno
          rw [this]
        obtain ⟨i, i1, i2⟩ := hex
        have hM : ((2 ^ n.toNat : Nat) : Int) = 2 ^ n.toNat := by simp
        have ha : a < 2 ^ n.toNat := by rw [← hM] at x2; exact Int.ofNat_lt.1 x2
        have hi : i < n.toNat := by
          apply Classical.byContradiction
          intro hno
          rw [Nat.testBit_lt_two_pow (Nat.lt_of_lt_of_le ha (Nat.pow_le_pow_right (by omega) (by omega)))] at i1
          cases i1
        obtain ⟨g1, g2⟩ := part_press (by omega) (by omega) i1 i2 hp
        have hm := h i hi _ hx
        have g3 := part_le z1 (setB_lt (hs _ hm)).1 g1
        exact ih _ hm g1 (by omega)
  exact key _ x hx hp (Nat.le_refl _)
theorem stay_in {φ : Int → Int} {xs : List Int} (h : tnL φ xs = xs) {x : Int} (hx : x ∈ xs) : φ x ∈ xs := by
  have h1 : rpI φ xs x ∈ tnL φ xs := mem_sortL.2 (List.mem_map.2 ⟨x, hx, rfl⟩)
  rw [h] at h1
  unfold rpI at h1
  cases e : memB (φ x) xs with
  | true => exact memB_yes e
  | false => rw [e] at h1; exact h1
theorem pressed_down {n : Int} {xs : List Int} (hf : famB n xs = true) (h : rdL (prL n) xs = xs) : dnF n xs = xs := by
  refine press_down hf (fun p hp x hx => ?_)
  refine stay_in (rd_one (prL_turns n) hf h (fun x => lessI x (p : Int)) ?_) hx
  unfold prL prTo
  exact List.mem_map.2 ⟨(p : Int), mem_upI.2 ⟨by omega, by omega⟩, rfl⟩
theorem sp_PressedS (n : Int) (lv : Value) (xs : List Int) (S : Nat) (w : World) (hx : Row w S lv xs) (hS : S ≤ w.heap.size) (hl : xs.length ≤ 100000000) :
    Calls Try.prog 48 #[.int .i64 n, lv] w fun e w' => e = .returned (.bool (staysB n (prL n) xs)) ∧ Below w.heap.size w w' := by
  rw [stays_eq (prL_turns n)]
  exact sp_PressedIn n lv xs S w hx hS hl
set_option maxRecDepth 100000 in
set_option maxHeartbeats 4000000 in
theorem draw_PressedIn (v : Value) (a : Option Addr) (len cap : Nat) (w : World) (hv : v = .slice a len cap) (hc : len ≤ cap) (hcap : cap ≤ 9223372036854775807) (hB : Bytes w w.heap.size a len) :
    Calls Try.prog 46 #[v] w (GivenDraw w) := by
  have h0 := Lib.hid (draw_shifted v a len cap w hv hc hcap hB)
  clear hv hc hcap hB
  go_enter Try.func46, Try.ntmps46
  go_wp2_with fail
  refine (h0.out).mono ?_
  rintro e w1 ⟨n, u, xs, rfl, hl, hO, hb⟩
  obtain ⟨fa, fc, rfl, _⟩ := id hO
  replace hO := Lib.hid hO
  replace hb := Lib.hid hb
  go_wp2_with fail
  go_ret2
  exact ⟨_, _, xs, rfl, hl, hO.out, hb.out⟩
set_option maxRecDepth 100000 in
set_option maxHeartbeats 4000000 in
theorem law_FnPressed (v : Value) (a : Option Addr) (len cap : Nat) (w : World) (hv : v = .slice a len cap) (hc : len ≤ cap) (hcap : cap ≤ 9223372036854775807) (hB : Bytes w w.heap.size a len) :
    Calls Try.prog 12 #[v] w fun e w' => e = .returned (.bool true) ∧ Below w.heap.size w w' := by
  have h0 := Lib.hid (draw_PressedIn v a len cap w hv hc hcap hB)
  subst hv
  clear hB
  by_cases hbig : 1048576 < len
  · go_enter Try.func12, Try.ntmps12
    go_wp2_with fail
    go_ret
    exact ⟨rfl, Below.refl _ _⟩
  · go_enter Try.func12, Try.ntmps12
    go_wp2_with fail
    refine (h0.out).mono ?_
    rintro e w1 ⟨n, u, xs, rfl, hl, hO, hb⟩
    obtain ⟨ua, uc, rfl, _⟩ := id hO
    have z1 := hb.size
    have hb1 := Lib.hid hb
    have hi := fun (W : World) (h1 : Row W W.heap.size (.slice ua xs.length uc) xs) => im_PressedIn n _ xs W.heap.size W h1 (Nat.le_refl _) (by omega)
    have hs := fun (W : World) (h1 : Row W W.heap.size (.slice ua xs.length uc) xs) => sp_PressedS n _ xs W.heap.size W h1 (Nat.le_refl _) (by omega)
    have RX1 := Lib.hid hO.row
    clear hb hO
    rcases (by cases staysB n (prL n) xs <;> simp : staysB n (prL n) xs = true ∨ staysB n (prL n) xs = false) with hbv | hbv
    · simp only [hbv] at hi hs
      replace hi := Lib.hid (show ∀ (W : World), Row W W.heap.size (.slice ua xs.length uc) xs → Calls Try.prog 47 #[.int .i64 n, .slice ua xs.length uc] W (fun e w' => e = .returned (.bool true) ∧ Below W.heap.size W w') from hi)
      replace hs := Lib.hid (show ∀ (W : World), Row W W.heap.size (.slice ua xs.length uc) xs → Calls Try.prog 48 #[.int .i64 n, .slice ua xs.length uc] W (fun e w' => e = .returned (.bool true) ∧ Below W.heap.size W w') from hs)
      have h2 := hbv
      rw [stays_eq (prL_turns n)] at h2
      obtain ⟨fx, f2⟩ : famB n xs = true ∧ sameB xs (rdL (prL n) xs) = true := by simpa using h2
      have f3 : rdL (prL n) xs = xs := (of_decide_eq_true f2).symm
      have lx := famB_len fx
      have hdn := pressed_down fx f3
      have hst := stL_self f3
      have hsx : sameB xs xs = true := decide_eq_true rfl
      have hc1 := fun (W : World) (v : Value) (h1 : Row W W.heap.size v xs) => im_PressAll n v xs W.heap.size W h1 (Nat.le_refl _) (by omega)
      have hc2 := fun (W : World) (v : Value) (h1 : Row W W.heap.size v xs) => im_DownIn n v xs W.heap.size W h1 (Nat.le_refl _) (by omega)
      simp only [fx, hst, hdn, hsx, Bool.and_true] at hc1 hc2
      replace hc1 := Lib.hid (show ∀ (W : World) (v : Value), Row W W.heap.size v xs → Calls Try.prog 49 #[.int .i64 n, v] W (ListPost xs true W) from hc1)
      replace hc2 := Lib.hid (show ∀ (W : World) (v : Value), Row W W.heap.size v xs → Calls Try.prog 42 #[.int .i64 n, v] W (fun e w' => e = .returned (.bool true) ∧ Below W.heap.size W w') from hc2)
      replace hbv := Lib.hid hbv
      replace h2 := Lib.hid h2
      replace fx := Lib.hid fx
      replace f2 := Lib.hid f2
      replace f3 := Lib.hid f3
      replace hdn := Lib.hid hdn
      replace hst := Lib.hid hst
      go_wp2_with fail
      refine (hi.out w1 RX1.out).mono ?_
      rintro e w2 ⟨rfl, hbn⟩
      have zn := hbn.size
      have RX2 := Lib.hid ((RX1.out.below hbn (Nat.le_refl _)).mono zn)
      have hb2 := Lib.hid (hb1.out.trans (hbn.mono hb1.out.size))
      clear hbn zn
      go_wp2_with fail
      refine (hs.out w2 RX2.out).mono ?_
      rintro e w3 ⟨rfl, hbn⟩
      have zn := hbn.size
      have RX3 := Lib.hid ((RX2.out.below hbn (Nat.le_refl _)).mono zn)
      have hb3 := Lib.hid (hb2.out.trans (hbn.mono hb2.out.size))
      clear hbn zn
      go_wp2_with fail
      refine (hc1.out w3 _ RX3.out).mono ?_
      rintro e w4 ⟨v4, rfl, hN, hbn⟩
      obtain ⟨c4, d4, rfl, _⟩ := id hN
      have zn := hbn.size
      have RX4 := Lib.hid ((RX3.out.below hbn (Nat.le_refl _)).mono zn)
      have RY4 := Lib.hid hN.row
      have hb4 := Lib.hid (hb3.out.trans (hbn.mono hb3.out.size))
      clear hN hbn zn
      have hq4 := same_l _ _ xs xs w4.heap.size w4 RY4.out RX4.out (by omega) (by omega)
      rw [hsx] at hq4
      replace hq4 := Lib.hid hq4
      go_wp2_with fail
      refine (hq4.out).mono ?_
      rintro e w' ⟨rfl, q4, rfl⟩
      have hb5 := Lib.hid (below_drewN hb4.out q4)
      have RX5 := Lib.hid (show Row (w4.drewN q4) (w4.drewN q4).heap.size _ _ from RX4.out.drewN q4)
      have RY5 := Lib.hid (show Row (w4.drewN q4) (w4.drewN q4).heap.size _ _ from RY4.out.drewN q4)
      obtain ⟨w5, hw5⟩ : ∃ w5, w4.drewN q4 = w5 := ⟨_, rfl⟩
      rw [hw5] at hb5 RX5 RY5 ⊢
      replace hw5 := Lib.hid hw5
      go_wp2_with fail
      refine (hc2.out w5 _ RX5.out).mono ?_
      rintro e w6 ⟨rfl, hbn⟩
      have zn := hbn.size
      have RX6 := Lib.hid ((RX5.out.below hbn (Nat.le_refl _)).mono zn)
      have RY6 := Lib.hid ((RY5.out.below hbn (Nat.le_refl _)).mono zn)
      have hb6 := Lib.hid (hb5.out.trans (hbn.mono hb5.out.size))
      clear hbn zn
      go_wp2_with fail
      go_ret
      exact ⟨rfl, hb6.out⟩
    · simp only [hbv] at hi hs
      replace hi := Lib.hid (show ∀ (W : World), Row W W.heap.size (.slice ua xs.length uc) xs → Calls Try.prog 47 #[.int .i64 n, .slice ua xs.length uc] W (fun e w' => e = .returned (.bool false) ∧ Below W.heap.size W w') from hi)
      replace hs := Lib.hid (show ∀ (W : World), Row W W.heap.size (.slice ua xs.length uc) xs → Calls Try.prog 48 #[.int .i64 n, .slice ua xs.length uc] W (fun e w' => e = .returned (.bool false) ∧ Below W.heap.size W w') from hs)
      replace hbv := Lib.hid hbv
      go_wp2_with fail
      refine (hi.out w1 RX1.out).mono ?_
      rintro e w2 ⟨rfl, hbn⟩
      have zn := hbn.size
      have RX2 := Lib.hid ((RX1.out.below hbn (Nat.le_refl _)).mono zn)
      have hb2 := Lib.hid (hb1.out.trans (hbn.mono hb1.out.size))
      clear hbn zn
      go_wp2_with fail
      refine (hs.out w2 RX2.out).mono ?_
      rintro e w3 ⟨rfl, hbn⟩
      have zn := hbn.size
      have RX3 := Lib.hid ((RX2.out.below hbn (Nat.le_refl _)).mono zn)
      have hb3 := Lib.hid (hb2.out.trans (hbn.mono hb2.out.size))
      clear hbn zn
      go_wp2_with fail
      go_ret
      exact ⟨rfl, hb3.out⟩
end Go.Proofs.Ythljimmhgpbmbab
