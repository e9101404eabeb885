/- KernelOf and KernelSame: the model. -/
import Derived.Test.YtjhjmbiecihjhaaDoorKe5
namespace Go.Proofs.YtjhjmbiecihjhaaDoor
open Go.ChangeShapes Go.WideShapes Go.ChangeAt Go.RowKit Go.Proofs

/-- a kernel by the sets of a list up to a place. -/
def kerTo (n : Int) (xs : List Int) (s : Int) (k : Nat) : Int := kerI n (xs.take k) s
theorem kerTo_zero (n : Int) (xs : List Int) (s : Int) : kerTo n xs s 0 = 2 ^ n.toNat - 1 := rfl
theorem kerTo_succ {n : Int} {xs : List Int} {s x : Int} {k : Nat} (h : k < xs.length) (hx : xs.getD k 0 = x) : kerTo n xs s (k + 1) = if partB s x then andI (kerTo n xs s k) x else kerTo n xs s k := by
  unfold kerTo kerI
  rw [List.take_succ_eq_append_getElem h, List.foldl_append]
  have : xs[k] = x := by rw [← hx, List.getD_eq_getElem?_getD, List.getElem?_eq_getElem h]; rfl
  rw [this]
  rfl
theorem kerTo_all (n : Int) (xs : List Int) (s : Int) : kerTo n xs s xs.length = kerI n xs s := by unfold kerTo; rw [List.take_length]
theorem kerTo_bd {n : Int} (n1 : 1 ≤ n) (n2 : n ≤ 8) (xs : List Int) (s : Int) (k : Nat) : 0 ≤ kerTo n xs s k ∧ kerTo n xs s k < 256 := by
  obtain ⟨a1, a2⟩ := all_pow n1 n2
  have h := ker_le (xs.take k) s (2 ^ n.toNat - 1) a1
  have h2 : kerTo n xs s k = (xs.take k).foldl (fun a x => if partB s x then andI a x else a) (2 ^ n.toNat - 1) := rfl
  rw [h2]
  omega
set_option maxHeartbeats 4000000 in
theorem l9kernel (n s : Int) (lv : Value) (xs : List Int) (S : Nat) (w : World) (hx : Row w S lv xs) (hf : famB n xs = true) (hs : setB n s = true) :
    Calls Tryd.prog 30 #[.int .i64 n, lv, .int .i64 s] w fun e w' => e = .returned (.int .i64 (kerI n xs s)) ∧ w' = w := by
  obtain ⟨a, cap, rfl, ha⟩ := id hx
  obtain ⟨n1, n2, hset⟩ := famB_all hf
  have hl2 := famB_len hf
  have hlt := famB_lt hf
  obtain ⟨s1, s2⟩ := setB_lt hs
  have hn0 : (0 : Int) ≤ n := by omega
  have hn64 : n < 64 := by omega
  have hbd := Lib.hid (kerTo_bd n1 n2 xs s)
  have hz := kerTo_zero n xs s
  have ht := Lib.hid (kerTo_all n xs s)
  have hst := Lib.hid (fun k x h hx => kerTo_succ (n := n) (xs := xs) (s := s) (k := k) (x := x) h hx)
  obtain ⟨p1, p2⟩ := all_pow n1 n2
  replace ha := Lib.hid ha
  replace hf := Lib.hid hf
  replace hset := Lib.hid hset
  replace hlt := Lib.hid hlt
  clear hx
  go_enter Tryd.func30, Tryd.ntmps30
  go_wp2_with fail
  go_loopw [7, 8] (fun o p wr => ∃ k : Nat, k ≤ xs.length ∧ o = .int .i64 (kerTo n xs s k) ∧ p = .int .i64 k ∧ wr = w) (fun _ p _ => xs.length - (intOf p).toNat)
  case atStart => exact ⟨0, by omega, by rw [hz], rfl, rfl⟩
  case round =>
    obtain ⟨k, hk, rfl, rfl, rfl⟩ := hrel
    obtain ⟨o1, o2⟩ := hbd.out k
    by_cases hlk : k < xs.length
    · obtain ⟨b1, f1, rfl, q1, c1⟩ := ha.out (by omega)
      have k1 : (0 : Int) ≤ (k : Int) := by omega
      have k2 : (k : Int) < (xs.length : Nat) := by omega
      obtain ⟨x, hx0⟩ : ∃ x, xs.getD k 0 = x := ⟨_, rfl⟩
      have hmx : x ∈ xs := by rw [← hx0]; exact getD_mem hlk
      have hcx := c1 k hlk
      rw [hx0] at hcx
      obtain ⟨x1, x2⟩ := hlt.out x hmx
      have hsu := hst.out k x hlk hx0
      have hp := Lib.hid (l5part s x s1 s2 x1 x2)
      obtain ⟨o, ho⟩ : ∃ o, kerTo n xs s k = o := ⟨_, rfl⟩
      rw [ho] at hsu o1 o2
      rw [ho]
      have hao := i64_andI o1 o2 x1 x2
      obtain ⟨r, hr⟩ : ∃ r, andI o x = r := ⟨_, rfl⟩
      rw [hr] at hsu hao
      replace hr := Lib.hid hr
      replace ho := Lib.hid ho
      replace hx0 := Lib.hid hx0
      clear c1
      rcases (by cases partB s x <;> simp : partB s x = true ∨ partB s x = false) with hb | hb
      · rw [hb] at hp
        rw [hb, if_pos rfl] at hsu
        replace hb := Lib.hid hb
        replace hsu := Lib.hid hsu
        go_wp2_with (go_at_call 50; refine (hp.out _).mono ?_; rintro e w' ⟨rfl, rfl⟩)
        go_roundw
        case rel => exact ⟨k + 1, by omega, by rw [hsu.out], by go_num, by first | rfl | trivial⟩
        case measure => simp [intOf]; omega
      · rw [hb] at hp
        rw [hb, if_neg (by simp)] at hsu
        replace hb := Lib.hid hb
        replace hsu := Lib.hid hsu
        go_wp2_with (go_at_call 50; refine (hp.out _).mono ?_; rintro e w' ⟨rfl, rfl⟩)
        go_roundw
        case rel => exact ⟨k + 1, by omega, by rw [hsu.out], by go_num, by first | rfl | trivial⟩
        case measure => simp [intOf]; omega
    · obtain rfl : k = xs.length := by omega
      rw [ht.out]
      go_wp2_with fail
      go_ret
      exact ⟨rfl, by first | rfl | trivial⟩
theorem sp_set_in_at (n s : Int) (W : World) : Calls Tryd.prog 29 #[.int .i64 n, .int .i64 s] W fun e w' => e = .returned (.bool (setB n s)) ∧ W = w' := by
  rcases set_in_cases n s with h | h
  · rw [h]; exact sp_set_in_yes n s h W
  · rw [h]; exact sp_set_in_no n s h W
set_option maxHeartbeats 4000000 in
theorem sp_KernelOf (n s : Int) (lv : Value) (xs : List Int) (S : Nat) (w : World) (hx : Row w S lv xs) (_ : S ≤ w.heap.size) (hl : xs.length ≤ 100000000) :
    Calls Tryd.prog 13 #[.int .i64 n, lv, .int .i64 s] w fun e w' => e = .returned (.tuple #[.int .i64 (kofI n xs s), .bool (kofB n xs s)]) ∧ Below w.heap.size w w' := by
  have h1 := sp_FamilyIn n lv xs S w hx (by omega)
  have hs := Lib.hid (sp_set_in_at n s)
  have hx2 := Lib.hid hx
  obtain ⟨a, cap, rfl, _⟩ := id hx
  clear hx
  unfold kofI
  rcases (by cases famB n xs <;> simp : famB n xs = true ∨ famB n xs = false) with hf | hf
  · rcases set_in_cases n s with hse | hse
    · have hb : kofB n xs s = true := by unfold kofB; rw [hf, hse]; rfl
      have hk := fun q => l9kernel n s _ xs S (w.drewN q) (hx2.out.drewN q) hf hse
      rw [hse] at hs
      rw [hf] at h1
      rw [hb, if_pos rfl]
      obtain ⟨k, hke⟩ : ∃ k, kerI n xs s = k := ⟨_, rfl⟩
      rw [hke] at hk ⊢
      replace hk := Lib.hid hk
      replace h1 := Lib.hid h1
      replace hb := Lib.hid hb
      replace hf := Lib.hid hf
      replace hse := Lib.hid hse
      replace hke := Lib.hid hke
      go_enter Tryd.func13, Tryd.ntmps13
      go_wp2_with fail
      refine h1.out.mono ?_
      rintro e w1 ⟨rfl, q, rfl⟩
      go_wp2_with (go_at_call 29; refine (hs.out _).mono ?_; rintro e w' ⟨rfl, rfl⟩)
      refine (hk.out q).mono ?_
      rintro e w2 ⟨rfl, rfl⟩
      go_wp2_with fail
      go_ret2
      exact ⟨rfl, below_drewN (Below.refl _ _) _⟩
    · have hb : kofB n xs s = false := by unfold kofB; rw [hse, Bool.and_false]
      rw [hse] at hs
      rw [hf] at h1
      rw [hb, if_neg (by simp)]
      replace h1 := Lib.hid h1
      replace hb := Lib.hid hb
      replace hf := Lib.hid hf
      replace hse := Lib.hid hse
      go_enter Tryd.func13, Tryd.ntmps13
      go_wp2_with fail
      refine h1.out.mono ?_
      rintro e w1 ⟨rfl, q, rfl⟩
      go_wp2_with (go_at_call 29; refine (hs.out _).mono ?_; rintro e w' ⟨rfl, rfl⟩)
      go_ret2
      exact ⟨rfl, below_drewN (Below.refl _ _) _⟩
  · have hb : kofB n xs s = false := by unfold kofB; rw [hf, Bool.false_and]
    rw [hf] at h1
    rw [hb, if_neg (by simp)]
    replace h1 := Lib.hid h1
    replace hb := Lib.hid hb
    replace hf := Lib.hid hf
    go_enter Tryd.func13, Tryd.ntmps13
    go_wp2_with fail
    refine h1.out.mono ?_
    rintro e w1 ⟨rfl, q, rfl⟩
    go_wp2_with fail
    go_ret2
    exact ⟨rfl, below_drewN (Below.refl _ _) _⟩
end Go.Proofs.YtjhjmbiecihjhaaDoor
