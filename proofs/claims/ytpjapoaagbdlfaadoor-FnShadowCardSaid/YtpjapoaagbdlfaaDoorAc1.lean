/- A set that is a part of another one: plain mathematics, the program's two methods, the model's function, searches with function values. -/
import Derived.Test.YtpjapoaagbdlfaaDoorFams13
import Derived.BigQuiet
namespace Go.Proofs.YtpjapoaagbdlfaaDoor
open Go.ChangeShapes Go.WideShapes Go.ChangeAt Go.RowKit Go.Proofs

theorem xor_zero {a b : Nat} (h : a ^^^ b = 0) : a = b := Nat.eq_of_testBit_eq fun i => by
  have h := congrArg (fun z => z.testBit i) h
  simp only [Nat.testBit_xor, Nat.zero_testBit] at h
  cases ha : a.testBit i <;> cases hb : b.testBit i <;> simp [ha, hb] at h ⊢
/-- x is a part of y. -/
def partB (x y : Int) : Bool := decide (andI x y = x)
theorem and_not (a b : Nat) (ha : a < 256) (hb : b < 256) : (BitVec.ofInt 64 (a : Int) &&& ~~~BitVec.ofInt 64 (b : Int)).toNat = a ^^^ (a &&& b) := by
  have h : BitVec.ofInt 64 (a : Int) &&& ~~~BitVec.ofInt 64 (b : Int) = BitVec.ofInt 64 (a : Int) ^^^ (BitVec.ofInt 64 (a : Int) &&& BitVec.ofInt 64 (b : Int)) := by
    ext i hi
    simp only [BitVec.getElem_and, BitVec.getElem_not, BitVec.getElem_xor]
    cases (BitVec.ofInt 64 (a : Int))[i] <;> cases (BitVec.ofInt 64 (b : Int))[i] <;> rfl
  rw [h, BitVec.toNat_xor, BitVec.toNat_and, ofInt_u64 a (by omega), ofInt_u64 b (by omega)]
theorem part_nat (a b : Nat) : (a ^^^ (a &&& b) = 0) ↔ andI a b = a := by
  unfold andI
  simp only [Int.toNat_natCast]
  constructor
  · intro h; have := xor_zero h; omega
  · intro h; have h2 : a &&& b = a := by omega
    rw [h2]; exact Nat.xor_self a
theorem xor_small {a b : Nat} (ha : a < 256) : a ^^^ (a &&& b) < 2 ^ 8 := Nat.xor_lt_two_pow (by omega) (by have : a &&& b ≤ a := Nat.and_le_left; omega)
theorem u64_part {x y : Int} (h1 : 0 ≤ x) (h2 : x < 256) (h3 : 0 ≤ y) (h4 : y < 256) : ∃ d, bits .andNot .u64 x y = d ∧ 0 ≤ d ∧ d < 256 ∧ (d == 0) = partB x y := by
  obtain ⟨a, rfl⟩ := Int.eq_ofNat_of_zero_le h1
  obtain ⟨b, rfl⟩ := Int.eq_ofNat_of_zero_le h3
  have hs := xor_small (a := a) (b := b) (by omega)
  refine ⟨((a ^^^ (a &&& b) : Nat) : Int), ?_, by omega, by omega, ?_⟩
  · show IntKind.u64.wrap ((BitVec.ofInt 64 (a : Int) &&& ~~~BitVec.ofInt 64 (b : Int)).toNat : Int) = _
    rw [and_not a b (by omega) (by omega), IntKind.wrap_u64]
    omega
  · unfold partB
    have hk := part_nat a b
    by_cases h0 : a ^^^ (a &&& b) = 0
    · rw [h0, decide_eq_true (hk.1 h0)]; rfl
    · rw [decide_eq_false (fun h => h0 (hk.2 h)), beq_eq_false_iff_ne]; omega
theorem i64_part {x y : Int} (h1 : 0 ≤ x) (h2 : x < 256) (h3 : 0 ≤ y) (h4 : y < 256) : ∃ d, bits .andNot .i64 x y = d ∧ 0 ≤ d ∧ d < 256 ∧ (d == 0) = partB x y := by
  obtain ⟨a, rfl⟩ := Int.eq_ofNat_of_zero_le h1
  obtain ⟨b, rfl⟩ := Int.eq_ofNat_of_zero_le h3
  have hs := xor_small (a := a) (b := b) (by omega)
  refine ⟨((a ^^^ (a &&& b) : Nat) : Int), ?_, by omega, by omega, ?_⟩
  · show IntKind.i64.wrap ((BitVec.ofInt 64 (a : Int) &&& ~~~BitVec.ofInt 64 (b : Int)).toNat : Int) = _
    rw [and_not a b (by omega) (by omega), IntKind.wrap_i64]
    omega
  · unfold partB
    have hk := part_nat a b
    by_cases h0 : a ^^^ (a &&& b) = 0
    · rw [h0, decide_eq_true (hk.1 h0)]; rfl
    · rw [decide_eq_false (fun h => h0 (hk.2 h)), beq_eq_false_iff_ne]; omega
theorem part_refl {x : Int} (h : 0 ≤ x) : partB x x = true := decide_eq_true (by unfold andI; rw [Nat.and_self]; omega)
theorem part_le {x y : Int} (_h1 : 0 ≤ x) (h2 : 0 ≤ y) (h : partB x y = true) : x ≤ y := by
  have h := of_decide_eq_true h
  unfold andI at h
  have : x.toNat &&& y.toNat ≤ y.toNat := Nat.and_le_right
  omega
theorem part_trans {x y z : Int} (h1 : 0 ≤ x) (h2 : 0 ≤ y) (ha : partB x y = true) (hb : partB y z = true) : partB x z = true := by
  have ha := of_decide_eq_true ha
  have hb := of_decide_eq_true hb
  unfold andI at ha hb
  have a2 : x.toNat &&& y.toNat = x.toNat := by omega
  have b2 : y.toNat &&& z.toNat = y.toNat := by omega
  refine decide_eq_true ?_
  unfold andI
  have : x.toNat &&& z.toNat = x.toNat := by rw [← a2, Nat.and_assoc, b2]
  omega
theorem l5part (x y : Int) (h1 : 0 ≤ x) (h2 : x < 256) (h3 : 0 ≤ y) (h4 : y < 256) (w : World) : Calls Tryd.prog 57 #[.int .i64 x, .int .i64 y] w fun e w' => e = .returned (.bool (partB x y)) ∧ w' = w := by
  obtain ⟨d, hd, d1, d2, hp⟩ := i64_part h1 h2 h3 h4
  rw [← hp]
  replace hp := Lib.hid hp
  go_enter Tryd.func57, Tryd.ntmps57
  go_wp2_with fail
  go_ret
  exact ⟨rfl, rfl⟩
/-- x is a part of y and another set. -/
def partO (x y : Int) : Bool := x != y && partB x y
theorem any_take {xs : List Int} {k : Nat} {x : Int} (hk : k < xs.length) (hx : xs.getD k 0 = x) (p : Int → Bool) : (xs.take (k + 1)).any p = ((xs.take k).any p || p x) := by rw [take_snoc hk, hx, List.any_append]; simp
/-- what a search leaves. -/
def IdxPost (b : Bool) (w : World) (e : Ending) (w' : World) : Prop := ∃ r : Int, e = .returned (.int .i64 r) ∧ decide (0 ≤ r) = b ∧ -1 ≤ r ∧ r ≤ 1000000 ∧ Below w.heap.size w w'
set_option maxHeartbeats 1000000 in
theorem index_any (g : Nat) (eg : EntersG g) (rs cs : Array Value) (p : Int → Bool) (lv : Value) (xs : List Int) (S : Nat) (w : World) (hx : SRow w S lv xs) (hS : S ≤ w.heap.size) (hl : xs.length ≤ 100000)
    (hp : PredV g rs cs p xs w) : Calls Tryd.prog 39 #[lv, .func (.func g) rs cs] w (IdxPost (xs.any p) w) := by
  have eg1 : ∀ args w, (callFunc g args).run Tryd.prog w = .ok (.enter g args) w := eg
  obtain ⟨a, cap, rfl, ha⟩ := hx
  replace ha := Lib.hid ha
  replace hp := Lib.hid hp
  go_enter Tryd.func39, Tryd.ntmps39
  go_wp2_with fail
  go_loopw [8] (fun q wr => ∃ k : Nat, k ≤ xs.length ∧ q = .int .i64 k ∧ Hid ((xs.take k).any p = false) ∧ Hid (Below w.heap.size w wr)) (fun q _ => xs.length - (intOf q).toNat)
  case atStart => exact ⟨0, by omega, rfl, Lib.hid rfl, Lib.hid (Below.refl _ _)⟩
  case round =>
    obtain ⟨k, hk, rfl, hn, hb⟩ := hrel
    have hzz := hb.out.size
    by_cases hlt : k < xs.length
    · obtain ⟨b1, o1, rfl, s1, c1⟩ := ha.out (by omega)
      have k1 : (0 : Int) ≤ (k : Int) := by omega
      have k2 : (k : Int) < (xs.length : Nat) := by omega
      have e1 : wr.cell? ⟨b1, o1 + k, none⟩ = some (.int .u64 (xs.getD k 0)) := by
        rw [hb.out.cell (p := ⟨b1, o1 + k, none⟩) (show b1 < w.heap.size by omega)]
        exact c1 k hlt
      obtain ⟨x, hx⟩ : ∃ x, xs.getD k 0 = x := ⟨_, rfl⟩
      have hmem : x ∈ xs := by rw [← hx]; exact getD_mem hlt
      have hft := any_take hlt hx p
      rw [hx] at e1
      rw [hn.out, Bool.false_or] at hft
      have hcall := hp.out wr x hmem hb.out
      rcases (by cases p x <;> simp : p x = true ∨ p x = false) with hpx | hpx
      · rw [hpx] at hcall hft
        have hf := Lib.hid (show xs.any p = true from List.any_eq_true.2 ⟨x, hmem, hpx⟩)
        replace hcall := Lib.hid hcall
        replace hft := Lib.hid hft
        replace hpx := Lib.hid hpx
        replace hx := Lib.hid hx
        replace hmem := Lib.hid hmem
        clear c1
        go_wp2_with fail
        refine hcall.out.mono ?_
        rintro e w2 ⟨rfl, hb2⟩
        replace hb2 := Lib.hid (hb.out.trans (hb2.mono (by omega)))
        go_wp2_with fail
        go_ret
        exact ⟨(k : Nat), rfl, by rw [hf.out]; exact decide_eq_true (by omega), by omega, by omega, hb2.out⟩
      · rw [hpx] at hcall hft
        replace hcall := Lib.hid hcall
        replace hft := Lib.hid hft
        replace hpx := Lib.hid hpx
        replace hx := Lib.hid hx
        replace hmem := Lib.hid hmem
        clear c1
        go_wp2_with fail
        refine hcall.out.mono ?_
        rintro e w2 ⟨rfl, hb2⟩
        replace hb2 := Lib.hid (hb.out.trans (hb2.mono (by omega)))
        go_wp2_with fail
        go_roundw
        case rel => exact ⟨k + 1, by omega, by go_num, hft, hb2⟩
        case measure => simp [intOf]; omega
    · have hf := Lib.hid (show xs.any p = false by
        have h := hn.out
        rw [List.take_of_length_le (by omega)] at h
        exact h)
      go_wp2_with fail
      go_ret
      exact ⟨-1, rfl, by rw [hf.out]; rfl, by omega, by omega, hb.out⟩
theorem contains_any (g : Nat) (eg : EntersG g) (rs cs : Array Value) (p : Int → Bool) (lv : Value) (xs : List Int) (S : Nat) (w : World) (hx : SRow w S lv xs) (hS : S ≤ w.heap.size) (hl : xs.length ≤ 100000)
    (hp : PredV g rs cs p xs w) : Calls Tryd.prog 19 #[lv, .func (.func g) rs cs] w fun e w' => e = .returned (.bool (xs.any p)) ∧ Below w.heap.size w w' := by
  have h := Lib.hid (index_any g eg rs cs p lv xs S w hx hS hl hp)
  obtain ⟨a, cap, rfl, _⟩ := hx
  obtain ⟨b, hb⟩ : ∃ b, xs.any p = b := ⟨_, rfl⟩
  rw [hb] at h ⊢
  replace hb := Lib.hid hb
  clear hp
  go_enter Tryd.func19, Tryd.ntmps19
  go_wp2_with fail
  refine h.out.mono ?_
  rintro e w2 ⟨r, rfl, hr, r1, r2, hb2⟩
  replace hr := Lib.hid hr
  replace hb2 := Lib.hid hb2
  go_wp2_with fail
  go_ret
  exact ⟨ret_bool hr.out, hb2.out⟩

end Go.Proofs.YtpjapoaagbdlfaaDoor
