/- Common parts and unions of sets as numbers. -/
import Derived.Test.YtojfamjgghikoaaGreatDoorFam
import Derived.IntWalk
namespace Go.Proofs.YtojfamjgghikoaaGreatDoor
open Go.RowKit

/-- the common part. -/
def andI (x y : Int) : Int := ((x.toNat &&& y.toNat : Nat) : Int)
/-- the union. -/
def orI (x y : Int) : Int := ((x.toNat ||| y.toNat : Nat) : Int)
theorem u64_andI {x y : Int} (h1 : 0 ≤ x) (h2 : x < 256) (h3 : 0 ≤ y) (h4 : y < 256) : bits .and .u64 x y = andI x y := u64_and x y h1 (by omega) h3 (by omega)
theorem u64_orI {x y : Int} (h1 : 0 ≤ x) (h2 : x < 256) (h3 : 0 ≤ y) (h4 : y < 256) : bits .or .u64 x y = orI x y := u64_or x y h1 (by omega) h3 (by omega)
theorem i64_andI {x y : Int} (h1 : 0 ≤ x) (h2 : x < 256) (h3 : 0 ≤ y) (h4 : y < 256) : bits .and .i64 x y = andI x y := by
  obtain ⟨a, rfl⟩ := Int.eq_ofNat_of_zero_le h1
  obtain ⟨b, rfl⟩ := Int.eq_ofNat_of_zero_le h3
  have hab : a &&& b ≤ a := Nat.and_le_left
  show IntKind.i64.wrap ((BitVec.ofInt 64 (a : Int) &&& BitVec.ofInt 64 (b : Int)).toNat : Int) = _
  rw [BitVec.toNat_and, ofInt_u64 a (by omega), ofInt_u64 b (by omega), IntKind.wrap_i64]
  unfold andI
  simp only [Int.toNat_natCast]
  omega
theorem i64_orI {x y : Int} (h1 : 0 ≤ x) (h2 : x < 256) (h3 : 0 ≤ y) (h4 : y < 256) : bits .or .i64 x y = orI x y := by
  obtain ⟨a, rfl⟩ := Int.eq_ofNat_of_zero_le h1
  obtain ⟨b, rfl⟩ := Int.eq_ofNat_of_zero_le h3
  have hab : a ||| b < 2 ^ 8 := Nat.or_lt_two_pow (by omega) (by omega)
  show IntKind.i64.wrap ((BitVec.ofInt 64 (a : Int) ||| BitVec.ofInt 64 (b : Int)).toNat : Int) = _
  rw [BitVec.toNat_or, ofInt_u64 a (by omega), ofInt_u64 b (by omega), IntKind.wrap_i64]
  unfold orI
  simp only [Int.toNat_natCast]
  omega
theorem nat_lt_pow {x n : Int} (h : x < 2 ^ n.toNat) : x.toNat < 2 ^ n.toNat := by
  have : ((2 ^ n.toNat : Nat) : Int) = 2 ^ n.toNat := by simp
  have hp : 0 < 2 ^ n.toNat := Nat.two_pow_pos _
  omega
theorem andI_set {n x y : Int} (hx : setB n x = true) (_hy : setB n y = true) : setB n (andI x y) = true := by
  obtain ⟨a, b, c, d⟩ := setB_yes hx
  refine setB_mk ⟨a, b, by unfold andI; omega, ?_⟩
  have h : x.toNat &&& y.toNat ≤ x.toNat := Nat.and_le_left
  unfold andI; omega
theorem orI_set {n x y : Int} (hx : setB n x = true) (hy : setB n y = true) : setB n (orI x y) = true := by
  obtain ⟨a, b, c, d⟩ := setB_yes hx
  obtain ⟨_, _, c2, d2⟩ := setB_yes hy
  refine setB_mk ⟨a, b, by unfold orI; omega, ?_⟩
  have h : x.toNat ||| y.toNat < 2 ^ n.toNat := Nat.or_lt_two_pow (nat_lt_pow d) (nat_lt_pow d2)
  have : ((2 ^ n.toNat : Nat) : Int) = 2 ^ n.toNat := by simp
  unfold orI; omega
theorem other_set {n x : Int} (hx : setB n x = true) : setB n (otherI n x) = true := by
  obtain ⟨a, b, c, d⟩ := setB_yes hx
  refine setB_mk ⟨a, b, by unfold otherI; omega, by unfold otherI; omega⟩
theorem less_le : ∀ s : Fin 256, ∀ p : Fin 8, 0 ≤ lessI s.val p.val ∧ lessI s.val p.val ≤ s.val := by decide +kernel
theorem less_set {n x p : Int} (hx : setB n x = true) (h1 : 0 ≤ p) (h2 : p ≤ 7) : setB n (lessI x p) = true := by
  obtain ⟨a, b, c, d⟩ := setB_yes hx
  have h := all256_8 (P := fun s p => 0 ≤ lessI s p ∧ lessI s p ≤ s) less_le (setB_lt hx).1 (setB_lt hx).2 h1 h2
  exact setB_mk ⟨a, b, h.1, by have := h.2; omega⟩
end Go.Proofs.YtojfamjgghikoaaGreatDoor
