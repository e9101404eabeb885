/- Distances and balls: the program, the model, the law. -/
import Derived.Test.YtpjapoaagbdlfaaGreatDoorFLaws
import Derived.Test.YtpjapoaagbdlfaaGreatDoorLawsB
namespace Go.Proofs.YtpjapoaagbdlfaaGreatDoor
open Go.ChangeShapes Go.WideShapes Go.ChangeAt Go.RowKit Go.Proofs

/-- the points in which two sets differ. -/
def xorI (x y : Int) : Int := ((x.toNat ^^^ y.toNat : Nat) : Int)
theorem xorI_comm (x y : Int) : xorI x y = xorI y x := by unfold xorI; rw [Nat.xor_comm]
theorem xorI_lt {x y : Int} (h1 : 0 ≤ x) (h2 : x < 256) (h3 : 0 ≤ y) (h4 : y < 256) : 0 ≤ xorI x y ∧ xorI x y < 256 := by
  have h : x.toNat ^^^ y.toNat < 2 ^ 8 := Nat.xor_lt_two_pow (by omega) (by omega)
  unfold xorI; omega
theorem u64_xorI {x y : Int} (h1 : 0 ≤ x) (h2 : x < 256) (h3 : 0 ≤ y) (h4 : y < 256) : bits .xor .u64 x y = xorI x y := u64_xor x y h1 (by omega) h3 (by omega)
theorem i64_xorI {x y : Int} (h1 : 0 ≤ x) (h2 : x < 256) (h3 : 0 ≤ y) (h4 : y < 256) : bits .xor .i64 x y = xorI x y := by
  obtain ⟨a, rfl⟩ := Int.eq_ofNat_of_zero_le h1
  obtain ⟨b, rfl⟩ := Int.eq_ofNat_of_zero_le h3
  have hab : a ^^^ b < 2 ^ 8 := Nat.xor_lt_two_pow (by omega) (by omega)
  show IntKind.i64.wrap ((BitVec.ofInt 64 (a : Int) ^^^ BitVec.ofInt 64 (b : Int)).toNat : Int) = _
  rw [BitVec.toNat_xor, ofInt_u64 a (by omega), ofInt_u64 b (by omega), IntKind.wrap_i64]
  unfold xorI
  simp only [Int.toNat_natCast]
  omega
/-- the number of points in which two sets differ. -/
def dstI (x y : Int) : Int := cntI (xorI x y)
theorem dstI_comm (x y : Int) : dstI x y = dstI y x := by unfold dstI; rw [xorI_comm]
theorem cntI_bd (x : Int) : 0 ≤ cntI x ∧ cntI x ≤ 8 := by
  have := cnt_le x 8
  unfold cntI; omega
/-- a set and a radius of n points. -/
def blB (n s r : Int) : Bool := setB n s && decide (0 ≤ r ∧ r ≤ n)
/-- the ball. -/
def blL (n s r : Int) : List Int := (upI (2 ^ n.toNat)).filter (fun x => decide (dstI x s ≤ r))
theorem bl_eq (N : Nat) (s r : Int) : mkL (fun j : Nat => decide (dstI s (j : Nat) ≤ r)) N = (upI N).filter (fun x => decide (dstI x s ≤ r)) := by
  unfold mkL
  exact List.filter_congr fun z hz => by show decide (dstI s ((z.toNat : Nat) : Int) ≤ r) = _; rw [Int.toNat_of_nonneg (mem_upI.1 hz).1, dstI_comm]
theorem blL_sort (n s r : Int) : sortL ((sortL (upI (2 ^ n.toNat))).filter (fun x => decide (dstI x s ≤ r))) = blL n s r := by
  rw [up_sort, sortL_asc (asc_filter (asc_upI _) _)]; rfl
end Go.Proofs.YtpjapoaagbdlfaaGreatDoor
