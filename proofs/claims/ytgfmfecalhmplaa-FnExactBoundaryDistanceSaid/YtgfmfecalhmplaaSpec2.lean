/- The model's marks and lists of marked sets. -/
import Derived.Test.YtgfmfecalhmplaaSpec1
namespace Go.Proofs.Ytgfmfecalhmplaa
open Go.ChangeShapes Go.WideShapes Go.ChangeAt Go.RowKit Go.Proofs

theorem Try.boolInfo : (Try.prog.info? 4).map (fun i => (i.zero, i.size, i.bytes)) = some (some (.bool false), 1, 1) := by kernel_rfl
/-- block b holds N marks. -/
def MarkRow (w : World) (b N : Nat) (p : Nat → Bool) : Prop := w.rowIs b 4 N (fun j => .bool (p j))
theorem MarkRow.below {w w' : World} {b N B : Nat} {p : Nat → Bool} (h : MarkRow w b N p) (hb : Below B w w') (hB : b < B) : MarkRow w' b N p := World.rowIs.of_block h (hb.block b hB)
theorem MarkRow.drewN {w : World} {b N : Nat} {p : Nat → Bool} (h : MarkRow w b N p) (q : Nat) : MarkRow (w.drewN q) b N p := h
theorem MarkRow.put {w : World} {b N : Nat} {p p' : Nat → Bool} (h : MarkRow w b N p) (i : Nat) (hp : ∀ j, j < N → p' j = if j = i then true else p j) : MarkRow (w.setCell ⟨b, i, none⟩ (.bool true)) b N p' :=
  (World.rowIs.set h i (.bool true)).congr fun j hj => by
    rw [hp j hj]
    by_cases e : j = i
    · rw [if_pos e, if_pos e]
    · rw [if_neg e, if_neg e]
/-- what a function that makes marks leaves. -/
def MarksPost (N : Nat) (p : Nat → Bool) (w : World) (e : Ending) (w' : World) : Prop := ∃ b, e = .returned (.slice (some ⟨b, 0, none⟩) N N) ∧ w.heap.size ≤ b ∧ b < w'.heap.size ∧ MarkRow w' b N p ∧ Below w.heap.size w w'
theorem mem_take {xs : List Int} {k : Nat} {x : Int} (hk : k < xs.length) (hx : xs.getD k 0 = x) (z : Int) : memB z (xs.take (k + 1)) = if z = x then true else memB z (xs.take k) := by
  rw [take_snoc hk, hx]
  unfold memB
  by_cases e : z = x
  · rw [if_pos e]; exact decide_eq_true (by rw [e]; simp)
  · rw [if_neg e]; exact decide_eq_decide.2 (by simp [e])
theorem set_nat {n x : Int} (h : setB n x = true) : ∃ t : Nat, x = t ∧ t < 2 ^ n.toNat := by
  obtain ⟨_, _, c, d⟩ := setB_yes h
  refine ⟨x.toNat, by omega, ?_⟩
  have : ((2 ^ n.toNat : Nat) : Int) = 2 ^ n.toNat := by simp
  omega
theorem pow_nat {n : Int} (n1 : 1 ≤ n) (n2 : n ≤ 8) : (2 ^ n.toNat : Nat) ≤ 256 ∧ 2 ≤ (2 ^ n.toNat : Nat) ∧ wrap64 (2 ^ n.toNat) = ((2 ^ n.toNat : Nat) : Int) := by
  rcases n8 n1 n2 with rfl | rfl | rfl | rfl | rfl | rfl | rfl | rfl <;> decide +kernel
theorem own_empty0 (w : World) (B S g c : Nat) : Own w B S (.slice (some ⟨g, 0, none⟩) 0 c) [] := ⟨_, c, rfl, fun h => by simp at h⟩
/-- what a function that returns a list of its own leaves. -/
def IntsPost (L : List Int) (w : World) (e : Ending) (w' : World) : Prop := ∃ v, e = .returned v ∧ OwnL w' w.heap.size v L ∧ Below w.heap.size w w'
theorem OwnL.form {w : World} {B : Nat} {v : Value} {xs : List Int} (h : OwnL w B v xs) : ∃ a c, v = .slice a xs.length c := by
  obtain ⟨a, c, e, _⟩ := h.own
  exact ⟨a, c, e⟩
/-- the marked numbers below m. -/
def mkL (p : Nat → Bool) (m : Nat) : List Int := (upI m).filter (fun z => p z.toNat)
theorem mkL_succ (p : Nat → Bool) (m : Nat) : mkL p (m + 1) = mkL p m ++ (if p m then [(m : Int)] else []) := by unfold mkL; rw [upI_succ, filter_snoc]; rfl
theorem mkL_len (p : Nat → Bool) (m : Nat) : (mkL p m).length ≤ m := by unfold mkL; have := List.length_filter_le (fun z : Int => p z.toNat) (upI m); rw [upI_len] at this; exact this
theorem mkL_asc (p : Nat → Bool) (m : Nat) : Asc (mkL p m) := asc_filter (asc_upI m) _
theorem mem_mkL {p : Nat → Bool} {m : Nat} {z : Int} : z ∈ mkL p m ↔ (0 ≤ z ∧ z < m) ∧ p z.toNat = true := by unfold mkL; rw [List.mem_filter, mem_upI]
end Go.Proofs.Ytgfmfecalhmplaa
