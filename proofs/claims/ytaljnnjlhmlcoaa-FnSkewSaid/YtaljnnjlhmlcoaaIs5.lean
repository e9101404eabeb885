/- The weight of skew pairs: the program, the model, the law. -/
import Derived.Test.YtaljnnjlhmlcoaaIs4
import Derived.Test.YtaljnnjlhmlcoaaCk6
namespace Go.Proofs.Ytaljnnjlhmlcoaa
open Go.ChangeShapes Go.WideShapes Go.ChangeAt Go.RowKit Go.Proofs

theorem cnt_apart {x z : Int} (h : ∀ p : Nat, hasB x p = true → hasB z p = false) : ∀ k, cntTo x k + cntTo z k ≤ k
  | 0 => by simp [cntTo]
  | k + 1 => by
    have ih := cnt_apart h k
    have h1 := h k
    unfold cntTo
    rcases (by cases hasB x (k : Nat) <;> simp : hasB x (k : Nat) = true ∨ hasB x (k : Nat) = false) with hx | hx
    · rw [h1 hx, hx]; simp; omega
    · rw [hx]
      rcases (by cases hasB z (k : Nat) <;> simp : hasB z (k : Nat) = true ∨ hasB z (k : Nat) = false) with hz | hz
      · rw [hz]; simp; omega
      · rw [hz]; simp; omega
theorem apart_has {x z : Int} (h : meetB x z = false) (p : Nat) (hx : hasB x p = true) : hasB z p = false := by
  unfold meetB at h
  have h2 : andI x z = 0 := by simpa using h
  unfold andI at h2
  have h3 : x.toNat &&& z.toNat = 0 := by omega
  have h4 : (x.toNat &&& z.toNat).testBit (p : Int).toNat = false := by rw [h3]; exact Nat.zero_testBit _
  rw [Nat.testBit_and] at h4
  unfold hasB at hx ⊢
  rw [hx, Bool.true_and] at h4
  exact h4
theorem cnt_sum {x z : Int} (h : meetB x z = false) : cntTo x 8 + cntTo z 8 ≤ 8 := cnt_apart (apart_has h) 8
theorem nodup_len {xs : List Int} (h : ∀ i j, i < j → j < xs.length → xs.getD i 0 ≠ xs.getD j 0) : ∀ k, k ≤ xs.length → (sortL (xs.take k)).length = k
  | 0, _ => rfl
  | k + 1, hk => by
    have ih := nodup_len h k (by omega)
    have hlt : k < xs.length := by omega
    rw [sortL_take hlt, ins_len (memB_mk0 fun hm => ?_), ih]
    obtain ⟨i, hi, e⟩ := List.mem_iff_getElem.1 (mem_sortL.1 hm)
    rw [List.length_take] at hi
    rw [List.getElem_take] at e
    refine h i k (by omega) hlt ?_
    rw [← e]
    simp [List.getD, show i < xs.length by omega]
theorem skw_parts {n : Int} {xs zs : List Int} (h : skwB n xs zs = true) : 1 ≤ n ∧ n ≤ 8 ∧ xs.length = zs.length ∧ (∀ z ∈ xs, 0 ≤ z ∧ z < 256) ∧ (∀ z ∈ zs, 0 ≤ z ∧ z < 256) ∧ SkTo xs zs xs.length := by
  unfold skwB at h
  simp only [Bool.and_eq_true] at h
  obtain ⟨⟨⟨⟨h1, h2⟩, h3⟩, h4⟩, h5⟩ := h
  obtain ⟨n1, n2⟩ := ptsB_yes h1
  exact ⟨n1, n2, of_decide_eq_true h2, fun z hz => setB_lt (allB_yes h3 z hz), fun z hz => setB_lt (allB_yes h4 z hz), skB_out h5⟩
theorem sk_pair {xs zs : List Int} {k : Nat} {x z : Int} (h : SkTo xs zs xs.length) (hl : xs.length = zs.length) (hk : k < xs.length) (hx : xs.getD k 0 = x) (hz : zs.getD k 0 = z) : meetB x z = false := by
  have := h k hk k (by omega)
  rw [hx, hz] at this
  simpa using this
theorem skew_len {n : Int} {xs zs : List Int} (h : skwB n xs zs = true) : xs.length ≤ 256 := by
  obtain ⟨_, _, hl, hz, _, hs⟩ := skw_parts h
  have h1 := nodup_len (xs := xs) (fun i j hij hj e => by
    have a := hs i (by omega) j (by omega)
    have b := hs j hj j (by omega)
    rw [e, b] at a
    simp at a
    omega) xs.length (Nat.le_refl _)
  rw [List.take_length] at h1
  have := len_small hz
  omega
/-- the weight of the first k pairs. -/
def pW (xs zs : List Int) : Nat → Nat
  | 0 => 0
  | k + 1 => pW xs zs k + 840 / chN (cntTo (xs.getD k 0) 8 + cntTo (zs.getD k 0) 8) (cntTo (xs.getD k 0) 8)
theorem pW_le (xs zs : List Int) : ∀ k, pW xs zs k ≤ 840 * k
  | 0 => by simp [pW]
  | k + 1 => by
    have ih := pW_le xs zs k
    have := Nat.div_le_self 840 (chN (cntTo (xs.getD k 0) 8 + cntTo (zs.getD k 0) 8) (cntTo (xs.getD k 0) 8))
    unfold pW; omega
/-- what PairsWeight says. -/
noncomputable def pwV (n : Int) (xs zs : List Int) : Int := if skwB n xs zs then ((pW xs zs xs.length : Nat) : Int) else 0
noncomputable def pwD (n : Int) (xs zs : List Int) : Int := if skwB n xs zs then 840 else 0
theorem ret_three {a b : Int} {c : Bool} {a' b' : Int} {c' : Bool} (h1 : a = a') (h2 : b = b') (h3 : c = c') : Ending.returned (.tuple #[.int .i64 a, .int .i64 b, .bool c]) = .returned (.tuple #[.int .i64 a', .int .i64 b', .bool c']) := by rw [h1, h2, h3]
end Go.Proofs.Ytaljnnjlhmlcoaa
