/- Weights: plain mathematics. -/
import Derived.Test.YtilkcfikmlkeaaaFams13
namespace Go.Proofs.Ytilkcfikmlkeaaa

/-- ways to choose, as a natural number. -/
def chN (n k : Nat) : Nat := (chI (n : Nat) (k : Nat)).toNat
/-- whether the share of size k is exact over b. -/
def exK (n b k : Nat) : Bool := decide (b / chN n k / Nat.gcd b (b / chN n k) = 1 / Nat.gcd (chN n k) 1 ∧ b / Nat.gcd b (b / chN n k) = chN n k / Nat.gcd (chN n k) 1)
def exA (n b : Nat) : Nat → Bool
  | 0 => true
  | k + 1 => exA n b k && exK n b k
/-- the common bottom. -/
def cbN : Nat → Nat
  | 1 => 1 | 2 => 2 | 3 => 3 | 4 => 12 | 5 => 10 | 6 => 60 | 7 => 105 | 8 => 280 | _ => 1
theorem cb_bd (n : Nat) : 1 ≤ cbN n ∧ cbN n ≤ 280 := by
  unfold cbN
  split <;> omega
theorem cb_less : ∀ n : Fin 9, n.val ≠ 0 → ∀ b : Fin 280, 1 ≤ b.val → b.val < cbN n.val → exA n.val b.val (n.val + 1) = false := by decide +kernel
theorem cb_this : ∀ n : Fin 9, n.val ≠ 0 → exA n.val (cbN n.val) (n.val + 1) = true := by decide +kernel
theorem ch_bd : ∀ n : Fin 9, ∀ k : Fin 9, k.val ≤ n.val → 1 ≤ chN n.val k.val ∧ chN n.val k.val ≤ 70 := by decide +kernel
theorem ch_N {n k : Nat} (h1 : n ≤ 8) (h2 : k ≤ n) : chI (n : Nat) (k : Nat) = (chN n k : Nat) ∧ 1 ≤ chN n k ∧ chN n k ≤ 70 := by
  have := ch_bd ⟨n, by omega⟩ ⟨k, by omega⟩ h2
  refine ⟨?_, this⟩
  unfold chN at *
  dsimp only at this
  omega
/-- the common bottom as the model gets it. -/
def btN (n : Nat) : Nat → Nat
  | 0 => 1
  | k + 1 => btN n k / Nat.gcd (btN n k) (chN n k) * chN n k
theorem bt_bd : ∀ n : Fin 9, ∀ k : Fin 10, k.val ≤ n.val + 1 → 1 ≤ btN n.val k.val ∧ btN n.val k.val ≤ 280 := by decide +kernel
theorem bt_end : ∀ n : Fin 9, n.val ≠ 0 → btN n.val (n.val + 1) = cbN n.val := by decide +kernel
theorem cnt_le_n : ∀ n : Fin 9, ∀ x : Fin 256, x.val < 2 ^ n.val → cntI (x.val : Nat) ≤ (n.val : Nat) := by decide +kernel
theorem gcd_step (a b : Nat) : Nat.gcd b (a % b) = Nat.gcd a b := by rw [Nat.gcd_comm a b, Nat.gcd_rec b a, Nat.gcd_comm]
/-- the sum of the shares of some sets over the common bottom. -/
def wS (n : Nat) (xs : List Int) : Nat := (xs.map (fun x => cbN n / chN n (cntI x).toNat)).sum
theorem wS_snoc (n : Nat) (xs : List Int) (x : Int) : wS n (xs ++ [x]) = wS n xs + cbN n / chN n (cntI x).toNat := by unfold wS; rw [List.map_append, List.sum_append]; simp
theorem wS_le (n : Nat) : ∀ xs : List Int, wS n xs ≤ 280 * xs.length
  | [] => by simp [wS]
  | x :: xs => by
    have h := wS_le n xs
    have h1 : cbN n / chN n (cntI x).toNat ≤ cbN n := Nat.div_le_self _ _
    have h2 := (cb_bd n).2
    unfold wS at *
    rw [List.map_cons, List.sum_cons, List.length_cons]
    omega
theorem wS_take {n k : Nat} {xs : List Int} {x : Int} (hk : k < xs.length) (hx : xs.getD k 0 = x) : wS n (xs.take (k + 1)) = wS n (xs.take k) + cbN n / chN n (cntI x).toNat := by rw [take_snoc hk, hx, wS_snoc]
end Go.Proofs.Ytilkcfikmlkeaaa
