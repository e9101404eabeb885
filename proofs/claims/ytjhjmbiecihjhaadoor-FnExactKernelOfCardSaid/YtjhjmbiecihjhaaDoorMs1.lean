/- A family has at least as many differences as sets (by the theorem of the four functions). Plain mathematics. -/
import Derived.Test.YtjhjmbiecihjhaaDoorCo1
namespace Go.Proofs.YtjhjmbiecihjhaaDoor
open Go.ChangeShapes Go.WideShapes Go.ChangeAt Go.RowKit Go.Proofs

/-- the points of x that y does not have. -/
def difI (x y : Int) : Int := ((x.toNat ^^^ (x.toNat &&& y.toNat) : Nat) : Int)
theorem u64_difI {x y : Int} (h1 : 0 ≤ x) (h2 : x < 256) (h3 : 0 ≤ y) (h4 : y < 256) : bits .andNot .u64 x y = difI x y := by
  obtain ⟨a, rfl⟩ := Int.eq_ofNat_of_zero_le h1
  obtain ⟨b, rfl⟩ := Int.eq_ofNat_of_zero_le h3
  have hs := xor_small (a := a) (b := b) (by omega)
  show IntKind.u64.wrap ((BitVec.ofInt 64 (a : Int) &&& ~~~BitVec.ofInt 64 (b : Int)).toNat : Int) = _
  rw [and_not a b (by omega) (by omega), IntKind.wrap_u64]
  unfold difI
  simp only [Int.toNat_natCast]
  omega
theorem i64_difI {x y : Int} (h1 : 0 ≤ x) (h2 : x < 256) (h3 : 0 ≤ y) (h4 : y < 256) : bits .andNot .i64 x y = difI x y := by
  obtain ⟨a, rfl⟩ := Int.eq_ofNat_of_zero_le h1
  obtain ⟨b, rfl⟩ := Int.eq_ofNat_of_zero_le h3
  have hs := xor_small (a := a) (b := b) (by omega)
  show IntKind.i64.wrap ((BitVec.ofInt 64 (a : Int) &&& ~~~BitVec.ofInt 64 (b : Int)).toNat : Int) = _
  rw [and_not a b (by omega) (by omega), IntKind.wrap_i64]
  unfold difI
  simp only [Int.toNat_natCast]
  omega
theorem difI_set {n x y : Int} (hx : setB n x = true) (_hy : setB n y = true) : setB n (difI x y) = true := by
  obtain ⟨a, b, c, d⟩ := setB_yes hx
  refine setB_mk ⟨a, b, by unfold difI; omega, ?_⟩
  have h : x.toNat ^^^ (x.toNat &&& y.toNat) < 2 ^ n.toNat := Nat.xor_lt_two_pow (nat_lt_pow d) (Nat.lt_of_le_of_lt Nat.and_le_left (nat_lt_pow d))
  have : ((2 ^ n.toNat : Nat) : Int) = 2 ^ n.toNat := by simp
  unfold difI; omega
theorem difI_self (x : Int) : difI x x = 0 := by unfold difI; rw [Nat.and_self, Nat.xor_self]; rfl

/-- the sum over all numbers below 2 ^ n. -/
def sm (n : Nat) (f : Nat → Nat) : Nat := ((List.range (2 ^ n)).map f).sum
theorem sum_two (f g : Nat → Nat) : ∀ l : List Nat, (l.map (fun x => f x + g x)).sum = (l.map f).sum + (l.map g).sum
  | [] => rfl
  | x :: l => by simp only [List.map_cons, List.sum_cons, sum_two f g l]; omega
theorem sm_succ (n : Nat) (f : Nat → Nat) : sm (n + 1) f = sm n (fun x => f x + f (x + 2 ^ n)) := by
  unfold sm
  rw [sum_two f (fun x => f (x + 2 ^ n)), Nat.pow_succ, Nat.mul_two, List.range_add, List.map_append, List.sum_append, List.map_map]
  have : (f ∘ fun x => 2 ^ n + x) = fun x => f (x + 2 ^ n) := by funext x; simp [Nat.add_comm]
  rw [this]
theorem two_sum {p q x y : Nat} (h1 : p ≤ x) (h2 : q ≤ x) (h3 : p * q ≤ x * y) : p + q ≤ x + y := by
  rcases Nat.eq_zero_or_pos x with h | h
  · omega
  · obtain ⟨u, hu⟩ := Nat.exists_eq_add_of_le h1
    obtain ⟨v, hv⟩ := Nat.exists_eq_add_of_le h2
    refine Nat.le_of_mul_le_mul_left ?_ h
    have e1 : x * x + p * q = x * p + x * q + u * v := by
      have a1 : x * x = (p + u) * (q + v) := by rw [← hu, ← hv]
      have a2 : x * p = (q + v) * p := by rw [← hv]
      have a3 : x * q = (p + u) * q := by rw [← hu]
      rw [a1, a2, a3]
      simp only [Nat.add_mul, Nat.mul_add]
      rw [Nat.mul_comm q p, Nat.mul_comm v p]
      omega
    rw [Nat.mul_add, Nat.mul_add]
    omega
theorem four_one {a0 a1 b0 b1 c0 c1 d0 d1 : Nat} (h00 : a0 * b0 ≤ c0 * d0) (h01 : a0 * b1 ≤ c1 * d0) (h10 : a1 * b0 ≤ c1 * d0) (h11 : a1 * b1 ≤ c1 * d1) : (a0 + a1) * (b0 + b1) ≤ (c0 + c1) * (d0 + d1) := by
  have h := two_sum (y := c0 * d1) h01 h10 (by
    have e1 : a0 * b1 * (a1 * b0) = a0 * b0 * (a1 * b1) := by
      rw [Nat.mul_mul_mul_comm, Nat.mul_comm b1 b0, Nat.mul_mul_mul_comm]
    have e2 : c1 * d0 * (c0 * d1) = c0 * d0 * (c1 * d1) := by
      rw [Nat.mul_mul_mul_comm, Nat.mul_comm c1 c0, Nat.mul_mul_mul_comm]
    rw [e1, e2]
    exact Nat.mul_le_mul h00 h11)
  simp only [Nat.add_mul, Nat.mul_add]
  omega
theorem bit_top {x n : Nat} (h : x < 2 ^ n) : x + 2 ^ n = x ||| 2 ^ n := by
  have := Nat.two_pow_add_eq_or_of_lt h 1
  rw [Nat.mul_one] at this
  rw [Nat.add_comm, this, Nat.or_comm]
theorem top_out {x n : Nat} (h : x < 2 ^ n) : x &&& 2 ^ n = 0 := Nat.eq_of_testBit_eq fun i => by
  rw [Nat.testBit_and, Nat.zero_testBit, Nat.testBit_two_pow]
  by_cases hi : n = i
  · subst hi; rw [Nat.testBit_lt_two_pow h]; rfl
  · simp [hi]
theorem four (n : Nat) : ∀ α β γ δ : Nat → Nat, (∀ x y, x < 2 ^ n → y < 2 ^ n → α x * β y ≤ γ (x ||| y) * δ (x &&& y)) → sm n α * sm n β ≤ sm n γ * sm n δ := by
  induction n with
  | zero =>
    intro α β γ δ h
    have := h 0 0 (by simp) (by simp)
    simpa [sm] using this
  | succ n ih =>
    intro α β γ δ h
    rw [sm_succ, sm_succ, sm_succ, sm_succ]
    refine ih _ _ _ _ fun x y hx hy => ?_
    have hp : (2 : Nat) ^ (n + 1) = 2 ^ n + 2 ^ n := by rw [Nat.pow_succ]; omega
    have ho : x ||| y < 2 ^ n := Nat.or_lt_two_pow hx hy
    have ha : x &&& y < 2 ^ n := Nat.lt_of_le_of_lt Nat.and_le_left hx
    have hyx := top_out hy
    have hxx := top_out hx
    have h00 := h x y (by omega) (by omega)
    have h01 := h x (y + 2 ^ n) (by omega) (by omega)
    have h10 := h (x + 2 ^ n) y (by omega) (by omega)
    have h11 := h (x + 2 ^ n) (y + 2 ^ n) (by omega) (by omega)
    have f01 : x ||| (y + 2 ^ n) = (x ||| y) + 2 ^ n := by rw [bit_top hy, bit_top ho, Nat.or_assoc]
    have f10 : (x + 2 ^ n) ||| y = (x ||| y) + 2 ^ n := by rw [bit_top hx, bit_top ho, Nat.or_assoc, Nat.or_comm (2 ^ n) y, ← Nat.or_assoc]
    have f11 : (x + 2 ^ n) ||| (y + 2 ^ n) = (x ||| y) + 2 ^ n := by
      rw [bit_top hx, bit_top hy, bit_top ho, Nat.or_assoc, ← Nat.or_assoc (2 ^ n), Nat.or_comm (2 ^ n) y, Nat.or_assoc y, Nat.or_self, ← Nat.or_assoc]
    have g01 : x &&& (y + 2 ^ n) = x &&& y := by rw [bit_top hy, Nat.and_or_distrib_left, hxx, Nat.or_zero]
    have g10 : (x + 2 ^ n) &&& y = x &&& y := by rw [bit_top hx, Nat.and_comm, Nat.and_or_distrib_left, hyx, Nat.or_zero, Nat.and_comm]
    have g11 : (x + 2 ^ n) &&& (y + 2 ^ n) = (x &&& y) + 2 ^ n := by
      rw [bit_top hx, bit_top hy, bit_top ha, Nat.and_or_distrib_left, Nat.and_comm (x ||| 2 ^ n) y, Nat.and_or_distrib_left, hyx, Nat.or_zero, Nat.and_comm y x, Nat.and_comm (x ||| 2 ^ n), Nat.and_or_distrib_left, Nat.and_self, Nat.and_comm (2 ^ n) x, hxx, Nat.zero_or]
    rw [f01, g01] at h01
    rw [f10, g10] at h10
    rw [f11, g11] at h11
    exact four_one h00 h01 h10 h11
/-- 1 for what stands in the list. -/
def indN (L : List Int) (x : Nat) : Nat := if memB (x : Int) L then 1 else 0
theorem sum_ind (L : List Int) : ∀ l : List Nat, (l.map (indN L)).sum = ((l.map (fun x : Nat => (x : Int))).filter (fun z => memB z L)).length
  | [] => rfl
  | x :: l => by
    rw [List.map_cons, List.sum_cons, List.map_cons, List.filter_cons, sum_ind L l]
    unfold indN
    cases memB (x : Int) L <;> simp <;> omega
theorem sm_ind {N : Nat} {L : List Int} (hA : Asc L) (h : ∀ z ∈ L, 0 ≤ z ∧ z < (2 ^ N : Nat)) : sm N (indN L) = L.length := by
  unfold sm
  rw [sum_ind]
  have : (upI (2 ^ N)).filter (fun z => memB z L) = L := asc_ext (asc_filter (asc_upI _) _) hA (fun z => by
    rw [List.mem_filter, mem_upI]
    exact ⟨fun hz => memB_yes hz.2, fun hz => ⟨h z hz, memB_mk hz⟩⟩)
  exact congrArg List.length this
theorem comp_and {N x y : Nat} (hx : x < 2 ^ N) (_hy : y < 2 ^ N) : x &&& y = x ^^^ (x &&& (2 ^ N - 1 - y)) := Nat.eq_of_testBit_eq fun i => by
  have e : 2 ^ N - 1 - y = 2 ^ N - (y + 1) := by omega
  rw [e]
  simp only [Nat.testBit_xor, Nat.testBit_and, Nat.testBit_two_pow_sub_succ _hy]
  by_cases hi : i < N
  · simp only [hi, decide_true, Bool.true_and]
    cases x.testBit i <;> cases y.testBit i <;> rfl
  · have : x.testBit i = false := Nat.testBit_lt_two_pow (Nat.lt_of_lt_of_le hx (Nat.pow_le_pow_right (by omega) (by omega)))
    simp [this]
theorem comp_or {N x y : Nat} (hx : x < 2 ^ N) (hy : y < 2 ^ N) : 2 ^ N - 1 - (x ||| y) = (2 ^ N - 1 - y) ^^^ ((2 ^ N - 1 - y) &&& x) := Nat.eq_of_testBit_eq fun i => by
  have ho : x ||| y < 2 ^ N := Nat.or_lt_two_pow hx hy
  have e : 2 ^ N - 1 - y = 2 ^ N - (y + 1) := by omega
  have e2 : 2 ^ N - 1 - (x ||| y) = 2 ^ N - ((x ||| y) + 1) := by omega
  rw [e, e2]
  simp only [Nat.testBit_xor, Nat.testBit_and, Nat.testBit_two_pow_sub_succ hy, Nat.testBit_two_pow_sub_succ ho, Nat.testBit_or]
  cases decide (i < N) <;> cases x.testBit i <;> cases y.testBit i <;> rfl
theorem other_other {n x : Int} : otherI n (otherI n x) = x := by unfold otherI; omega
theorem len_other {n : Int} {L : List Int} (hA : Asc L) : (sortL (L.map (otherI n))).length = L.length := by
  have h : sortL (L.map (otherI n)) = (L.map (otherI n)).reverse := sortL_eq (by
    unfold Asc
    rw [List.pairwise_reverse, List.pairwise_map]
    exact hA.imp (fun h => by unfold otherI; omega)) (fun z => by rw [List.mem_reverse])
  rw [h, List.length_reverse, List.length_map]
/-- the family of all differences. -/
def dfL (xs : List Int) : List Int := sortL (pairsTo difI xs xs xs.length)
theorem mem_dfL {xs : List Int} {z : Int} : z ∈ dfL xs ↔ ∃ a ∈ xs, ∃ b ∈ xs, z = difI a b := by
  unfold dfL
  rw [mem_sortL]
  constructor
  · exact pairs_mem
  · rintro ⟨a, ha, b, hb, rfl⟩
    unfold pairsTo
    rw [List.take_length]
    exact List.mem_flatMap.2 ⟨a, ha, List.mem_map.2 ⟨b, hb, rfl⟩⟩
theorem many_differences {n : Int} {xs : List Int} (h : famB n xs = true) : xs.length ≤ (dfL xs).length := by
  obtain ⟨n1, n2, hs⟩ := famB_all h
  have hA := famB_asc h
  obtain ⟨N, rfl⟩ := Int.eq_ofNat_of_zero_le (show 0 ≤ n by omega)
  have hM : ((2 ^ N : Nat) : Int) = 2 ^ N := by simp
  have hb : ∀ z, setB (N : Int) z = true → 0 ≤ z ∧ z < (2 ^ N : Nat) := fun z hz => by
    obtain ⟨_, _, a, b⟩ := setB_yes hz
    rw [Int.toNat_natCast] at b
    exact ⟨a, by rw [hM]; exact b⟩
  have hD : ∀ z ∈ dfL xs, setB (N : Int) z = true := fun z hz => by
    obtain ⟨a, ha, b, hb, rfl⟩ := mem_dfL.1 hz
    exact difI_set (hs a ha) (hs b hb)
  have ho : ∀ (L : List Int), (∀ z ∈ L, setB (N : Int) z = true) → ∀ z ∈ sortL (L.map (otherI N)), setB (N : Int) z = true := fun L hL z hz => by
    obtain ⟨y, hy, rfl⟩ := List.mem_map.1 (mem_sortL.1 hz)
    exact other_set (hL y hy)
  have hk := four N (indN xs) (indN (sortL (xs.map (otherI N)))) (indN (sortL ((dfL xs).map (otherI N)))) (indN (dfL xs)) (fun x y hx hy => by
    unfold indN
    cases h1 : memB (x : Int) xs with
    | false => simp
    | true =>
      cases h2 : memB (y : Int) (sortL (xs.map (otherI N))) with
      | false => simp
      | true =>
        obtain ⟨b, hb1, hb2⟩ := List.mem_map.1 (mem_sortL.1 (memB_yes h2))
        have hb3 := hb b (hs b hb1)
        obtain ⟨c, rfl⟩ := Int.eq_ofNat_of_zero_le hb3.1
        have hc : c = 2 ^ N - 1 - y := by unfold otherI at hb2; rw [Int.toNat_natCast] at hb2; omega
        have g1 : ((x &&& y : Nat) : Int) ∈ dfL xs := mem_dfL.2 ⟨x, memB_yes h1, c, hb1, by
          unfold difI; rw [Int.toNat_natCast, Int.toNat_natCast, hc, ← comp_and hx hy]⟩
        have g2 : ((x ||| y : Nat) : Int) ∈ sortL ((dfL xs).map (otherI N)) := mem_sortL.2 (List.mem_map.2 ⟨_, mem_dfL.2 ⟨c, hb1, x, memB_yes h1, rfl⟩, by
          unfold difI; rw [Int.toNat_natCast, Int.toNat_natCast, hc, ← comp_or hx hy]
          have ho : x ||| y < 2 ^ N := Nat.or_lt_two_pow hx hy
          unfold otherI; rw [Int.toNat_natCast]; omega⟩)
        rw [memB_mk g1, memB_mk g2]
        simp)
  have hAD : Asc (dfL xs) := asc_sortL _
  rw [sm_ind hA (fun z hz => hb z (hs z hz)), sm_ind (asc_sortL _) (fun z hz => hb z (ho xs hs z hz)), sm_ind (asc_sortL _) (fun z hz => hb z (ho (dfL xs) hD z hz)), sm_ind hAD (fun z hz => hb z (hD z hz)), len_other hA, len_other hAD] at hk
  exact Nat.mul_self_le_mul_self_iff.1 hk
end Go.Proofs.YtjhjmbiecihjhaaDoor
