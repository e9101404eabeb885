/- Texts merged: XCo1 XMs1 XCo2 XUnc XCo3. -/
import Derived.Test.YtjhjmbiecihjhaaDoorAc1
import Derived.Test.YtjhjmbiecihjhaaDoorCw2
import Derived.Test.YtjhjmbiecihjhaaDoorFams13
namespace Go.Proofs.YtjhjmbiecihjhaaDoor
section
/- Families closed under unions or common parts: the least closed family that has all sets of a list. Plain mathematics. -/
open Go.ChangeShapes Go.WideShapes Go.ChangeAt Go.RowKit Go.Proofs

/-- op makes a set of two sets, the same one of the same two, in whatever order. -/
structure Semi (op : Int → Int → Int) : Prop where
  pos : ∀ x y, 0 ≤ op x y
  idem : ∀ x, 0 ≤ x → op x x = x
  comm : ∀ x y, op x y = op y x
  assoc : ∀ x y z, op (op x y) z = op x (op y z)
  keep : ∀ n x y, setB n x = true → setB n y = true → setB n (op x y) = true
theorem semi_or : Semi orI where
  pos x y := by unfold orI; omega
  idem x h := by unfold orI; rw [Nat.or_self]; omega
  comm x y := by unfold orI; rw [Nat.or_comm]
  assoc x y z := by unfold orI; simp only [Int.toNat_natCast]; rw [Nat.or_assoc]
  keep n x y h1 h2 := orI_set h1 h2
theorem semi_and : Semi andI where
  pos x y := by unfold andI; omega
  idem x h := by unfold andI; rw [Nat.and_self]; omega
  comm x y := by unfold andI; rw [Nat.and_comm]
  assoc x y z := by unfold andI; simp only [Int.toNat_natCast]; rw [Nat.and_assoc]
  keep n x y h1 h2 := andI_set h1 h2
/-- what putting one set into a closed family leaves. -/
def addL (op : Int → Int → Int) (C : List Int) (s : Int) : List Int := insI s (C.foldl (fun a x => insI (op x s) a) C)
/-- the least closed family that has all sets of a list. -/
def ucL (op : Int → Int → Int) (xs : List Int) : List Int := xs.foldl (addL op) []
theorem mem_foldI (f : Int → Int) : ∀ (xs a : List Int) (z : Int), z ∈ xs.foldl (fun a x => insI (f x) a) a ↔ z ∈ a ∨ ∃ x ∈ xs, z = f x
  | [], a, z => by simp
  | x :: xs, a, z => by
    rw [List.foldl_cons, mem_foldI f xs, mem_insI]
    constructor
    · rintro ((h | h) | ⟨y, hy, h⟩)
      · exact .inr ⟨x, by simp, h⟩
      · exact .inl h
      · exact .inr ⟨y, by simp [hy], h⟩
    · rintro (h | ⟨y, hy, h⟩)
      · exact .inl (.inr h)
      · rcases List.mem_cons.1 hy with rfl | hy
        · exact .inl (.inl h)
        · exact .inr ⟨y, hy, h⟩
theorem asc_foldI (f : Int → Int) : ∀ (xs a : List Int), Asc a → Asc (xs.foldl (fun a x => insI (f x) a) a)
  | [], _, h => h
  | x :: xs, a, h => by rw [List.foldl_cons]; exact asc_foldI f xs _ (asc_insI h)
theorem mem_addL {op : Int → Int → Int} {C : List Int} {s z : Int} : z ∈ addL op C s ↔ z = s ∨ z ∈ C ∨ ∃ x ∈ C, z = op x s := by
  unfold addL
  rw [mem_insI, mem_foldI]
theorem asc_addL {op : Int → Int → Int} {C : List Int} {s : Int} (h : Asc C) : Asc (addL op C s) := asc_insI (asc_foldI (fun x => op x s) C C h)
theorem ucL_snoc (op : Int → Int → Int) (xs : List Int) (s : Int) : ucL op (xs ++ [s]) = addL op (ucL op xs) s := by unfold ucL; rw [List.foldl_append]; rfl
theorem ucL_take {op : Int → Int → Int} {xs : List Int} {k : Nat} (h : k < xs.length) : ucL op (xs.take (k + 1)) = addL op (ucL op (xs.take k)) (xs.getD k 0) := by rw [take_snoc h, ucL_snoc]
theorem asc_foldA (op : Int → Int → Int) : ∀ (xs C : List Int), Asc C → Asc (xs.foldl (addL op) C)
  | [], _, h => h
  | x :: xs, C, h => by rw [List.foldl_cons]; exact asc_foldA op xs _ (asc_addL h)
theorem asc_ucL (op : Int → Int → Int) (xs : List Int) : Asc (ucL op xs) := asc_foldA op xs [] List.Pairwise.nil
/-- with each two sets the family has what op makes of them. -/
def ClosedU (op : Int → Int → Int) (C : List Int) : Prop := ∀ x ∈ C, ∀ y ∈ C, op x y ∈ C
theorem addL_closed {op : Int → Int → Int} (hs : Semi op) {C : List Int} {s : Int} (hC : ClosedU op C) (h1 : 0 ≤ s) : ClosedU op (addL op C s) := by
  have e1 : ∀ c, op (op c s) s = op c s := fun c => by rw [hs.assoc, hs.idem s h1]
  intro x hx y hy
  rw [mem_addL] at hx hy ⊢
  rcases hx with rfl | hx | ⟨c, hc, rfl⟩ <;> rcases hy with rfl | hy | ⟨d, hd, rfl⟩
  · exact .inl (hs.idem _ h1)
  · exact .inr (.inr ⟨y, hy, hs.comm _ _⟩)
  · exact .inr (.inr ⟨d, hd, by rw [hs.comm, e1]⟩)
  · exact .inr (.inr ⟨x, hx, rfl⟩)
  · exact .inr (.inl (hC x hx y hy))
  · exact .inr (.inr ⟨op x d, hC x hx d hd, by rw [hs.assoc]⟩)
  · exact .inr (.inr ⟨c, hc, e1 c⟩)
  · exact .inr (.inr ⟨op c y, hC c hc y hy, by rw [hs.assoc, hs.comm s y, hs.assoc]⟩)
  · exact .inr (.inr ⟨op c d, hC c hc d hd, by rw [hs.assoc c s, hs.comm s (op d s), e1, hs.assoc]⟩)
theorem fold_closed {op : Int → Int → Int} (hs : Semi op) : ∀ (xs C : List Int), ClosedU op C → (∀ z ∈ xs, 0 ≤ z) → ClosedU op (xs.foldl (addL op) C) ∧ (∀ z ∈ C, z ∈ xs.foldl (addL op) C) ∧ (∀ z ∈ xs, z ∈ xs.foldl (addL op) C)
  | [], C, h, _ => ⟨h, fun _ hz => hz, fun z hz => by simp at hz⟩
  | x :: xs, C, h, h1 => by
    rw [List.foldl_cons]
    have hx : 0 ≤ x := h1 x (by simp)
    obtain ⟨a, b, c⟩ := fold_closed hs xs (addL op C x) (addL_closed hs h hx) (fun z hz => h1 z (by simp [hz]))
    refine ⟨a, fun z hz => b z (mem_addL.2 (.inr (.inl hz))), fun z hz => ?_⟩
    rcases List.mem_cons.1 hz with rfl | hz
    · exact b _ (mem_addL.2 (.inl rfl))
    · exact c z hz
theorem fold_least {op : Int → Int → Int} {Q : Int → Prop} : ∀ (xs C : List Int), (∀ z ∈ C, Q z) → (∀ z ∈ xs, Q z) → (∀ a b, Q a → b ∈ xs → Q (op a b)) → ∀ z ∈ xs.foldl (addL op) C, Q z
  | [], _, h, _, _ => h
  | x :: xs, C, h, h1, h2 => by
    rw [List.foldl_cons]
    refine fold_least xs (addL op C x) (fun z hz => ?_) (fun z hz => h1 z (by simp [hz])) (fun a b ha hb => h2 a b ha (by simp [hb]))
    rcases mem_addL.1 hz with rfl | hz | ⟨y, hy, rfl⟩
    · exact h1 _ (by simp)
    · exact h z hz
    · exact h2 y x (h y hy) (by simp)
theorem ucL_closed {op : Int → Int → Int} (hs : Semi op) {xs : List Int} (h0 : ∀ z ∈ xs, 0 ≤ z) : ClosedU op (ucL op xs) := (fold_closed hs xs [] (fun z hz => by simp at hz) h0).1
theorem ucL_has {op : Int → Int → Int} (hs : Semi op) {xs : List Int} (h0 : ∀ z ∈ xs, 0 ≤ z) : ∀ z ∈ xs, z ∈ ucL op xs := (fold_closed hs xs [] (fun z hz => by simp at hz) h0).2.2
theorem ucL_least {op : Int → Int → Int} {Q : Int → Prop} {xs : List Int} (h1 : ∀ z ∈ xs, Q z) (h2 : ∀ a b, Q a → b ∈ xs → Q (op a b)) : ∀ z ∈ ucL op xs, Q z := fold_least xs [] (fun z hz => by simp at hz) h1 h2
theorem ucL_set {op : Int → Int → Int} (hs : Semi op) {n : Int} {xs : List Int} (h : ∀ z ∈ xs, setB n z = true) : ∀ z ∈ ucL op xs, setB n z = true := ucL_least h (fun a b ha hb => hs.keep n a b ha (h b hb))
theorem ucL_len {op : Int → Int → Int} (hs : Semi op) {n : Int} {xs : List Int} (h : ∀ z ∈ xs, setB n z = true) : (ucL op xs).length ≤ 256 := asc_len256 (asc_ucL op xs) (fun z hz => setB_lt (ucL_set hs h z hz))
/-- a list that ascends, has the sets, is closed under taking one more of them and has no more than it must is the least closed family. -/
theorem ucL_eq {op : Int → Int → Int} {xs L : List Int} (hA : Asc L) (h1 : ∀ z ∈ xs, z ∈ L) (h2 : ∀ a ∈ L, ∀ b ∈ xs, op a b ∈ L) (h3 : ∀ z ∈ L, z ∈ ucL op xs) : L = ucL op xs :=
  asc_ext hA (asc_ucL op xs) (fun z => ⟨h3 z, ucL_least (Q := fun z => z ∈ L) h1 (fun a b ha hb => h2 a ha b hb) z⟩)
theorem ucL_fix {op : Int → Int → Int} (hs : Semi op) {xs : List Int} (hA : Asc xs) (h0 : ∀ z ∈ xs, 0 ≤ z) : ucL op xs = xs ↔ ClosedU op xs := by
  constructor
  · intro h
    have := ucL_closed hs h0
    rw [h] at this
    exact this
  · intro h
    exact (ucL_eq hA (fun z hz => hz) (fun a ha b hb => h a ha b hb) (ucL_has hs h0)).symm
theorem ucL_fam {op : Int → Int → Int} (hs : Semi op) {n : Int} {xs : List Int} (h : famB n xs = true) : famB n (ucL op xs) = true := by
  obtain ⟨n1, n2, h3⟩ := famB_all h
  exact famB_mk (decide_eq_true ⟨n1, n2⟩) (ucL_set hs h3) (asc_ucL op xs)

end
section
/- A family has at least as many differences as sets (by the theorem of the four functions). Plain mathematics. -/
open Go.ChangeShapes Go.WideShapes Go.ChangeAt Go.RowKit Go.Proofs

/-- the points of x that y does not have. -/
def difI (x y : Int) : Int := ((x.toNat ^^^ (x.toNat &&& y.toNat) : Nat) : Int)
theorem u64_difI {x y : Int} (h1 : 0 ≤ x) (h2 : x < 256) (h3 : 0 ≤ y) (h4 : y < 256) : bits .andNot .u64 x y = difI x y := by
  obtain ⟨a, rfl⟩ := Int.eq_ofNat_of_zero_le h1
  obtain ⟨b, rfl⟩ := Int.eq_ofNat_of_zero_le h3
  have hs := xor_small (a := a) (b := b) (by omega)
  show IntKind.u64.wrap ((BitVec.ofInt 64 (a : Int) &&& ~~~BitVec.ofInt 64 (b : Int)).toNat : Int) = _
  rw [and_not a b (by omega) (by omega), IntKind.wrap_u64]
  unfold difI
  simp only [Int.toNat_natCast]
  omega
theorem i64_difI {x y : Int} (h1 : 0 ≤ x) (h2 : x < 256) (h3 : 0 ≤ y) (h4 : y < 256) : bits .andNot .i64 x y = difI x y := by
  obtain ⟨a, rfl⟩ := Int.eq_ofNat_of_zero_le h1
  obtain ⟨b, rfl⟩ := Int.eq_ofNat_of_zero_le h3
  have hs := xor_small (a := a) (b := b) (by omega)
  show IntKind.i64.wrap ((BitVec.ofInt 64 (a : Int) &&& ~~~BitVec.ofInt 64 (b : Int)).toNat : Int) = _
  rw [and_not a b (by omega) (by omega), IntKind.wrap_i64]
  unfold difI
  simp only [Int.toNat_natCast]
  omega
theorem difI_set {n x y : Int} (hx : setB n x = true) (_hy : setB n y = true) : setB n (difI x y) = true := by
  obtain ⟨a, b, c, d⟩ := setB_yes hx
  refine setB_mk ⟨a, b, by unfold difI; omega, ?_⟩
  have h : x.toNat ^^^ (x.toNat &&& y.toNat) < 2 ^ n.toNat := Nat.xor_lt_two_pow (nat_lt_pow d) (Nat.lt_of_le_of_lt Nat.and_le_left (nat_lt_pow d))
  have : ((2 ^ n.toNat : Nat) : Int) = 2 ^ n.toNat := by simp
  unfold difI; omega
theorem difI_self (x : Int) : difI x x = 0 := by unfold difI; rw [Nat.and_self, Nat.xor_self]; rfl

/-- the sum over all numbers below 2 ^ n. -/
def sm (n : Nat) (f : Nat → Nat) : Nat := ((List.range (2 ^ n)).map f).sum
theorem sum_two (f g : Nat → Nat) : ∀ l : List Nat, (l.map (fun x => f x + g x)).sum = (l.map f).sum + (l.map g).sum
  | [] => rfl
  | x :: l => by simp only [List.map_cons, List.sum_cons, sum_two f g l]; omega
theorem sm_succ (n : Nat) (f : Nat → Nat) : sm (n + 1) f = sm n (fun x => f x + f (x + 2 ^ n)) := by
  unfold sm
  rw [sum_two f (fun x => f (x + 2 ^ n)), Nat.pow_succ, Nat.mul_two, List.range_add, List.map_append, List.sum_append, List.map_map]
  have : (f ∘ fun x => 2 ^ n + x) = fun x => f (x + 2 ^ n) := by funext x; simp [Nat.add_comm]
  rw [this]
theorem two_sum {p q x y : Nat} (h1 : p ≤ x) (h2 : q ≤ x) (h3 : p * q ≤ x * y) : p + q ≤ x + y := by
  rcases Nat.eq_zero_or_pos x with h | h
  · omega
  · obtain ⟨u, hu⟩ := Nat.exists_eq_add_of_le h1
    obtain ⟨v, hv⟩ := Nat.exists_eq_add_of_le h2
    refine Nat.le_of_mul_le_mul_left ?_ h
    have e1 : x * x + p * q = x * p + x * q + u * v := by
      have a1 : x * x = (p + u) * (q + v) := by rw [← hu, ← hv]
      have a2 : x * p = (q + v) * p := by rw [← hv]
      have a3 : x * q = (p + u) * q := by rw [← hu]
      rw [a1, a2, a3]
      simp only [Nat.add_mul, Nat.mul_add]
      rw [Nat.mul_comm q p, Nat.mul_comm v p]
      omega
    rw [Nat.mul_add, Nat.mul_add]
    omega
theorem four_one {a0 a1 b0 b1 c0 c1 d0 d1 : Nat} (h00 : a0 * b0 ≤ c0 * d0) (h01 : a0 * b1 ≤ c1 * d0) (h10 : a1 * b0 ≤ c1 * d0) (h11 : a1 * b1 ≤ c1 * d1) : (a0 + a1) * (b0 + b1) ≤ (c0 + c1) * (d0 + d1) := by
  have h := two_sum (y := c0 * d1) h01 h10 (by
    have e1 : a0 * b1 * (a1 * b0) = a0 * b0 * (a1 * b1) := by
      rw [Nat.mul_mul_mul_comm, Nat.mul_comm b1 b0, Nat.mul_mul_mul_comm]
    have e2 : c1 * d0 * (c0 * d1) = c0 * d0 * (c1 * d1) := by
      rw [Nat.mul_mul_mul_comm, Nat.mul_comm c1 c0, Nat.mul_mul_mul_comm]
    rw [e1, e2]
    exact Nat.mul_le_mul h00 h11)
  simp only [Nat.add_mul, Nat.mul_add]
  omega
theorem bit_top {x n : Nat} (h : x < 2 ^ n) : x + 2 ^ n = x ||| 2 ^ n := by
  have := Nat.two_pow_add_eq_or_of_lt h 1
  rw [Nat.mul_one] at this
  rw [Nat.add_comm, this, Nat.or_comm]
theorem top_out {x n : Nat} (h : x < 2 ^ n) : x &&& 2 ^ n = 0 := Nat.eq_of_testBit_eq fun i => by
  rw [Nat.testBit_and, Nat.zero_testBit, Nat.testBit_two_pow]
  by_cases hi : n = i
  · subst hi; rw [Nat.testBit_lt_two_pow h]; rfl
  · simp [hi]
theorem four (n : Nat) : ∀ α β γ δ : Nat → Nat, (∀ x y, x < 2 ^ n → y < 2 ^ n → α x * β y ≤ γ (x ||| y) * δ (x &&& y)) → sm n α * sm n β ≤ sm n γ * sm n δ := by
  induction n with
  | zero =>
    intro α β γ δ h
    have := h 0 0 (by simp) (by simp)
    simpa [sm] using this
  | succ n ih =>
    intro α β γ δ h
    rw [sm_succ, sm_succ, sm_succ, sm_succ]
    refine ih _ _ _ _ fun x y hx hy => ?_
    have hp : (2 : Nat) ^ (n + 1) = 2 ^ n + 2 ^ n := by rw [Nat.pow_succ]; omega
    have ho : x ||| y < 2 ^ n := Nat.or_lt_two_pow hx hy
    have ha : x &&& y < 2 ^ n := Nat.lt_of_le_of_lt Nat.and_le_left hx
    have hyx := top_out hy
    have hxx := top_out hx
    have h00 := h x y (by omega) (by omega)
    have h01 := h x (y + 2 ^ n) (by omega) (by omega)
    have h10 := h (x + 2 ^ n) y (by omega) (by omega)
    have h11 := h (x + 2 ^ n) (y + 2 ^ n) (by omega) (by omega)
    have f01 : x ||| (y + 2 ^ n) = (x ||| y) + 2 ^ n := by rw [bit_top hy, bit_top ho, Nat.or_assoc]
    have f10 : (x + 2 ^ n) ||| y = (x ||| y) + 2 ^ n := by rw [bit_top hx, bit_top ho, Nat.or_assoc, Nat.or_comm (2 ^ n) y, ← Nat.or_assoc]
    have f11 : (x + 2 ^ n) ||| (y + 2 ^ n) = (x ||| y) + 2 ^ n := by
      rw [bit_top hx, bit_top hy, bit_top ho, Nat.or_assoc, ← Nat.or_assoc (2 ^ n), Nat.or_comm (2 ^ n) y, Nat.or_assoc y, Nat.or_self, ← Nat.or_assoc]
    have g01 : x &&& (y + 2 ^ n) = x &&& y := by rw [bit_top hy, Nat.and_or_distrib_left, hxx, Nat.or_zero]
    have g10 : (x + 2 ^ n) &&& y = x &&& y := by rw [bit_top hx, Nat.and_comm, Nat.and_or_distrib_left, hyx, Nat.or_zero, Nat.and_comm]
    have g11 : (x + 2 ^ n) &&& (y + 2 ^ n) = (x &&& y) + 2 ^ n := by
      rw [bit_top hx, bit_top hy, bit_top ha, Nat.and_or_distrib_left, Nat.and_comm (x ||| 2 ^ n) y, Nat.and_or_distrib_left, hyx, Nat.or_zero, Nat.and_comm y x, Nat.and_comm (x ||| 2 ^ n), Nat.and_or_distrib_left, Nat.and_self, Nat.and_comm (2 ^ n) x, hxx, Nat.zero_or]
    rw [f01, g01] at h01
    rw [f10, g10] at h10
    rw [f11, g11] at h11
    exact four_one h00 h01 h10 h11
/-- 1 for what stands in the list. -/
def indN (L : List Int) (x : Nat) : Nat := if memB (x : Int) L then 1 else 0
theorem sum_ind (L : List Int) : ∀ l : List Nat, (l.map (indN L)).sum = ((l.map (fun x : Nat => (x : Int))).filter (fun z => memB z L)).length
  | [] => rfl
  | x :: l => by
    rw [List.map_cons, List.sum_cons, List.map_cons, List.filter_cons, sum_ind L l]
    unfold indN
    cases memB (x : Int) L <;> simp <;> omega
theorem sm_ind {N : Nat} {L : List Int} (hA : Asc L) (h : ∀ z ∈ L, 0 ≤ z ∧ z < (2 ^ N : Nat)) : sm N (indN L) = L.length := by
  unfold sm
  rw [sum_ind]
  have : (upI (2 ^ N)).filter (fun z => memB z L) = L := asc_ext (asc_filter (asc_upI _) _) hA (fun z => by
    rw [List.mem_filter, mem_upI]
    exact ⟨fun hz => memB_yes hz.2, fun hz => ⟨h z hz, memB_mk hz⟩⟩)
  exact congrArg List.length this
theorem comp_and {N x y : Nat} (hx : x < 2 ^ N) (_hy : y < 2 ^ N) : x &&& y = x ^^^ (x &&& (2 ^ N - 1 - y)) := Nat.eq_of_testBit_eq fun i => by
  have e : 2 ^ N - 1 - y = 2 ^ N - (y + 1) := by omega
  rw [e]
  simp only [Nat.testBit_xor, Nat.testBit_and, Nat.testBit_two_pow_sub_succ _hy]
  by_cases hi : i < N
  · simp only [hi, decide_true, Bool.true_and]
    cases x.testBit i <;> cases y.testBit i <;> rfl
  · have : x.testBit i = false := Nat.testBit_lt_two_pow (Nat.lt_of_lt_of_le hx (Nat.pow_le_pow_right (by omega) (by omega)))
    simp [this]
theorem comp_or {N x y : Nat} (hx : x < 2 ^ N) (hy : y < 2 ^ N) : 2 ^ N - 1 - (x ||| y) = (2 ^ N - 1 - y) ^^^ ((2 ^ N - 1 - y) &&& x) := Nat.eq_of_testBit_eq fun i => by
  have ho : x ||| y < 2 ^ N := Nat.or_lt_two_pow hx hy
  have e : 2 ^ N - 1 - y = 2 ^ N - (y + 1) := by omega
  have e2 : 2 ^ N - 1 - (x ||| y) = 2 ^ N - ((x ||| y) + 1) := by omega
  rw [e, e2]
  simp only [Nat.testBit_xor, Nat.testBit_and, Nat.testBit_two_pow_sub_succ hy, Nat.testBit_two_pow_sub_succ ho, Nat.testBit_or]
  cases decide (i < N) <;> cases x.testBit i <;> cases y.testBit i <;> rfl
theorem other_other {n x : Int} : otherI n (otherI n x) = x := by unfold otherI; omega
theorem len_other {n : Int} {L : List Int} (hA : Asc L) : (sortL (L.map (otherI n))).length = L.length := by
  have h : sortL (L.map (otherI n)) = (L.map (otherI n)).reverse := sortL_eq (by
    unfold Asc
    rw [List.pairwise_reverse, List.pairwise_map]
    exact hA.imp (fun h => by unfold otherI; omega)) (fun z => by rw [List.mem_reverse])
  rw [h, List.length_reverse, List.length_map]
/-- the family of all differences. -/
def dfL (xs : List Int) : List Int := sortL (pairsTo difI xs xs xs.length)
theorem mem_dfL {xs : List Int} {z : Int} : z ∈ dfL xs ↔ ∃ a ∈ xs, ∃ b ∈ xs, z = difI a b := by
  unfold dfL
  rw [mem_sortL]
  constructor
  · exact pairs_mem
  · rintro ⟨a, ha, b, hb, rfl⟩
    unfold pairsTo
    rw [List.take_length]
    exact List.mem_flatMap.2 ⟨a, ha, List.mem_map.2 ⟨b, hb, rfl⟩⟩
theorem many_differences {n : Int} {xs : List Int} (h : famB n xs = true) : xs.length ≤ (dfL xs).length := by
  obtain ⟨n1, n2, hs⟩ := famB_all h
  have hA := famB_asc h
  obtain ⟨N, rfl⟩ := Int.eq_ofNat_of_zero_le (show 0 ≤ n by omega)
  have hM : ((2 ^ N : Nat) : Int) = 2 ^ N := by simp
  have hb : ∀ z, setB (N : Int) z = true → 0 ≤ z ∧ z < (2 ^ N : Nat) := fun z hz => by
    obtain ⟨_, _, a, b⟩ := setB_yes hz
    rw [Int.toNat_natCast] at b
    exact ⟨a, by rw [hM]; exact b⟩
  have hD : ∀ z ∈ dfL xs, setB (N : Int) z = true := fun z hz => by
    obtain ⟨a, ha, b, hb, rfl⟩ := mem_dfL.1 hz
    exact difI_set (hs a ha) (hs b hb)
  have ho : ∀ (L : List Int), (∀ z ∈ L, setB (N : Int) z = true) → ∀ z ∈ sortL (L.map (otherI N)), setB (N : Int) z = true := fun L hL z hz => by
    obtain ⟨y, hy, rfl⟩ := List.mem_map.1 (mem_sortL.1 hz)
    exact other_set (hL y hy)
  have hk := four N (indN xs) (indN (sortL (xs.map (otherI N)))) (indN (sortL ((dfL xs).map (otherI N)))) (indN (dfL xs)) (fun x y hx hy => by
    unfold indN
    cases h1 : memB (x : Int) xs with
    | false => simp
    | true =>
      cases h2 : memB (y : Int) (sortL (xs.map (otherI N))) with
      | false => simp
      | true =>
        obtain ⟨b, hb1, hb2⟩ := List.mem_map.1 (mem_sortL.1 (memB_yes h2))
        have hb3 := hb b (hs b hb1)
        obtain ⟨c, rfl⟩ := Int.eq_ofNat_of_zero_le hb3.1
        have hc : c = 2 ^ N - 1 - y := by unfold otherI at hb2; rw [Int.toNat_natCast] at hb2; omega
        have g1 : ((x &&& y : Nat) : Int) ∈ dfL xs := mem_dfL.2 ⟨x, memB_yes h1, c, hb1, by
          unfold difI; rw [Int.toNat_natCast, Int.toNat_natCast, hc, ← comp_and hx hy]⟩
        have g2 : ((x ||| y : Nat) : Int) ∈ sortL ((dfL xs).map (otherI N)) := mem_sortL.2 (List.mem_map.2 ⟨_, mem_dfL.2 ⟨c, hb1, x, memB_yes h1, rfl⟩, by
          unfold difI; rw [Int.toNat_natCast, Int.toNat_natCast, hc, ← comp_or hx hy]
          have ho : x ||| y < 2 ^ N := Nat.or_lt_two_pow hx hy
          unfold otherI; rw [Int.toNat_natCast]; omega⟩)
        rw [memB_mk g1, memB_mk g2]
        simp)
  have hAD : Asc (dfL xs) := asc_sortL _
  rw [sm_ind hA (fun z hz => hb z (hs z hz)), sm_ind (asc_sortL _) (fun z hz => hb z (ho xs hs z hz)), sm_ind (asc_sortL _) (fun z hz => hb z (ho (dfL xs) hD z hz)), sm_ind hAD (fun z hz => hb z (hD z hz)), len_other hA, len_other hAD] at hk
  exact Nat.mul_self_le_mul_self_iff.1 hk

end
section
/- The program's closed families: a set put into one in a variable; the least closed family that has all sets of a family. -/
open Go.ChangeShapes Go.WideShapes Go.ChangeAt Go.RowKit Go.Proofs

/-- bx holds a closed family: the list xs, owned from block B on, its comparison, and cv, which makes one set of two; the list does not lie in block D. -/
def CBox (cv : Value) (w : World) (B bx : Nat) (D : Option Nat) (xs : List Int) : Prop := B ≤ bx ∧ ∃ v, w.heap[bx]? = some (.cells #[v, (Value.func (.func 87) #[] #[]), cv] 66 (0, 0)) ∧ SetL w B v xs ∧ ∀ d, D = some d → v.ownBlock ≠ some d
theorem CBox.lt {cv : Value} {w : World} {B bx : Nat} {D : Option Nat} {xs : List Int} (h : CBox cv w B bx D xs) : bx < w.heap.size := by
  obtain ⟨_, v, hv, _, _⟩ := h
  exact (Array.getElem?_eq_some_iff.1 hv).1
theorem CBox.apart {cv : Value} {w : World} {B bx : Nat} {v : Value} {xs : List Int} (hv : w.heap[bx]? = some (.cells #[v, (Value.func (.func 87) #[] #[]), cv] 66 (0, 0))) (h : SetL w B v xs) : v.ownBlock ≠ some bx := by
  intro e
  rcases h.out with ⟨rfl, _⟩ | ⟨g, cap, cur, rfl, _, hg, _⟩
  · cases e
  · cases e
    rw [hv] at hg
    injection hg with hg
    injection hg with _ h2
    exact absurd h2 (by decide)
theorem CBox.below {cv : Value} {w w' : World} {B C bx : Nat} {D : Option Nat} {xs : List Int} (h : CBox cv w B bx D xs) (hb : Below C w w') (hC : w.heap.size ≤ C) : CBox cv w' B bx D xs := by
  have hlt := h.lt
  obtain ⟨h0, v, hv, hS, hD⟩ := h
  exact ⟨h0, v, by rw [hb.block bx (by omega)]; exact hv, hS.below hb hC, hD⟩
/-- a block that the family's world does not have yet is none of its list. -/
theorem CBox.other {cv : Value} {w : World} {B bx : Nat} {D D' : Option Nat} {xs : List Int} (h : CBox cv w B bx D xs) (hD : ∀ d, D' = some d → w.heap.size ≤ d) : CBox cv w B bx D' xs := by
  obtain ⟨h0, v, hv, hS, _⟩ := h
  exact ⟨h0, v, hv, hS, fun d hd e => by have := (hS.lt _ e).2; have := hD d hd; omega⟩
theorem cbox_new {cv : Value} {w : World} {B : Nat} {v : Value} {ys : List Int} (hS : SetL w B v ys) (hB : B ≤ w.heap.size) : CBox cv (w.alloc (.cells #[v, (Value.func (.func 87) #[] #[]), cv] 66)) B w.heap.size none ys :=
  ⟨hB, v, heap_alloc_new w _, hS.alloc _, fun _ h => by cases h⟩
theorem cbox_cells {cv : Value} {w : World} {B bx : Nat} {D : Option Nat} {xs : List Int} (h : CBox cv w B bx D xs) : ∃ a c, w.cell? ⟨bx, 0, none⟩ = some (.slice a xs.length c) ∧ w.cell? ⟨bx, 1, none⟩ = some (Value.func (.func 87) #[] #[]) ∧ w.cell? ⟨bx, 2, none⟩ = some cv ∧ SetL w B (.slice a xs.length c) xs := by
  obtain ⟨h0, v, hv, hS, _⟩ := h
  obtain ⟨a, c, rfl⟩ := hS.form
  exact ⟨a, c, by rw [cell_of_row w _ 0 _ 66 (0, 0) hv]; rfl, by rw [cell_of_row w _ 1 _ 66 (0, 0) hv]; rfl, by rw [cell_of_row w _ 2 _ 66 (0, 0) hv]; rfl, hS⟩
/-- what slices.Insert leaves, and where: in the list's own block, or in a new one. -/
def InsPostO (B : Nat) (v : Value) (w : World) (ys : List Int) (e : Ending) (w' : World) : Prop := ∃ v', e = .returned v' ∧ SetL w' B v' ys ∧ w.grownBy w' v.ownBlock ∧ (v'.ownBlock = v.ownBlock ∨ ∃ k, v'.ownBlock = some k ∧ w.heap.size ≤ k)
set_option maxHeartbeats 1000000 in
theorem ins0_o (B vb : Nat) (x : Int) (w : World) (hB : B ≤ w.heap.size) (hv : w.cell? ⟨vb, 0, none⟩ = some (.int .u64 x)) :
    Calls Tryd.prog 92 #[.slice none 0 0, .int .i64 0, .slice (some ⟨vb, 0, none⟩) 1 1] w (InsPostO B (.slice none 0 0) w [x]) := by
  obtain ⟨i0, hi0, hz0, hz1, hz2⟩ := info_parts Tryd.setInfo
  have hS := Lib.hid (SetL.nil w B)
  have hone := Lib.hid (one_cell hv)
  clear hv
  go_enter Tryd.func92, Tryd.ntmps92
  go_wp2_with (at_builtin; refine wpList_append_own_at _ rfl _ _ 48 rfl B 55 i0 (.int .u64 0) 1 8 Tryd.underlying48 hi0 hz0 hz1 hz2 rfl (by decide) _ 0 [] rfl hS.out ⟨vb, 0, none⟩ 1 1 [.int .u64 x] rfl rfl hone.out (by simp [Value.oneCell']) (by unfold maxLen; omega) (by omega) hB ?_; intro v' w' hown hg _ hat)
  go_ret
  exact ⟨_, rfl, own_snoc (xs := []) rfl hown, hg, hat.imp id (fun h => ⟨_, h, Nat.le_refl _⟩)⟩
set_option maxRecDepth 100000 in
set_option maxHeartbeats 1000000 in
theorem ins1_o (g cap : Nat) (xs : List Int) (B vb : Nat) (x : Int) (w : World) (hS : SetL w B (.slice (some ⟨g, 0, none⟩) xs.length cap) xs) (hl : xs.length ≤ 100000) (_hcap : xs.length ≤ cap) (_hcm : cap ≤ 9223372036854775807) (hB : B ≤ w.heap.size) (hv : w.cell? ⟨vb, 0, none⟩ = some (.int .u64 x)) :
    Calls Tryd.prog 92 #[.slice (some ⟨g, 0, none⟩) xs.length cap, .int .i64 (xs.length : Nat), .slice (some ⟨vb, 0, none⟩) 1 1] w (InsPostO B (.slice (some ⟨g, 0, none⟩) xs.length cap) w (xs ++ [x])) := by
  obtain ⟨i0, hi0, hz0, hz1, hz2⟩ := info_parts Tryd.setInfo
  replace hS := Lib.hid hS
  have hone := Lib.hid (one_cell hv)
  obtain ⟨n, hn⟩ : ∃ n, xs.length = n := ⟨_, rfl⟩
  rw [hn] at hS hl _hcap ⊢
  replace hn := Lib.hid hn
  clear hv
  go_enter Tryd.func92, Tryd.ntmps92
  go_wp2_with (at_builtin; refine wpList_append_own_at _ rfl _ _ 48 rfl B 55 i0 (.int .u64 0) 1 8 Tryd.underlying48 hi0 hz0 hz1 hz2 rfl (by decide) _ n (sv xs) rfl (hn.out ▸ hS.out) ⟨vb, 0, none⟩ 1 1 [.int .u64 x] rfl rfl hone.out (by simp [Value.oneCell']) (by unfold maxLen; omega) (by omega) hB ?_; intro v' w' hown hg _ hat)
  all_goals
    go_ret
    exact ⟨_, rfl, own_snoc hn.out hown, hg, hat.imp id (fun h => ⟨_, h, Nat.le_refl _⟩)⟩
theorem ins_o (v : Value) (xs : List Int) (i B vb : Nat) (x : Int) (w : World) (hS : SetL w B v xs) (hi : i ≤ xs.length) (hl : xs.length ≤ 100000) (hB : B ≤ w.heap.size) (hv : w.heap[vb]? = some (.cells #[.int .u64 x] 55 (0, 0))) (hne : v.ownBlock ≠ some vb) :
    Calls Tryd.prog 92 #[v, .int .i64 (i : Nat), .slice (some ⟨vb, 0, none⟩) 1 1] w (InsPostO B v w (putAt i x xs)) := by
  have hvc : w.cell? ⟨vb, 0, none⟩ = some (.int .u64 x) := by rw [cell_of_row w vb 0 _ 55 (0, 0) hv]; rfl
  have hvs : ∀ j v, (sv [x])[j]? = some v → w.cell? ⟨vb, 0 + j, none⟩ = some v := fun j u hj => by
    obtain ⟨h1, rfl⟩ := sv_get hj
    have : j = 0 := by simpa using h1
    subst this
    exact hvc
  rcases hS.out with ⟨rfl, rfl⟩ | ⟨g, cap, cur, rfl, hg, hh, hn, hm, hs, hc⟩
  · obtain rfl : i = 0 := by simpa using hi
    exact ins0_o B vb x w hB hvc
  · have hcm : cap ≤ 9223372036854775807 := by unfold maxLen at hm; omega
    by_cases he : i = xs.length
    · subst he
      have e : putAt xs.length x xs = xs ++ [x] := by unfold putAt; rw [List.take_length, List.drop_length]
      rw [e]
      exact ins1_o g cap xs B vb x w hS hl hn hcm hB hvc
    · have hcs : ∀ j v, (sv xs)[j]? = some v → w.cell? ⟨g, 0 + j, none⟩ = some v := fun j u hj => by
        obtain ⟨h1, rfl⟩ := sv_get hj
        rw [Nat.zero_add]; exact hc j h1
      have hvg : vb ≠ g := fun e => hne (by rw [e]; rfl)
      by_cases hroom : xs.length + 1 ≤ cap
      · have hsome : ∀ j, j < xs.length + 1 → (w.cell? ⟨g, j, none⟩).isSome = true := fun j hj => by
          rw [cell_of_row w g j cur 55 (0, 0) hh, Array.getElem?_eq_getElem (by omega)]; rfl
        refine (ins_shift g 0 xs.length cap i vb 0 1 1 (sv xs) (sv [x]) w (by omega) (by omega) hroom hcm hvg (sv_len xs) rfl hcs (fun j hj => by rw [Nat.zero_add]; exact hsome j hj) (fun j hj => frozen_of hh _) hvs (sv_one xs) (sv_one [x]) 55 55 1 cap (shape_of hv) (by rw [shape_of hh, hs]) (by omega) (frozen_of hv _) (frozen_of hv _)).mono ?_
        rintro e w' ⟨rfl, rfl⟩
        rw [Nat.zero_add, Nat.zero_add]
        have hd : (sv xs).drop i = sv (xs.drop i) := by unfold sv; rw [List.map_drop]
        rw [hd]
        obtain ⟨c1, h1, z1⟩ := heap_setCells_same g 55 (sv (xs.drop i)) (i + 1) w.drew cur hh
        obtain ⟨c2, h2, z2⟩ := heap_setCells_same g 55 (sv [x]) i _ c1 h1
        have hcell := cells_putAt (w := w.drew) (g := g) (x := x) hi _ _ rfl rfl hsome (fun j hj => hc j (by omega))
        have hlen := putAt_len (x := x) hi
        refine ⟨_, rfl, ?_, ?_, .inl rfl⟩
        · rw [← hlen]
          exact SetL.mk hg h2 (by omega) hm (by omega) (fun j hj => hcell j (by omega))
        · exact grown_setCells (.inl rfl) _ _ _ (grown_setCells (.inl rfl) _ _ _ (grown_drew (grown_refl w _)))
      · have hd : (sv xs).drop i = sv (xs.drop i) := by unfold sv; rw [List.map_drop]
        refine (ins_grow g 0 xs.length cap i vb 0 1 1 (sv xs) (sv [x]) w (by omega) (by omega) hn (by omega) (by omega) (sv_len xs) rfl hcs hvs (sv_one xs) (sv_one [x])).mono ?_
        rintro e w' ⟨rfl, rfl⟩
        rw [hd]
        have hG1 := grownCap_ge w (xs.length + 1) cap 55
        have hG2 := grownCap_le_maxLen w (xs.length + 1) cap 55 (by unfold maxLen; omega)
        have hlen := putAt_len (x := x) hi
        obtain ⟨G, hG⟩ : ∃ G, grownCap w (xs.length + 1) cap 55 = G := ⟨_, rfl⟩
        rw [hG] at hG1 hG2 ⊢
        obtain ⟨ROW, hR⟩ : ∃ ROW : Array Value, ((sv xs).take i).toArray ++ Builtin.zeroCells (Value.int .u64 0).cells (xs.length + 1 - i) ++ Builtin.zeroCells (Value.int .u64 0).cells (G - (xs.length + 1)) = ROW := ⟨_, rfl⟩
        have hRs : ROW.size = G := by
          rw [← hR]
          simp [Builtin.zeroCells, Value.cells, List.length_take, sv_len]
          omega
        have hRlo : ∀ j, j < i → ROW[j]? = some (.int .u64 (xs.getD j 0)) := fun j hj => by
          rw [← hR, Array.append_assoc, Array.getElem?_append_left (by simp [List.length_take, sv_len]; omega), List.getElem?_toArray, List.getElem?_take, if_pos hj]
          exact sv_at (by omega)
        rw [hR, drew_setCells]
        have hn0 : (w.alloc (.cells ROW 55)).drew.drew.heap[w.heap.size]? = some (.cells ROW 55 (0, 0)) := heap_alloc_new w _
        obtain ⟨c1, h1, z1⟩ := heap_setCells_same w.heap.size 55 (sv [x]) i (w.alloc (.cells ROW 55)).drew.drew ROW hn0
        obtain ⟨c2, h2, z2⟩ := heap_setCells_same w.heap.size 55 (sv (xs.drop i)) (i + 1) _ c1 h1
        have hcell := cells_putAt2 (w := (w.alloc (.cells ROW 55)).drew.drew) (g := w.heap.size) (x := x) hi (fun j hj => by
          rw [cell_of_row _ w.heap.size j ROW 55 (0, 0) hn0, Array.getElem?_eq_getElem (by omega)]; rfl) (fun j hj => by
          rw [cell_of_row _ w.heap.size j ROW 55 (0, 0) hn0]; exact hRlo j hj)
        refine ⟨_, rfl, ?_, ?_, .inr ⟨_, rfl, Nat.le_refl _⟩⟩
        · rw [← hlen]
          exact SetL.mk hB h2 (by omega) hG2 (by omega) (fun j hj => hcell j (by omega))
        · exact grown_setCells (.inr (Nat.le_refl _)) _ _ _ (grown_setCells (.inr (Nat.le_refl _)) _ _ _ (grown_drew (grown_drew (World.grownBy_alloc w _ _))))

/-- what put leaves of a closed family: block D, in which its list does not lie, stays. -/
def PutPostC (cv : Value) (B bx : Nat) (D : Option Nat) (w : World) (ys : List Int) (e : Ending) (w' : World) : Prop := (∃ v, e = .returned v) ∧ CBox cv w' B bx D ys ∧ Below B w w' ∧ w.heap.size ≤ w'.heap.size ∧ ∀ d, D = some d → w'.heap[d]? = w.heap[d]?
set_option maxHeartbeats 1000000 in
theorem put_c (cv : Value) (B bx : Nat) (D : Option Nat) (xs : List Int) (x : Int) (w : World) (hF : CBox cv w B bx D xs) (hDw : ∀ d, D = some d → d ≠ bx ∧ d < w.heap.size) (hA : Asc xs) (hl : xs.length ≤ 1000) (hB : B ≤ w.heap.size) :
    Calls Tryd.prog 76 #[.pointer (some ⟨bx, 0, none⟩), .int .u64 x] w (PutPostC cv B bx D w (insI x xs)) := by
  have hlt := hF.lt
  obtain ⟨hBx, v, hv, hS, hDv⟩ := hF
  replace hDv := Lib.hid hDv
  have hap := Lib.hid (CBox.apart hv hS)
  have c0 : w.cell? ⟨bx, 0, none⟩ = some v := by rw [cell_of_row w bx 0 _ 66 (0, 0) hv]; rfl
  have c1 : w.cell? ⟨bx, 1, none⟩ = some (Value.func (.func 87) #[] #[]) := by rw [cell_of_row w bx 1 _ 66 (0, 0) hv]; rfl
  have hpl := Lib.hid (place_any v xs x w.heap.size w hS.row hA (by omega) (Nat.le_refl _))
  have hpi := plN_le x xs
  replace hv := Lib.hid hv
  replace hS := Lib.hid hS
  have hne : bx ≠ w.heap.size := by omega
  rcases (by cases memB x xs <;> simp : memB x xs = true ∨ memB x xs = false) with hm | hm
  · have hpl2 := hpl.out
    rw [hm] at hpl2
    replace hpl := Lib.hid hpl2
    replace hm := Lib.hid hm
    clear hpl2
    go_enter Tryd.func76, Tryd.ntmps76
    go_wp2_with (go_at_call 78; refine hpl.out.mono ?_; rintro e w' ⟨rfl, rfl⟩)
    go_end0
    exact ⟨⟨_, rfl⟩, ⟨hBx, v, by rw [Below.heap_alloc _ _ _ hlt, hv.out], by rw [ins_yes hm.out]; exact hS.out.alloc _, hDv.out⟩, (Below.refl _ _).alloc hB _, by simp, fun d hd => Below.heap_alloc _ _ _ (hDw d hd).2⟩
  · have hpl2 := hpl.out
    rw [hm] at hpl2
    replace hpl := Lib.hid hpl2
    have hpi2 := Lib.hid (putAt_ins hm)
    replace hm := Lib.hid hm
    clear hpl2
    have hins := Lib.hid (ins_o v xs (plN x xs) B (w.heap.size + 1) x ((w.alloc (.cells #[v, (Value.func (.func 87) #[] #[])] 51)).alloc (.cells #[.int .u64 x] 55)) ((hS.out.alloc _).alloc _) hpi (by omega) (by simp; omega) (by
      have := heap_alloc_new (w.alloc (.cells #[v, (Value.func (.func 87) #[] #[])] 51)) (.cells #[.int .u64 x] 55)
      simpa using this) (by intro e; have := hS.out.lt _ e; omega))
    go_enter Tryd.func76, Tryd.ntmps76
    go_wp2_with (go_at_call 78; refine hpl.out.mono ?_; rintro e w' ⟨rfl, rfl⟩)
    refine hins.out.mono ?_
    rintro e w3 ⟨v', rfl, hS3, hg3, hat⟩
    have hh3 : w3.heap[bx]? = some (.cells #[v, (Value.func (.func 87) #[] #[]), cv] 66 (0, 0)) := by
      rw [hg3.block bx (by simp; omega) (fun e => hap.out e.symm), Below.heap_alloc _ _ _ (by simp; omega), Below.heap_alloc _ _ _ hlt]
      exact hv.out
    have d0 : w3.cell? ⟨bx, 0, none⟩ = some v := by rw [cell_of_row w3 bx 0 _ 66 (0, 0) hh3]; rfl
    have df : w3.frozen? ⟨bx, 0, none⟩ = false := frozen_of hh3 _
    have hb3 := Lib.hid (below_grow (((Below.refl B w).alloc hB _).alloc (by simp; omega) _) hg3 ((hS.out.alloc _).alloc _) (by simp; omega))
    have hz := hg3.size
    simp at hz
    have hDD := Lib.hid (show ∀ d, D = some d → w3.heap[d]? = w.heap[d]? from fun d hd => by
      rw [hg3.block d (by have := (hDw d hd).2; simp; omega) (fun e => hDv.out d hd e.symm), Below.heap_alloc _ _ _ (by have := (hDw d hd).2; simp; omega), Below.heap_alloc _ _ _ (hDw d hd).2])
    have hDn := Lib.hid (show ∀ d, D = some d → v'.ownBlock ≠ some d from fun d hd e => by
      have h2 := (hDw d hd).2
      rcases hat with h | ⟨k, h, hk⟩
      · exact hDv.out d hd (h ▸ e)
      · rw [h] at e; injection e with e; simp at hk; omega)
    replace hS3 := Lib.hid hS3
    replace hh3 := Lib.hid hh3
    clear hg3 hins hat
    obtain ⟨a', c', rfl⟩ := hS3.out.form
    go_wp2_with fail
    go_end0
    have hst := heap_setCell_same w3 bx 0 _ 66 (.slice a' (putAt (plN x xs) x xs).length c') hh3.out
    refine ⟨⟨_, rfl⟩, ⟨hBx, _, by rw [hst]; rfl, ?_, hDn.out⟩, below_setCell hb3.out hBx _, ?_, fun d hd => by rw [Below.heap_setCell _ _ _ _ (hDw d hd).1]; exact hDD.out d hd⟩
    · rw [← hpi2.out]
      exact hS3.out.store _ _ (by
        intro e
        rcases hS3.out.out with ⟨h0, _⟩ | ⟨g, cap, cur, h0, _, hg, _⟩
        · injection h0 with h1; rw [h1] at e; cases e
        · injection h0 with h1; rw [h1] at e; cases e
          rw [hh3.out] at hg
          injection hg with hg
          injection hg with _ h2
          exact absurd h2 (by decide))
    · simp [World.setCell]; omega


/-- what one more round of add leaves. -/
def putsL (op : Int → Int → Int) (C : List Int) (s : Int) (k : Nat) : List Int := (C.take k).foldl (fun a x => insI (op x s) a) C
theorem puts_step {op : Int → Int → Int} {C : List Int} {s x : Int} {k : Nat} (hk : k < C.length) (hx : C.getD k 0 = x) : putsL op C s (k + 1) = insI (op x s) (putsL op C s k) := by
  unfold putsL; rw [take_snoc hk, hx, List.foldl_append]; rfl
theorem puts_all (op : Int → Int → Int) (C : List Int) (s : Int) : insI s (putsL op C s C.length) = addL op C s := by
  unfold putsL addL; rw [List.take_length]
theorem asc_puts {op : Int → Int → Int} {C : List Int} {s : Int} (k : Nat) (h : Asc C) : Asc (putsL op C s k) := asc_foldI (fun x => op x s) _ _ h
theorem puts_len {op : Int → Int → Int} {C : List Int} {s : Int} (k : Nat) (h : Asc C) (hz : ∀ z ∈ C, 0 ≤ z ∧ z < 256) (ho : ∀ z ∈ C, 0 ≤ op z s ∧ op z s < 256) : (putsL op C s k).length ≤ 256 :=
  asc_len256 (asc_puts k h) (fun z hz' => by
    rcases (mem_foldI (fun x => op x s) _ _ z).1 hz' with h | ⟨x, hx, rfl⟩
    · exact hz z h
    · exact ho x (List.mem_of_mem_take hx))
theorem SetL.same {w w' : World} {B : Nat} {v : Value} {xs : List Int} (h : SetL w B v xs) (hD : ∀ d, v.ownBlock = some d → w'.heap[d]? = w.heap[d]?) : SetL w' B v xs := by
  refine ⟨h.1, ?_⟩
  rcases h.2 with hn | ⟨g, cap, cur, rfl, hB, hg, rest⟩
  · exact .inl hn
  · exact .inr ⟨g, cap, cur, rfl, hB, by rw [hD g rfl]; exact hg, rest⟩
/-- the function value g makes op of two sets, in every world. -/
def OpV (g : Nat) (op : Int → Int → Int) (xs ys : List Int) : Prop := ∀ (W : World) (x y : Int), x ∈ xs → y ∈ ys → Calls Tryd.prog g #[.int .u64 x, .int .u64 y] W fun e w' => e = .returned (.int .u64 (op x y)) ∧ Below W.heap.size W w'
set_option maxHeartbeats 4000000 in
theorem add_c (g : Nat) (eg : EntersG g) (op : Int → Int → Int) (B bx : Nat) (C : List Int) (s : Int) (w : World) (hF : CBox (.func (.func g) #[] #[]) w B bx none C) (hA : Asc C) (hB : B ≤ w.heap.size) (hz : ∀ z ∈ C, 0 ≤ z ∧ z < 256) (ho : ∀ z ∈ C, 0 ≤ op z s ∧ op z s < 256)
    (hp : OpV g op C [s]) :
    Calls Tryd.prog 72 #[.pointer (some ⟨bx, 0, none⟩), .int .u64 s] w (PutPostC (.func (.func g) #[] #[]) B bx none w (addL op C s)) := by
  have eg1 : ∀ args w, (callFunc g args).run Tryd.prog w = .ok (.enter g args) w := eg
  have hlt := hF.lt
  have hBx := hF.1
  obtain ⟨a, c, c0, c1, c2, hS⟩ := cbox_cells hF
  have hl := asc_len256 hA hz
  have hcl := Lib.hid (clone_at a c C w.heap.size w hS.row (Nat.le_refl _) (by omega))
  replace hF := Lib.hid hF
  replace hz := Lib.hid hz
  replace ho := Lib.hid ho
  replace hp := Lib.hid hp
  replace hA := Lib.hid hA
  replace hS := Lib.hid hS
  go_enter Tryd.func72, Tryd.ntmps72
  go_wp2_with fail
  refine hcl.out.mono ?_
  rintro e w1 ⟨v1, rfl, hS1, hb1⟩
  obtain ⟨a1, k1, rfl⟩ := hS1.form
  have hz1 := hb1.size
  have hF1 := Lib.hid ((hF.out.other (D' := (Value.slice a1 C.length k1).ownBlock) (fun d hd => (hS1.lt d hd).1)).below hb1 (Nat.le_refl _))
  have hb1' := Lib.hid (hb1.mono hB)
  replace hS1 := Lib.hid hS1
  clear hcl hb1
  go_wp2_with fail
  go_loopw [13] (fun q wr => ∃ k : Nat, k ≤ C.length ∧ q = .int .i64 k ∧ Hid (CBox (.func (.func g) #[] #[]) wr B bx (Value.slice a1 C.length k1).ownBlock (putsL op C s k)) ∧ Hid (SetL wr w.heap.size (.slice a1 C.length k1) C) ∧ Hid (Below B w wr)) (fun q _ => C.length - (intOf q).toNat)
  case atStart => exact ⟨0, by omega, rfl, hF1, hS1, hb1'⟩
  case round =>
    obtain ⟨k, hk, rfl, hFk, hSk, hbk⟩ := hrel
    have hzz := hbk.out.size
    have hFlt := hFk.out.lt
    obtain ⟨aa, ca, q0, q1, q2, hSS⟩ := cbox_cells hFk.out
    replace hSS := Lib.hid hSS
    have hpl := Lib.hid (puts_len k hA.out hz.out ho.out)
    by_cases hlt2 : k < C.length
    · obtain ⟨a2, k2, he, ha2⟩ := hSk.out.row
      cases he
      obtain ⟨b1, o1, he1, s1, cc⟩ := ha2 (by omega)
      subst he1
      have k1' : (0 : Int) ≤ (k : Int) := by omega
      have k2' : (k : Int) < (C.length : Nat) := by omega
      have e1 : wr.cell? ⟨b1, o1 + k, none⟩ = some (.int .u64 (C.getD k 0)) := cc k hlt2
      obtain ⟨x, hx⟩ : ∃ x, C.getD k 0 = x := ⟨_, rfl⟩
      rw [hx] at e1
      have hmem : x ∈ C := by rw [← hx]; exact getD_mem hlt2
      have hst := Lib.hid (puts_step (op := op) (s := s) hlt2 hx)
      have hcall := hp.out wr.drew x s hmem (by simp)
      obtain ⟨y, hy⟩ : ∃ y, op x s = y := ⟨_, rfl⟩
      rw [hy] at hcall hst
      replace hcall := Lib.hid hcall
      replace hy := Lib.hid hy
      replace hx := Lib.hid hx
      have hput := Lib.hid (fun (w2 : World) (hb2 : Below wr.drew.heap.size wr.drew w2) => put_c (.func (.func g) #[] #[]) B bx _ _ y w2 (CBox.below (w := wr.drew) hFk.out hb2 (Nat.le_refl _)) (fun d hd => by have h1 := hSk.out.lt d hd; have h2 := hb2.size; have h3 : wr.drew.heap.size = wr.heap.size := rfl; omega) (asc_puts k hA.out) (by have := hpl.out; omega) (by have h2 := hb2.size; have h3 : wr.drew.heap.size = wr.heap.size := rfl; omega))
      clear cc ha2
      go_wp2_with fail
      go_region_with (first
        | ((with_reducible refine hcall.out.mono ?_); rintro e w2 ⟨rfl, hb2⟩)
        | (go_at_call 76; (with_reducible refine (hput.out _ hb2).mono ?_); rintro e w3 ⟨⟨v, rfl⟩, hF', hb', hz', hD'⟩))
      all_goals
        rw [← hst.out] at hF'
        have hbd : Below B w wr.drew := hbk.out.drew
        have hSd : SetL wr.drew w.heap.size (.slice (some ⟨b1, o1, none⟩) C.length k1) C := hSk.out
        have hbb := Lib.hid ((hbd.trans (hb2.mono (Nat.le_trans hB hzz))).trans hb')
        have hSc := Lib.hid ((hSd.below hb2 (Nat.le_refl _)).same hD')
        replace hF' := Lib.hid hF'
        clear hput hFk hSk hSd hbd hb2 hb' hD'
        go_wp2_with fail
        go_roundw
        case rel => exact ⟨k + 1, by omega, by go_num, hF', hSc, hbb⟩
        case measure => simp [intOf]; omega
    · obtain rfl : k = C.length := by omega
      have hp3 := Lib.hid (put_c (.func (.func g) #[] #[]) B bx _ _ s wr hFk.out (fun d hd => by have := hSk.out.lt d hd; omega) (asc_puts C.length hA.out) (by have := hpl.out; omega) (by omega))
      have hpa := Lib.hid (puts_all op C s)
      clear hFk hSk
      go_wp2_with fail
      refine hp3.out.mono ?_
      rintro e w3 ⟨⟨v, rfl⟩, hF', hb', hz', hD'⟩
      rw [hpa.out] at hF'
      replace hb' := Lib.hid (hbk.out.trans hb')
      replace hF' := Lib.hid (hF'.other (D' := none) (fun d hd => by cases hd))
      clear hD'
      go_wp2_with fail
      go_end0
      exact ⟨⟨_, rfl⟩, hF'.out, hb'.out, by omega, fun d hd => by cases hd⟩
theorem three_cells {w : World} {h : Nat} {u0 u1 u2 : Value} (X Y Z : Value) (d0 : w.cell? ⟨h, 0, none⟩ = some u0) (d1 : w.cell? ⟨h, 1, none⟩ = some u1) (d2 : w.cell? ⟨h, 2, none⟩ = some u2) :
    (((w.setCell ⟨h, 0, none⟩ X).setCell ⟨h, 1, none⟩ Y).setCell ⟨h, 2, none⟩ Z).cell? ⟨h, 0, none⟩ = some X ∧ (((w.setCell ⟨h, 0, none⟩ X).setCell ⟨h, 1, none⟩ Y).setCell ⟨h, 2, none⟩ Z).cell? ⟨h, 1, none⟩ = some Y ∧ (((w.setCell ⟨h, 0, none⟩ X).setCell ⟨h, 1, none⟩ Y).setCell ⟨h, 2, none⟩ Z).cell? ⟨h, 2, none⟩ = some Z := by
  have r := two_cells X Y d0 d1
  refine ⟨?_, ?_, ?_⟩
  · rw [World.cell?_setCell_other _ _ _ _ (by intro e; injection e with _ e2; cases e2)]
    exact r.1
  · rw [World.cell?_setCell_other _ _ _ _ (by intro e; injection e with _ e2; cases e2)]
    exact r.2
  · refine World.cell?_setCell_same _ _ _ (u := u2) ?_
    rw [World.cell?_setCell_other _ _ _ _ (by intro e; injection e with _ e2; cases e2), World.cell?_setCell_other _ _ _ _ (by intro e; injection e with _ e2; cases e2)]
    exact d2
theorem res_cells3 {W0 W1 : World} {h : Nat} (hh : W0.heap[h]? = some (.cells #[.slice none 0 0, .nilFunc, .nilFunc] 66 (0, 0))) (hb : Below (h + 1) W0 W1) :
    W1.cell? ⟨h, 0, none⟩ = some (.slice none 0 0) ∧ W1.cell? ⟨h, 1, none⟩ = some .nilFunc ∧ W1.cell? ⟨h, 2, none⟩ = some .nilFunc ∧ W1.frozen? ⟨h, 0, none⟩ = false ∧ W1.frozen? ⟨h, 1, none⟩ = false ∧ W1.frozen? ⟨h, 2, none⟩ = false := by
  have hr : W1.heap[h]? = some (.cells #[.slice none 0 0, .nilFunc, .nilFunc] 66 (0, 0)) := by rw [hb.block h (by omega)]; exact hh
  exact ⟨by rw [cell_of_row W1 _ 0 _ 66 (0, 0) hr]; rfl, by rw [cell_of_row W1 _ 1 _ 66 (0, 0) hr]; rfl, by rw [cell_of_row W1 _ 2 _ 66 (0, 0) hr]; rfl, frozen_of hr _, frozen_of hr _, frozen_of hr _⟩
theorem clos_fin {w W1 : World} {h : Nat} {v cv : Value} {ys : List Int} (hS : SetL W1 (h + 1) v ys) (hb : Below w.heap.size w W1) (hh : w.heap.size ≤ h) :
    SetL (((W1.setCell ⟨h, 0, none⟩ v).setCell ⟨h, 1, none⟩ (Value.func (.func 87) #[] #[])).setCell ⟨h, 2, none⟩ cv) w.heap.size v ys ∧ Below w.heap.size w (((W1.setCell ⟨h, 0, none⟩ v).setCell ⟨h, 1, none⟩ (Value.func (.func 87) #[] #[])).setCell ⟨h, 2, none⟩ cv) :=
  ⟨(((hS.store _ _ (by intro e; have := hS.lt _ e; dsimp only at this; omega)).store _ _ (by intro e; have := hS.lt _ e; dsimp only at this; omega)).store _ _ (by intro e; have := hS.lt _ e; dsimp only at this; omega)).mono (by omega),
    below_setCell (below_setCell (below_setCell hb hh _) hh _) hh _⟩
theorem set_take {n : Int} {xs : List Int} (hf : ∀ z ∈ xs, setB n z = true) (k : Nat) : ∀ z ∈ xs.take k, setB n z = true := fun z hz => hf z (List.mem_of_mem_take hz)
set_option maxHeartbeats 4000000 in
theorem closed_by (g : Nat) (eg : EntersG g) (op : Int → Int → Int) (hs : Semi op) (n : Int) (lv : Value) (xs : List Int) (S : Nat) (w : World) (hx : SRow w S lv xs) (hS : S ≤ w.heap.size) (hl : xs.length ≤ 100000) (hf : ∀ z ∈ xs, setB n z = true)
    (hp : ∀ (C : List Int) (s : Int), (∀ z ∈ C, setB n z = true) → setB n s = true → OpV g op C [s]) :
    Calls Tryd.prog 42 #[.agg #[lv, (Value.func (.func 87) #[] #[])], .func (.func g) #[] #[]] w fun e w' => ∃ v, e = .returned (.agg #[v, (Value.func (.func 87) #[] #[]), .func (.func g) #[] #[]]) ∧ SetL w' w.heap.size v (ucL op xs) ∧ Below w.heap.size w w' := by
  have eg1 : ∀ args w, (callFunc g args).run Tryd.prog w = .ok (.enter g args) w := eg
  obtain ⟨a, cap, rfl, ha⟩ := hx
  replace ha := Lib.hid ha
  replace hf := Lib.hid hf
  replace hp := Lib.hid hp
  have hsn := Lib.hid (family_nil ((w.alloc (.cells #[.slice a xs.length cap, (Value.func (.func 87) #[] #[])] 51)).alloc (.cells #[.slice none 0 0, .nilFunc, .nilFunc] 66)))
  go_enter Tryd.func42, Tryd.ntmps42
  go_wp2_with fail
  refine hsn.out.mono ?_
  rintro e w1 ⟨v1, rfl, hS1, hb1⟩
  obtain ⟨a', c', rfl⟩ := hS1.form
  rw [World.size_alloc, World.size_alloc] at hS1 hb1
  have hz1 := hb1.size
  simp at hz1
  have hF1 := Lib.hid (cbox_new (cv := .func (.func g) #[] #[]) hS1 hz1)
  replace hS1 := Lib.hid hS1
  replace hb1 := Lib.hid hb1
  obtain ⟨l0, l1⟩ := pair_cells (new_cell2 w _ _ _) hb1.out (by omega)
  have hlt0 : w.heap.size < w1.heap.size := by omega
  have hlt1 : w.heap.size + 1 < w1.heap.size := by omega
  have hbw := Lib.hid (((Below.refl w.heap.size w).alloc (Nat.le_refl _) (.cells #[.slice a xs.length cap, (Value.func (.func 87) #[] #[])] 51)).alloc (by simp) (.cells #[.slice none 0 0, .nilFunc, .nilFunc] 66))
  clear hsn
  go_wp2_with fail
  go_loopw [14] (fun q wr => ∃ k : Nat, k ≤ xs.length ∧ q = .int .i64 k ∧ Hid (CBox (.func (.func g) #[] #[]) wr (w.heap.size + 2) w1.heap.size none (ucL op (xs.take k))) ∧ Hid (Below (w.heap.size + 2) ((w.alloc (.cells #[.slice a xs.length cap, (Value.func (.func 87) #[] #[])] 51)).alloc (.cells #[.slice none 0 0, .nilFunc, .nilFunc] 66)) wr)) (fun q _ => xs.length - (intOf q).toNat)
  case atStart => exact ⟨0, by omega, rfl, hF1, Lib.hid (hb1.out.alloc hz1 _)⟩
  case round =>
    obtain ⟨k, hk, rfl, hF, hb⟩ := hrel
    have hzz := hb.out.size
    simp at hzz
    have hFlt := hF.out.lt
    have hbb := Lib.hid (hbw.out.trans (hb.out.mono (by omega)))
    by_cases hlt : k < xs.length
    · obtain ⟨b1, o1, rfl, s1, c1⟩ := ha.out (by omega)
      have k1 : (0 : Int) ≤ (k : Int) := by omega
      have k2 : (k : Int) < (xs.length : Nat) := by omega
      have e1 : wr.cell? ⟨b1, o1 + k, none⟩ = some (.int .u64 (xs.getD k 0)) := by
        rw [hbb.out.cell (p := ⟨b1, o1 + k, none⟩) (show b1 < w.heap.size by omega)]
        exact c1 k hlt
      have hst := ucL_take (op := op) hlt
      obtain ⟨x, hx⟩ : ∃ x, xs.getD k 0 = x := ⟨_, rfl⟩
      have hsx : setB n x = true := by rw [← hx]; exact hf.out _ (getD_mem hlt)
      have hCs := ucL_set hs (set_take hf.out k)
      rw [hx] at e1 hst
      have hp3 := add_c g eg op (w.heap.size + 2) w1.heap.size _ x wr hF.out (asc_ucL op _) (by omega) (fun z hz => setB_lt (hCs z hz)) (fun z hz => setB_lt (hs.keep n z x (hCs z hz) hsx)) (hp.out _ x hCs hsx)
      rw [← hst] at hp3
      replace hp3 := Lib.hid hp3
      replace hsx := Lib.hid hsx
      clear c1 hst hx hF hCs
      go_wp2_with fail
      refine hp3.out.mono ?_
      rintro e w3 ⟨⟨v, rfl⟩, hF', hb', hz', _⟩
      replace hb' := Lib.hid (hb.out.trans hb')
      replace hF' := Lib.hid hF'
      go_wp2_with fail
      go_roundw
      case rel => exact ⟨k + 1, by omega, by go_num, hF', hb'⟩
      case measure => simp [intOf]; omega
    · obtain rfl : k = xs.length := by omega
      have hF2 := hF.out
      rw [List.take_length] at hF2
      obtain ⟨a2, c2, b0, b1, b2, hS2⟩ := cbox_cells hF2
      obtain ⟨d0, d1, d2, df0, df1, df2⟩ := res_cells3 (new_cell1 w _ _ _) hb.out
      have rr := three_cells (.slice a2 (ucL op xs).length c2) (Value.func (.func 87) #[] #[]) (.func (.func g) #[] #[]) d0 d1 d2
      have hff := Lib.hid (clos_fin (cv := .func (.func g) #[] #[]) hS2 hbb.out (by omega))
      clear hF hF2 hS2
      go_wp2_with fail
      exact bodyPost_ret (v := .agg #[.slice a2 (ucL op xs).length c2, (Value.func (.func 87) #[] #[]), .func (.func g) #[] #[]]) (by simp [results, Tryd.results42, go_sem, rr.1, rr.2.1, rr.2.2]) rfl ⟨_, rfl, hff.out⟩

end
section
/- A list that closing leaves as it is. -/
open Go.ChangeShapes Go.WideShapes Go.ChangeAt Go.RowKit Go.Proofs

/-- the function value g makes ys of the list xs for n points, and says ok. -/
def ClosV (g : Nat) (n : Int) (xs ys : List Int) (ok : Bool) : Prop := ∀ (W : World) (u : Value) (S : Nat), Row W S u xs → S ≤ W.heap.size → Calls Tryd.prog g #[.int .i64 n, u] W (ListPost ys ok W)
set_option maxHeartbeats 2000000 in
theorem unchanged_at (g : Nat) (eg : EntersG g) (n : Int) (lv : Value) (xs ys : List Int) (ok : Bool) (S : Nat) (w : World) (hx : Row w S lv xs) (hS : S ≤ w.heap.size) (hl : xs.length ≤ 100000000) (hl2 : ys.length ≤ 100000000) (hc : ClosV g n xs ys ok) :
    Calls Tryd.prog 37 #[.int .i64 n, lv, .func (.func g) #[] #[]] w fun e w' => e = .returned (.bool (ok && sameB ys xs)) ∧ Below w.heap.size w w' := by
  have eg1 : ∀ args w, (callFunc g args).run Tryd.prog w = .ok (.enter g args) w := eg
  have hm := Lib.hid (hc w lv S hx hS)
  have hx' := Lib.hid hx
  obtain ⟨la, lc, rfl, _⟩ := id hx
  clear hx
  cases ok
  · go_enter Tryd.func37, Tryd.ntmps37
    go_wp2_with fail
    refine hm.out.mono ?_
    rintro e w1 ⟨v, rfl, hO, hb⟩
    obtain ⟨ua, uc, rfl, _⟩ := id hO
    replace hb := Lib.hid hb
    clear hm hO
    go_wp2_with fail
    go_ret
    exact ⟨rfl, hb.out⟩
  · go_enter Tryd.func37, Tryd.ntmps37
    go_wp2_with fail
    refine hm.out.mono ?_
    rintro e w1 ⟨v, rfl, hO, hb⟩
    obtain ⟨ua, uc, rfl, _⟩ := id hO
    have hsz := hb.size
    have heq := Lib.hid (equal_ints _ _ ys xs w1.heap.size w1 hO.row ((hx'.out.below hb hS).mono (by omega)) (by omega) (by omega))
    have hr := Lib.hid (show (true && sameB ys xs) = sameB ys xs from Bool.true_and _)
    replace hb := Lib.hid hb
    clear hm hO
    go_wp2_with fail
    refine heq.out.mono ?_
    rintro e w2 ⟨rfl, q, rfl⟩
    go_wp2_with fail
    go_ret
    exact ⟨by rw [hr.out]; rfl, below_drewN hb.out q⟩
theorem ifL_same (b : Bool) (ys xs : List Int) : (b && sameB (ifL b ys) xs) = (b && sameB ys xs) := by cases b <;> rfl
theorem ifL_small {b : Bool} {ys : List Int} (h : b = true → ys.length ≤ 100000000) : (ifL b ys).length ≤ 100000000 := by
  unfold ifL
  cases b
  · simp
  · exact h rfl

end
section
/- The program's UnionOf, MeetOf, UnionIn, MeetIn. -/
open Go.ChangeShapes Go.WideShapes Go.ChangeAt Go.RowKit Go.Proofs

/-- the family of a closed family. -/
theorem fld_fam (x y z : Value) (w : World) : (Instr.field 66 (.agg #[x, y, z]) 0).run Tryd.prog w = .ok (.agg #[x, y]) w := by kernel_rfl

theorem unionC_op {n : Int} {C : List Int} {s : Int} (hC : ∀ z ∈ C, setB n z = true) (hs : setB n s = true) : OpV 66 orI C [s] := fun W x y hx hy => by
  rw [List.mem_singleton] at hy
  subst hy
  obtain ⟨x1, x2⟩ := setB_lt (hC x hx)
  obtain ⟨y1, y2⟩ := setB_lt hs
  have ho := u64_orI x1 x2 y1 y2
  obtain ⟨r, hr⟩ : ∃ r, orI x y = r := ⟨_, rfl⟩
  rw [hr] at ho ⊢
  replace hr := Lib.hid hr
  clear hx hC hs
  go_enter Tryd.func66, Tryd.ntmps66
  go_wp2
  go_ret
  exact ⟨rfl, Below.refl _ _⟩
set_option maxHeartbeats 2000000 in
theorem unionC_fam {n : Int} {xs : List Int} {w : World} (hf : famB n xs = true) : FamMap 65 #[] xs (ucL orI xs) w := fun W lv hb hx => by
  obtain ⟨a, cap, rfl, _⟩ := id hx
  have hbw := ((Below.refl W.heap.size W).alloc (Nat.le_refl _) (.cells #[.slice a xs.length cap, (Value.func (.func 87) #[] #[])] 51)).alloc (by simp) (.cells #[.slice none 0 0, .nilFunc] 51)
  have hk := Lib.hid (closed_by 66 (enters_of Tryd.func66 (by kernel_rfl) rfl) orI semi_or n _ xs _ _ (hx.below hbw (Nat.le_refl _)) (by simp; omega) (fam_len hf) (famB_all hf).2.2 (fun C s h1 h2 => unionC_op h1 h2))
  obtain ⟨ys, hys⟩ : ∃ ys, ucL orI xs = ys := ⟨_, rfl⟩
  rw [hys] at hk ⊢
  replace hys := Lib.hid hys
  replace hbw := Lib.hid hbw
  clear hx hb hf
  show Calls Tryd.prog 65 #[.agg #[.slice a xs.length cap, (Value.func (.func 87) #[] #[])]] W _
  go_enter Tryd.func65, Tryd.ntmps65
  go_wp2_with fail
  refine hk.out.mono ?_
  rintro e w2 ⟨v, rfl, hS2, hb2⟩
  obtain ⟨a', c', rfl⟩ := hS2.form
  rw [World.size_alloc, World.size_alloc] at hS2 hb2
  obtain ⟨d0, d1, df0, df1⟩ := res_cells (new_cell1 W _ _ _) hb2
  have rr := two_cells (.slice a' ys.length c') (Value.func (.func 87) #[] #[]) d0 d1
  have hff := Lib.hid (fam_fin hS2 (hbw.out.trans (hb2.mono (by omega))) (by omega))
  clear hS2 hb2 hk
  have hfl := fld_fam
  go_wp2_with fail
  exact bodyPost_ret (v := .agg #[.slice a' ys.length c', (Value.func (.func 87) #[] #[])]) (by simp [results, Tryd.results65, go_sem, rr.1, rr.2]) rfl ⟨_, rfl, hff.out⟩
set_option maxHeartbeats 1000000 in
theorem im_UnionOf (n : Int) (lv : Value) (xs : List Int) (S : Nat) (w : World) (hx : Row w S lv xs) (hS : S ≤ w.heap.size) (hl : xs.length ≤ 100000000) :
    Calls Tryd.prog 38 #[.int .i64 n, lv] w (ListPost (ifL (famB n xs) (ucL orI xs)) (famB n xs) w) := by
  have hm := Lib.hid (made_one 65 (enters_of Tryd.func65 (by kernel_rfl) rfl) #[] n lv xs (ucL orI xs) S w hx hS hl (fun hf => ⟨unionC_fam hf, fun z hz => setB_lt (ucL_set semi_or (famB_all hf).2.2 z hz), by have := ucL_len semi_or (famB_all hf).2.2; omega⟩))
  obtain ⟨la, lc, rfl, _⟩ := id hx
  clear hx
  go_enter Tryd.func38, Tryd.ntmps38
  go_wp2_with fail
  refine hm.out.mono ?_
  rintro e w2 ⟨v, rfl, hO, hb⟩
  obtain ⟨ua, uc, rfl, _⟩ := id hO
  replace hO := Lib.hid hO
  replace hb := Lib.hid hb
  clear hm
  go_wp2_with fail
  go_ret2
  exact ⟨_, rfl, hO.out, hb.out⟩
set_option maxHeartbeats 1000000 in
theorem im_UnionIn (n : Int) (lv : Value) (xs : List Int) (S : Nat) (w : World) (hx : Row w S lv xs) (hS : S ≤ w.heap.size) (hl : xs.length ≤ 100000000) :
    Calls Tryd.prog 19 #[.int .i64 n, lv] w fun e w' => e = .returned (.bool (famB n xs && sameB (ucL orI xs) xs)) ∧ Below w.heap.size w w' := by
  have hm := unchanged_at 38 (enters_of Tryd.func38 (by kernel_rfl) rfl) n lv xs (ifL (famB n xs) (ucL orI xs)) (famB n xs) S w hx hS hl (ifL_small (fun hf => by have h := ucL_len semi_or (famB_all hf).2.2; omega)) (fun W u S' h1 h2 => im_UnionOf n u xs S' W h1 h2 hl)
  rw [ifL_same] at hm
  replace hm := Lib.hid hm
  obtain ⟨la, lc, rfl, _⟩ := id hx
  clear hx
  go_enter Tryd.func19, Tryd.ntmps19
  go_wp2_with fail
  refine hm.out.mono ?_
  rintro e w2 ⟨rfl, hb⟩
  replace hb := Lib.hid hb
  clear hm
  go_wp2_with fail
  go_ret
  exact ⟨rfl, hb.out⟩

theorem commonC_op {n : Int} {C : List Int} {s : Int} (hC : ∀ z ∈ C, setB n z = true) (hs : setB n s = true) : OpV 43 andI C [s] := fun W x y hx hy => by
  rw [List.mem_singleton] at hy
  subst hy
  obtain ⟨x1, x2⟩ := setB_lt (hC x hx)
  obtain ⟨y1, y2⟩ := setB_lt hs
  have ho := u64_andI x1 x2 y1 y2
  obtain ⟨r, hr⟩ : ∃ r, andI x y = r := ⟨_, rfl⟩
  rw [hr] at ho ⊢
  replace hr := Lib.hid hr
  clear hx hC hs
  go_enter Tryd.func43, Tryd.ntmps43
  go_wp2
  go_ret
  exact ⟨rfl, Below.refl _ _⟩
set_option maxHeartbeats 2000000 in
theorem commonC_fam {n : Int} {xs : List Int} {w : World} (hf : famB n xs = true) : FamMap 41 #[] xs (ucL andI xs) w := fun W lv hb hx => by
  obtain ⟨a, cap, rfl, _⟩ := id hx
  have hbw := ((Below.refl W.heap.size W).alloc (Nat.le_refl _) (.cells #[.slice a xs.length cap, (Value.func (.func 87) #[] #[])] 51)).alloc (by simp) (.cells #[.slice none 0 0, .nilFunc] 51)
  have hk := Lib.hid (closed_by 43 (enters_of Tryd.func43 (by kernel_rfl) rfl) andI semi_and n _ xs _ _ (hx.below hbw (Nat.le_refl _)) (by simp; omega) (fam_len hf) (famB_all hf).2.2 (fun C s h1 h2 => commonC_op h1 h2))
  obtain ⟨ys, hys⟩ : ∃ ys, ucL andI xs = ys := ⟨_, rfl⟩
  rw [hys] at hk ⊢
  replace hys := Lib.hid hys
  replace hbw := Lib.hid hbw
  clear hx hb hf
  show Calls Tryd.prog 41 #[.agg #[.slice a xs.length cap, (Value.func (.func 87) #[] #[])]] W _
  go_enter Tryd.func41, Tryd.ntmps41
  go_wp2_with fail
  refine hk.out.mono ?_
  rintro e w2 ⟨v, rfl, hS2, hb2⟩
  obtain ⟨a', c', rfl⟩ := hS2.form
  rw [World.size_alloc, World.size_alloc] at hS2 hb2
  obtain ⟨d0, d1, df0, df1⟩ := res_cells (new_cell1 W _ _ _) hb2
  have rr := two_cells (.slice a' ys.length c') (Value.func (.func 87) #[] #[]) d0 d1
  have hff := Lib.hid (fam_fin hS2 (hbw.out.trans (hb2.mono (by omega))) (by omega))
  clear hS2 hb2 hk
  have hfl := fld_fam
  go_wp2_with fail
  exact bodyPost_ret (v := .agg #[.slice a' ys.length c', (Value.func (.func 87) #[] #[])]) (by simp [results, Tryd.results41, go_sem, rr.1, rr.2]) rfl ⟨_, rfl, hff.out⟩
set_option maxHeartbeats 1000000 in
theorem im_MeetOf (n : Int) (lv : Value) (xs : List Int) (S : Nat) (w : World) (hx : Row w S lv xs) (hS : S ≤ w.heap.size) (hl : xs.length ≤ 100000000) :
    Calls Tryd.prog 21 #[.int .i64 n, lv] w (ListPost (ifL (famB n xs) (ucL andI xs)) (famB n xs) w) := by
  have hm := Lib.hid (made_one 41 (enters_of Tryd.func41 (by kernel_rfl) rfl) #[] n lv xs (ucL andI xs) S w hx hS hl (fun hf => ⟨commonC_fam hf, fun z hz => setB_lt (ucL_set semi_and (famB_all hf).2.2 z hz), by have := ucL_len semi_and (famB_all hf).2.2; omega⟩))
  obtain ⟨la, lc, rfl, _⟩ := id hx
  clear hx
  go_enter Tryd.func21, Tryd.ntmps21
  go_wp2_with fail
  refine hm.out.mono ?_
  rintro e w2 ⟨v, rfl, hO, hb⟩
  obtain ⟨ua, uc, rfl, _⟩ := id hO
  replace hO := Lib.hid hO
  replace hb := Lib.hid hb
  clear hm
  go_wp2_with fail
  go_ret2
  exact ⟨_, rfl, hO.out, hb.out⟩
end
end Go.Proofs.YtjhjmbiecihjhaaDoor
