/- Families closed under unions or common parts: the least closed family that has all sets of a list. Plain mathematics. -/
import Derived.Test.YtjhjmbiecihjhaaDoorAc1
namespace Go.Proofs.YtjhjmbiecihjhaaDoor
open Go.ChangeShapes Go.WideShapes Go.ChangeAt Go.RowKit Go.Proofs

/-- op makes a set of two sets, the same one of the same two, in whatever order. -/
structure Semi (op : Int → Int → Int) : Prop where
  pos : ∀ x y, 0 ≤ op x y
  idem : ∀ x, 0 ≤ x → op x x = x
  comm : ∀ x y, op x y = op y x
  assoc : ∀ x y z, op (op x y) z = op x (op y z)
  keep : ∀ n x y, setB n x = true → setB n y = true → setB n (op x y) = true
theorem semi_or : Semi orI where
  pos x y := by unfold orI; omega
  idem x h := by unfold orI; rw [Nat.or_self]; omega
  comm x y := by unfold orI; rw [Nat.or_comm]
  assoc x y z := by unfold orI; simp only [Int.toNat_natCast]; rw [Nat.or_assoc]
  keep n x y h1 h2 := orI_set h1 h2
theorem semi_and : Semi andI where
  pos x y := by unfold andI; omega
  idem x h := by unfold andI; rw [Nat.and_self]; omega
  comm x y := by unfold andI; rw [Nat.and_comm]
  assoc x y z := by unfold andI; simp only [Int.toNat_natCast]; rw [Nat.and_assoc]
  keep n x y h1 h2 := andI_set h1 h2
/-- what putting one set into a closed family leaves. -/
def addL (op : Int → Int → Int) (C : List Int) (s : Int) : List Int := insI s (C.foldl (fun a x => insI (op x s) a) C)
/-- the least closed family that has all sets of a list. -/
def ucL (op : Int → Int → Int) (xs : List Int) : List Int := xs.foldl (addL op) []
theorem mem_foldI (f : Int → Int) : ∀ (xs a : List Int) (z : Int), z ∈ xs.foldl (fun a x => insI (f x) a) a ↔ z ∈ a ∨ ∃ x ∈ xs, z = f x
  | [], a, z => by simp
  | x :: xs, a, z => by
    rw [List.foldl_cons, mem_foldI f xs, mem_insI]
    constructor
    · rintro ((h | h) | ⟨y, hy, h⟩)
      · exact .inr ⟨x, by simp, h⟩
      · exact .inl h
      · exact .inr ⟨y, by simp [hy], h⟩
    · rintro (h | ⟨y, hy, h⟩)
      · exact .inl (.inr h)
      · rcases List.mem_cons.1 hy with rfl | hy
        · exact .inl (.inl h)
        · exact .inr ⟨y, hy, h⟩
theorem asc_foldI (f : Int → Int) : ∀ (xs a : List Int), Asc a → Asc (xs.foldl (fun a x => insI (f x) a) a)
  | [], _, h => h
  | x :: xs, a, h => by rw [List.foldl_cons]; exact asc_foldI f xs _ (asc_insI h)
theorem mem_addL {op : Int → Int → Int} {C : List Int} {s z : Int} : z ∈ addL op C s ↔ z = s ∨ z ∈ C ∨ ∃ x ∈ C, z = op x s := by
  unfold addL
  rw [mem_insI, mem_foldI]
theorem asc_addL {op : Int → Int → Int} {C : List Int} {s : Int} (h : Asc C) : Asc (addL op C s) := asc_insI (asc_foldI (fun x => op x s) C C h)
theorem ucL_snoc (op : Int → Int → Int) (xs : List Int) (s : Int) : ucL op (xs ++ [s]) = addL op (ucL op xs) s := by unfold ucL; rw [List.foldl_append]; rfl
theorem ucL_take {op : Int → Int → Int} {xs : List Int} {k : Nat} (h : k < xs.length) : ucL op (xs.take (k + 1)) = addL op (ucL op (xs.take k)) (xs.getD k 0) := by rw [take_snoc h, ucL_snoc]
theorem asc_foldA (op : Int → Int → Int) : ∀ (xs C : List Int), Asc C → Asc (xs.foldl (addL op) C)
  | [], _, h => h
  | x :: xs, C, h => by rw [List.foldl_cons]; exact asc_foldA op xs _ (asc_addL h)
theorem asc_ucL (op : Int → Int → Int) (xs : List Int) : Asc (ucL op xs) := asc_foldA op xs [] List.Pairwise.nil
/-- with each two sets the family has what op makes of them. -/
def ClosedU (op : Int → Int → Int) (C : List Int) : Prop := ∀ x ∈ C, ∀ y ∈ C, op x y ∈ C
theorem addL_closed {op : Int → Int → Int} (hs : Semi op) {C : List Int} {s : Int} (hC : ClosedU op C) (h1 : 0 ≤ s) : ClosedU op (addL op C s) := by
  have e1 : ∀ c, op (op c s) s = op c s := fun c => by rw [hs.assoc, hs.idem s h1]
  intro x hx y hy
  rw [mem_addL] at hx hy ⊢
  rcases hx with rfl | hx | ⟨c, hc, rfl⟩ <;> rcases hy with rfl | hy | ⟨d, hd, rfl⟩
  · exact .inl (hs.idem _ h1)
  · exact .inr (.inr ⟨y, hy, hs.comm _ _⟩)
  · exact .inr (.inr ⟨d, hd, by rw [hs.comm, e1]⟩)
  · exact .inr (.inr ⟨x, hx, rfl⟩)
  · exact .inr (.inl (hC x hx y hy))
  · exact .inr (.inr ⟨op x d, hC x hx d hd, by rw [hs.assoc]⟩)
  · exact .inr (.inr ⟨c, hc, e1 c⟩)
  · exact .inr (.inr ⟨op c y, hC c hc y hy, by rw [hs.assoc, hs.comm s y, hs.assoc]⟩)
  · exact .inr (.inr ⟨op c d, hC c hc d hd, by rw [hs.assoc c s, hs.comm s (op d s), e1, hs.assoc]⟩)
theorem fold_closed {op : Int → Int → Int} (hs : Semi op) : ∀ (xs C : List Int), ClosedU op C → (∀ z ∈ xs, 0 ≤ z) → ClosedU op (xs.foldl (addL op) C) ∧ (∀ z ∈ C, z ∈ xs.foldl (addL op) C) ∧ (∀ z ∈ xs, z ∈ xs.foldl (addL op) C)
  | [], C, h, _ => ⟨h, fun _ hz => hz, fun z hz => by simp at hz⟩
  | x :: xs, C, h, h1 => by
    rw [List.foldl_cons]
    have hx : 0 ≤ x := h1 x (by simp)
    obtain ⟨a, b, c⟩ := fold_closed hs xs (addL op C x) (addL_closed hs h hx) (fun z hz => h1 z (by simp [hz]))
    refine ⟨a, fun z hz => b z (mem_addL.2 (.inr (.inl hz))), fun z hz => ?_⟩
    rcases List.mem_cons.1 hz with rfl | hz
    · exact b _ (mem_addL.2 (.inl rfl))
    · exact c z hz
theorem fold_least {op : Int → Int → Int} {Q : Int → Prop} : ∀ (xs C : List Int), (∀ z ∈ C, Q z) → (∀ z ∈ xs, Q z) → (∀ a b, Q a → b ∈ xs → Q (op a b)) → ∀ z ∈ xs.foldl (addL op) C, Q z
  | [], _, h, _, _ => h
  | x :: xs, C, h, h1, h2 => by
    rw [List.foldl_cons]
    refine fold_least xs (addL op C x) (fun z hz => ?_) (fun z hz => h1 z (by simp [hz])) (fun a b ha hb => h2 a b ha (by simp [hb]))
    rcases mem_addL.1 hz with rfl | hz | ⟨y, hy, rfl⟩
    · exact h1 _ (by simp)
    · exact h z hz
    · exact h2 y x (h y hy) (by simp)
theorem ucL_closed {op : Int → Int → Int} (hs : Semi op) {xs : List Int} (h0 : ∀ z ∈ xs, 0 ≤ z) : ClosedU op (ucL op xs) := (fold_closed hs xs [] (fun z hz => by simp at hz) h0).1
theorem ucL_has {op : Int → Int → Int} (hs : Semi op) {xs : List Int} (h0 : ∀ z ∈ xs, 0 ≤ z) : ∀ z ∈ xs, z ∈ ucL op xs := (fold_closed hs xs [] (fun z hz => by simp at hz) h0).2.2
theorem ucL_least {op : Int → Int → Int} {Q : Int → Prop} {xs : List Int} (h1 : ∀ z ∈ xs, Q z) (h2 : ∀ a b, Q a → b ∈ xs → Q (op a b)) : ∀ z ∈ ucL op xs, Q z := fold_least xs [] (fun z hz => by simp at hz) h1 h2
theorem ucL_set {op : Int → Int → Int} (hs : Semi op) {n : Int} {xs : List Int} (h : ∀ z ∈ xs, setB n z = true) : ∀ z ∈ ucL op xs, setB n z = true := ucL_least h (fun a b ha hb => hs.keep n a b ha (h b hb))
theorem ucL_len {op : Int → Int → Int} (hs : Semi op) {n : Int} {xs : List Int} (h : ∀ z ∈ xs, setB n z = true) : (ucL op xs).length ≤ 256 := asc_len256 (asc_ucL op xs) (fun z hz => setB_lt (ucL_set hs h z hz))
/-- a list that ascends, has the sets, is closed under taking one more of them and has no more than it must is the least closed family. -/
theorem ucL_eq {op : Int → Int → Int} {xs L : List Int} (hA : Asc L) (h1 : ∀ z ∈ xs, z ∈ L) (h2 : ∀ a ∈ L, ∀ b ∈ xs, op a b ∈ L) (h3 : ∀ z ∈ L, z ∈ ucL op xs) : L = ucL op xs :=
  asc_ext hA (asc_ucL op xs) (fun z => ⟨h3 z, ucL_least (Q := fun z => z ∈ L) h1 (fun a b ha hb => h2 a ha b hb) z⟩)
theorem ucL_fix {op : Int → Int → Int} (hs : Semi op) {xs : List Int} (hA : Asc xs) (h0 : ∀ z ∈ xs, 0 ≤ z) : ucL op xs = xs ↔ ClosedU op xs := by
  constructor
  · intro h
    have := ucL_closed hs h0
    rw [h] at this
    exact this
  · intro h
    exact (ucL_eq hA (fun z hz => hz) (fun a ha b hb => h a ha b hb) (ucL_has hs h0)).symm
theorem ucL_fam {op : Int → Int → Int} (hs : Semi op) {n : Int} {xs : List Int} (h : famB n xs = true) : famB n (ucL op xs) = true := by
  obtain ⟨n1, n2, h3⟩ := famB_all h
  exact famB_mk (decide_eq_true ⟨n1, n2⟩) (ucL_set hs h3) (asc_ucL op xs)
end Go.Proofs.YtjhjmbiecihjhaaDoor
