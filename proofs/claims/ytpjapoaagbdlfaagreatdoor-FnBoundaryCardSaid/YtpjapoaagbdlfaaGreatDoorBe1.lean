/- Inner edges: plain mathematics. -/
import Derived.Test.YtpjapoaagbdlfaaGreatDoorBn1
import Derived.Test.YtpjapoaagbdlfaaGreatDoorIter
namespace Go.Proofs.YtpjapoaagbdlfaaGreatDoor
open Go.ChangeShapes Go.WideShapes Go.ChangeAt Go.RowKit Go.Proofs

/-- for how many p below N P holds of s and p. -/
def rowT (P : Int → Nat → Bool) (s : Int) : Nat → Nat
  | 0 => 0
  | N + 1 => rowT P s N + (if P s N then 1 else 0)
/-- the same for all sets of a list. -/
def colT (P : Int → Nat → Bool) (ys : List Int) : Nat → Nat
  | 0 => 0
  | N + 1 => colT P ys N + ys.countP (fun s => P s N)
theorem rowT_le (P : Int → Nat → Bool) (s : Int) : ∀ N, rowT P s N ≤ N
  | 0 => Nat.le_refl _
  | N + 1 => by have := rowT_le P s N; simp only [rowT]; split <;> omega
theorem colT_nil (P : Int → Nat → Bool) : ∀ N, colT P [] N = 0
  | 0 => rfl
  | N + 1 => by simp [colT, colT_nil P N]
theorem colT_le (P : Int → Nat → Bool) (ys : List Int) : ∀ N, colT P ys N ≤ N * ys.length
  | 0 => by simp [colT]
  | N + 1 => by
    have h := colT_le P ys N
    have h2 := List.countP_le_length (p := fun s => P s N) (l := ys)
    simp only [colT, Nat.add_mul, Nat.one_mul]
    omega
theorem colT_snoc (P : Int → Nat → Bool) (ys : List Int) (s : Int) : ∀ N, colT P (ys ++ [s]) N = colT P ys N + rowT P s N
  | 0 => rfl
  | N + 1 => by
    simp only [colT, rowT]
    rw [colT_snoc P ys s N, List.countP_append]
    simp [List.countP_cons]; omega
theorem colT_take (P : Int → Nat → Bool) {xs : List Int} {k : Nat} {x : Int} (hk : k < xs.length) (hx : xs.getD k 0 = x) (N : Nat) : colT P (xs.take (k + 1)) N = colT P (xs.take k) N + rowT P x N := by
  rw [take_snoc hk, hx, colT_snoc]
/-- s has p, and without it it is one of xs. -/
def inP (xs : List Int) (s : Int) (p : Nat) : Bool := hasB s (p : Nat) && memB (lessI s (p : Nat)) xs
/-- s has not p, and with it it is one of xs. -/
def outP (xs : List Int) (s : Int) (p : Nat) : Bool := !hasB s (p : Nat) && memB (withI s (p : Nat)) xs
/-- the neighbour of s at p is one of xs. -/
def nbP (xs : List Int) (s : Int) (p : Nat) : Bool := memB (xorI s (2 ^ p)) xs
theorem nb_dec : ∀ s : Fin 256, ∀ p : Fin 8, xorI (s.val : Nat) (2 ^ p.val) = (if hasB (s.val : Nat) (p.val : Nat) then lessI (s.val : Nat) (p.val : Nat) else withI (s.val : Nat) (p.val : Nat)) ∧
    (hasB (s.val : Nat) (p.val : Nat) = true → hasB (lessI (s.val : Nat) (p.val : Nat)) (p.val : Nat) = false ∧ withI (lessI (s.val : Nat) (p.val : Nat)) (p.val : Nat) = (s.val : Nat)) ∧
    (hasB (s.val : Nat) (p.val : Nat) = false → hasB (withI (s.val : Nat) (p.val : Nat)) (p.val : Nat) = true ∧ lessI (withI (s.val : Nat) (p.val : Nat)) (p.val : Nat) = (s.val : Nat)) := by decide +kernel
theorem nb_facts {s : Int} (h1 : 0 ≤ s) (h2 : s < 256) {p : Nat} (hp : p < 8) : xorI s (2 ^ p) = (if hasB s (p : Nat) then lessI s (p : Nat) else withI s (p : Nat)) ∧
    (hasB s (p : Nat) = true → hasB (lessI s (p : Nat)) (p : Nat) = false ∧ withI (lessI s (p : Nat)) (p : Nat) = s) ∧
    (hasB s (p : Nat) = false → hasB (withI s (p : Nat)) (p : Nat) = true ∧ lessI (withI s (p : Nat)) (p : Nat) = s) := by
  have h := nb_dec ⟨s.toNat, by omega⟩ ⟨p, hp⟩
  have e : ((s.toNat : Nat) : Int) = s := Int.toNat_of_nonneg h1
  simpa only [e] using h
theorem nb_or {xs : List Int} {s : Int} (h1 : 0 ≤ s) (h2 : s < 256) {p : Nat} (hp : p < 8) : nbP xs s p = (inP xs s p || outP xs s p) := by
  obtain ⟨a, _, _⟩ := nb_facts h1 h2 hp
  unfold nbP inP outP
  rw [a]
  cases hasB s (p : Nat) <;> simp
theorem less_mono : ∀ s : Fin 256, ∀ p : Fin 8, hasB (s.val : Nat) (p.val : Nat) = true → lessI (s.val : Nat) (p.val : Nat) = (s.val : Nat) - 2 ^ p.val := by decide +kernel
theorem count_len (p : Int → Bool) (xs : List Int) : xs.countP p = (xs.filter p).length := List.countP_eq_length_filter
/-- as many sets lose a point and stay as gain it and stay. -/
theorem in_out {xs : List Int} (hA : Asc xs) (hz : ∀ z ∈ xs, 0 ≤ z ∧ z < 256) {p : Nat} (hp : p < 8) : xs.countP (fun s => inP xs s p) = xs.countP (fun s => outP xs s p) := by
  rw [count_len, count_len]
  have e : (xs.filter (fun s => inP xs s p)).map (fun s => lessI s (p : Nat)) = xs.filter (fun s => outP xs s p) := by
    refine asc_ext ?_ (asc_filter hA _) (fun z => ?_)
    · refine asc_map (asc_filter hA _) (fun x hx y hy hxy => ?_)
      obtain ⟨x1, x2⟩ := List.mem_filter.1 hx
      obtain ⟨y1, y2⟩ := List.mem_filter.1 hy
      unfold inP at x2 y2
      rw [Bool.and_eq_true] at x2 y2
      obtain ⟨a1, a2⟩ := hz x x1
      obtain ⟨b1, b2⟩ := hz y y1
      have f1 := less_mono ⟨x.toNat, by omega⟩ ⟨p, hp⟩
      have f2 := less_mono ⟨y.toNat, by omega⟩ ⟨p, hp⟩
      have g1 : ((x.toNat : Nat) : Int) = x := Int.toNat_of_nonneg a1
      have g2 : ((y.toNat : Nat) : Int) = y := Int.toNat_of_nonneg b1
      simp only [g1, g2] at f1 f2
      rw [f1 x2.1, f2 y2.1]; omega
    · rw [List.mem_map, List.mem_filter]
      constructor
      · rintro ⟨s, hs, rfl⟩
        obtain ⟨s1, s2⟩ := List.mem_filter.1 hs
        unfold inP at s2
        rw [Bool.and_eq_true] at s2
        obtain ⟨a1, a2⟩ := hz s s1
        obtain ⟨_, f, _⟩ := nb_facts a1 a2 hp
        obtain ⟨f1, f2⟩ := f s2.1
        refine ⟨memB_yes s2.2, ?_⟩
        unfold outP
        rw [f1, f2, memB_mk s1]; rfl
      · rintro ⟨z1, z2⟩
        unfold outP at z2
        rw [Bool.and_eq_true, Bool.not_eq_true'] at z2
        obtain ⟨a1, a2⟩ := hz z z1
        obtain ⟨_, _, f⟩ := nb_facts a1 a2 hp
        obtain ⟨f1, f2⟩ := f z2.1
        refine ⟨withI z (p : Nat), List.mem_filter.2 ⟨memB_yes z2.2, ?_⟩, f2⟩
        unfold inP
        rw [f1, f2, memB_mk z1]; rfl
  rw [← e, List.length_map]
theorem countP_or {p q : Int → Bool} : ∀ (xs : List Int), (∀ z ∈ xs, p z = true → q z = false) → xs.countP (fun z => p z || q z) = xs.countP p + xs.countP q
  | [], _ => rfl
  | x :: xs, h => by
    have ih := countP_or xs (fun z hz => h z (List.mem_cons_of_mem _ hz))
    have hx := h x (List.mem_cons_self ..)
    simp only [List.countP_cons, ih]
    cases e1 : p x <;> cases e2 : q x <;> simp_all <;> omega
theorem nb_twice {xs : List Int} (hA : Asc xs) (hz : ∀ z ∈ xs, 0 ≤ z ∧ z < 256) : ∀ N, N ≤ 8 → colT (nbP xs) xs N = 2 * colT (inP xs) xs N
  | 0, _ => rfl
  | N + 1, h => by
    have ih := nb_twice hA hz N (by omega)
    simp only [colT]
    have e : xs.countP (fun s => nbP xs s N) = xs.countP (fun s => inP xs s N || outP xs s N) := List.countP_congr (fun s hs => by
      obtain ⟨a1, a2⟩ := hz s hs
      rw [nb_or a1 a2 (show N < 8 by omega)])
    have e2 := countP_or (p := fun s => inP xs s N) (q := fun s => outP xs s N) xs (fun z _ hh => by
      unfold inP at hh
      rw [Bool.and_eq_true] at hh
      show outP xs z N = false
      unfold outP; rw [hh.1]; rfl)
    have e3 := in_out hA hz (show N < 8 by omega)
    rw [e, e2, ih, ← e3]; omega
/-- the points of a set below k, counted. -/
theorem row_pts (xs : List Int) (s : Int) : ∀ k, (ptsTo s k).countP (fun p => memB (lessI s p) xs) = rowT (inP xs) s k
  | 0 => rfl
  | k + 1 => by
    simp only [ptsTo, rowT, List.countP_append, row_pts xs s k]
    unfold inP
    cases hasB s (k : Nat) <;> simp [List.countP_cons]
theorem row_ptsI (xs : List Int) (s : Int) : (ptsI s).countP (fun p => memB (lessI s p) xs) = rowT (inP xs) s 8 := row_pts xs s 8
theorem has_high : ∀ n : Fin 9, ∀ s : Fin 256, ∀ p : Fin 8, s.val < 2 ^ n.val → n.val ≤ p.val → hasB (s.val : Nat) (p.val : Nat) = false := by decide +kernel
theorem col_pts {n : Int} {xs : List Int} (n1 : 1 ≤ n) (n2 : n ≤ 8) (hs : ∀ z ∈ xs, setB n z = true) : ∀ k, n.toNat + k ≤ 8 → colT (inP xs) xs (n.toNat + k) = colT (inP xs) xs n.toNat
  | 0, _ => rfl
  | k + 1, h => by
    have ih := col_pts n1 n2 hs k (by omega)
    have e : xs.countP (fun s => inP xs s (n.toNat + k)) = 0 := by
      rw [List.countP_eq_zero]
      intro s hsm
      obtain ⟨_, _, s1, s2⟩ := setB_yes (hs s hsm)
      have hb := setB_lt (hs s hsm)
      have := has_high ⟨n.toNat, by omega⟩ ⟨s.toNat, by omega⟩ ⟨n.toNat + k, by omega⟩ (nat_lt_pow s2) (by show n.toNat ≤ n.toNat + k; omega)
      have e : ((s.toNat : Nat) : Int) = s := Int.toNat_of_nonneg s1
      simp only [e] at this
      unfold inP
      rw [this]; simp
    show colT (inP xs) xs (n.toNat + k) + xs.countP (fun s => inP xs s (n.toNat + k)) = _
    rw [ih, e]; rfl
/-- the inner edges of a family. -/
def ieN (xs : List Int) : Nat := colT (inP xs) xs 8
theorem ie_model {n : Int} {xs : List Int} (hf : famB n xs = true) : colT (nbP xs) xs n.toNat = 2 * ieN xs := by
  obtain ⟨n1, n2, hs⟩ := famB_all hf
  rw [nb_twice (famB_asc hf) (famB_lt hf) _ (by omega)]
  have h := col_pts n1 n2 hs (8 - n.toNat) (by omega)
  rw [show n.toNat + (8 - n.toNat) = 8 by omega] at h
  unfold ieN
  rw [h]
theorem ieN_le {xs : List Int} (h : xs.length ≤ 256) : ieN xs ≤ 2048 := by
  have := colT_le (inP xs) xs 8
  unfold ieN; omega
end Go.Proofs.YtpjapoaagbdlfaaGreatDoor
