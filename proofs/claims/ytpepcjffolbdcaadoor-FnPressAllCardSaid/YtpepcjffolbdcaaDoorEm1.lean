/- No family has more inner edges than the first numbers: plain mathematics. -/
import Derived.Test.YtpepcjffolbdcaaDoorBe1
import Derived.Test.YtpepcjffolbdcaaDoorDgm
namespace Go.Proofs.YtpepcjffolbdcaaDoor
open Go.ChangeShapes Go.WideShapes Go.ChangeAt Go.RowKit Go.Proofs

theorem dg_odd {m : Nat} (h : m ≤ 511) : dgS (2 * m + 1) = dgS m + dgS (m + 1) + (m : Nat) := by
  have h1 := dg_dbl m (by omega)
  obtain ⟨a, b⟩ := pc_dbl ⟨m, by omega⟩
  simp only at a b
  have e1 : dgS (2 * m + 1) = dgS (2 * m) + pcI ((2 * m : Nat) : Int) := rfl
  have e2 : dgS (m + 1) = dgS m + pcI (m : Nat) := rfl
  omega
theorem dg_min : ∀ (t a b : Nat), a + b ≤ t → t ≤ 600 → dgS a + dgS b + (min a b : Nat) ≤ dgS (a + b) := by
  intro t
  induction t using Nat.strongRecOn with
  | _ t ih =>
    intro a b hab ht
    rcases Nat.eq_zero_or_pos a with ha | ha
    · subst ha; simp [dgS]
    rcases Nat.eq_zero_or_pos b with hb | hb
    · subst hb; simp [dgS]
    obtain ⟨x, hx⟩ : ∃ x, a = 2 * x ∨ a = 2 * x + 1 := ⟨a / 2, by omega⟩
    obtain ⟨y, hy⟩ : ∃ y, b = 2 * y ∨ b = 2 * y + 1 := ⟨b / 2, by omega⟩
    rcases hx with rfl | rfl
    · rcases hy with rfl | rfl
      · have h := ih (x + y) (by omega) x y (by omega) (by omega)
        have d1 := dg_dbl x (by omega)
        have d2 := dg_dbl y (by omega)
        have d3 := dg_dbl (x + y) (by omega)
        rw [show 2 * x + 2 * y = 2 * (x + y) by omega]
        omega
      · have h1 := ih (x + y) (by omega) x y (by omega) (by omega)
        have h2 := ih (x + y + 1) (by omega) x (y + 1) (by omega) (by omega)
        have d1 := dg_dbl x (by omega)
        have d2 := dg_odd (m := y) (by omega)
        have d3 := dg_odd (m := x + y) (by omega)
        rw [show 2 * x + (2 * y + 1) = 2 * (x + y) + 1 by omega]
        rw [show x + (y + 1) = x + y + 1 by omega] at h2
        omega
    · rcases hy with rfl | rfl
      · have h1 := ih (x + y) (by omega) x y (by omega) (by omega)
        have h2 := ih (x + 1 + y) (by omega) (x + 1) y (by omega) (by omega)
        have d1 := dg_dbl y (by omega)
        have d2 := dg_odd (m := x) (by omega)
        have d3 := dg_odd (m := x + y) (by omega)
        rw [show 2 * x + 1 + 2 * y = 2 * (x + y) + 1 by omega]
        rw [show x + 1 + y = x + y + 1 by omega] at h2
        omega
      · have h1 := ih (x + (y + 1)) (by omega) x (y + 1) (by omega) (by omega)
        have h2 := ih (x + 1 + y) (by omega) (x + 1) y (by omega) (by omega)
        have d1 := dg_odd (m := y) (by omega)
        have d2 := dg_odd (m := x) (by omega)
        have d3 := dg_dbl (x + y + 1) (by omega)
        rw [show 2 * x + 1 + (2 * y + 1) = 2 * (x + y + 1) by omega]
        rw [show x + 1 + y = x + y + 1 by omega] at h2
        rw [show x + (y + 1) = x + y + 1 by omega] at h1
        omega
theorem less_dec : ∀ s : Fin 256, ∀ p : Fin 8, ∀ q : Fin 8, p.val ≠ q.val → hasB (lessI (s.val : Nat) (p.val : Nat)) (q.val : Nat) = hasB (s.val : Nat) (q.val : Nat) ∧ lessI (lessI (s.val : Nat) (p.val : Nat)) (q.val : Nat) = lessI (lessI (s.val : Nat) (q.val : Nat)) (p.val : Nat) := by decide +kernel
theorem less_comm {s : Int} (h1 : 0 ≤ s) (h2 : s < 256) {p q : Nat} (hp : p < 8) (hq : q < 8) (hne : p ≠ q) : hasB (lessI s (p : Nat)) (q : Nat) = hasB s (q : Nat) ∧ lessI (lessI s (p : Nat)) (q : Nat) = lessI (lessI s (q : Nat)) (p : Nat) := by
  have h := less_dec ⟨s.toNat, by omega⟩ ⟨p, hp⟩ ⟨q, hq⟩ hne
  have e : ((s.toNat : Nat) : Int) = s := Int.toNat_of_nonneg h1
  simpa only [e] using h
theorem high_dec : ∀ s : Fin 256, ∀ k : Fin 8, s.val < 2 ^ (k.val + 1) → (hasB (s.val : Nat) (k.val : Nat) = false → s.val < 2 ^ k.val) ∧ lessI (s.val : Nat) (k.val : Nat) < 2 ^ k.val := by decide +kernel
theorem high_facts {s : Int} (h1 : 0 ≤ s) {k : Nat} (hk : k < 8) (h2 : s < 2 ^ (k + 1)) : (hasB s (k : Nat) = false → s < 2 ^ k) ∧ lessI s (k : Nat) < 2 ^ k := by
  have hp : (2 : Int) ^ (k + 1) ≤ 256 := by
    have : (2 : Nat) ^ (k + 1) ≤ 2 ^ 8 := Nat.pow_le_pow_right (by omega) (by omega)
    have e : ((2 ^ (k + 1) : Nat) : Int) = 2 ^ (k + 1) := by simp
    omega
  have e1 : ((2 ^ (k + 1) : Nat) : Int) = 2 ^ (k + 1) := by simp
  have e2 : ((2 ^ k : Nat) : Int) = 2 ^ k := by simp
  have h := high_dec ⟨s.toNat, by omega⟩ ⟨k, hk⟩ (by show s.toNat < 2 ^ (k + 1); omega)
  have e : ((s.toNat : Nat) : Int) = s := Int.toNat_of_nonneg h1
  simp only [e] at h
  refine ⟨fun hh => by have := h.1 hh; omega, h.2⟩
theorem countP_split (P q : Int → Bool) : ∀ xs : List Int, xs.countP P = (xs.filter (fun s => !q s)).countP P + (xs.filter q).countP P
  | [] => rfl
  | x :: xs => by
    have ih := countP_split P q xs
    simp only [List.countP_cons, List.filter_cons]
    cases hq : q x <;> simp [List.countP_cons] <;> omega
/-- the sets without the point k. -/
def loL (k : Nat) (xs : List Int) : List Int := xs.filter (fun s => !hasB s (k : Nat))
/-- the sets with the point k, without it. -/
def hiL (k : Nat) (xs : List Int) : List Int := (xs.filter (fun s => hasB s (k : Nat))).map (fun s => lessI s (k : Nat))
theorem lo_hi_len (k : Nat) (xs : List Int) : (loL k xs).length + (hiL k xs).length = xs.length := by
  have h := countP_split (fun _ => true) (fun s => hasB s (k : Nat)) xs
  simp only [List.countP_true] at h
  unfold loL hiL
  rw [List.length_map]; omega
theorem hi_asc {k : Nat} (hk : k < 8) {xs : List Int} (hA : Asc xs) (hz : ∀ z ∈ xs, 0 ≤ z ∧ z < 256) : Asc (hiL k xs) := by
  refine asc_map (asc_filter hA _) (fun x hx y hy hxy => ?_)
  obtain ⟨x1, x2⟩ := List.mem_filter.1 hx
  obtain ⟨y1, y2⟩ := List.mem_filter.1 hy
  obtain ⟨a1, a2⟩ := hz x x1
  obtain ⟨b1, b2⟩ := hz y y1
  have f1 := less_mono ⟨x.toNat, by omega⟩ ⟨k, hk⟩
  have f2 := less_mono ⟨y.toNat, by omega⟩ ⟨k, hk⟩
  have g1 : ((x.toNat : Nat) : Int) = x := Int.toNat_of_nonneg a1
  have g2 : ((y.toNat : Nat) : Int) = y := Int.toNat_of_nonneg b1
  simp only [g1, g2] at f1 f2
  rw [f1 x2, f2 y2]; omega
theorem mem_hi {k : Nat} {xs : List Int} {z : Int} : z ∈ hiL k xs ↔ ∃ s ∈ xs, hasB s (k : Nat) = true ∧ lessI s (k : Nat) = z := by
  unfold hiL
  rw [List.mem_map]
  constructor
  · rintro ⟨s, hs, rfl⟩
    obtain ⟨a, b⟩ := List.mem_filter.1 hs
    exact ⟨s, a, b, rfl⟩
  · rintro ⟨s, a, b, rfl⟩
    exact ⟨s, List.mem_filter.2 ⟨a, b⟩, rfl⟩
theorem col_split {k : Nat} (hk : k < 8) {xs : List Int} (hz : ∀ z ∈ xs, 0 ≤ z ∧ z < 256) : ∀ p, p ≤ k → colT (inP xs) xs p = colT (inP (loL k xs)) (loL k xs) p + colT (inP (hiL k xs)) (hiL k xs) p
  | 0, _ => rfl
  | p + 1, h => by
    have ih := col_split hk hz p (by omega)
    simp only [colT]
    have e1 : (xs.filter (fun s => !hasB s (k : Nat))).countP (fun s => inP xs s p) = (loL k xs).countP (fun s => inP (loL k xs) s p) := List.countP_congr (fun s hs => by
      obtain ⟨a, b⟩ := List.mem_filter.1 hs
      rw [Bool.not_eq_true'] at b
      obtain ⟨s1, s2⟩ := hz s a
      obtain ⟨c1, c2⟩ := less_comm s1 s2 (show p < 8 by omega) hk (by omega)
      have : memB (lessI s (p : Nat)) xs = memB (lessI s (p : Nat)) (loL k xs) := by
        unfold memB
        exact decide_eq_decide.2 ⟨fun hm => List.mem_filter.2 ⟨hm, by rw [c1, b]; rfl⟩, fun hm => (List.mem_filter.1 hm).1⟩
      unfold inP
      rw [this])
    have e2 : (xs.filter (fun s => hasB s (k : Nat))).countP (fun s => inP xs s p) = (hiL k xs).countP (fun s => inP (hiL k xs) s p) := by
      have cm : ∀ P : Int → Bool, (hiL k xs).countP P = (xs.filter (fun s => hasB s (k : Nat))).countP (fun s => P (lessI s (k : Nat))) := fun P => by
        unfold hiL
        rw [List.countP_map]
        rfl
      rw [cm]
      refine List.countP_congr (fun s hs => ?_)
      obtain ⟨a, b⟩ := List.mem_filter.1 hs
      obtain ⟨s1, s2⟩ := hz s a
      obtain ⟨c1, c2⟩ := less_comm s1 s2 hk (show p < 8 by omega) (by omega)
      obtain ⟨d1, d2⟩ := less_comm s1 s2 (show p < 8 by omega) hk (by omega)
      have hl := less_lt s1 s2 (show (0 : Int) ≤ (p : Nat) by omega) (show ((p : Nat) : Int) ≤ 7 by omega)
      have : memB (lessI s (p : Nat)) xs = memB (lessI (lessI s (k : Nat)) (p : Nat)) (hiL k xs) := by
        unfold memB
        refine decide_eq_decide.2 ⟨fun hm => (mem_hi).2 ⟨_, hm, by rw [d1]; exact b, d2⟩, fun hm => ?_⟩
        obtain ⟨t, t1, t2, t3⟩ := (mem_hi).1 hm
        rw [c2] at t3
        obtain ⟨u1, u2⟩ := hz t t1
        obtain ⟨_, f, _⟩ := nb_facts u1 u2 hk
        obtain ⟨_, g, _⟩ := nb_facts hl.1 hl.2 hk
        have h1 := (f t2).2
        have h2 := (g (by rw [d1]; exact b)).2
        rw [t3, h2] at h1
        rw [h1]; exact t1
      show inP xs s p = true ↔ inP (hiL k xs) (lessI s (k : Nat)) p = true
      unfold inP
      rw [this, c1]
    have e3 := countP_split (fun s => inP xs s p) (fun s => hasB s (k : Nat)) xs
    rw [ih, e3, e1, e2]
    unfold loL
    omega
theorem edge_le : ∀ k, k ≤ 8 → ∀ xs : List Int, Asc xs → (∀ z ∈ xs, 0 ≤ z ∧ z < 2 ^ k) → (colT (inP xs) xs k : Int) ≤ dgS xs.length
  | 0, _, xs, _, _ => by
    have := (dg_bd xs.length).1
    simp [colT]; omega
  | k + 1, hk, xs, hA, hz => by
    have hp : (2 : Int) ^ (k + 1) ≤ 256 := by
      have : (2 : Nat) ^ (k + 1) ≤ 2 ^ 8 := Nat.pow_le_pow_right (by omega) (by omega)
      have e : ((2 ^ (k + 1) : Nat) : Int) = 2 ^ (k + 1) := by simp
      omega
    have hz2 : ∀ z ∈ xs, 0 ≤ z ∧ z < 256 := fun z h => by have := hz z h; omega
    have hlen := asc_len256 hA hz2
    have h1 := edge_le k (by omega) (loL k xs) (asc_filter hA _) (fun z h => by
      obtain ⟨a, b⟩ := List.mem_filter.1 h
      rw [Bool.not_eq_true'] at b
      exact ⟨(hz z a).1, (high_facts (hz z a).1 (by omega) (hz z a).2).1 b⟩)
    have h2 := edge_le k (by omega) (hiL k xs) (hi_asc (by omega) hA hz2) (fun z h => by
      obtain ⟨s, a, b, rfl⟩ := (mem_hi).1 h
      have := less_lt (hz2 s a).1 (hz2 s a).2 (show (0 : Int) ≤ (k : Nat) by omega) (show ((k : Nat) : Int) ≤ 7 by omega)
      exact ⟨this.1, (high_facts (hz s a).1 (by omega) (hz s a).2).2⟩)
    have h3 := col_split (show k < 8 by omega) hz2 k (Nat.le_refl _)
    have h4 : xs.countP (fun s => inP xs s k) ≤ (hiL k xs).length := by
      unfold hiL
      rw [List.length_map, ← List.countP_eq_length_filter]
      exact List.countP_mono_left (fun s _ h => by unfold inP at h; rw [Bool.and_eq_true] at h; exact h.1)
    have h5 : xs.countP (fun s => inP xs s k) ≤ (loL k xs).length := by
      rw [in_out hA hz2 (show k < 8 by omega)]
      unfold loL
      rw [← List.countP_eq_length_filter]
      exact List.countP_mono_left (fun s _ h => by unfold outP at h; rw [Bool.and_eq_true] at h; exact h.1)
    have h6 := lo_hi_len k xs
    have h7 := dg_min ((loL k xs).length + (hiL k xs).length) (loL k xs).length (hiL k xs).length (Nat.le_refl _) (by omega)
    rw [h6] at h7
    show ((colT (inP xs) xs k + xs.countP (fun s => inP xs s k) : Nat) : Int) ≤ _
    rw [h3]
    omega
theorem ie_le {xs : List Int} (hA : Asc xs) (hz : ∀ z ∈ xs, 0 ≤ z ∧ z < 256) : (ieN xs : Int) ≤ dgS xs.length := edge_le 8 (Nat.le_refl _) xs hA hz
end Go.Proofs.YtpepcjffolbdcaaDoor
