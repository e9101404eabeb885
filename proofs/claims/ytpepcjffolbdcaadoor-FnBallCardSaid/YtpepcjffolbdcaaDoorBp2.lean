/- Boundaries: the model. -/
import Derived.Test.YtpepcjffolbdcaaDoorBp1
import Derived.Test.YtpepcjffolbdcaaDoorBe3
namespace Go.Proofs.YtpepcjffolbdcaaDoor
open Go.ChangeShapes Go.WideShapes Go.ChangeAt Go.RowKit Go.Proofs

theorem ownL_monob {w : World} {B B' : Nat} {v : Value} {xs : List Int} (h : OwnL w B v xs) (hB : B' ≤ B) : OwnL w B' v xs := by
  refine ⟨h.1, ?_⟩
  rcases h.2 with hn | ⟨g, cap, cur, rfl, hb, rest⟩
  · exact .inl hn
  · exact .inr ⟨g, cap, cur, rfl, by omega, rest⟩
/-- one of the first k neighbours of s is one of xs. -/
def nrB (xs : List Int) (s : Int) : Nat → Bool
  | 0 => false
  | k + 1 => nrB xs s k || nbP xs s k
theorem nr_iff (xs : List Int) (s : Int) : ∀ k, nrB xs s k = true ↔ ∃ p, p < k ∧ nbP xs s p = true
  | 0 => by simp [nrB]
  | k + 1 => by
    unfold nrB
    rw [Bool.or_eq_true, nr_iff xs s k]
    constructor
    · rintro (⟨p, hp, h⟩ | h)
      · exact ⟨p, by omega, h⟩
      · exact ⟨k, by omega, h⟩
    · rintro ⟨p, hp, h⟩
      by_cases e : p = k
      · subst e; exact .inr h
      · exact .inl ⟨p, by omega, h⟩
theorem pts_all : ∀ x : Fin 256, ∀ p : Fin 8, hasB (x.val : Nat) (p.val : Nat) = true → ((p.val : Nat) : Int) ∈ ptsI (x.val : Nat) := by decide +kernel
theorem pts_in' {x : Int} (h1 : 0 ≤ x) (h2 : x < 256) {p : Nat} (hp : p < 8) (h : hasB x (p : Nat) = true) : ((p : Nat) : Int) ∈ ptsI x := by
  have := pts_all ⟨x.toNat, by omega⟩ ⟨p, hp⟩
  have e : ((x.toNat : Nat) : Int) = x := Int.toNat_of_nonneg h1
  simp only [e] at this
  exact this h
theorem oth_all : ∀ n : Fin 9, ∀ x : Fin 256, ∀ p : Fin 8, x.val < 2 ^ n.val → hasB (otherI (n.val : Nat) (x.val : Nat)) (p.val : Nat) = (decide (p.val < n.val) && !hasB (x.val : Nat) (p.val : Nat)) := by decide +kernel
theorem oth_has {n x : Int} (h : setB n x = true) {p : Nat} (hp : p < 8) : hasB (otherI n x) (p : Nat) = (decide ((p : Int) < n) && !hasB x (p : Nat)) := by
  obtain ⟨n1, n2, x1, x2⟩ := setB_yes h
  have hb := setB_lt h
  have := oth_all ⟨n.toNat, by omega⟩ ⟨x.toNat, by omega⟩ ⟨p, hp⟩ (nat_lt_pow x2)
  have e : ((x.toNat : Nat) : Int) = x := Int.toNat_of_nonneg x1
  have e2 : ((n.toNat : Nat) : Int) = n := Int.toNat_of_nonneg (by omega)
  simp only [e, e2] at this
  rw [this]
  congr 1
  exact decide_eq_decide.2 (by omega)
/-- the neighbours are those that differ in one point. -/
theorem nb_mem {n : Int} {xs : List Int} (hf : famB n xs = true) {z : Int} (h1 : 0 ≤ z) (h2 : z < 2 ^ n.toNat) : z ∈ nbL n xs ↔ nrB xs z n.toNat = true := by
  obtain ⟨n1, n2, hs⟩ := famB_all hf
  have hp8 := pow_le256 n1 n2
  rw [nr_iff]
  unfold nbL
  rw [mem_sortL, List.mem_append, mem_sortL, mem_sortL]
  unfold dnL upL
  constructor
  · rintro (h | h)
    · obtain ⟨x, hx, hm⟩ := List.mem_flatMap.1 h
      obtain ⟨p, hp, rfl⟩ := List.mem_map.1 hm
      obtain ⟨x1, x2⟩ := setB_lt (hs x hx)
      obtain ⟨p1, p2, p3⟩ := mem_pts x1 x2 hp
      obtain ⟨q, rfl⟩ := Int.eq_ofNat_of_zero_le p1
      obtain ⟨_, f, _⟩ := nb_facts x1 x2 (show q < 8 by omega)
      obtain ⟨f1, f2⟩ := f p3
      obtain ⟨g, _, _⟩ := nb_facts h1 (by omega) (show q < 8 by omega)
      rw [f1, if_neg (by simp), f2] at g
      refine ⟨q, ?_, by unfold nbP; rw [g]; exact memB_mk hx⟩
      have hh := has_high ⟨n.toNat, by omega⟩ ⟨x.toNat, by omega⟩ ⟨q, by omega⟩ (nat_lt_pow (setB_yes (hs x hx)).2.2.2)
      have e : ((x.toNat : Nat) : Int) = x := Int.toNat_of_nonneg x1
      simp only [e] at hh
      refine Classical.byContradiction fun hc => ?_
      have := hh (by show n.toNat ≤ q; omega)
      rw [this] at p3; cases p3
    · obtain ⟨x, hx, hm⟩ := List.mem_flatMap.1 h
      obtain ⟨p, hp, rfl⟩ := List.mem_map.1 hm
      obtain ⟨x1, x2⟩ := setB_lt (hs x hx)
      obtain ⟨y1, y2⟩ := setB_lt (other_set (hs x hx))
      obtain ⟨p1, p2, p3⟩ := mem_pts y1 y2 hp
      obtain ⟨q, rfl⟩ := Int.eq_ofNat_of_zero_le p1
      rw [oth_has (hs x hx) (show q < 8 by omega), Bool.and_eq_true, Bool.not_eq_true'] at p3
      obtain ⟨_, _, f⟩ := nb_facts x1 x2 (show q < 8 by omega)
      obtain ⟨f1, f2⟩ := f p3.2
      obtain ⟨g, _, _⟩ := nb_facts h1 (by omega) (show q < 8 by omega)
      rw [f1, if_pos rfl, f2] at g
      have := of_decide_eq_true p3.1
      exact ⟨q, by omega, by unfold nbP; rw [g]; exact memB_mk hx⟩
  · rintro ⟨p, hp, hm⟩
    unfold nbP at hm
    have hm := memB_yes hm
    have hs0 := hs _ hm
    obtain ⟨g, f, f'⟩ := nb_facts h1 (show z < 256 by omega) (show p < 8 by omega)
    rcases (by cases hasB z (p : Nat) <;> simp : hasB z (p : Nat) = true ∨ hasB z (p : Nat) = false) with hz | hz
    · rw [hz, if_pos rfl] at g
      obtain ⟨f1, f2⟩ := f hz
      rw [g] at hm hs0
      refine .inr (List.mem_flatMap.2 ⟨_, hm, List.mem_map.2 ⟨(p : Nat), ?_, f2⟩⟩)
      obtain ⟨y1, y2⟩ := setB_lt (other_set hs0)
      refine pts_in' y1 y2 (by omega) ?_
      rw [oth_has hs0 (by omega), f1, decide_eq_true (by omega)]; rfl
    · rw [hz, if_neg (by simp)] at g
      obtain ⟨f1, f2⟩ := f' hz
      rw [g] at hm hs0
      refine .inl (List.mem_flatMap.2 ⟨_, hm, List.mem_map.2 ⟨(p : Nat), ?_, f2⟩⟩)
      obtain ⟨y1, y2⟩ := setB_lt hs0
      exact pts_in' y1 y2 (by omega) f1
theorem nb_set' {n : Int} {xs : List Int} (hf : famB n xs = true) : ∀ z ∈ nbL n xs, setB n z = true := fun z hz => by
  obtain ⟨n1, n2, hs⟩ := famB_all hf
  unfold nbL at hz
  rcases List.mem_append.1 (mem_sortL.1 hz) with h | h
  · obtain ⟨x, hx, hm⟩ := List.mem_flatMap.1 (mem_sortL.1 h)
    obtain ⟨p, hp, rfl⟩ := List.mem_map.1 hm
    obtain ⟨x1, x2⟩ := setB_lt (hs x hx)
    obtain ⟨p1, p2, p3⟩ := mem_pts x1 x2 hp
    exact less_set (hs x hx) p1 p2
  · obtain ⟨x, hx, hm⟩ := List.mem_flatMap.1 (mem_sortL.1 h)
    obtain ⟨p, hp, rfl⟩ := List.mem_map.1 hm
    obtain ⟨x1, x2⟩ := setB_lt (hs x hx)
    obtain ⟨y1, y2⟩ := setB_lt (other_set (hs x hx))
    obtain ⟨p1, p2, p3⟩ := mem_pts y1 y2 hp
    obtain ⟨q, rfl⟩ := Int.eq_ofNat_of_zero_le p1
    rw [oth_has (hs x hx) (show q < 8 by omega), Bool.and_eq_true, Bool.not_eq_true'] at p3
    have hq := of_decide_eq_true p3.1
    obtain ⟨t, ht, htN⟩ := nb_bd (hs x hx) (p := q) hq
    obtain ⟨g, _, _⟩ := nb_facts x1 x2 (show q < 8 by omega)
    rw [p3.2, if_neg (by simp)] at g
    rw [← g, ht]
    have e : ((2 ^ n.toNat : Nat) : Int) = 2 ^ n.toNat := by simp
    exact setB_mk ⟨n1, n2, by omega, by omega⟩
theorem bd_eq {n : Int} {xs : List Int} (hf : famB n xs = true) : mkL (fun j : Nat => nrB xs (j : Nat) n.toNat && !memB (j : Nat) xs) (2 ^ n.toNat) = bdL n xs := by
  obtain ⟨n1, n2, hs⟩ := famB_all hf
  have e : ((2 ^ n.toNat : Nat) : Int) = 2 ^ n.toNat := by simp
  unfold bdL mkL
  refine (sortL_eq (asc_filter (asc_upI _) _) (fun z => ?_)).symm
  rw [List.mem_filter, List.mem_filter, mem_upI]
  constructor
  · rintro ⟨h1, h2⟩
    obtain ⟨_, _, z1, z2⟩ := setB_yes (nb_set' hf z h1)
    refine ⟨⟨z1, by omega⟩, ?_⟩
    show (nrB xs ((z.toNat : Nat) : Int) n.toNat && !memB ((z.toNat : Nat) : Int) xs) = true
    rw [Int.toNat_of_nonneg z1, (nb_mem hf z1 z2).1 h1]
    exact h2
  · rintro ⟨⟨z1, z2⟩, h⟩
    change (nrB xs ((z.toNat : Nat) : Int) n.toNat && !memB ((z.toNat : Nat) : Int) xs) = true at h
    rw [Int.toNat_of_nonneg z1, Bool.and_eq_true] at h
    exact ⟨(nb_mem hf z1 (by omega)).2 h.1, h.2⟩
end Go.Proofs.YtpepcjffolbdcaaDoor
