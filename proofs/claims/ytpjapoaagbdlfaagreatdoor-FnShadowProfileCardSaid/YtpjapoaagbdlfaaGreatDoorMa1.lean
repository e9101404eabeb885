/- Shadows, plain mathematics: of others, of parts. -/
import Derived.Test.YtpjapoaagbdlfaaGreatDoorAllShm
import Derived.Test.YtpjapoaagbdlfaaGreatDoorPf1
namespace Go.Proofs.YtpjapoaagbdlfaaGreatDoor
open Go.ChangeShapes Go.WideShapes Go.ChangeAt Go.RowKit Go.Proofs

theorem nat_at {x : Int} (h : 0 ≤ x) : ∃ X : Nat, x = (X : Int) := ⟨x.toNat, by omega⟩
theorem pts_mk_dec : ∀ s : Fin 256, ∀ p : Fin 8, hasB (s.val : Nat) (p.val : Nat) = true → ((p.val : Nat) : Int) ∈ ptsI (s.val : Nat) := by decide +kernel
theorem pts_mk {s p : Int} (s1 : 0 ≤ s) (s2 : s < 256) (p1 : 0 ≤ p) (p2 : p ≤ 7) (h : hasB s p = true) : p ∈ ptsI s := by
  obtain ⟨S, rfl⟩ := nat_at s1
  obtain ⟨P, rfl⟩ := nat_at p1
  exact pts_mk_dec ⟨S, by omega⟩ ⟨P, by omega⟩ h
theorem mem_dn {xs : List Int} {z : Int} : z ∈ sortL (dnL xs) ↔ ∃ x ∈ xs, ∃ p ∈ ptsI x, lessI x p = z := by
  rw [mem_sortL]
  unfold dnL
  simp only [List.mem_flatMap, List.mem_map]
theorem mem_up {n : Int} {xs : List Int} {z : Int} : z ∈ sortL (upL n xs) ↔ ∃ x ∈ xs, ∃ p ∈ ptsI (otherI n x), withI x p = z := by
  rw [mem_sortL]
  unfold upL
  simp only [List.mem_flatMap, List.mem_map]
theorem up_dec : ∀ n : Fin 9, ∀ x : Fin 256, x.val < 2 ^ n.val → ∀ p ∈ ptsI (otherI (n.val : Nat) (x.val : Nat)), otherI (n.val : Nat) (lessI (otherI (n.val : Nat) (x.val : Nat)) p) = withI (x.val : Nat) p := by decide +kernel
theorem up_oneS {n x p : Int} (h : setB n x = true) (hp : p ∈ ptsI (otherI n x)) : otherI n (lessI (otherI n x) p) = withI x p := by
  obtain ⟨n1, n2, x1, x2⟩ := setB_yes h
  obtain ⟨N, rfl⟩ := nat_at (show 0 ≤ n by omega)
  obtain ⟨X, rfl⟩ := nat_at x1
  rw [Int.toNat_natCast] at x2
  have hh : ((2 ^ N : Nat) : Int) = (2 : Int) ^ N := by simp
  rw [← hh] at x2
  exact up_dec ⟨N, by omega⟩ ⟨X, by have := setB_lt h; omega⟩ (Int.ofNat_lt.1 x2) p hp
/-- upper shadows are shadows of the others. -/
theorem up_via {n : Int} {xs : List Int} (h : famB n xs = true) : sortL ((sortL (dnL (sortL (xs.map (otherI n))))).map (otherI n)) = sortL (upL n xs) := asc_ext (asc_sortL _) (asc_sortL _) fun z => by
  rw [mem_sortL, List.mem_map, mem_up]
  have hs := (famB_all h).2.2
  constructor
  · rintro ⟨a, ha, rfl⟩
    obtain ⟨y, hy, p, hp, rfl⟩ := mem_dn.1 ha
    obtain ⟨x, hx, rfl⟩ := List.mem_map.1 (mem_sortL.1 hy)
    exact ⟨x, hx, p, hp, (up_oneS (hs x hx) hp).symm⟩
  · rintro ⟨x, hx, p, hp, rfl⟩
    exact ⟨_, mem_dn.2 ⟨otherI n x, mem_sortL.2 (List.mem_map.2 ⟨x, hx, rfl⟩), p, hp, rfl⟩, up_oneS (hs x hx) hp⟩
theorem dn_set_dec : ∀ n : Fin 9, ∀ x : Fin 256, x.val < 2 ^ n.val → ∀ p : Fin 8, 0 ≤ lessI (x.val : Nat) (p.val : Nat) ∧ lessI (x.val : Nat) (p.val : Nat) < 2 ^ n.val := by decide +kernel
theorem dn_set {n x p : Int} (h : setB n x = true) (p1 : 0 ≤ p) (p2 : p ≤ 7) : setB n (lessI x p) = true := by
  obtain ⟨n1, n2, x1, x2⟩ := setB_yes h
  obtain ⟨N, rfl⟩ := nat_at (show 0 ≤ n by omega)
  obtain ⟨X, rfl⟩ := nat_at x1
  obtain ⟨P, rfl⟩ := nat_at p1
  rw [Int.toNat_natCast] at x2
  have hh : ((2 ^ N : Nat) : Int) = (2 : Int) ^ N := by simp
  rw [← hh] at x2
  have := dn_set_dec ⟨N, by omega⟩ ⟨X, by have := setB_lt h; omega⟩ (Int.ofNat_lt.1 x2) ⟨P, by omega⟩
  exact setB_mk ⟨n1, n2, this.1, by rw [Int.toNat_natCast]; exact this.2⟩
theorem dn_fam {n : Int} {xs : List Int} (h : famB n xs = true) : famB n (sortL (dnL xs)) = true := by
  obtain ⟨n1, n2, hs⟩ := famB_all h
  refine famB_mk (ptsB_mk n1 n2) (fun z hz => ?_) (asc_sortL _)
  obtain ⟨x, hx, p, hp, rfl⟩ := mem_dn.1 hz
  obtain ⟨x1, x2⟩ := setB_lt (hs x hx)
  obtain ⟨p1, p2, _⟩ := mem_pts x1 x2 hp
  exact dn_set (hs x hx) p1 p2
/-- a family of parts has its shadow. -/
theorem part_dec : ∀ x : Fin 256, ∀ p : Fin 8, andI (lessI (x.val : Nat) (p.val : Nat)) (x.val : Nat) = lessI (x.val : Nat) (p.val : Nat) := by decide +kernel
theorem part_less {x p : Int} (x1 : 0 ≤ x) (x2 : x < 256) (p1 : 0 ≤ p) (p2 : p ≤ 7) : andI (lessI x p) x = lessI x p := by
  obtain ⟨X, rfl⟩ := nat_at x1
  obtain ⟨P, rfl⟩ := nat_at p1
  exact part_dec ⟨X, by omega⟩ ⟨P, by omega⟩
theorem filt_all {xs ys : List Int} (hA : Asc xs) (h : ∀ z ∈ xs, z ∈ ys) : sortL (xs.filter (fun x => memB x ys)) = xs := by
  rw [List.filter_eq_self.2 fun z hz => memB_mk (h z hz)]
  exact sortL_asc hA

end Go.Proofs.YtpjapoaagbdlfaaGreatDoor
