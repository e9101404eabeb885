/- Turns, plain mathematics: how many sets of each kind. -/
import Derived.Test.YtgkbaenjniapiaaGreatDoorPf1
import Derived.Test.YtgkbaenjniapiaaGreatDoorAllTn
namespace Go.Proofs.YtgkbaenjniapiaaGreatDoor
open Go.ChangeShapes Go.WideShapes Go.ChangeAt Go.RowKit Go.Proofs

theorem nat_of {x : Int} (h : 0 ≤ x) : ∃ X : Nat, x = (X : Int) := ⟨x.toNat, by omega⟩
theorem in_turn {φ : Int → Int} {G : List Int} {z : Int} (h : (z ∈ G ∧ φ z ∈ G) ∨ (φ z = z ∧ ∃ d ∈ G, φ d = z)) : z ∈ tnL φ G := by
  have hA : z ∈ G → φ z ∈ G → z ∈ tnL φ G := fun h1 h2 => mem_sortL.2 (List.mem_map.2 ⟨z, h1, by unfold rpI; rw [if_pos (memB_mk h2)]⟩)
  rcases h with ⟨h1, h2⟩ | ⟨h1, d, h2, h3⟩
  · exact hA h1 h2
  · by_cases hz : z ∈ G
    · exact hA hz (by rw [h1]; exact hz)
    · refine mem_sortL.2 (List.mem_map.2 ⟨d, h2, ?_⟩)
      unfold rpI
      rw [h3, if_neg (by rw [memB_mk0 hz]; simp)]
theorem rp_inj {i k : Int} {xs : List Int} {x y : Int} (hx : x ∈ xs) (hy : y ∈ xs) (h : rpI (fun x => movedI x i k) xs x = rpI (fun x => movedI x i k) xs y) : x = y := by
  unfold rpI at h
  dsimp only at h
  split at h
  · split at h
    · exact h
    · next hm => exact absurd (memB_mk (h ▸ hx)) (by simpa using hm)
  · next hm =>
    split at h
    · exact absurd (memB_mk (h.symm ▸ hy)) (by simpa using hm)
    · next hm2 =>
      have n1 : movedI x i k ≠ x := fun e => hm (memB_mk (e.symm ▸ hx))
      have n2 : movedI y i k ≠ y := fun e => hm2 (memB_mk (e.symm ▸ hy))
      unfold movedI at h n1 n2
      split at h
      · split at h
        · omega
        · next hc => rw [if_neg hc] at n2; exact absurd rfl n2
      · next hc => rw [if_neg hc] at n1; exact absurd rfl n1
theorem map_nodup {f : Int → Int} : ∀ {xs : List Int}, xs.Nodup → (∀ x ∈ xs, ∀ y ∈ xs, f x = f y → x = y) → (xs.map f).Nodup
  | [], _, _ => List.nodup_nil
  | a :: xs, h, hi => by
    rw [List.nodup_cons] at h
    rw [List.map_cons, List.nodup_cons]
    refine ⟨fun hm => ?_, map_nodup h.2 fun x hx y hy => hi x (List.mem_cons_of_mem _ hx) y (List.mem_cons_of_mem _ hy)⟩
    obtain ⟨b, hb, e⟩ := List.mem_map.1 hm
    exact h.1 (hi b (List.mem_cons_of_mem _ hb) a List.mem_cons_self e ▸ hb)
theorem tn_count {i k : Int} {xs : List Int} (hA : Asc xs) (q : Int → Bool) (hq : ∀ x ∈ xs, q (movedI x i k) = q x) :
    ((tnL (fun x => movedI x i k) xs).filter q).length = (xs.filter q).length := by
  have hn := map_nodup (f := rpI (fun x => movedI x i k) xs) (asc_nodup hA) (fun x hx y hy e => rp_inj hx hy e)
  have hp : (tnL (fun x => movedI x i k) xs).Perm (xs.map (rpI (fun x => movedI x i k) xs)) := (List.perm_ext_iff_of_nodup (asc_nodup (asc_sortL _)) hn).2 fun z => mem_sortL
  rw [(hp.filter q).length_eq, List.filter_map, List.length_map]
  congr 1
  exact List.filter_congr fun x hx => by
    show q (rpI _ xs x) = q x
    unfold rpI
    split
    · rfl
    · exact hq x hx
theorem tn_len {i k : Int} {xs : List Int} (hA : Asc xs) : (tnL (fun x => movedI x i k) xs).length = xs.length := by
  have := tn_count (i := i) (k := k) hA (fun _ => true) (fun _ _ => rfl)
  rwa [List.filter_eq_self.2 (fun _ _ => rfl), List.filter_eq_self.2 (fun _ _ => rfl)] at this
theorem cnt_mv_dec : ∀ x : Fin 256, ∀ i k : Fin 8, cntI (movedI (x.val : Nat) (i.val : Nat) (k.val : Nat)) = cntI (x.val : Nat) := by decide +kernel
theorem cnt_mv {x i k : Int} (x1 : 0 ≤ x) (x2 : x < 256) (i1 : 0 ≤ i) (i2 : i ≤ 7) (k1 : 0 ≤ k) (k2 : k ≤ 7) : cntI (movedI x i k) = cntI x := by
  obtain ⟨X, rfl⟩ := nat_of x1
  obtain ⟨I, rfl⟩ := nat_of i1
  obtain ⟨K, rfl⟩ := nat_of k1
  exact cnt_mv_dec ⟨X, by omega⟩ ⟨I, by omega⟩ ⟨K, by omega⟩
end Go.Proofs.YtgkbaenjniapiaaGreatDoor
