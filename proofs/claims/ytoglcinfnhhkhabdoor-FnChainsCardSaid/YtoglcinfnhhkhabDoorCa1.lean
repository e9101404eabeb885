/- All chains: plain mathematics; a list of lists that a call owns. -/
import Derived.Test.YtoglcinfnhhkhabDoorCh4
import Derived.Test.YtoglcinfnhhkhabDoorSs2
import Derived.Test.YtoglcinfnhhkhabDoorFams12
namespace Go.Proofs.YtoglcinfnhhkhabDoor
open Go.ChangeShapes Go.WideShapes Go.ChangeAt Go.RowKit

/-- the chains that begin with a set below k. -/
def acL (N : Nat) : Nat → List (List Int)
  | 0 => []
  | k + 1 => if (chnL N (k : Nat)).headD 0 = ((k : Nat) : Int) then acL N k ++ [chnL N (k : Nat)] else acL N k
theorem acL_len (N : Nat) : ∀ k, (acL N k).length ≤ k
  | 0 => Nat.le_refl _
  | k + 1 => by
    have h := acL_len N k
    unfold acL
    split
    · rw [List.length_append, List.length_singleton]; omega
    · omega
theorem acL_in (N : Nat) : ∀ k, ∀ L ∈ acL N k, ∃ j : Nat, j < k ∧ L = chnL N (j : Nat)
  | 0, L, h => by simp [acL] at h
  | k + 1, L, h => by
    unfold acL at h
    split at h
    · rcases List.mem_append.1 h with h | h
      · obtain ⟨j, h1, h2⟩ := acL_in N k L h
        exact ⟨j, by omega, h2⟩
      · exact ⟨k, by omega, List.mem_singleton.1 h⟩
    · obtain ⟨j, h1, h2⟩ := acL_in N k L h
      exact ⟨j, by omega, h2⟩
theorem acL_short {N k : Nat} (h8 : N ≤ 8) (hk : k ≤ 2 ^ N) : Short (acL N k) := by
  have hp : 2 ^ N ≤ 2 ^ 8 := Nat.pow_le_pow_right (by omega) h8
  refine ⟨by have := acL_len N k; omega, fun i hi => ?_⟩
  have hm : (acL N k).getD i [] ∈ acL N k := by rw [List.getD_eq_getElem?_getD, List.getElem?_eq_getElem hi]; exact List.getElem_mem hi
  obtain ⟨j, h1, h2⟩ := acL_in N k _ hm
  rw [h2]
  have := chn_len (N := N) (s := (j : Nat)) h8 (by omega) (by
    have : ((j : Nat) : Int) < ((2 ^ N : Nat) : Int) := by omega
    simpa using this)
  omega
theorem owns_at {w w' : World} {B e sz n : Nat} {v : Value} {xs : List Value} (h : w.ownsRow B e sz v n xs) (hk : ∀ g, v.ownBlock = some g → w'.heap[g]? = w.heap[g]?) : w'.ownsRow B e sz v n xs := by
  refine ⟨h.1, ?_⟩
  rcases h.2 with h2 | ⟨g, cap, cur, e, h3, h4, r⟩
  · exact .inl h2
  · exact .inr ⟨g, cap, cur, e, h3, (hk g (by rw [e]; rfl)).trans h4, r⟩
theorem owns_blk {w : World} {B e sz n g : Nat} {v : Value} {xs : List Value} (h : w.ownsRow B e sz v n xs) (hg : v.ownBlock = some g) : ∃ cur, w.heap[g]? = some (.cells cur e (0, 0)) := by
  rcases h.2 with ⟨rfl, _⟩ | ⟨g', cap, cur, rfl, _, h4, _⟩
  · cases hg
  · cases hg; exact ⟨cur, h4⟩
/-- one more. -/
def putF {α : Type} (f : Nat → α) (n : Nat) (y : α) : Nat → α := fun j => if j = n then y else f j
theorem putF_at {α : Type} (f : Nat → α) (n : Nat) (y : α) : putF f n y n = y := by unfold putF; rw [if_pos rfl]
theorem putF_lt {α : Type} (f : Nat → α) {n j : Nat} (y : α) (h : j < n) : putF f n y j = f j := by unfold putF; rw [if_neg (by omega)]
theorem range_put {α : Type} (V : Nat → α) (n : Nat) (p : α) : (List.range (n + 1)).map (putF V n p) = (List.range n).map V ++ [p] := by
  rw [List.range_succ, List.map_append]
  congr 1
  · refine List.map_congr_left fun j hj => ?_
    exact putF_lt V p (List.mem_range.1 hj)
  · simp [putF]
/-- v holds lists that the call owns, each in a block of its own. -/
def RW (w : World) (B : Nat) (v : Value) (Ls : List (List Int)) : Prop := ∃ (V : Nat → Value) (K : Nat → Nat), w.ownsRow B 28 1 v Ls.length ((List.range Ls.length).map V) ∧ (∀ i, i < Ls.length → OwnL w B (V i) (Ls.getD i []) ∧ (V i).ownBlock = some (K i)) ∧ ∀ i j, i < j → j < Ls.length → K i < K j
theorem RW.at {w w' : World} {B : Nat} {v : Value} {Ls : List (List Int)} (h : RW w B v Ls) (hk : ∀ (g : Nat) (cur : Array Value), w.heap[g]? = some (.cells cur 28 (0, 0)) ∨ w.heap[g]? = some (.cells cur 3 (0, 0)) → w'.heap[g]? = w.heap[g]?) : RW w' B v Ls := by
  obtain ⟨V, K, h1, h2, h3⟩ := h
  refine ⟨V, K, owns_at h1 (fun g hg => ?_), fun i hi => ⟨owns_at (h2 i hi).1 (fun g hg => ?_), (h2 i hi).2⟩, h3⟩
  · obtain ⟨cur, hc⟩ := owns_blk h1 hg
    exact hk g cur (.inl hc)
  · obtain ⟨cur, hc⟩ := owns_blk (h2 i hi).1 hg
    exact hk g cur (.inr hc)
theorem RW.below {w w' : World} {B : Nat} {v : Value} {Ls : List (List Int)} (h : RW w B v Ls) (hb : Below w.heap.size w w') : RW w' B v Ls := h.at fun g cur hc => by
  refine hb.block g ?_
  rcases hc with hc | hc <;> exact (Array.getElem?_eq_some_iff.1 hc).1
theorem RW.nil {w : World} {B : Nat} (h : B ≤ w.heap.size) : RW (w.alloc (.cells #[] 28)) B (.slice (some ⟨w.heap.size, 0, none⟩) 0 0) [] :=
  ⟨fun _ => undef, fun _ => 0, World.ownsRow_made w #[] 0 h (by unfold maxLen; omega) rfl, fun i hi => absurd hi (Nat.not_lt_zero i), fun i j _ hj => absurd hj (Nat.not_lt_zero j)⟩
theorem getD_snoc (Ls : List (List Int)) (L : List Int) : (Ls ++ [L]).getD Ls.length [] = L := by rw [List.getD_eq_getElem?_getD, List.getElem?_append_right (Nat.le_refl _)]; simp
theorem getD_app {Ls : List (List Int)} {i : Nat} (h : i < Ls.length) (L : List Int) : (Ls ++ [L]).getD i [] = Ls.getD i [] := by rw [List.getD_eq_getElem?_getD, List.getD_eq_getElem?_getD, List.getElem?_append_left h]
/-- one list more. -/
theorem RW.step {B : Nat} {W W2 w3 : World} {v v' u : Value} {Ls : List (List Int)} {V : Nat → Value} {K : Nat → Nat} {L : List Int}
    (h1 : W.ownsRow B 28 1 v Ls.length ((List.range Ls.length).map V)) (h2 : ∀ i, i < Ls.length → OwnL W B (V i) (Ls.getD i []) ∧ (V i).ownBlock = some (K i)) (h3 : ∀ i j, i < j → j < Ls.length → K i < K j)
    (hB : B ≤ W.heap.size) (hu : OwnL W2 W.heap.size u L) (hL : L ≠ []) (hb : Below W.heap.size W W2)
    (hown : w3.ownsRow B 28 1 v' (Ls.length + 1) ((List.range Ls.length).map V ++ [u])) (hg : (W2.alloc (.cells #[u] 28)).grownBy w3 v.ownBlock) : RW w3 B v' (Ls ++ [L]) ∧ Below B W w3 := by
  obtain ⟨g, cap, rfl, hN⟩ := OwnL.someN hu hL
  have hgw := World.ownsRow.lt hu g rfl
  have h1' : W2.ownsRow B 28 1 v Ls.length ((List.range Ls.length).map V) := owns_at h1 (fun g hg => hb.block g (World.ownsRow.lt h1 g hg).2)
  have hne : ∀ k cur, W2.heap[k]? = some (.cells cur 3 (0, 0)) → v.ownBlock ≠ some k := fun k cur hc e => by
    obtain ⟨cur', hc'⟩ := owns_blk h1' e
    rw [hc] at hc'
    injection hc' with hc'
    injection hc' with _ hc'
    exact absurd hc' (by decide)
  have hk : ∀ (u : Value) (xs : List Int) (C : Nat), OwnL W2 C u xs → OwnL w3 C u xs := fun u xs C hu => owns_at hu (fun k hk => by
    obtain ⟨cur, hc⟩ := owns_blk hu hk
    have hlt := (Array.getElem?_eq_some_iff.1 hc).1
    rw [hg.block k (by rw [World.size_alloc]; omega) (fun e => hne k cur hc e.symm), Below.heap_alloc _ _ _ hlt])
  have hsz := hb.size
  refine ⟨⟨putF V Ls.length (.slice (some ⟨g, 0, none⟩) L.length cap), putF K Ls.length g, ?_, fun i hi => ?_, fun i j hij hj => ?_⟩, ?_⟩
  · rw [List.length_append, List.length_singleton, range_put]; exact hown
  · rw [List.length_append, List.length_singleton] at hi
    by_cases e : i = Ls.length
    · subst e
      rw [putF_at, putF_at, getD_snoc]
      exact ⟨hk _ _ _ (hu.mono hB), rfl⟩
    · have hi2 : i < Ls.length := by omega
      rw [putF_lt _ _ hi2, putF_lt _ _ hi2, getD_app hi2]
      refine ⟨hk _ _ _ (owns_at (h2 i hi2).1 (fun k hk => hb.block k (World.ownsRow.lt (h2 i hi2).1 k hk).2)), (h2 i hi2).2⟩
  · rw [List.length_append, List.length_singleton] at hj
    by_cases e : j = Ls.length
    · subst e
      rw [putF_at, putF_lt _ _ hij]
      have := (World.ownsRow.lt (h2 i hij).1 (K i) (h2 i hij).2).2
      omega
    · rw [putF_lt _ _ (by omega), putF_lt _ _ (by omega)]
      exact h3 i j hij (by omega)
  · have := (Below.refl B W2).alloc (by omega) (.cells #[.slice (some ⟨g, 0, none⟩) L.length cap] 28)
    have h9 := (hb.mono hB).trans (this.grown hg (by rw [World.size_alloc]; omega) (fun k e => (World.ownsRow.lt h1 k e).1))
    exact h9
theorem Tryd.intsInfo : (Tryd.prog.info? 28).map (fun i => (i.zero, i.size, i.bytes)) = some (some (.slice none 0 0), 1, 24) := by kernel_rfl
end Go.Proofs.YtoglcinfnhhkhabDoor
