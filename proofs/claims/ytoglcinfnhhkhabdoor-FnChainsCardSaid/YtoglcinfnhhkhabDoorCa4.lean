/- The exact law of ChainAll. -/
import Derived.Test.YtoglcinfnhhkhabDoorCa3
namespace Go.Proofs.YtoglcinfnhhkhabDoor
open Go.ChangeShapes Go.WideShapes Go.ChangeAt Go.RowKit Go.Proofs

theorem RW.opened {w : World} {B : Nat} {v : Value} {Ls : List (List Int)} (h : RW w B v Ls) : ∃ a c V K, v = .slice a Ls.length c ∧ Tbl w w.heap.size a Ls.length V ∧ OwnR w B w.heap.size V K Ls ∧ (∀ i j, i < Ls.length → j < Ls.length → i ≠ j → K i ≠ K j) ∧ ∀ b off, a = some ⟨b, off, none⟩ → ∀ i, i < Ls.length → K i ≠ b := by
  obtain ⟨V, K, h1, h2, h3⟩ := h
  have hinj : ∀ i j, i < Ls.length → j < Ls.length → i ≠ j → K i ≠ K j := fun i j hi hj hij e => by
    rcases Nat.lt_or_gt_of_ne hij with hlt | hlt
    · have := h3 i j hlt hj; omega
    · have := h3 j i hlt hi; omega
  have hown : OwnR w B w.heap.size V K Ls := fun i hi => by
    obtain ⟨h4, h5⟩ := h2 i hi
    refine ⟨h4.own, ?_⟩
    rcases id h4.2 with ⟨hv, _⟩ | ⟨g, cap, cur, hv, _⟩
    · rw [hv] at h5; cases h5
    · rw [hv] at h5 ⊢
      cases h5
      exact ⟨0, cap, rfl⟩
  rcases id h1.2 with ⟨rfl, hn⟩ | ⟨g, cap, cur, rfl, hg, hh, k1, k2, k3, k4⟩
  · exact ⟨none, 0, V, K, by rw [hn], fun hp => by omega, hown, hinj, fun b off e => by cases e⟩
  · refine ⟨_, cap, V, K, rfl, fun _ => ⟨g, 0, rfl, (Array.getElem?_eq_some_iff.1 hh).1, fun j hj => ?_⟩, hown, hinj, fun b off e i hi hk => ?_⟩
    · rw [cell_of_row w g _ _ 28 (0, 0) hh]
      have h5 : (cur.toList.take Ls.length)[j]? = some (V j) := by rw [Nat.mul_one] at k4; rw [k4, List.getElem?_map, List.getElem?_range hj]; rfl
      rw [List.getElem?_take, if_pos hj] at h5
      simpa using h5
    · cases e
      obtain ⟨cur', hc⟩ := owns_blk (h2 i hi).1 (h2 i hi).2
      rw [hk, hh] at hc
      injection hc with hc
      injection hc with _ hc
      exact absurd hc (by decide)
theorem OwnR.rows {w : World} {B S : Nat} {V : Nat → Value} {K : Nat → Nat} {Ls : List (List Int)} (h : OwnR w B S V K Ls) : RowsR w S V Ls := fun i hi => (h i hi).1.row
theorem OwnR.drewN {w : World} {B S : Nat} {V : Nat → Value} {K : Nat → Nat} {Ls : List (List Int)} (h : OwnR w B S V K Ls) (q : Nat) : OwnR (w.drewN q) B S V K Ls := h
theorem allC_short (n : Int) : Short (allC n) := by
  unfold allC
  split
  · rename_i h
    obtain ⟨n1, n2⟩ := ptsB_yes h
    exact acL_short (by omega) (Nat.le_refl _)
  · exact ⟨by simp, fun i hi => absurd hi (Nat.not_lt_zero i)⟩
end Go.Proofs.YtoglcinfnhhkhabDoor
