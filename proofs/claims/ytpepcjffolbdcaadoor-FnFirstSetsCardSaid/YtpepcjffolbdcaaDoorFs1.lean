/- First sets in ball order that are all sets of few points: plain mathematics. -/
import Derived.Test.YtpepcjffolbdcaaDoorAllBp
import Derived.Test.YtpepcjffolbdcaaDoorTr2
namespace Go.Proofs.YtpepcjffolbdcaaDoor
open Go.ChangeShapes Go.WideShapes Go.ChangeAt Go.RowKit Go.Proofs

theorem asc_take (T : Int) : ∀ (ks : List Int), ks.Pairwise (fun a b => a < b) → ks.take ((ks.filter (fun k => decide (k < T))).length) = ks.filter (fun k => decide (k < T))
  | [], _ => rfl
  | k :: ks, h => by
    rw [List.pairwise_cons] at h
    by_cases hk : k < T
    · have e : (k :: ks).filter (fun k => decide (k < T)) = k :: ks.filter (fun k => decide (k < T)) := by simp [hk]
      rw [e, List.length_cons, List.take_succ_cons, asc_take T ks h.2]
    · have e : (k :: ks).filter (fun k => decide (k < T)) = [] := by
        rw [List.filter_eq_nil_iff]
        intro x hx
        rcases List.mem_cons.1 hx with rfl | hx
        · simpa using hk
        · have := h.1 x hx; simp; omega
      rw [e]; rfl
theorem bk_few : ∀ s : Fin 256, ∀ d : Fin 9, (bkI (s.val : Nat) < (((d.val : Nat) : Int) + 1) * 256 ↔ cntI (s.val : Nat) ≤ (d.val : Nat)) := by decide +kernel
theorem few_dec : ∀ n : Fin 9, ∀ d : Fin 9, 1 ≤ n.val → (((upI (2 ^ n.val)).countP (fun x => decide (cntI x ≤ ((d.val : Nat) : Int))) : Nat) : Int) = bndN ((n.val : Nat) : Int) (d.val + 1) := by decide +kernel
theorem sort_lenf {L : List Int} (h : L.Nodup) : (sortL L).length = L.length := by
  unfold sortL
  rw [fold_len L [] h (fun _ _ => by simp)]
  simp
/-- the first so many sets in ball order are the sets of at most d points. -/
theorem first_most {n d m : Int} (n1 : 1 ≤ n) (n2 : n ≤ 8) (d1 : 0 ≤ d) (d2 : d ≤ n) (hm : bndN n (d + 1).toNat = m) : sortL ((sortL (upI (2 ^ n.toNat))).filter (fun x => decide (cntI x ≤ d))) = fiL n m := by
  have h256 := pow_le256 n1 n2
  have en : ((n.toNat : Nat) : Int) = n := Int.toNat_of_nonneg (by omega)
  have ed : ((d.toNat : Nat) : Int) = d := Int.toNat_of_nonneg d1
  have eN : ((2 ^ n.toNat : Nat) : Int) = 2 ^ n.toNat := by simp
  have hU : ∀ x ∈ upI (2 ^ n.toNat), 0 ≤ x ∧ x < 256 := fun x hx => by have := mem_upI.1 hx; omega
  have hfew : ∀ x ∈ upI (2 ^ n.toNat), (bkI x < (d + 1) * 256 ↔ cntI x ≤ d) := fun x hx => by
    obtain ⟨a, b⟩ := hU x hx
    have h := bk_few ⟨x.toNat, by omega⟩ ⟨d.toNat, by omega⟩
    have ex : ((x.toNat : Nat) : Int) = x := Int.toNat_of_nonneg a
    simp only [ex, ed] at h
    exact h
  obtain ⟨ks, hks⟩ : ∃ ks, kL (sortL (upI (2 ^ n.toNat))) = ks := ⟨_, rfl⟩
  have hA : ks.Pairwise (fun a b => a < b) := by rw [← hks]; exact asc_sortL _
  have hmem : ∀ k, k ∈ ks ↔ ∃ x ∈ upI (2 ^ n.toNat), bkI x = k := fun k => by
    rw [← hks]; unfold kL
    rw [mem_sortL, List.mem_map]
    constructor
    · rintro ⟨x, hx, e⟩; exact ⟨x, mem_sortL.1 hx, e⟩
    · rintro ⟨x, hx, e⟩; exact ⟨x, mem_sortL.2 hx, e⟩
  have hinj : ∀ x ∈ upI (2 ^ n.toNat), ∀ y ∈ upI (2 ^ n.toNat), bkI x = bkI y → x = y := fun x hx y hy e => by
    have a := (bk_facts (hU x hx).1 (hU x hx).2).2.2
    have b := (bk_facts (hU y hy).1 (hU y hy).2).2.2
    rw [e] at a
    exact a.symm.trans b
  have hF : ks.filter (fun k => decide (k < (d + 1) * 256)) = sortL (((upI (2 ^ n.toNat)).filter (fun x => decide (cntI x ≤ d))).map bkI) := by
    refine (sortL_eq (hA.filter _) (fun z => ?_)).symm
    rw [List.mem_map, List.mem_filter, hmem]
    constructor
    · rintro ⟨x, hx, rfl⟩
      rw [List.mem_filter] at hx
      exact ⟨⟨x, hx.1, rfl⟩, decide_eq_true ((hfew x hx.1).2 (of_decide_eq_true hx.2))⟩
    · rintro ⟨⟨x, hx, rfl⟩, h⟩
      exact ⟨x, List.mem_filter.2 ⟨hx, decide_eq_true ((hfew x hx).1 (of_decide_eq_true h))⟩, rfl⟩
  have hnd : (upI (2 ^ n.toNat)).Nodup := (asc_upI _).imp (fun h => by omega)
  have hlen : (ks.filter (fun k => decide (k < (d + 1) * 256))).length = m.toNat := by
    have h := few_dec ⟨n.toNat, by omega⟩ ⟨d.toNat, by omega⟩ (by show 1 ≤ n.toNat; omega)
    simp only [en, ed] at h
    rw [hF, sort_lenf, List.length_map, ← List.countP_eq_length_filter]
    · have e2 : (d + 1).toNat = d.toNat + 1 := by omega
      rw [e2] at hm
      omega
    · have hnd2 : ((upI (2 ^ n.toNat)).filter (fun x => decide (cntI x ≤ d))).Nodup := hnd.filter _
      unfold List.Nodup
      rw [List.pairwise_map]
      refine List.Pairwise.imp_of_mem ?_ hnd2
      intro a b ha hb hne e
      exact hne (hinj a (List.mem_filter.1 ha).1 b (List.mem_filter.1 hb).1 e)
  unfold fiL orL
  rw [hks]
  unfold unL
  rw [← List.map_take, ← hlen, asc_take _ ks hA]
  refine sortL_eq (asc_sortL _) (fun z => ?_)
  rw [List.mem_filter, mem_sortL, mem_sortL, List.mem_map]
  constructor
  · rintro ⟨hz, hc⟩
    exact ⟨bkI z, List.mem_filter.2 ⟨(hmem _).2 ⟨z, hz, rfl⟩, decide_eq_true ((hfew z hz).2 (of_decide_eq_true hc))⟩, (bk_facts (hU z hz).1 (hU z hz).2).2.2⟩
  · rintro ⟨k, hk, rfl⟩
    rw [List.mem_filter] at hk
    obtain ⟨x, hx, rfl⟩ := (hmem k).1 hk.1
    rw [(bk_facts (hU x hx).1 (hU x hx).2).2.2]
    exact ⟨hx, decide_eq_true ((hfew x hx).1 (of_decide_eq_true hk.2))⟩
theorem fi_len {n m : Int} (h : fiB n m = true) : (fiL n m).length = m.toNat := by
  obtain ⟨n1, n2, m1, m2⟩ := fiB_yes h
  have h256 := pow_le256 n1 n2
  have hol := orL_len n1 n2
  have eN : ((2 ^ n.toNat : Nat) : Int) = 2 ^ n.toNat := by simp
  have hnd : (orL n).Nodup := by
    unfold orL unL List.Nodup
    rw [List.pairwise_map]
    have hA : (kL (sortL (upI (2 ^ n.toNat)))).Pairwise (fun a b => a < b) := asc_sortL _
    refine List.Pairwise.imp_of_mem ?_ hA
    intro a b ha hb hlt e
    have mem : ∀ k ∈ kL (sortL (upI (2 ^ n.toNat))), bkI (unb k) = k := fun k hk => by
      unfold kL at hk
      rw [mem_sortL, List.mem_map] at hk
      obtain ⟨x, hx, rfl⟩ := hk
      have hx2 := mem_upI.1 (mem_sortL.1 hx)
      rw [(bk_facts hx2.1 (by omega)).2.2]
    have e1 := mem a ha
    have e2 := mem b hb
    rw [e, e2] at e1
    omega
  unfold fiL
  rw [sort_lenf (List.Nodup.sublist (List.take_sublist _ _) hnd), List.length_take, hol]
  omega
end Go.Proofs.YtpepcjffolbdcaaDoor
