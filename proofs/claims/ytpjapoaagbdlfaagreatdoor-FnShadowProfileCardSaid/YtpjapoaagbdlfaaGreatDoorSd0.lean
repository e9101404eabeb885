/- First sets of all sizes: their profile, and their shadow; plain mathematics. -/
import Derived.Test.YtpjapoaagbdlfaaGreatDoorKk1
import Derived.Test.YtpjapoaagbdlfaaGreatDoorAllDn
import Derived.Test.YtpjapoaagbdlfaaGreatDoorFams14
import Derived.Test.YtpjapoaagbdlfaaGreatDoorFirst
import Derived.Test.YtpjapoaagbdlfaaGreatDoorMa1
namespace Go.Proofs.YtpjapoaagbdlfaaGreatDoor
open Go.ChangeShapes Go.WideShapes Go.ChangeAt Go.RowKit Go.Proofs

theorem fst_cnt {n k m z : Int} (h : z ∈ fstL n k m) : cntI z = k := by
  unfold fstL at h
  have h := List.mem_of_mem_take h
  unfold levL at h
  have := (List.mem_filter.1 (mem_sortL.1 h)).2
  simpa using this
theorem fst_len {n k m : Int} (n1 : 1 ≤ n) (n2 : n ≤ 8) (k1 : 0 ≤ k) (k2 : k ≤ n) (h : cntB n k m = true) : (((fstL n k m).length : Nat) : Int) = m := by
  obtain ⟨m1, m2⟩ := cntB_yes h
  have := levL_len n1 n2 k1 k2
  unfold fstL
  rw [List.length_take]
  omega
theorem mem_cat {n : Int} {xs : List Int} {z : Int} : ∀ k, z ∈ catL n xs k ↔ ∃ j : Nat, j < k ∧ z ∈ fstL n (j : Nat) (xs.getD j 0)
  | 0 => by simp [catL]
  | k + 1 => by
    show z ∈ catL n xs k ++ _ ↔ _
    rw [List.mem_append, mem_cat k]
    constructor
    · rintro (⟨j, h1, h2⟩ | h)
      · exact ⟨j, by omega, h2⟩
      · exact ⟨k, by omega, h⟩
    · rintro ⟨j, h1, h2⟩
      by_cases e : j = k
      · subst e; exact .inr h2
      · exact .inl ⟨j, by omega, h2⟩
theorem mem_dw {n : Int} {xs : List Int} {z : Int} {k : Nat} : z ∈ dwL n xs k ↔ ∃ j : Nat, j < k ∧ z ∈ fstL n (j : Nat) (xs.getD j 0) := by unfold dwL; rw [mem_sortL, mem_cat]
theorem dw_fam {n : Int} (n1 : 1 ≤ n) (n2 : n ≤ 8) (xs : List Int) (k : Nat) : famB n (dwL n xs k) = true := famB_mk (ptsB_mk n1 n2) (fun _ hz => dwL_mem n1 n2 hz) (asc_sortL _)
/-- the profile is the list. -/
theorem prof_dw {n : Int} {xs : List Int} (h : cntsB n xs = true) : profL (n.toNat + 1) (dwL n xs xs.length) = xs := by
  obtain ⟨n1, n2, hl, hc⟩ := cntsB_yes h
  apply List.ext_getElem
  · rw [profL_len]; omega
  · intro j h1 h2
    simp only [profL, List.getElem_map, List.getElem_range]
    have hj := cntsTo_at hc h2
    have e : (dwL n xs xs.length).filter (fun x => cntI x == ((j : Nat) : Int)) = fstL n (j : Nat) (xs.getD j 0) := asc_ext (asc_filter (asc_sortL _) _) (fstL_asc _ _ _) fun z => by
      rw [List.mem_filter, mem_dw, beq_iff_eq]
      constructor
      · rintro ⟨⟨i, _, hz⟩, hj⟩
        have := fst_cnt hz
        obtain rfl : i = j := by omega
        exact hz
      · intro hz
        exact ⟨⟨j, h2, hz⟩, fst_cnt hz⟩
    unfold cntP
    rw [e, fst_len n1 n2 (by omega) (by omega) hj, List.getD_eq_getElem?_getD, List.getElem?_eq_getElem h2]
    rfl
theorem pt_cnt : ∀ s : Fin 256, ∀ p ∈ ptsI (s.val : Nat), 1 ≤ cntI (s.val : Nat) := by decide +kernel
theorem fst_sub {n k a b : Int} (h : a ≤ b) {z : Int} (hz : z ∈ fstL n k a) : z ∈ fstL n k b := by
  unfold fstL at hz ⊢
  exact (List.take_sublist_take_left (by omega)).subset hz
theorem dn_sub {xs ys : List Int} (h : ∀ z ∈ xs, z ∈ ys) {z : Int} (hz : z ∈ sortL (dnL xs)) : z ∈ sortL (dnL ys) := by
  obtain ⟨x, hx, p, hp, e⟩ := mem_dn.1 hz
  exact mem_dn.2 ⟨x, h x hx, p, hp, e⟩
/-- the shadow is in the family exactly if there is room. -/
theorem room_dw {n : Int} {xs : List Int} (h : cntsB n xs = true) (n5 : n ≤ 5) : roomTo xs xs.length = true ↔ ∀ z ∈ sortL (dnL (dwL n xs xs.length)), z ∈ dwL n xs xs.length := by
  obtain ⟨n1, n2, hl, hc⟩ := cntsB_yes h
  have hcj := fun (j : Nat) (hj : j < xs.length) => cntsTo_at hc hj
  have hch : ∀ j : Nat, j < xs.length → xs.getD j 0 ≤ 15 := fun j hj => by
    have h1 := (cntB_yes (hcj j hj)).2
    have h2 : ∀ n : Fin 6, ∀ k : Fin 6, chI (n.val : Nat) (k.val : Nat) ≤ 15 := by decide +kernel
    have h3 := h2 ⟨n.toNat, by omega⟩ ⟨j, by omega⟩
    have e : ((n.toNat : Nat) : Int) = n := by omega
    simp only [e] at h3
    omega
  have hff := fun (j : Nat) (hj : j < xs.length) (j1 : 1 ≤ j) => fst_facts (n := n) (k := (j : Nat)) (m := xs.getD j 0) (by
    unfold fstB
    rw [szB_mk ⟨n1, n2, by omega, by omega⟩, hcj j hj]; rfl) (by omega) (by omega) (hch j hj)
  unfold roomTo
  rw [List.all_eq_true]
  constructor
  · intro hr z hz
    obtain ⟨x, hx, p, hp, e⟩ := mem_dn.1 hz
    obtain ⟨j, hj, hxj⟩ := mem_dw.1 hx
    have hxs := setB_lt (dwL_mem n1 n2 hx)
    have hp1 := all256 (P := fun x => ∀ p ∈ ptsI x, 1 ≤ cntI x) pt_cnt hxs.1 hxs.2 p hp
    rw [fst_cnt hxj] at hp1
    obtain ⟨f1, f2, f3, f4⟩ := hff j hj (by omega)
    have hz2 : z ∈ sortL (dnL (fstL n (j : Nat) (xs.getD j 0))) := mem_dn.2 ⟨x, hxj, p, hp, e⟩
    have h1 := hr j (List.mem_range.2 hj)
    rw [Bool.or_eq_true, beq_iff_eq] at h1
    have h1 := of_decide_eq_true (h1.resolve_left (by omega))
    rw [← f4, ← f2] at hz2
    refine mem_dw.2 ⟨j - 1, by omega, ?_⟩
    rw [show ((j - 1 : Nat) : Int) = (j : Int) - 1 by omega]
    exact fst_sub h1 hz2
  · intro hs j hj
    have hj := List.mem_range.1 hj
    cases j with
    | zero => rfl
    | succ j =>
      obtain ⟨f1, f2, f3, f4⟩ := hff (j + 1) hj (by omega)
      have hA : ∀ z ∈ fstL n (j : Nat) (leaV (xs.getD (j + 1) 0) ((j + 1 : Nat) : Int)), z ∈ fstL n (j : Nat) (xs.getD j 0) := fun z hz => by
        have hcz := fst_cnt hz
        rw [show ((j + 1 : Nat) : Int) - 1 = (j : Nat) by omega] at f4
        rw [f2, f4] at hz
        have := hs z (dn_sub (fun y hy => mem_dw.2 ⟨j + 1, hj, hy⟩) hz)
        obtain ⟨i, hi, hzi⟩ := mem_dw.1 this
        have := fst_cnt hzi
        obtain rfl : i = j := by omega
        exact hzi
      have hp : ((2 ^ n.toNat : Nat) : Int) = (2 : Int) ^ n.toNat := by simp
      have hr : ∀ (m z : Int), z ∈ fstL n (j : Nat) m → 0 ≤ z ∧ z < ((2 ^ n.toNat : Nat) : Int) := fun m z hz => by
        obtain ⟨_, _, h1, h2⟩ := setB_yes (fstL_mem n1 n2 hz)
        exact ⟨h1, by rw [hp]; exact h2⟩
      have c1 := cN_fam (n := n.toNat) (fstL_asc n (j : Nat) (leaV (xs.getD (j + 1) 0) ((j + 1 : Nat) : Int))) (hr _)
      have c2 := cN_fam (n := n.toNat) (fstL_asc n (j : Nat) (xs.getD j 0)) (hr _)
      have c3 := cN_mono n.toNat (famP (fstL n (j : Nat) (leaV (xs.getD (j + 1) 0) ((j + 1 : Nat) : Int)))) (famP (fstL n (j : Nat) (xs.getD j 0))) fun z _ hz => decide_eq_true (hA _ (of_decide_eq_true hz))
      have l1 := fst_len n1 n2 (k := (j : Nat)) (m := xs.getD j 0) (by omega) (by omega) (hcj j (by omega))
      have l2 := fst_len n1 n2 (k := (j : Nat)) (m := leaV (xs.getD (j + 1) 0) ((j + 1 : Nat) : Int)) (by omega) (by omega) (by
        unfold fstB at f3
        rw [Bool.and_eq_true, ← f2, show ((j + 1 : Nat) : Int) - 1 = (j : Nat) by omega] at f3
        exact f3.2)
      unfold roomB
      rw [Nat.add_sub_cancel, decide_eq_true (show _ ≤ _ by omega), Bool.or_true]
theorem dw_comm {n : Int} {xs : List Int} (h : cntsB n xs = true) (n5 : n ≤ 5) :
    sameB (sortL ((sortL (dnL (dwL n xs xs.length))).filter (fun x => memB x (dwL n xs xs.length)))) (sortL (dnL (dwL n xs xs.length))) = roomTo xs xs.length := by
  have hr := room_dw h n5
  apply Bool.eq_iff_iff.2
  rw [hr]
  unfold sameB
  rw [decide_eq_true_eq]
  constructor
  · intro e z hz
    rw [← e, mem_sortL] at hz
    exact of_decide_eq_true (List.mem_filter.1 hz).2
  · intro hz
    exact filt_all (asc_sortL _) hz
end Go.Proofs.YtpjapoaagbdlfaaGreatDoor
