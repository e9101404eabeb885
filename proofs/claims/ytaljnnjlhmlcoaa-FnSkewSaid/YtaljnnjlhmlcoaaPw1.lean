/- The weight of drawn skew pairs is at most 1: plain mathematics. -/
import Derived.Test.YtaljnnjlhmlcoaaIs6
import Derived.Test.YtaljnnjlhmlcoaaSh1
namespace Go.Proofs.Ytaljnnjlhmlcoaa
open Go.ChangeShapes Go.WideShapes Go.ChangeAt Go.RowKit Go.Proofs

/-- a level, spelled for trials. -/
def lvN (n k : Nat) : List Int := (upI (2 ^ n)).filter (fun x => cntI x == (k : Nat))
theorem lv_lev (n k : Nat) : levL (n : Nat) (k : Nat) = lvN n k := by
  unfold levL lvN
  rw [Int.toNat_natCast, sortL_asc (asc_upI _), sortL_asc (asc_filter (asc_upI _) _)]
theorem lv_len : ∀ n : Fin 7, ∀ k : Fin 7, k.val ≤ n.val → (lvN n.val k.val).length = chN n.val k.val := by decide +kernel
theorem cnt_other : ∀ n : Fin 7, ∀ a : Fin 64, a.val < 2 ^ n.val → cntTo (otherI (n.val : Nat) (a.val : Nat)) 8 + cntTo (a.val : Nat) 8 = n.val := by decide +kernel
theorem lv_small : ∀ n : Fin 7, ∀ k : Fin 7, k.val ≤ n.val → ∀ t : Fin 64, t.val < 2 ^ n.val → (lvN n.val k.val).any (fun x => !meetB x (t.val : Nat)) = true →
    ((lvN n.val k.val).filter (fun x => meetB x (t.val : Nat))).length * (840 / chN n.val k.val) + 840 / chN (k.val + cntTo (t.val : Nat) 8) k.val ≤ 840 := by decide +kernel
theorem ch_sym : ∀ c : Fin 9, ∀ d : Fin 9, c.val + d.val ≤ 8 → chN (d.val + c.val) d.val = chN (c.val + d.val) c.val := by decide +kernel
/-- what is drawn: some sets of one size and the others of them, the first of these may be another set. -/
def Drawn (n : Int) (xs zs : List Int) : Prop := ∃ N K : Nat, n = (N : Nat) ∧ 1 ≤ N ∧ N ≤ 6 ∧ K ≤ N ∧ xs.Sublist (lvN N K) ∧ (zs = xs.map (otherI n) ∨ ∃ t : Nat, t < 2 ^ N ∧ zs = (xs.map (otherI n)).set 0 (t : Int))
/-- what one pair adds. -/
def trm (xs zs : List Int) (i : Nat) : Nat := 840 / chN (cntTo (xs.getD i 0) 8 + cntTo (zs.getD i 0) 8) (cntTo (xs.getD i 0) 8)
theorem pw_succ (xs zs : List Int) (k : Nat) : pW xs zs (k + 1) = pW xs zs k + trm xs zs k := rfl
theorem pw_sum {xs zs : List Int} {q m : Nat} (h : ∀ i, 1 ≤ i → i < m → trm xs zs i = q) : ∀ j, j + 1 ≤ m → pW xs zs (j + 1) = j * q + trm xs zs 0
  | 0, _ => by rw [pw_succ]; simp [pW]
  | j + 1, hj => by
    rw [pw_succ, pw_sum h j (by omega), h (j + 1) (by omega) (by omega), Nat.add_mul, Nat.one_mul]; omega
theorem mem_lv {N K : Nat} {x : Int} (h : x ∈ lvN N K) : 0 ≤ x ∧ x < ((2 ^ N : Nat) : Int) ∧ cntTo x 8 = K := by
  have h1 := List.mem_filter.1 h
  obtain ⟨a, b⟩ := mem_upI.1 h1.1
  have h2 : cntI x = (K : Nat) := by simpa using h1.2
  refine ⟨a, b, ?_⟩
  unfold cntI at h2
  omega
theorem trm_at {N K : Nat} {x : Int} (hN : N ≤ 6) (h : x ∈ lvN N K) : cntTo x 8 = K ∧ cntTo (otherI (N : Nat) x) 8 + cntTo x 8 = N := by
  obtain ⟨a, b, c⟩ := mem_lv h
  have hp : 2 ^ N ≤ 2 ^ 6 := Nat.pow_le_pow_right (by omega) hN
  have hp6 : (2 : Nat) ^ 6 = 64 := by decide
  obtain ⟨y, rfl⟩ := Int.eq_ofNat_of_zero_le a
  exact ⟨c, cnt_other ⟨N, by omega⟩ ⟨y, by omega⟩ (by dsimp only; omega)⟩
theorem getD_map {xs : List Int} {f : Int → Int} {i : Nat} (h : i < xs.length) : (xs.map f).getD i 0 = f (xs.getD i 0) := by simp [List.getD, h]
theorem pw_small {n : Int} {xs zs : List Int} (hD : Drawn n xs zs) (hs : skwB n xs zs = true) : pW xs zs xs.length ≤ 840 := by
  obtain ⟨N, K, rfl, hN1, hN6, hK, hsub, hz⟩ := hD
  obtain ⟨_, _, hlen, hxz, hzz, hsk⟩ := skw_parts hs
  have hp : 2 ^ N ≤ 2 ^ 6 := Nat.pow_le_pow_right (by omega) hN6
  have hp6 : (2 : Nat) ^ 6 = 64 := by decide
  have hm := hsub.length_le
  rw [lv_len ⟨N, by omega⟩ ⟨K, by omega⟩ hK] at hm
  have hmem : ∀ i, i < xs.length → xs.getD i 0 ∈ lvN N K := fun i hi => hsub.subset (getD_mem hi)
  rcases Nat.eq_zero_or_pos xs.length with h0 | h0
  · rw [h0]; simp [pW]
  obtain ⟨m, hmm⟩ : ∃ m, xs.length = m + 1 := ⟨xs.length - 1, by omega⟩
  have hq : 840 / chN N K * chN N K ≤ 840 := Nat.div_mul_le_self 840 _
  rcases hz with rfl | ⟨t, ht, rfl⟩
  · have htr : ∀ i, i < xs.length → trm xs (xs.map (otherI (N : Nat))) i = 840 / chN N K := fun i hi => by
      unfold trm
      obtain ⟨a, b⟩ := trm_at hN6 (hmem i hi)
      rw [getD_map hi, Nat.add_comm, b, a]
    rw [hmm, pw_sum (q := 840 / chN N K) (m := m + 1) (fun i _ hi => htr i (by omega)) m (Nat.le_refl _), htr 0 h0]
    have : (m + 1) * (840 / chN N K) ≤ chN N K * (840 / chN N K) := Nat.mul_le_mul_right _ (by dsimp only at hm; omega)
    rw [Nat.add_mul, Nat.one_mul] at this
    rw [Nat.mul_comm] at hq
    omega
  · have hg0 : ((xs.map (otherI (N : Nat))).set 0 (t : Int)).getD 0 0 = (t : Int) := by simp [List.getD, h0]
    have hgi : ∀ i, 1 ≤ i → i < xs.length → ((xs.map (otherI (N : Nat))).set 0 (t : Int)).getD i 0 = otherI (N : Nat) (xs.getD i 0) := fun i h1 hi => by
      have e : ((xs.map (otherI (N : Nat))).set 0 (t : Int)).getD i 0 = (xs.map (otherI (N : Nat))).getD i 0 := by
        simp [List.getD, show ¬ 0 = i by omega]
      rw [e, getD_map hi]
    have htr : ∀ i, 1 ≤ i → i < m + 1 → trm xs ((xs.map (otherI (N : Nat))).set 0 (t : Int)) i = 840 / chN N K := fun i h1 hi => by
      unfold trm
      obtain ⟨a, b⟩ := trm_at hN6 (hmem i (by omega))
      rw [hgi i h1 (by omega), Nat.add_comm, b, a]
    have ht0 : trm xs ((xs.map (otherI (N : Nat))).set 0 (t : Int)) 0 = 840 / chN (K + cntTo (t : Nat) 8) K := by
      unfold trm
      rw [hg0, (trm_at hN6 (hmem 0 h0)).1]
    have hany : (lvN N K).any (fun x => !meetB x (t : Nat)) = true := by
      rw [List.any_eq_true]
      refine ⟨xs.getD 0 0, hmem 0 h0, ?_⟩
      have := hsk 0 h0 0 (by omega)
      rw [hg0] at this
      show (!meetB (xs.getD 0 0) (t : Nat)) = true
      rw [this]; rfl
    have hall : ∀ x ∈ xs.drop 1, meetB x (t : Nat) = true := fun x hx => by
      obtain ⟨i, hi, rfl⟩ := List.mem_iff_getElem.1 hx
      rw [List.length_drop] at hi
      have := hsk (1 + i) (by omega) 0 (by omega)
      rw [hg0] at this
      have e : xs.getD (1 + i) 0 = (xs.drop 1)[i]'(by rw [List.length_drop]; omega) := by rw [List.getElem_drop]; simp [List.getD, show 1 + i < xs.length by omega]
      rw [← e, this]
      simp
    have hF : m ≤ ((lvN N K).filter (fun x => meetB x (t : Nat))).length := by
      have h1 : (xs.drop 1).Sublist ((lvN N K).filter (fun x => meetB x (t : Nat))) := by
        have h2 := ((List.drop_sublist 1 xs).trans hsub).filter (fun x => meetB x (t : Nat))
        rwa [List.filter_eq_self.2 hall] at h2
      have := h1.length_le
      rw [List.length_drop] at this
      omega
    have hb := lv_small ⟨N, by omega⟩ ⟨K, by omega⟩ hK ⟨t, by omega⟩ ht hany
    dsimp only at hb
    rw [hmm, pw_sum (q := 840 / chN N K) (m := m + 1) htr m (Nat.le_refl _), ht0]
    have := Nat.mul_le_mul_right (840 / chN N K) hF
    omega
/-! ### the other way -/
theorem sk_flip {xs zs : List Int} (h : SkTo xs zs xs.length) : SkTo zs xs zs.length := fun i hi j hj => by
  rw [meet_comm, h j (by omega) i (by omega)]
  by_cases e : i = j
  · rw [decide_eq_true e, decide_eq_true e.symm]
  · rw [decide_eq_false e, decide_eq_false (fun h => e h.symm)]
theorem skB_flip {xs zs : List Int} : skB zs xs = skB xs zs := by
  rw [Bool.eq_iff_iff]
  exact ⟨fun h => skB_yes (sk_flip (skB_out h)), fun h => skB_yes (sk_flip (skB_out h))⟩
theorem skw_flip (n : Int) (xs zs : List Int) : skwB n zs xs = skwB n xs zs := by
  unfold skwB
  by_cases hl : xs.length = zs.length
  · rw [decide_eq_true hl, decide_eq_true hl.symm, skB_flip (xs := xs)]
    cases ptsB n <;> cases allB n xs <;> cases allB n zs <;> cases skB xs zs <;> rfl
  · rw [decide_eq_false hl, decide_eq_false (fun h => hl h.symm)]
    cases ptsB n <;> rfl
theorem pw_flip {xs zs : List Int} (h : ∀ i, i < xs.length → cntTo (xs.getD i 0) 8 + cntTo (zs.getD i 0) 8 ≤ 8) : ∀ k, k ≤ xs.length → pW zs xs k = pW xs zs k
  | 0, _ => rfl
  | k + 1, hk => by
    rw [pw_succ, pw_succ, pw_flip h k (by omega)]
    unfold trm
    have h8 := h k (by omega)
    rw [ch_sym ⟨cntTo (xs.getD k 0) 8, by omega⟩ ⟨cntTo (zs.getD k 0) 8, by omega⟩ h8]
theorem pwv_flip {n : Int} {xs zs : List Int} (hs : skwB n xs zs = true) : pwV n zs xs = pwV n xs zs := by
  obtain ⟨_, _, hl, _, _, hsk⟩ := skw_parts hs
  unfold pwV
  rw [skw_flip, hs, if_pos rfl, if_pos rfl, ← hl, pw_flip (fun i hi => cnt_sum (sk_pair hsk hl hi rfl rfl)) _ (Nat.le_refl _)]
theorem pwv_le {n : Int} {xs zs : List Int} (hD : Drawn n xs zs) (hs : skwB n xs zs = true) : 0 ≤ pwV n xs zs ∧ pwV n xs zs ≤ 840 := by
  have := pw_small hD hs
  unfold pwV
  rw [hs, if_pos rfl]
  omega
end Go.Proofs.Ytaljnnjlhmlcoaa
