/- Edges lead to the rest: plain mathematics. -/
import Derived.Test.YtcadlfljlobjjaaBe1
import Derived.Test.YtcadlfljlobjjaaBe3
import Derived.Test.YtcadlfljlobjjaaFams13
namespace Go.Proofs.Ytcadlfljlobjjaa
open Go.ChangeShapes Go.WideShapes Go.ChangeAt Go.RowKit Go.Proofs

/-- the rest of a family. -/
def rsL (n : Int) (xs : List Int) : List Int := sortL ((sortL (upI (2 ^ n.toNat))).filter (fun x => !memB x xs))
theorem rs_eq (n : Int) (xs : List Int) : rsL n xs = (upI (2 ^ n.toNat)).filter (fun x => !memB x xs) := by
  unfold rsL
  rw [up_sort, sortL_asc (asc_filter (asc_upI _) _)]
theorem mem_rs {n : Int} {xs : List Int} {z : Int} : z ∈ rsL n xs ↔ (0 ≤ z ∧ z < 2 ^ n.toNat) ∧ z ∉ xs := by
  have e : ((2 ^ n.toNat : Nat) : Int) = 2 ^ n.toNat := by simp
  rw [rs_eq, List.mem_filter, mem_upI, Bool.not_eq_true', e]
  constructor
  · rintro ⟨h, h2⟩; exact ⟨h, memB_no h2⟩
  · rintro ⟨h, h2⟩; exact ⟨h, memB_mk0 h2⟩
theorem rs_fam {n : Int} {xs : List Int} (hf : famB n xs = true) : famB n (rsL n xs) = true := by
  obtain ⟨n1, n2, hs⟩ := famB_all hf
  exact famB_mk (ptsB_mk n1 n2) (fun z hz => by obtain ⟨⟨a, b⟩, _⟩ := mem_rs.1 hz; exact setB_mk ⟨n1, n2, a, b⟩) (asc_sortL _)
theorem filter_len (p : Int → Bool) : ∀ U : List Int, (U.filter p).length + (U.filter (fun x => !p x)).length = U.length
  | [] => rfl
  | x :: U => by
    have := filter_len p U
    simp only [List.filter_cons]
    cases p x <;> simp <;> omega
theorem fam_filter {n : Int} {xs : List Int} (hf : famB n xs = true) : (upI (2 ^ n.toNat)).filter (fun x => memB x xs) = xs := by
  have e : ((2 ^ n.toNat : Nat) : Int) = 2 ^ n.toNat := by simp
  refine asc_ext (asc_filter (asc_upI _) _) (famB_asc hf) (fun z => ?_)
  rw [List.mem_filter, mem_upI]
  constructor
  · rintro ⟨_, h⟩; exact memB_yes h
  · intro h
    obtain ⟨_, _, a, b⟩ := setB_yes ((famB_all hf).2.2 z h)
    exact ⟨⟨a, by omega⟩, memB_mk h⟩
theorem rs_len {n : Int} {xs : List Int} (hf : famB n xs = true) : xs.length + (rsL n xs).length = 2 ^ n.toNat := by
  have h := filter_len (fun x => memB x xs) (upI (2 ^ n.toNat))
  rw [fam_filter hf, upI_len, ← rs_eq] at h
  exact h
/-- the sets with a point and those without it. -/
theorem swap_pt {n : Int} (_n1 : 1 ≤ n) (n2 : n ≤ 8) {p : Nat} (hp : (p : Int) < n) (P Q : Int → Bool) (h : ∀ s, 0 ≤ s → s < 2 ^ n.toNat → hasB s (p : Nat) = true → P s = Q (lessI s (p : Nat))) :
    (upI (2 ^ n.toNat)).countP (fun s => hasB s (p : Nat) && P s) = (upI (2 ^ n.toNat)).countP (fun s => !hasB s (p : Nat) && Q s) := by
  have e : ((2 ^ n.toNat : Nat) : Int) = 2 ^ n.toNat := by simp
  have h256 := pow_le256 (by omega : 1 ≤ n) n2
  have hp8 : p < 8 := by omega
  rw [count_len, count_len]
  have key : ((upI (2 ^ n.toNat)).filter (fun s => hasB s (p : Nat) && P s)).map (fun s => lessI s (p : Nat)) = (upI (2 ^ n.toNat)).filter (fun s => !hasB s (p : Nat) && Q s) := by
    refine asc_ext ?_ (asc_filter (asc_upI _) _) (fun z => ?_)
    · refine asc_map (asc_filter (asc_upI _) _) (fun x hx y hy hxy => ?_)
      obtain ⟨x1, x2⟩ := List.mem_filter.1 hx
      obtain ⟨y1, y2⟩ := List.mem_filter.1 hy
      rw [Bool.and_eq_true] at x2 y2
      have a := mem_upI.1 x1
      have b := mem_upI.1 y1
      have f1 := less_mono ⟨x.toNat, by omega⟩ ⟨p, hp8⟩
      have f2 := less_mono ⟨y.toNat, by omega⟩ ⟨p, hp8⟩
      have g1 : ((x.toNat : Nat) : Int) = x := Int.toNat_of_nonneg a.1
      have g2 : ((y.toNat : Nat) : Int) = y := Int.toNat_of_nonneg b.1
      simp only [g1, g2] at f1 f2
      rw [f1 x2.1, f2 y2.1]; omega
    · rw [List.mem_map, List.mem_filter, mem_upI]
      constructor
      · rintro ⟨s, hs, rfl⟩
        obtain ⟨s1, s2⟩ := List.mem_filter.1 hs
        rw [Bool.and_eq_true] at s2
        have a := mem_upI.1 s1
        obtain ⟨_, f, _⟩ := nb_facts a.1 (by omega) hp8
        obtain ⟨f1, f2⟩ := f s2.1
        have hl := all256_8 (P := fun s p => 0 ≤ lessI s p ∧ lessI s p ≤ s) less_le a.1 (by omega) (show (0 : Int) ≤ (p : Nat) by omega) (by omega)
        refine ⟨⟨hl.1, by omega⟩, ?_⟩
        rw [f1, ← h s a.1 (by omega) s2.1, s2.2]; rfl
      · rintro ⟨z1, z2⟩
        rw [Bool.and_eq_true, Bool.not_eq_true'] at z2
        obtain ⟨_, _, f⟩ := nb_facts z1.1 (by omega) hp8
        obtain ⟨f1, f2⟩ := f z2.1
        obtain ⟨t, ht, htN⟩ := nb_bd (setB_mk ⟨by omega, n2, z1.1, by omega⟩ : setB n z = true) hp
        obtain ⟨g, _, _⟩ := nb_facts z1.1 (by omega) hp8
        rw [z2.1, if_neg (by simp)] at g
        have hw : withI z (p : Nat) = t := by rw [← g, ht]
        refine ⟨withI z (p : Nat), List.mem_filter.2 ⟨mem_upI.2 ⟨by omega, by omega⟩, ?_⟩, f2⟩
        rw [f1, h _ (by omega) (by omega) f1, f2, z2.2]; rfl
  rw [← key, List.length_map]
theorem count_split (q P : Int → Bool) : ∀ U : List Int, U.countP P = U.countP (fun s => q s && P s) + U.countP (fun s => !q s && P s)
  | [] => rfl
  | x :: U => by
    have := count_split q P U
    simp only [List.countP_cons]
    cases q x <;> cases P x <;> simp <;> omega
/-- as many sets of a family have their neighbour in the rest as the other way. -/
theorem cut_same {n : Int} {xs : List Int} (hf : famB n xs = true) {p : Nat} (hp : (p : Int) < n) :
    xs.countP (fun s => !nbP xs s p) = (rsL n xs).countP (fun s => !nbP (rsL n xs) s p) := by
  obtain ⟨n1, n2, hs⟩ := famB_all hf
  have h256 := pow_le256 n1 n2
  have e : ((2 ^ n.toNat : Nat) : Int) = 2 ^ n.toNat := by simp
  have a1 : xs.countP (fun s => !nbP xs s p) = (upI (2 ^ n.toNat)).countP (fun s => memB s xs && !nbP xs s p) := by
    have h0 : xs.countP (fun s => !nbP xs s p) = ((upI (2 ^ n.toNat)).filter (fun x => memB x xs)).countP (fun s => !nbP xs s p) := by rw [fam_filter hf]
    rw [h0, List.countP_filter]
    exact List.countP_congr (fun s _ => by rw [Bool.and_comm])
  have a2 : (rsL n xs).countP (fun s => !nbP (rsL n xs) s p) = (upI (2 ^ n.toNat)).countP (fun s => !memB s xs && nbP xs s p) := by
    conv => lhs; rw [show (rsL n xs).countP (fun s => !nbP (rsL n xs) s p) = ((upI (2 ^ n.toNat)).filter (fun x => !memB x xs)).countP (fun s => !nbP (rsL n xs) s p) by rw [← rs_eq]]
    rw [List.countP_filter]
    refine List.countP_congr (fun s hsU => ?_)
    have b := mem_upI.1 hsU
    obtain ⟨t, ht, htN⟩ := nb_bd (setB_mk ⟨n1, n2, b.1, by omega⟩ : setB n s = true) hp
    have hm : nbP (rsL n xs) s p = !nbP xs s p := by
      unfold nbP
      rw [ht]
      rcases (by cases memB (t : Nat) xs <;> simp : memB (t : Nat) xs = true ∨ memB (t : Nat) xs = false) with h | h
      · rw [h, memB_mk0 (fun hh => (mem_rs.1 hh).2 (memB_yes h))]; rfl
      · rw [h, memB_mk (mem_rs.2 ⟨⟨by omega, by omega⟩, memB_no h⟩)]; rfl
    rw [hm, Bool.not_not, Bool.and_comm]
  rw [a1, a2, count_split (fun s => hasB s (p : Nat)), count_split (fun s => hasB s (p : Nat)) (fun s => !memB s xs && nbP xs s p)]
  have hp8 : p < 8 := by omega
  have f : ∀ s, 0 ≤ s → s < 2 ^ n.toNat → hasB s (p : Nat) = true → nbP xs s p = memB (lessI s (p : Nat)) xs ∧ nbP xs (lessI s (p : Nat)) p = memB s xs := fun s s1 s2 hh => by
    obtain ⟨g, f, _⟩ := nb_facts s1 (by omega) hp8
    obtain ⟨f1, f2⟩ := f hh
    rw [hh, if_pos rfl] at g
    have hl := less_lt s1 (by omega) (show (0 : Int) ≤ (p : Nat) by omega) (show ((p : Nat) : Int) ≤ 7 by omega)
    obtain ⟨g2, _, _⟩ := nb_facts hl.1 hl.2 hp8
    rw [f1, if_neg (by simp), f2] at g2
    unfold nbP
    rw [g, g2]
    exact ⟨rfl, rfl⟩
  have c1 := swap_pt n1 n2 hp (fun s => memB s xs && !nbP xs s p) (fun s => !memB s xs && nbP xs s p) (fun s s1 s2 hh => by
    obtain ⟨g1, g2⟩ := f s s1 s2 hh
    show (memB s xs && !nbP xs s p) = (!memB (lessI s (p : Nat)) xs && nbP xs (lessI s (p : Nat)) p)
    rw [g1, g2, Bool.and_comm])
  have c2 := swap_pt n1 n2 hp (fun s => !memB s xs && nbP xs s p) (fun s => memB s xs && !nbP xs s p) (fun s s1 s2 hh => by
    obtain ⟨g1, g2⟩ := f s s1 s2 hh
    show (!memB s xs && nbP xs s p) = (memB (lessI s (p : Nat)) xs && !nbP xs (lessI s (p : Nat)) p)
    rw [g1, g2, Bool.and_comm])
  omega
/-- the edges by columns. -/
theorem col_not (P : Int → Nat → Bool) (ys : List Int) : ∀ N, colT (fun s p => !P s p) ys N + colT P ys N = N * ys.length
  | 0 => by simp [colT]
  | N + 1 => by
    have ih := col_not P ys N
    have h : ys.countP (fun s => !P s N) + ys.countP (fun s => P s N) = ys.length := by
      have := List.length_eq_countP_add_countP (fun s => P s N) (l := ys)
      have e : ys.countP (fun s => !P s N) = ys.countP (fun a => decide ¬ (P a N) = true) := List.countP_congr (fun s _ => by cases P s N <;> simp)
      omega
    simp only [colT, Nat.add_mul, Nat.one_mul]
    omega
theorem cut_cols {n : Int} {xs : List Int} (hf : famB n xs = true) : ∀ k : Nat, (k : Int) ≤ n → colT (fun s p => !nbP xs s p) xs k = colT (fun s p => !nbP (rsL n xs) s p) (rsL n xs) k
  | 0, _ => rfl
  | k + 1, h => by
    simp only [colT]
    rw [cut_cols hf k (by omega), cut_same hf (by omega)]
/-- the edges of the rest are those of the family. -/
theorem ed_rest {n : Int} {xs : List Int} (hf : famB n xs = true) : n * ((rsL n xs).length : Nat) - 2 * (ieN (rsL n xs) : Nat) = n * (xs.length : Nat) - 2 * (ieN xs : Nat) := by
  obtain ⟨n1, n2, hs⟩ := famB_all hf
  have h1 := ie_model hf
  have h2 := ie_model (rs_fam hf)
  have h3 := cut_cols hf n.toNat (by omega)
  have h4 := col_not (nbP xs) xs n.toNat
  have h5 := col_not (nbP (rsL n xs)) (rsL n xs) n.toNat
  have e : n = (n.toNat : Nat) := by omega
  have e1 : n * (xs.length : Nat) = ((n.toNat * xs.length : Nat) : Int) := by rw [Int.natCast_mul, ← e]
  have e2 : n * ((rsL n xs).length : Nat) = ((n.toNat * (rsL n xs).length : Nat) : Int) := by rw [Int.natCast_mul, ← e]
  rw [e1, e2]
  omega
end Go.Proofs.Ytcadlfljlobjjaa
