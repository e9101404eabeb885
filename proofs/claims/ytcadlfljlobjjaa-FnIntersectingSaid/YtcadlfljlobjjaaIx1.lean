/- Families whose sets meet: how many sets: plain mathematics. -/
import Derived.Test.YtcadlfljlobjjaaIs1
import Derived.Test.YtcadlfljlobjjaaCk1
import Derived.Test.YtcadlfljlobjjaaDi1
namespace Go.Proofs.Ytcadlfljlobjjaa
open Go.ChangeShapes Go.WideShapes Go.ChangeAt Go.RowKit Go.Proofs

set_option maxRecDepth 100000 in
set_option maxHeartbeats 4000000 in
theorem fold_lenx : ∀ (xs a : List Int), xs.Nodup → (∀ x ∈ xs, x ∉ a) → (xs.foldl (fun a x => insI x a) a).length = a.length + xs.length
  | [], a, _, _ => rfl
  | x :: xs, a, hn, h => by
    rw [List.nodup_cons] at hn
    rw [List.foldl_cons, fold_lenx xs _ hn.2 (fun y hy hm => by
      rcases mem_insI.1 hm with rfl | hm
      · exact hn.1 hy
      · exact h y (List.mem_cons_of_mem _ hy) hm), ins_len (memB_mk0 (h x (List.mem_cons_self ..))), List.length_cons]
    omega
theorem meet_oth_dec : ∀ n : Fin 9, ∀ s : Fin 256, s.val < 2 ^ n.val → meetB (s.val : Nat) (otherI (n.val : Nat) (s.val : Nat)) = false ∧ cntTo (otherI (n.val : Nat) (s.val : Nat)) 8 + cntTo (s.val : Nat) 8 = n.val := by decide +kernel
theorem meet_oth {n s : Int} (h : setB n s = true) : meetB s (otherI n s) = false ∧ ((cntTo (otherI n s) 8 + cntTo s 8 : Nat) : Int) = n := by
  obtain ⟨n1, n2, s1, s2⟩ := setB_yes h
  have sb := setB_lt h
  have eN : ((2 ^ n.toNat : Nat) : Int) = 2 ^ n.toNat := by simp
  have h := meet_oth_dec ⟨n.toNat, by omega⟩ ⟨s.toNat, by omega⟩ (by show s.toNat < 2 ^ n.toNat; omega)
  have e : ((s.toNat : Nat) : Int) = s := Int.toNat_of_nonneg s1
  have e2 : ((n.toNat : Nat) : Int) = n := Int.toNat_of_nonneg (by omega)
  simp only [e, e2] at h
  exact ⟨h.1, by omega⟩
theorem cross_yes {xs : List Int} (h : crossB xs xs = true) : ∀ x ∈ xs, ∀ y ∈ xs, meetB x y = true := fun x hx y hy => by
  unfold crossB at h
  rw [List.all_eq_true] at h
  have h1 := h x hx
  rw [List.all_eq_true] at h1
  exact h1 y hy
/-- a family whose sets meet and its sets' others have no common set. -/
theorem with_oth {n : Int} {xs : List Int} (hf : famB n xs = true) (hc : crossB xs xs = true) (P : Int → Bool) (hP : ∀ z ∈ xs, P z = true) (hQ : ∀ z ∈ xs, P (otherI n z) = true) : 2 * xs.length ≤ (upI (2 ^ n.toNat)).countP P := by
  obtain ⟨n1, n2, hs⟩ := famB_all hf
  have eN : ((2 ^ n.toNat : Nat) : Int) = 2 ^ n.toNat := by simp
  have ho : ∀ z, z ∈ otL n xs ↔ ∃ x ∈ xs, otherI n x = z := fun z => by unfold otL; rw [mem_sortL, List.mem_map]
  have hd : ∀ z ∈ xs, z ∉ otL n xs := fun z hz hm => by
    obtain ⟨x, hx, e⟩ := (ho z).1 hm
    have a := cross_yes hc x hx z hz
    rw [← e, (meet_oth (hs x hx)).1] at a
    cases a
  have n1' : xs.Nodup := (famB_asc hf).imp (fun h => by omega)
  have n2' : (otL n xs).Nodup := (famB_asc (ot_fam hf)).imp (fun h => by omega)
  have hn : (xs ++ otL n xs).Nodup := by
    rw [List.nodup_append]
    exact ⟨n1', n2', fun a ha b hb e => hd a ha (e ▸ hb)⟩
  have hall : ∀ z ∈ xs ++ otL n xs, setB n z = true ∧ P z = true := fun z hz => by
    rcases List.mem_append.1 hz with h | h
    · exact ⟨hs z h, hP z h⟩
    · obtain ⟨x, hx, rfl⟩ := (ho z).1 h
      exact ⟨other_set (hs x hx), hQ x hx⟩
  have hsub : (sortL (xs ++ otL n xs)).Sublist ((upI (2 ^ n.toNat)).filter P) := by
    have e : sortL (xs ++ otL n xs) = ((upI (2 ^ n.toNat)).filter P).filter (fun z => memB z (xs ++ otL n xs)) := by
      refine sortL_eq ((asc_filter (asc_upI _) _).filter _) (fun z => ?_)
      rw [List.mem_filter, List.mem_filter, mem_upI]
      constructor
      · intro hz
        obtain ⟨a, b⟩ := hall z hz
        obtain ⟨_, _, z1, z2⟩ := setB_yes a
        exact ⟨⟨⟨z1, by omega⟩, b⟩, memB_mk hz⟩
      · rintro ⟨_, hm⟩
        exact memB_yes hm
    rw [e]
    exact List.filter_sublist
  have hlen := hsub.length_le
  have hfl : (sortL (xs ++ otL n xs)).length = (xs ++ otL n xs).length := by
    unfold sortL
    rw [fold_lenx _ [] hn (fun _ _ => by simp)]
    simp
  rw [hfl, List.length_append, ot_len hf, ← List.countP_eq_length_filter] at hlen
  omega
theorem one_of {c : Int} : ∀ {ys : List Int}, ys.Nodup → c ∈ ys → ys.length = (ys.filter (fun y => decide (y ≠ c))).length + 1
  | y :: ys, hn, hm => by
    rw [List.nodup_cons] at hn
    by_cases e : y = c
    · subst e
      have : ys.filter (fun z => decide (z ≠ y)) = ys := List.filter_eq_self.2 (fun z hz => decide_eq_true (fun e => hn.1 (e ▸ hz)))
      rw [List.filter_cons, if_neg (by simp), this, List.length_cons]
    · have := one_of hn.2 (by
        rcases List.mem_cons.1 hm with h | h
        · exact absurd h.symm e
        · exact h)
      rw [List.filter_cons, if_pos (by simp [e]), List.length_cons, List.length_cons]
      omega
/-- how many sets of some that meet one another there can be at most. -/
def mxI : Nat → List Int → Nat
  | 0, _ => 0
  | _ + 1, [] => 0
  | f + 1, c :: cs => max (mxI f cs) (1 + mxI f (cs.filter (meetB c)))
theorem mx_ge : ∀ (f : Nat) (cs ys : List Int), cs.length ≤ f → ys.Nodup → (∀ y ∈ ys, y ∈ cs) → (∀ x ∈ ys, ∀ y ∈ ys, meetB x y = true) → ys.length ≤ mxI f cs
  | 0, cs, ys, hl, _, hm, _ => by
    have : cs = [] := List.length_eq_zero_iff.1 (by omega)
    subst this
    cases ys with
    | nil => simp
    | cons y ys => exact absurd (hm y (List.mem_cons_self ..)) (by simp)
  | f + 1, [], ys, _, _, hm, _ => by
    cases ys with
    | nil => simp
    | cons y ys => exact absurd (hm y (List.mem_cons_self ..)) (by simp)
  | f + 1, c :: cs, ys, hl, hn, hm, hx => by
    rw [List.length_cons] at hl
    show ys.length ≤ max (mxI f cs) (1 + mxI f (cs.filter (meetB c)))
    by_cases hc : c ∈ ys
    · have ih := mx_ge f (cs.filter (meetB c)) (ys.filter (fun y => decide (y ≠ c))) (Nat.le_trans (List.length_filter_le _ _) (by omega)) (hn.filter _) (fun y hy => by
        obtain ⟨a, b⟩ := List.mem_filter.1 hy
        have b := of_decide_eq_true b
        rcases List.mem_cons.1 (hm y a) with e | h
        · exact absurd e b
        · exact List.mem_filter.2 ⟨h, hx c hc y a⟩) (fun x h1 y h2 => hx x (List.mem_filter.1 h1).1 y (List.mem_filter.1 h2).1)
      have hl2 := one_of hn hc
      omega
    · have ih := mx_ge f cs ys (by omega) hn (fun y hy => by
        rcases List.mem_cons.1 (hm y hy) with e | h
        · exact absurd (e ▸ hy) hc
        · exact h) hx
      omega
theorem mx_dec : ∀ n : Fin 7, ∀ k : Fin 4, 1 ≤ k.val → 2 * k.val < n.val → ((upI (2 ^ n.val)).filter (fun x => cntTo x 8 == k.val)).length ≤ 20 ∧ mxI 20 ((upI (2 ^ n.val)).filter (fun x => cntTo x 8 == k.val)) ≤ chN (n.val - 1) (k.val - 1) := by decide +kernel
theorem lvc_dec : ∀ n : Fin 9, ∀ k : Fin 9, k.val ≤ n.val → (upI (2 ^ n.val)).countP (fun x => cntTo x 8 == k.val) = chN n.val k.val ∧ (2 * k.val = n.val → 1 ≤ k.val → chN n.val k.val = 2 * chN (n.val - 1) (k.val - 1)) := by decide +kernel
theorem ix_half {n : Int} {xs : List Int} (hf : famB n xs = true) (hc : crossB xs xs = true) : 2 * xs.length ≤ 2 ^ n.toNat := by
  have h := with_oth hf hc (fun _ => true) (fun _ _ => rfl) (fun _ _ => rfl)
  have h2 := List.countP_le_length (p := fun _ : Int => true) (l := upI (2 ^ n.toNat))
  rw [upI_len] at h2
  omega
/-- sets of one size that meet, of at most six points. -/
theorem ix_even {n : Int} {xs : List Int} (hf : famB n xs = true) (hc : crossB xs xs = true) (n6 : n ≤ 6) {k : Nat} (k1 : 1 ≤ k) (kn : (k : Int) ≤ n) (he : ∀ x ∈ xs, cntTo x 8 = k) :
    xs.length ≤ if 2 * k ≤ n.toNat then chN (n.toNat - 1) (k - 1) else chN n.toNat k := by
  obtain ⟨n1, n2, hs⟩ := famB_all hf
  obtain ⟨N, hN⟩ : ∃ N : Nat, n.toNat = N := ⟨_, rfl⟩
  have eN : ((2 ^ n.toNat : Nat) : Int) = 2 ^ n.toNat := by simp
  have hw := with_oth hf hc
  rw [hN] at eN hw ⊢
  have hnd : xs.Nodup := (famB_asc hf).imp (fun h => by omega)
  have hU : ∀ x ∈ xs, x ∈ upI (2 ^ N) := fun x hx => by
    obtain ⟨_, _, a, b⟩ := setB_yes (hs x hx)
    rw [hN] at b
    exact mem_upI.2 ⟨a, by omega⟩
  obtain ⟨c1, c2⟩ := lvc_dec ⟨N, by omega⟩ ⟨k, by omega⟩ (by show k ≤ N; omega)
  simp only at c1 c2
  by_cases h1 : 2 * k ≤ N
  · rw [if_pos h1]
    by_cases h2 : 2 * k = N
    · have h := hw (fun x => cntTo x 8 == k) (fun x hx => by rw [he x hx]; simp) (fun x hx => by
        have := (meet_oth (hs x hx)).2
        have e := he x hx
        have : cntTo (otherI n x) 8 = k := by omega
        rw [this]; simp)
      rw [c1, c2 h2 k1] at h
      omega
    · obtain ⟨m1, m2⟩ := mx_dec ⟨N, by omega⟩ ⟨k, by omega⟩ k1 (by show 2 * k < N; omega)
      simp only at m1 m2
      refine Nat.le_trans (mx_ge 20 _ xs m1 hnd (fun y hy => List.mem_filter.2 ⟨hU y hy, by rw [he y hy]; simp⟩) (cross_yes hc)) m2
  · rw [if_neg h1, ← c1]
    have e : xs = (upI (2 ^ N)).filter (fun z => (cntTo z 8 == k) && memB z xs) := by
      refine asc_ext (famB_asc hf) (asc_filter (asc_upI _) _) (fun z => ?_)
      rw [List.mem_filter]
      constructor
      · intro hz; exact ⟨hU z hz, by rw [he z hz, memB_mk hz]; simp⟩
      · rintro ⟨_, h⟩
        rw [Bool.and_eq_true] at h
        exact memB_yes h.2
    rw [e, ← List.countP_eq_length_filter]
    exact List.countP_mono_left (fun x _ h => by rw [Bool.and_eq_true] at h; exact h.1)
end Go.Proofs.Ytcadlfljlobjjaa
