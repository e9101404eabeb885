/- Families: sets without a point, links, levels, profiles, others: plain mathematics for the laws. -/
import Derived.Test.YtapijjfhdhkakaaPf1
import Derived.Test.YtapijjfhdhkakaaSpec8
namespace Go.Proofs.Ytapijjfhdhkakaa
open Go.RowKit

theorem keep_twice (p : Int → Bool) (xs : List Int) : sortL ((sortL (xs.filter p)).filter p) = sortL (xs.filter p) := asc_ext (asc_sortL _) (asc_sortL _) fun z => by
  rw [mem_sortL, List.mem_filter, mem_sortL, List.mem_filter]
  exact ⟨fun h => h.1, fun h => ⟨h, h.2⟩⟩
theorem sort_lenq {L : List Int} (h : L.Nodup) : (sortL L).length = L.length := by
  have h1 := fold_lenq L [] h
  have e : L.filter (fun y => !memB y []) = L := List.filter_eq_self.2 fun a _ => by simp [memB]
  rw [e] at h1
  simpa [sortL] using h1
theorem map_nodup {L : List Int} {f : Int → Int} (h : L.Nodup) (hf : ∀ x ∈ L, ∀ y ∈ L, f x = f y → x = y) : (L.map f).Nodup := by
  induction L with
  | nil => simp
  | cons x L ih =>
    obtain ⟨h1, h2⟩ := List.nodup_cons.1 h
    rw [List.map_cons]
    refine List.nodup_cons.2 ⟨fun hm => ?_, ih h2 fun a ha b hb => hf a (List.mem_cons_of_mem _ ha) b (List.mem_cons_of_mem _ hb)⟩
    obtain ⟨y, hy, he⟩ := List.mem_map.1 hm
    have := hf y (List.mem_cons_of_mem _ hy) x List.mem_cons_self he
    exact h1 (this ▸ hy)
theorem lv_dec : ∀ n : Fin 9, ∀ k : Fin 9, 1 ≤ n.val → k.val ≤ n.val → (((upI (2 ^ n.val)).filter (fun x => cntI x == ((k.val : Nat) : Int))).length : Int) = chI n.val k.val := by decide +kernel
theorem lv_len {n k : Int} (h : szB n k = true) : (((sortL ((sortL (upI (2 ^ n.toNat))).filter (fun x => cntI x == k))).length : Nat) : Int) = chI n k ∧ (∀ z ∈ sortL ((sortL (upI (2 ^ n.toNat))).filter (fun x => cntI x == k)), 0 ≤ z ∧ z < 256 ∧ cntI z = k) ∧ 1 ≤ n ∧ n ≤ 8 ∧ 0 ≤ k ∧ k ≤ n := by
  unfold szB at h
  rw [Bool.and_eq_true] at h
  have hp := ptsB_yes h.1
  have hk : 0 ≤ k ∧ k ≤ n := of_decide_eq_true h.2
  have e1 : ((n.toNat : Nat) : Int) = n := Int.toNat_of_nonneg (by omega)
  have e2 : ((k.toNat : Nat) : Int) = k := Int.toNat_of_nonneg hk.1
  have hd := lv_dec ⟨n.toNat, by omega⟩ ⟨k.toNat, by omega⟩ (by show 1 ≤ n.toNat; omega) (by show k.toNat ≤ n.toNat; omega)
  simp only [e1, e2] at hd
  rw [sortL_asc (asc_upI _), sortL_asc (asc_filter (asc_upI _) _)]
  refine ⟨hd, fun z hz => ?_, hp.1, hp.2, hk.1, hk.2⟩
  obtain ⟨h1, h2⟩ := List.mem_filter.1 hz
  have h3 := setB_lt ((set_up hp.1 hp.2).1 h1)
  exact ⟨h3.1, h3.2, by simpa using h2⟩
/-- how many sets have fewer than i points. -/
def cuP (xs : List Int) (i : Nat) : Int := ((xs.filter (fun x => decide (cntI x < ((i : Nat) : Int)))).length : Nat)
theorem cu_step (i : Nat) : ∀ xs : List Int, cuP xs (i + 1) = cuP xs i + cntP xs i
  | [] => by simp [cuP, cntP]
  | x :: xs => by
    have h := cu_step i xs
    unfold cuP cntP at h ⊢
    have q1 : ∀ p : Int → Bool, ∀ b : Bool, p x = b → (((x :: xs).filter p).length : Int) = (xs.filter p).length + (if b then 1 else 0) := fun p b hb => by
      cases b with
      | true => rw [List.filter_cons_of_pos hb, List.length_cons]; simp
      | false => rw [List.filter_cons_of_neg (by rw [hb]; simp)]; simp
    by_cases h1 : cntI x < ((i : Nat) : Int)
    · rw [q1 _ true (decide_eq_true (by omega)), q1 _ true (decide_eq_true h1), q1 _ false (by simp; omega)]
      simp only [if_true, Bool.false_eq_true, if_false]; omega
    · by_cases h2 : cntI x = ((i : Nat) : Int)
      · rw [q1 _ true (decide_eq_true (by omega)), q1 _ false (decide_eq_false h1), q1 _ true (by simp [h2])]
        simp only [if_true, Bool.false_eq_true, if_false]; omega
      · rw [q1 _ false (decide_eq_false (by omega)), q1 _ false (decide_eq_false h1), q1 _ false (by simp; omega)]
        simp only [Bool.false_eq_true, if_false]; omega
theorem cu_0 (xs : List Int) : cuP xs 0 = 0 := by
  unfold cuP
  rw [List.filter_eq_nil_iff.2 fun x hx => by simp; unfold cntI; omega]; rfl
theorem cnt_set_dec : ∀ n : Fin 9, ∀ s : Fin 256, s.val < 2 ^ n.val → cntI s.val ≤ n.val := by decide +kernel
theorem cnt_setq {n s : Int} (h : setB n s = true) : cntI s ≤ n := by
  have s0 := setB_lt h
  obtain ⟨n1, n2, s1, s2⟩ := setB_yes h
  have e1 : ((s.toNat : Nat) : Int) = s := Int.toNat_of_nonneg s0.1
  have e2 : ((n.toNat : Nat) : Int) = n := Int.toNat_of_nonneg (by omega)
  have h1 := cnt_set_dec ⟨n.toNat, by omega⟩ ⟨s.toNat, by omega⟩ (by
    show s.toNat < 2 ^ n.toNat
    have : ((s.toNat : Nat) : Int) < ((2 ^ n.toNat : Nat) : Int) := by rw [e1]; simpa using s2
    exact Int.ofNat_lt.1 this)
  simpa only [e1, e2] using h1
theorem cu_all {n : Int} {xs : List Int} (h : famB n xs = true) : cuP xs (n.toNat + 1) = xs.length := by
  obtain ⟨n1, n2, hs⟩ := famB_all h
  unfold cuP
  rw [List.filter_eq_self.2 fun x hx => decide_eq_true (by have := cnt_setq (hs x hx); omega)]
theorem profL_get {N i : Nat} (xs : List Int) (h : i < N) : (profL N xs).getD i 0 = cntP xs i := by
  unfold profL; rw [List.getD_eq_getElem?_getD, List.getElem?_map, List.getElem?_range h]; rfl
theorem profL_lenq (N : Nat) (xs : List Int) : (profL N xs).length = N := by simp [profL]
theorem cnt_other_dec : ∀ n : Fin 9, ∀ s : Fin 256, s.val < 2 ^ n.val → cntI (otherI n.val s.val) = n.val - cntI s.val := by decide +kernel
theorem cnt_other {n s : Int} (h : setB n s = true) : cntI (otherI n s) = n - cntI s := by
  have s0 := setB_lt h
  obtain ⟨n1, n2, s1, s2⟩ := setB_yes h
  have e1 : ((s.toNat : Nat) : Int) = s := Int.toNat_of_nonneg s0.1
  have e2 : ((n.toNat : Nat) : Int) = n := Int.toNat_of_nonneg (by omega)
  have h1 := cnt_other_dec ⟨n.toNat, by omega⟩ ⟨s.toNat, by omega⟩ (by
    show s.toNat < 2 ^ n.toNat
    have : ((s.toNat : Nat) : Int) < ((2 ^ n.toNat : Nat) : Int) := by rw [e1]; simpa using s2
    exact Int.ofNat_lt.1 this)
  simpa only [e1, e2] using h1
theorem other_inj {n x y : Int} (h : otherI n x = otherI n y) : x = y := by unfold otherI at h; omega
theorem other_back {n : Int} {xs : List Int} (h : famB n xs = true) : sortL ((sortL (xs.map (otherI n))).map (otherI n)) = xs := asc_ext (asc_sortL _) (famB_asc h) fun z => by
  have hoo : ∀ x, otherI n (otherI n x) = x := fun x => by unfold otherI; omega
  rw [mem_sortL, List.mem_map]
  constructor
  · rintro ⟨a, ha, rfl⟩
    obtain ⟨x, hx, rfl⟩ := List.mem_map.1 (mem_sortL.1 ha)
    rw [hoo]; exact hx
  · intro hz
    exact ⟨otherI n z, mem_sortL.2 (List.mem_map.2 ⟨z, hz, rfl⟩), hoo z⟩
theorem other_prof {n : Int} {xs : List Int} (h : famB n xs = true) {k m : Nat} (hkm : ((k : Nat) : Int) + ((m : Nat) : Int) = n) : cntP (sortL (xs.map (otherI n))) m = cntP xs k := by
  obtain ⟨n1, n2, hs⟩ := famB_all h
  unfold cntP
  have e : (sortL (xs.map (otherI n))).filter (fun x => cntI x == ((m : Nat) : Int)) = sortL ((xs.filter (fun x => cntI x == ((k : Nat) : Int))).map (otherI n)) := asc_ext (asc_filter (asc_sortL _) _) (asc_sortL _) fun z => by
    rw [List.mem_filter, mem_sortL, mem_sortL, List.mem_map, List.mem_map]
    constructor
    · rintro ⟨⟨x, hx, rfl⟩, h2⟩
      have h3 := cnt_other (hs x hx)
      exact ⟨x, List.mem_filter.2 ⟨hx, by simp at h2 ⊢; omega⟩, rfl⟩
    · rintro ⟨x, hx, rfl⟩
      obtain ⟨h1, h2⟩ := List.mem_filter.1 hx
      have h3 := cnt_other (hs x h1)
      exact ⟨⟨x, h1, rfl⟩, by simp at h2 ⊢; omega⟩
  rw [e, sort_lenq (map_nodup (asc_nodup (asc_filter (famB_asc h) _)) fun a _ b _ hab => other_inj hab), List.length_map]
theorem mask_dec : ∀ n : Fin 9, ∀ x : Fin 256, ∀ p : Fin 8, x.val < 2 ^ n.val → p.val < n.val → andI x.val (2 ^ n.val - 1 - 2 ^ p.val) = lessI x.val p.val := by decide +kernel
theorem mask_less {n x p : Int} (h : setB n x = true) (hp : ptB n p = true) : andI x (2 ^ n.toNat - 1 - 2 ^ p.toNat) = lessI x p := by
  have s0 := setB_lt h
  obtain ⟨n1, n2, s1, s2⟩ := setB_yes h
  have hp1 := ptB_yes hp
  have e1 : ((x.toNat : Nat) : Int) = x := Int.toNat_of_nonneg s0.1
  have e2 : ((n.toNat : Nat) : Int) = n := Int.toNat_of_nonneg (by omega)
  have e3 : ((p.toNat : Nat) : Int) = p := Int.toNat_of_nonneg hp1.1
  have h1 := mask_dec ⟨n.toNat, by omega⟩ ⟨x.toNat, by omega⟩ ⟨p.toNat, by omega⟩ (by
    show x.toNat < 2 ^ n.toNat
    have : ((x.toNat : Nat) : Int) < ((2 ^ n.toNat : Nat) : Int) := by rw [e1]; simpa using s2
    exact Int.ofNat_lt.1 this) (by show p.toNat < n.toNat; omega)
  simpa only [e1, e2, e3] using h1
theorem less_no {x p : Int} (h : hasB x p = false) : lessI x p = x := by unfold lessI; rw [h]; rfl
theorem less_has {x p : Int} (h : hasB x p = true) : lessI x p = x - 2 ^ p.toNat := by unfold lessI; rw [h]; rfl
/-- the link. -/
def lkL (p : Int) (xs : List Int) : List Int := sortL ((sortL (xs.filter (fun x => hasB x p))).map (fun x => lessI x p))
theorem mem_lk {p : Int} {xs : List Int} {z : Int} : z ∈ lkL p xs ↔ ∃ x ∈ xs, hasB x p = true ∧ z = lessI x p := by
  unfold lkL
  rw [mem_sortL, List.mem_map]
  constructor
  · rintro ⟨a, ha, rfl⟩
    obtain ⟨h1, h2⟩ := List.mem_filter.1 (mem_sortL.1 ha)
    exact ⟨a, h1, h2, rfl⟩
  · rintro ⟨x, hx, h2, rfl⟩
    exact ⟨x, mem_sortL.2 (List.mem_filter.2 ⟨hx, h2⟩), rfl⟩
theorem lk_len {n p : Int} {xs : List Int} (h : famB n xs = true) : (lkL p xs).length + (sortL (xs.filter (fun x => !hasB x p))).length = xs.length := by
  have hA := famB_asc h
  unfold lkL
  rw [sortL_asc (asc_filter hA _), sortL_asc (asc_filter hA _)]
  rw [sort_lenq (map_nodup (asc_nodup (asc_filter hA _)) fun a ha b hb hab => by
    have h1 := (List.mem_filter.1 ha).2
    have h2 := (List.mem_filter.1 hb).2
    rw [less_has h1, less_has h2] at hab; omega), List.length_map]
  exact filt_split (fun x => hasB x p) xs
theorem lk_union {n p : Int} {xs : List Int} (h : famB n xs = true) (hp : ptB n p = true) : sortL (lkL p xs ++ sortL (xs.filter (fun x => !hasB x p))) = sortL (xs.map (fun x => andI x (2 ^ n.toNat - 1 - 2 ^ p.toNat))) := asc_ext (asc_sortL _) (asc_sortL _) fun z => by
  have hs := (famB_all h).2.2
  rw [mem_sortL, List.mem_append, mem_lk, mem_sortL, List.mem_filter, mem_sortL, List.mem_map]
  constructor
  · rintro (⟨x, hx, _, rfl⟩ | ⟨hx, h2⟩)
    · exact ⟨x, hx, mask_less (hs x hx) hp⟩
    · exact ⟨z, hx, by rw [mask_less (hs z hx) hp]; exact less_no (by simpa using h2)⟩
  · rintro ⟨x, hx, rfl⟩
    rw [mask_less (hs x hx) hp]
    rcases (by cases hasB x p <;> simp : hasB x p = true ∨ hasB x p = false) with h2 | h2
    · exact .inl ⟨x, hx, h2, rfl⟩
    · rw [less_no h2]; exact .inr ⟨hx, by simp [h2]⟩
end Go.Proofs.Ytapijjfhdhkakaa
