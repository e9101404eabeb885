/- Ends and closures: others of parts, plain mathematics for the laws of chapter 5. -/
import Derived.Test.YtoglcinfnhhkhaaAcLaw
import Derived.Test.YtoglcinfnhhkhaaPf1
namespace Go.Proofs.Ytoglcinfnhhkhaa
open Go.ChangeShapes Go.WideShapes Go.ChangeAt Go.RowKit Go.Proofs

theorem or_and_nat {x y : Nat} : x ||| y = x ↔ y &&& x = y := by
  constructor
  · intro h
    refine Nat.eq_of_testBit_eq fun i => ?_
    have h := congrArg (fun z => z.testBit i) h
    simp only [Nat.testBit_or, Nat.testBit_and] at h ⊢
    cases ha : x.testBit i <;> cases hb : y.testBit i <;> simp [ha, hb] at h ⊢
  · intro h
    refine Nat.eq_of_testBit_eq fun i => ?_
    have h := congrArg (fun z => z.testBit i) h
    simp only [Nat.testBit_or, Nat.testBit_and] at h ⊢
    cases ha : x.testBit i <;> cases hb : y.testBit i <;> simp [ha, hb] at h ⊢
theorem or_and_int {x y : Int} (hx : 0 ≤ x) (hy : 0 ≤ y) : orI x y = x ↔ andI y x = y := by
  unfold orI andI
  have := or_and_nat (x := x.toNat) (y := y.toNat)
  omega
theorem oth_oth (n x : Int) : otherI n (otherI n x) = x := by unfold otherI; omega
theorem oth_inj {n x y : Int} (h : otherI n x = otherI n y) : x = y := by unfold otherI at h; omega
theorem oth_part {n x y : Int} (hx : setB n x = true) (hy : setB n y = true) : partB (otherI n x) (otherI n y) = partB y x := by
  have h1 := oth_meet (other_set hx) (other_set hy)
  rw [oth_oth, oth_oth] at h1
  have h2 := or_and_int (setB_lt hx).1 (setB_lt hy).1
  unfold partB
  rw [decide_eq_decide]
  constructor
  · intro h
    rw [h, oth_oth] at h1
    exact h2.1 h1.symm
  · intro h
    rw [h2.2 h] at h1
    have := congrArg (otherI n) h1
    rwa [oth_oth] at this
theorem oth_partO {n x y : Int} (hx : setB n x = true) (hy : setB n y = true) : partO (otherI n x) (otherI n y) = partO y x := by
  unfold partO
  rw [oth_part hx hy]
  by_cases h : x = y
  · subst h; simp
  · have h1 : (otherI n x != otherI n y) = true := bne_iff_ne.2 fun e => h (oth_inj e)
    have h2 : (y != x) = true := bne_iff_ne.2 fun e => h e.symm
    rw [h1, h2]
theorem mem_end {top : Bool} {xs : List Int} {z : Int} : z ∈ endL top xs xs ↔ z ∈ xs ∧ ∀ y ∈ xs, endB top z y = false := by
  unfold endL
  rw [List.mem_filter, Bool.not_eq_true', List.any_eq_false]
  simp
theorem mem_cl {down : Bool} {xs : List Int} {m : Nat} {z : Int} : z ∈ clL down xs m ↔ (0 ≤ z ∧ z < m) ∧ ∃ y ∈ xs, cloP down z y = true := by
  unfold clL
  rw [List.mem_filter, mem_upI, List.any_eq_true]
theorem mem_oth {n : Int} {xs : List Int} {z : Int} : z ∈ sortL (xs.map (otherI n)) ↔ ∃ x ∈ xs, otherI n x = z := by rw [mem_sortL, List.mem_map]
theorem set_pow {n z : Int} (n1 : 1 ≤ n) (n2 : n ≤ 8) : setB n z = true ↔ 0 ≤ z ∧ z < (2 ^ n.toNat : Nat) := by
  have e : ((2 ^ n.toNat : Nat) : Int) = 2 ^ n.toNat := by simp
  rw [e]
  constructor
  · intro h
    obtain ⟨_, _, h3, h4⟩ := setB_yes h
    exact ⟨h3, h4⟩
  · rintro ⟨h3, h4⟩
    exact setB_mk ⟨n1, n2, h3, h4⟩
theorem bot_oth {n : Int} {xs : List Int} (h : famB n xs = true) : endL true (sortL (xs.map (otherI n))) (sortL (xs.map (otherI n))) = sortL ((endL false xs xs).map (otherI n)) := by
  obtain ⟨_, _, hs⟩ := famB_all h
  refine asc_ext (asc_filter (asc_sortL _) _) (asc_sortL _) fun z => ?_
  rw [mem_end, mem_oth, mem_oth]
  constructor
  · rintro ⟨⟨x, hx, rfl⟩, h2⟩
    refine ⟨x, mem_end.2 ⟨hx, fun y hy => ?_⟩, rfl⟩
    have := h2 _ (mem_oth.2 ⟨y, hy, rfl⟩)
    rw [show endB true (otherI n x) (otherI n y) = partO (otherI n x) (otherI n y) from rfl, oth_partO (hs x hx) (hs y hy)] at this
    exact this
  · rintro ⟨x, hx, rfl⟩
    obtain ⟨hx1, hx2⟩ := mem_end.1 hx
    refine ⟨⟨x, hx1, rfl⟩, fun y hy => ?_⟩
    obtain ⟨u, hu, rfl⟩ := mem_oth.1 hy
    rw [show endB true (otherI n x) (otherI n u) = partO (otherI n x) (otherI n u) from rfl, oth_partO (hs x hx1) (hs u hu)]
    exact hx2 u hu
theorem up_oth {n : Int} {xs : List Int} (h : famB n xs = true) : clL true (sortL (xs.map (otherI n))) (2 ^ n.toNat) = sortL ((clL false xs (2 ^ n.toNat)).map (otherI n)) := by
  obtain ⟨n1, n2, hs⟩ := famB_all h
  refine asc_ext (asc_filter (asc_upI _) _) (asc_sortL _) fun z => ?_
  rw [mem_cl, mem_oth]
  constructor
  · rintro ⟨hz, y, hy, hp⟩
    obtain ⟨x, hx, rfl⟩ := mem_oth.1 hy
    have hzs := (set_pow n1 n2).2 hz
    have hos := other_set hzs
    refine ⟨otherI n z, mem_cl.2 ⟨(set_pow n1 n2).1 hos, x, hx, ?_⟩, oth_oth n z⟩
    show partB x (otherI n z) = true
    rw [← oth_part hos (hs x hx), oth_oth]
    exact hp
  · rintro ⟨u, hu, rfl⟩
    obtain ⟨hu1, x, hx, hp⟩ := mem_cl.1 hu
    have hus := (set_pow n1 n2).2 hu1
    refine ⟨(set_pow n1 n2).1 (other_set hus), otherI n x, mem_oth.2 ⟨x, hx, rfl⟩, ?_⟩
    show partB (otherI n u) (otherI n x) = true
    rw [oth_part hus (hs x hx)]
    exact hp
/-- each set is a part of one that is a part of no other one. -/
theorem top_over : ∀ (k : Nat) {xs : List Int} (_hz : ∀ z ∈ xs, 0 ≤ z ∧ z < 256) {x : Int} (_hx : x ∈ xs) (_hk : 256 - x.toNat ≤ k), ∃ y ∈ endL true xs xs, partB x y = true
  | 0, xs, hz, x, hx, hk => by have := hz x hx; omega
  | k + 1, xs, hz, x, hx, hk => by
    by_cases h : x ∈ endL true xs xs
    · exact ⟨x, h, part_refl (hz x hx).1⟩
    · have h2 : ∃ y ∈ xs, partO x y = true := Classical.byContradiction fun hc => h (mem_end.2 ⟨hx, fun y hy => by
        rcases (by cases partO x y <;> simp : partO x y = true ∨ partO x y = false) with hp | hp
        · exact absurd ⟨y, hy, hp⟩ hc
        · exact hp⟩)
      obtain ⟨y, hy, hp⟩ := h2
      unfold partO at hp
      obtain ⟨hne, hp⟩ := Bool.and_eq_true_iff.1 hp
      have hle := part_le (hz x hx).1 (hz y hy).1 hp
      have hne := bne_iff_ne.1 hne
      have := (hz x hx)
      have := (hz y hy)
      obtain ⟨u, hu, hpu⟩ := top_over k hz hy (by omega)
      have hux := (mem_end.1 hu).1
      exact ⟨u, hu, part_trans (hz x hx).1 (hz y hy).1 hp hpu⟩
theorem top_down {xs : List Int} (hz : ∀ z ∈ xs, 0 ≤ z ∧ z < 256) (m : Nat) : clL true (endL true xs xs) m = clL true xs m := by
  refine asc_ext (asc_filter (asc_upI _) _) (asc_filter (asc_upI _) _) fun z => ?_
  rw [mem_cl, mem_cl]
  constructor
  · rintro ⟨h1, y, hy, hp⟩
    exact ⟨h1, y, (mem_end.1 hy).1, hp⟩
  · rintro ⟨h1, y, hy, hp⟩
    obtain ⟨u, hu, hpu⟩ := top_over 256 hz hy (by omega)
    exact ⟨h1, u, hu, part_trans h1.1 (hz y hy).1 hp hpu⟩
theorem top_top (xs : List Int) : endL true (endL true xs xs) (endL true xs xs) = endL true xs xs := List.filter_eq_self.2 fun z hz => by
  rw [Bool.not_eq_true', List.any_eq_false]
  intro y hy
  rw [(mem_end.1 hz).2 y (mem_end.1 hy).1]
  simp
theorem top_anti (xs : List Int) : antiB (endL true xs xs) = true := by
  unfold antiB
  rw [Bool.not_eq_true', List.any_eq_false]
  intro x hx
  rw [Bool.not_eq_true, List.any_eq_false]
  intro y hy
  rw [(mem_end.1 hx).2 y (mem_end.1 hy).1]
  simp
theorem fam_end {n : Int} {xs : List Int} (top : Bool) (h : famB n xs = true) : famB n (endL top xs xs) = true := by
  have := fam_sub (fun x => !xs.any (endB top x)) h
  rwa [show sortL (xs.filter (fun x => !xs.any (endB top x))) = endL top xs xs from sortL_asc (asc_filter (famB_asc h) _)] at this
theorem fam_cl {n : Int} {xs : List Int} (down : Bool) (h : famB n xs = true) : famB n (clL down xs (2 ^ n.toNat)) = true := by
  obtain ⟨n1, n2, _⟩ := famB_all h
  have := fam_mk (L := clL down xs (2 ^ n.toNat)) n1 n2 (fun z hz => (set_pow n1 n2).2 (mem_cl.1 hz).1)
  rwa [show sortL (clL down xs (2 ^ n.toNat)) = clL down xs (2 ^ n.toNat) from sortL_asc (asc_filter (asc_upI _) _)] at this
theorem im_Dn (n : Int) (lv : Value) (xs : List Int) (S : Nat) (w : World) (hx : Row w S lv xs) (hS : S ≤ w.heap.size) (hl : xs.length ≤ 100000000) :
    Calls Try.prog 5 #[.int .i64 n, lv] w (ListPost (ifL (famB n xs) (clL true xs (2 ^ n.toNat))) (famB n xs) w) := by
  rw [← down_eq]; exact im_ClosedDown n lv xs S w hx hS hl
end Go.Proofs.Ytoglcinfnhhkhaa
