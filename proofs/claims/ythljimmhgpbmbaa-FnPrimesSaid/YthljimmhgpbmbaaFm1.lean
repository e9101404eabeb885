/- Mathematics of chapter 9: differences of others, what is closed of others, primes, up and down families and how often they meet. -/
import Derived.Test.YthljimmhgpbmbaaMs1
import Derived.Test.YthljimmhgpbmbaaPf1
import Derived.Test.YthljimmhgpbmbaaUnu
import Derived.Test.YthljimmhgpbmbaaPm1
namespace Go.Proofs.Ythljimmhgpbmbaa
open Go.ChangeShapes Go.WideShapes Go.ChangeAt Go.RowKit Go.Proofs

theorem oth_join {n x y : Int} (hx : setB n x = true) (hy : setB n y = true) : otherI n (orI x y) = andI (otherI n x) (otherI n y) := by
  have h := oth_meet (other_set hx) (other_set hy)
  rw [other_other, other_other] at h
  rw [← h, other_other]
theorem ucL_dual {op op' : Int → Int → Int} (hs : Semi op) (hs' : Semi op') {n : Int} {xs : List Int} (hf : famB n xs = true) (h : ∀ x y, setB n x = true → setB n y = true → otherI n (op x y) = op' (otherI n x) (otherI n y)) :
    ucL op' (sortL (xs.map (otherI n))) = sortL ((ucL op xs).map (otherI n)) := by
  obtain ⟨n1, n2, hset⟩ := famB_all hf
  have h0 : ∀ z ∈ xs, 0 ≤ z := fun z hz => (setB_lt (hset z hz)).1
  have hO : ∀ z ∈ sortL (xs.map (otherI n)), 0 ≤ z := fun z hz => by
    obtain ⟨x, hx, rfl⟩ := List.mem_map.1 (mem_sortL.1 hz)
    exact (setB_lt (other_set (hset x hx))).1
  refine (ucL_eq (asc_sortL _) (fun z hz => ?_) (fun a ha b hb => ?_) (fun z hz => ?_)).symm
  · obtain ⟨x, hx, rfl⟩ := List.mem_map.1 (mem_sortL.1 hz)
    exact mem_sortL.2 (List.mem_map.2 ⟨x, ucL_has hs h0 x hx, rfl⟩)
  · obtain ⟨c, hc, rfl⟩ := List.mem_map.1 (mem_sortL.1 ha)
    obtain ⟨d, hd, rfl⟩ := List.mem_map.1 (mem_sortL.1 hb)
    rw [← h c d (ucL_set hs hset c hc) (hset d hd)]
    exact mem_sortL.2 (List.mem_map.2 ⟨op c d, ucL_closed hs h0 c hc d (ucL_has hs h0 d hd), rfl⟩)
  · obtain ⟨c, hc, rfl⟩ := List.mem_map.1 (mem_sortL.1 hz)
    refine (ucL_least (Q := fun c => setB n c = true ∧ otherI n c ∈ ucL op' (sortL (xs.map (otherI n)))) (fun x hx => ⟨hset x hx, ucL_has hs' hO _ (mem_sortL.2 (List.mem_map.2 ⟨x, hx, rfl⟩))⟩) (fun a b ha hb => ⟨hs.keep n a b ha.1 (hset b hb), ?_⟩) c hc).2
    rw [h a b ha.1 (hset b hb)]
    exact ucL_closed hs' hO _ ha.2 _ (ucL_has hs' hO _ (mem_sortL.2 (List.mem_map.2 ⟨b, hb, rfl⟩)))
theorem closed_self {op : Int → Int → Int} (hs : Semi op) {xs : List Int} (h0 : ∀ z ∈ xs, 0 ≤ z) : ucL op (ucL op xs) = ucL op xs :=
  (ucL_fix hs (asc_ucL op xs) (ucL_least (Q := fun z => 0 ≤ z) h0 (fun a b _ _ => hs.pos a b))).2 (ucL_closed hs h0)
theorem common_all {xs T : List Int} (hA : Asc xs) (h : ∀ z ∈ xs, z ∈ T) : sortL (xs.filter (fun x => memB x T)) = xs := by
  rw [List.filter_eq_self.2 (fun z hz => memB_mk (h z hz)), sortL_asc hA]
/-! Differences. -/
theorem dif_other {n x y : Int} (hx : setB n x = true) (hy : setB n y = true) : difI (otherI n x) (otherI n y) = difI y x := by
  obtain ⟨n1, n2, x1, x2⟩ := setB_yes hx
  obtain ⟨_, _, y1, y2⟩ := setB_yes hy
  obtain ⟨N, rfl⟩ := Int.eq_ofNat_of_zero_le (show 0 ≤ n by omega)
  obtain ⟨a, rfl⟩ := Int.eq_ofNat_of_zero_le x1
  obtain ⟨b, rfl⟩ := Int.eq_ofNat_of_zero_le y1
  have hM : ((2 ^ N : Nat) : Int) = 2 ^ N := by simp
  rw [Int.toNat_natCast] at x2 y2
  have ha : a < 2 ^ N := by rw [← hM] at x2; exact Int.ofNat_lt.1 x2
  have hb : b < 2 ^ N := by rw [← hM] at y2; exact Int.ofNat_lt.1 y2
  have ea : otherI (N : Int) (a : Int) = ((2 ^ N - (a + 1) : Nat) : Int) := by unfold otherI; rw [Int.toNat_natCast, ← hM]; omega
  have eb : otherI (N : Int) (b : Int) = ((2 ^ N - (b + 1) : Nat) : Int) := by unfold otherI; rw [Int.toNat_natCast, ← hM]; omega
  rw [ea, eb]
  unfold difI
  simp only [Int.toNat_natCast]
  congr 1
  refine Nat.eq_of_testBit_eq fun i => ?_
  simp only [Nat.testBit_xor, Nat.testBit_and, Nat.testBit_two_pow_sub_succ ha, Nat.testBit_two_pow_sub_succ hb]
  by_cases hi : i < N
  · simp only [hi, decide_true, Bool.true_and]
    cases a.testBit i <;> cases b.testBit i <;> rfl
  · have h1 : b.testBit i = false := Nat.testBit_lt_two_pow (Nat.lt_of_lt_of_le hb (Nat.pow_le_pow_right (by omega) (by omega)))
    simp [hi, h1]
theorem df_other {n : Int} {xs : List Int} (hf : famB n xs = true) : dfL (sortL (xs.map (otherI n))) = dfL xs := by
  have hs := (famB_all hf).2.2
  refine asc_ext (asc_sortL _) (asc_sortL _) (fun z => ?_)
  show z ∈ dfL _ ↔ z ∈ dfL _
  rw [mem_dfL, mem_dfL]
  constructor
  · rintro ⟨a, ha, b, hb, rfl⟩
    obtain ⟨c, hc, rfl⟩ := List.mem_map.1 (mem_sortL.1 ha)
    obtain ⟨d, hd, rfl⟩ := List.mem_map.1 (mem_sortL.1 hb)
    exact ⟨d, hd, c, hc, dif_other (hs c hc) (hs d hd)⟩
  · rintro ⟨a, ha, b, hb, rfl⟩
    exact ⟨_, mem_sortL.2 (List.mem_map.2 ⟨b, hb, rfl⟩), _, mem_sortL.2 (List.mem_map.2 ⟨a, ha, rfl⟩), (dif_other (hs b hb) (hs a ha)).symm⟩
theorem asc_zero {T : List Int} (hA : Asc T) (h0 : ∀ z ∈ T, 0 ≤ z) (h : 0 ∈ T) : 0 < T.length ∧ T.getD 0 0 = 0 := by
  cases T with
  | nil => simp at h
  | cons a T =>
    refine ⟨by simp, ?_⟩
    show a = 0
    have ha := h0 a (by simp)
    rcases List.mem_cons.1 h with h | h
    · exact h.symm
    · have := (List.pairwise_cons.1 hA).1 0 h; omega
theorem df_zero {n : Int} {xs : List Int} (hf : famB n xs = true) (h : 0 < xs.length) : 0 < (dfL xs).length ∧ (dfL xs).getD 0 0 = 0 := by
  cases xs with
  | nil => simp at h
  | cons a xs =>
    refine asc_zero (asc_sortL _) (fun z hz => ?_) (mem_dfL.2 ⟨a, by simp, a, by simp, (difI_self a).symm⟩)
    obtain ⟨c, hc, d, hd, rfl⟩ := mem_dfL.1 hz
    exact (setB_lt (difI_set ((famB_all hf).2.2 c hc) ((famB_all hf).2.2 d hd))).1
/-! Primes. -/
theorem or_none {x : Int} (h : 0 ≤ x) : orI x 0 = x := by unfold orI; simp; omega
theorem none_or {x : Int} (h : 0 ≤ x) : orI 0 x = x := by unfold orI; simp; omega
theorem or_pos {x y : Int} (h : 0 ≤ x) (hx : x ≠ 0) : orI x y ≠ 0 := fun e => hx (by
  unfold orI at e
  have : x.toNat ||| y.toNat = 0 := by omega
  have := (Nat.or_eq_zero_iff.1 this).1
  omega)
theorem partO_lt {x s : Int} (hx : 0 ≤ x) (hs : 0 ≤ s) (h : partO x s = true) : x < s := by
  unfold partO at h
  rw [Bool.and_eq_true] at h
  have h1 := part_le hx hs h.2
  have h2 : x ≠ s := by simpa using h.1
  omega
theorem bel_none {s : Int} (hs : s = 0) : ∀ xs : List Int, (∀ z ∈ xs, 0 ≤ z) → xs.foldl (fun a x => if partO x s then orI a x else a) 0 = 0
  | [], _ => rfl
  | x :: xs, h => by
    rw [List.foldl_cons]
    have hp : partO x s = false := by
      cases hq : partO x s with
      | false => rfl
      | true => have h1 := partO_lt (h x (by simp)) (by omega) hq; have h2 := h x (by simp); omega
    rw [hp, if_neg (by simp)]
    exact bel_none hs xs (fun z hz => h z (by simp [hz]))
theorem bel_in {C : List Int} (hC : ClosedU orI C) (hC0 : ∀ z ∈ C, 0 ≤ z) {s : Int} : ∀ (xs : List Int) (a : Int), (a = 0 ∨ a ∈ C) → (∀ x ∈ xs, partO x s = true → x = 0 ∨ x ∈ C) → xs.foldl (fun a x => if partO x s then orI a x else a) a = 0 ∨ xs.foldl (fun a x => if partO x s then orI a x else a) a ∈ C
  | [], _, h, _ => h
  | x :: xs, a, h, h2 => by
    rw [List.foldl_cons]
    refine bel_in hC hC0 xs _ ?_ (fun z hz => h2 z (by simp [hz]))
    rcases (by cases partO x s <;> simp : partO x s = true ∨ partO x s = false) with hp | hp
    · rw [hp, if_pos rfl]
      rcases h2 x (by simp) hp with rfl | hx
      · rcases h with rfl | h
        · left; rfl
        · rw [or_none (hC0 a h)]; exact .inr h
      · rcases h with rfl | h
        · rw [none_or (hC0 x hx)]; exact .inr hx
        · exact .inr (hC a h x hx)
    · rw [hp, if_neg (by simp)]; exact h
theorem mem_prim {xs : List Int} {z : Int} : z ∈ primL xs ↔ z ∈ xs ∧ belI z xs ≠ z := by
  unfold primL
  rw [List.mem_filter]
  simp
theorem primes_make {xs : List Int} (hA : Asc xs) (h0 : ∀ z ∈ xs, 0 ≤ z) (hc : ClosedU orI xs) : ucL orI (sortL (primL xs)) = xs.filter (fun z => z != 0) := by
  have hP0 : ∀ z ∈ sortL (primL xs), 0 ≤ z := fun z hz => h0 z (mem_prim.1 (mem_sortL.1 hz)).1
  have hmf : ∀ {z : Int}, z ∈ xs.filter (fun z => z != 0) ↔ z ∈ xs ∧ z ≠ 0 := by intro z; rw [List.mem_filter]; simp
  refine (ucL_eq (asc_filter hA _) (fun z hz => ?_) (fun a ha b hb => ?_) (fun z hz => ?_)).symm
  · obtain ⟨h1, h2⟩ := mem_prim.1 (mem_sortL.1 hz)
    exact hmf.2 ⟨h1, fun e => h2 (by subst e; exact bel_none rfl xs h0)⟩
  · obtain ⟨h1, h2⟩ := hmf.1 ha
    exact hmf.2 ⟨hc a h1 b (mem_prim.1 (mem_sortL.1 hb)).1, or_pos (h0 a h1) h2⟩
  · obtain ⟨hz1, hz2⟩ := hmf.1 hz
    have key : ∀ (k : Nat) (z : Int), z.toNat ≤ k → z ∈ xs → z ≠ 0 → z ∈ ucL orI (sortL (primL xs)) := by
      intro k
      induction k with
      | zero => intro z hk h1 h2; have := h0 z h1; omega
      | succ k ih =>
        intro z hk h1 h2
        by_cases hb : belI z xs = z
        · have hh := bel_in (C := ucL orI (sortL (primL xs))) (ucL_closed semi_or hP0) (ucL_least (Q := fun z => 0 ≤ z) hP0 (fun a b _ _ => semi_or.pos a b)) (s := z) xs 0 (.inl rfl) (fun x hx hp => by
            by_cases e : x = 0
            · exact .inl e
            · have h4 := partO_lt (h0 x hx) (h0 z h1) hp
              have h5 := h0 x hx
              exact .inr (ih x (by omega) hx e))
          have hb' : xs.foldl (fun a x => if partO x z then orI a x else a) 0 = z := hb
          rw [hb'] at hh
          rcases hh with hh | hh
          · exact absurd hh h2
          · exact hh
        · exact ucL_has semi_or hP0 z (mem_sortL.2 (mem_prim.2 ⟨h1, hb⟩))
    exact key z.toNat z (Nat.le_refl _) hz1 hz2
/-! Up and down families. -/
theorem part_or_left {x y : Int} (h : 0 ≤ x) : partB x (orI x y) = true := decide_eq_true (by
  unfold andI orI
  simp only [Int.toNat_natCast]
  have : x.toNat &&& (x.toNat ||| y.toNat) = x.toNat := Nat.eq_of_testBit_eq fun i => by simp only [Nat.testBit_and, Nat.testBit_or]; cases x.toNat.testBit i <;> simp
  rw [this]; omega)
theorem part_and_left {x y : Int} : partB (andI x y) x = true := decide_eq_true (by
  unfold andI
  simp only [Int.toNat_natCast]
  have : x.toNat &&& y.toNat &&& x.toNat = x.toNat &&& y.toNat := Nat.eq_of_testBit_eq fun i => by simp only [Nat.testBit_and]; cases x.toNat.testBit i <;> simp
  rw [this])
theorem up_yes {n : Int} {xs : List Int} (hf : famB n xs = true) (h : upF n xs = xs) {x z : Int} (hx : x ∈ xs) (hz : setB n z = true) (hp : partB x z = true) : z ∈ xs := by
  rw [← h]
  exact (mem_upF (famB_all hf).1 (famB_all hf).2.1).2 ⟨hz, x, hx, hp⟩
theorem down_yes {n : Int} {xs : List Int} (hf : famB n xs = true) (h : dnF n xs = xs) {x z : Int} (hx : x ∈ xs) (hz : setB n z = true) (hp : partB z x = true) : z ∈ xs := by
  rw [← h]
  exact (mem_dnF (famB_all hf).1 (famB_all hf).2.1).2 ⟨hz, x, hx, hp⟩
theorem up_mk {n : Int} {xs : List Int} (hf : famB n xs = true) (h : ∀ x ∈ xs, ∀ z, setB n z = true → partB x z = true → z ∈ xs) : upF n xs = xs :=
  asc_ext (asc_sortL _) (famB_asc hf) (fun z => by
    obtain ⟨n1, n2, hs⟩ := famB_all hf
    show z ∈ upF n xs ↔ z ∈ xs
    rw [mem_upF n1 n2]
    exact ⟨fun ⟨hz, x, hx, hp⟩ => h x hx z hz hp, fun hz => ⟨hs z hz, z, hz, part_refl (setB_lt (hs z hz)).1⟩⟩)
theorem down_mk {n : Int} {xs : List Int} (hf : famB n xs = true) (h : ∀ x ∈ xs, ∀ z, setB n z = true → partB z x = true → z ∈ xs) : dnF n xs = xs :=
  asc_ext (asc_sortL _) (famB_asc hf) (fun z => by
    obtain ⟨n1, n2, hs⟩ := famB_all hf
    show z ∈ dnF n xs ↔ z ∈ xs
    rw [mem_dnF n1 n2]
    exact ⟨fun ⟨hz, x, hx, hp⟩ => h x hx z hz hp, fun hz => ⟨hs z hz, z, hz, part_refl (setB_lt (hs z hz)).1⟩⟩)
/-- the sets that are not in a family. -/
def restL (n : Int) (xs : List Int) : List Int := (upI (2 ^ n.toNat)).filter (fun x => !memB x xs)
theorem mem_restL {n : Int} {xs : List Int} (h1 : 1 ≤ n) (h2 : n ≤ 8) {z : Int} : z ∈ restL n xs ↔ setB n z = true ∧ z ∉ xs := by
  unfold restL
  rw [List.mem_filter, set_up h1 h2]
  constructor
  · rintro ⟨a, b⟩; exact ⟨a, memB_no (by simpa using b)⟩
  · rintro ⟨a, b⟩; exact ⟨a, by rw [memB_mk0 b]; rfl⟩
theorem rest_down {n : Int} {xs : List Int} (hf : famB n xs = true) (h : upF n xs = xs) : dnF n (restL n xs) = restL n xs := by
  obtain ⟨n1, n2, hs⟩ := famB_all hf
  refine down_mk (rest_famq hf) (fun x hx z hz hp => ?_)
  obtain ⟨h1, h2⟩ := (mem_restL n1 n2).1 hx
  exact (mem_restL n1 n2).2 ⟨hz, fun hm => h2 (up_yes hf h hm h1 hp)⟩
theorem rest_up {n : Int} {xs : List Int} (hf : famB n xs = true) (h : dnF n xs = xs) : upF n (restL n xs) = restL n xs := by
  obtain ⟨n1, n2, hs⟩ := famB_all hf
  refine up_mk (rest_famq hf) (fun x hx z hz hp => ?_)
  obtain ⟨h1, h2⟩ := (mem_restL n1 n2).1 hx
  exact (mem_restL n1 n2).2 ⟨hz, fun hm => h2 (down_yes hf h hm h1 hp)⟩
theorem up_closed {n : Int} {xs : List Int} (hf : famB n xs = true) (h : upF n xs = xs) : ucL orI xs = xs :=
  (ucL_fix semi_or (famB_asc hf) (fun z hz => (famB_lt hf z hz).1)).2 (fun x hx y hy => up_yes hf h hx (orI_set ((famB_all hf).2.2 x hx) ((famB_all hf).2.2 y hy)) (part_or_left (famB_lt hf x hx).1))
/-! How often they meet. -/
theorem sm_one (N : Nat) : sm N (fun _ => 1) = 2 ^ N := by
  induction N with
  | zero => rfl
  | succ N ih =>
    rw [sm_succ]
    unfold sm at *
    have := sum_two (fun _ => 1) (fun _ => 1) (List.range (2 ^ N))
    rw [this, ih, Nat.pow_succ]; omega
theorem fam_pow {n : Int} {xs : List Int} (hf : famB n xs = true) : ∀ z ∈ xs, 0 ≤ z ∧ z < ((2 ^ n.toNat : Nat) : Int) := fun z hz => by
  obtain ⟨_, _, a, b⟩ := setB_yes ((famB_all hf).2.2 z hz)
  exact ⟨a, by simpa using b⟩
theorem set_cast {n : Int} (n1 : 1 ≤ n) (n2 : n ≤ 8) {x : Nat} (h : x < 2 ^ n.toNat) : setB n (x : Int) = true := setB_mk ⟨n1, n2, by omega, by
  have h2 : ((2 ^ n.toNat : Nat) : Int) = 2 ^ n.toNat := by simp
  rw [← h2]; exact Int.ofNat_lt.2 h⟩
theorem meet_up {n : Int} {xs ys : List Int} (fx : famB n xs = true) (fy : famB n ys = true) (hx : upF n xs = xs) (hy : upF n ys = ys) : xs.length * ys.length ≤ (sortL (xs.filter (fun x => memB x ys))).length * 2 ^ n.toNat := by
  obtain ⟨n1, n2, sx⟩ := famB_all fx
  have sy := (famB_all fy).2.2
  have hk := four n.toNat (indN xs) (indN ys) (indN (sortL (xs.filter (fun x => memB x ys)))) (fun _ => 1) (fun x y h1 h2 => by
    unfold indN
    cases e1 : memB (x : Int) xs with
    | false => simp
    | true =>
      cases e2 : memB (y : Int) ys with
      | false => simp
      | true =>
        have m1 := memB_yes e1
        have m2 := memB_yes e2
        have ho : ((x ||| y : Nat) : Int) = orI (x : Int) (y : Int) := by unfold orI; simp only [Int.toNat_natCast]
        have hs := orI_set (sx _ m1) (sy _ m2)
        have g1 := up_yes fx hx m1 hs (part_or_left (by omega))
        have g2 := up_yes fy hy m2 hs (by rw [semi_or.comm]; exact part_or_left (by omega))
        rw [ho, memB_mk (mem_sortL.2 (List.mem_filter.2 ⟨g1, memB_mk g2⟩))]
        simp)
  rw [sm_ind (famB_asc fx) (fam_pow fx), sm_ind (famB_asc fy) (fam_pow fy), sm_ind (asc_sortL _) (fam_pow (fam_sub _ fx)), sm_one] at hk
  exact hk
theorem meet_down {n : Int} {xs ys : List Int} (fx : famB n xs = true) (fy : famB n ys = true) (hx : dnF n xs = xs) (hy : dnF n ys = ys) : xs.length * ys.length ≤ (sortL (xs.filter (fun x => memB x ys))).length * 2 ^ n.toNat := by
  obtain ⟨n1, n2, sx⟩ := famB_all fx
  have sy := (famB_all fy).2.2
  have hk := four n.toNat (indN xs) (indN ys) (fun _ => 1) (indN (sortL (xs.filter (fun x => memB x ys)))) (fun x y h1 h2 => by
    unfold indN
    cases e1 : memB (x : Int) xs with
    | false => simp
    | true =>
      cases e2 : memB (y : Int) ys with
      | false => simp
      | true =>
        have m1 := memB_yes e1
        have m2 := memB_yes e2
        have ho : ((x &&& y : Nat) : Int) = andI (x : Int) (y : Int) := by unfold andI; simp only [Int.toNat_natCast]
        have hs := andI_set (sx _ m1) (sy _ m2)
        have g1 := down_yes fx hx m1 hs part_and_left
        have g2 := down_yes fy hy m2 hs (by rw [semi_and.comm]; exact part_and_left)
        rw [ho, memB_mk (mem_sortL.2 (List.mem_filter.2 ⟨g1, memB_mk g2⟩))]
        simp)
  rw [sm_ind (famB_asc fx) (fam_pow fx), sm_ind (famB_asc fy) (fam_pow fy), sm_ind (asc_sortL _) (fam_pow (fam_sub _ fx)), sm_one] at hk
  rw [Nat.mul_comm (2 ^ n.toNat)] at hk
  exact hk
theorem meet_both {n : Int} {xs ys : List Int} (fx : famB n xs = true) (fy : famB n ys = true) (hx : upF n xs = xs) (hy : dnF n ys = ys) : (sortL (xs.filter (fun x => memB x ys))).length * 2 ^ n.toNat ≤ xs.length * ys.length := by
  obtain ⟨n1, n2, sx⟩ := famB_all fx
  have h1 := meet_up fx (rest_famq fy) hx (rest_up fy hy)
  have h2 := rest_len fy
  have h3 : (sortL (xs.filter (fun x => memB x ys))).length + (sortL (xs.filter (fun x => memB x (restL n ys)))).length = xs.length := by
    rw [sortL_asc (asc_filter (famB_asc fx) _), sortL_asc (asc_filter (famB_asc fx) _)]
    have h4 : xs.filter (fun x => memB x (restL n ys)) = xs.filter (fun x => !memB x ys) := List.filter_congr (fun z hz => by
      cases e : memB z ys with
      | true => rw [memB_mk0 (fun h => ((mem_restL n1 n2).1 h).2 (memB_yes e))]; rfl
      | false => rw [memB_mk ((mem_restL n1 n2).2 ⟨sx z hz, memB_no e⟩)]; rfl)
    rw [h4]
    exact filt_split (fun x => memB x ys) xs
  have h1' : xs.length * (restL n ys).length ≤ (sortL (xs.filter (fun x => memB x (restL n ys)))).length * 2 ^ n.toNat := h1
  have h2' : (restL n ys).length + ys.length = 2 ^ n.toNat := h2
  obtain ⟨c, hc⟩ : ∃ c, (sortL (xs.filter (fun x => memB x ys))).length = c := ⟨_, rfl⟩
  obtain ⟨d, hd⟩ : ∃ d, (sortL (xs.filter (fun x => memB x (restL n ys)))).length = d := ⟨_, rfl⟩
  obtain ⟨r, hr⟩ : ∃ r, (restL n ys).length = r := ⟨_, rfl⟩
  obtain ⟨M, hM⟩ : ∃ M, 2 ^ n.toNat = M := ⟨_, rfl⟩
  rw [hc, hd] at h3
  rw [hd, hr, hM] at h1'
  rw [hr, hM] at h2'
  rw [hc, hM]
  have e1 : xs.length * M = xs.length * r + xs.length * ys.length := by rw [← h2', Nat.mul_add]
  have e2 : xs.length * M = c * M + d * M := by rw [← h3, Nat.add_mul]
  omega
end Go.Proofs.Ythljimmhgpbmbaa
