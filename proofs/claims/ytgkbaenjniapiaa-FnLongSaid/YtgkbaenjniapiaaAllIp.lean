/- Texts merged: XIp6 XIp7. -/
import Derived.Test.YtgkbaenjniapiaaCl7
import Derived.Test.YtgkbaenjniapiaaCw5
import Derived.Test.YtgkbaenjniapiaaDrawC
import Derived.Test.YtgkbaenjniapiaaAcLaw
import Derived.Test.YtgkbaenjniapiaaSameL
namespace Go.Proofs.Ytgkbaenjniapiaa
section
/- The laws FnLong, FnWide: longest chains and widest antichains. -/
open Go.ChangeShapes Go.WideShapes Go.ChangeAt Go.RowKit Go.Proofs

theorem asc_subL : ∀ {ys xs : List Int}, Asc xs → Asc ys → (∀ z ∈ xs, z ∈ ys) → xs.Sublist ys
  | [], [], _, _, _ => List.Sublist.refl _
  | [], x :: xs, _, _, h => absurd (h x List.mem_cons_self) (by simp)
  | y :: ys, [], _, _, _ => List.nil_sublist _
  | y :: ys, x :: xs, hx, hy, h => by
    have hx' := List.pairwise_cons.1 hx
    have hy' := List.pairwise_cons.1 hy
    by_cases e : x = y
    · subst e
      exact (asc_subL hx'.2 hy'.2 fun z hz => (List.mem_cons.1 (h z (List.mem_cons_of_mem _ hz))).resolve_left fun e => by have := hx'.1 z hz; omega).cons_cons _
    · have hxy : y < x := hy'.1 x ((List.mem_cons.1 (h x List.mem_cons_self)).resolve_left e)
      refine (asc_subL hx hy'.2 fun z hz => (List.mem_cons.1 (h z hz)).resolve_left fun e2 => ?_).cons _
      rcases List.mem_cons.1 hz with h2 | h2
      · omega
      · have := hx'.1 z h2; omega
theorem asc_of_sub {xs c : List Int} (h : c.Sublist xs) (hA : Asc xs) : Asc c := List.Pairwise.sublist h hA
theorem long_ge {xs c : List Int} (h : c.Sublist xs) (hp : c.Pairwise (fun a b => partB a b = true)) : c.length ≤ longI xs := upM_ge partB xs 0 c h hp (fun y _ => part_zero y)
theorem long_is {xs : List Int} (hz : ∀ z ∈ xs, 0 ≤ z ∧ z < 256) : ∃ c : List Int, c.Sublist xs ∧ c.Pairwise (fun a b => partB a b = true) ∧ c.length = longI xs := by
  obtain ⟨c, h1, h2, _, h4⟩ := upM_is partB (fun z => 0 ≤ z) (fun _ _ _ ga gb _ h1 h2 => part_trans ga gb h1 h2) xs 0 (by decide) (fun x hx => (hz x hx).1)
  exact ⟨c, h1, h2, h4⟩
/-! the others -/
theorem or_and_natL {x y : Nat} : x ||| y = x ↔ y &&& x = y := by
  constructor
  · intro h
    refine Nat.eq_of_testBit_eq fun i => ?_
    have h := congrArg (fun z => z.testBit i) h
    simp only [Nat.testBit_or, Nat.testBit_and] at h ⊢
    cases ha : x.testBit i <;> cases hb : y.testBit i <;> simp [ha, hb] at h ⊢
  · intro h
    refine Nat.eq_of_testBit_eq fun i => ?_
    have h := congrArg (fun z => z.testBit i) h
    simp only [Nat.testBit_or, Nat.testBit_and] at h ⊢
    cases ha : x.testBit i <;> cases hb : y.testBit i <;> simp [ha, hb] at h ⊢
theorem oth_partL_dec : ∀ x y : Fin 256, partB (x.val : Nat) (y.val : Nat) = true → partB (255 - ((y.val : Nat) : Int)) (255 - ((x.val : Nat) : Int)) = true := by decide +kernel
theorem othn_decL : ∀ n : Fin 9, ∀ x : Fin 256, x.val < 2 ^ n.val → otherI (n.val : Nat) (x.val : Nat) = andI (255 - ((x.val : Nat) : Int)) (2 ^ n.val - 1) := by decide +kernel
theorem part_andL {a b m : Int} (ha : 0 ≤ a) (h : partB a b = true) : partB (andI a m) (andI b m) = true := by
  have h1 := of_decide_eq_true h
  refine decide_eq_true ?_
  unfold andI at h1 ⊢
  have h2 : a.toNat &&& b.toNat = a.toNat := by omega
  have h3 : (a.toNat &&& m.toNat) &&& (b.toNat &&& m.toNat) = a.toNat &&& m.toNat := by
    refine Nat.eq_of_testBit_eq fun i => ?_
    have h := congrArg (fun z => z.testBit i) h2
    simp only [Nat.testBit_and] at h ⊢
    cases hx : a.toNat.testBit i <;> cases hy : b.toNat.testBit i <;> cases hz : m.toNat.testBit i <;> simp [hx, hy] at h ⊢
  simp only [Int.toNat_natCast]
  rw [h3]
theorem set_natL {n x : Int} (h : setB n x = true) : ∃ N X : Nat, n = N ∧ x = X ∧ 1 ≤ N ∧ N ≤ 8 ∧ X < 256 ∧ X < 2 ^ N := by
  obtain ⟨n1, n2, x1, x2⟩ := setB_yes h
  obtain ⟨N, rfl⟩ := Int.eq_ofNat_of_zero_le (show 0 ≤ n by omega)
  obtain ⟨X, rfl⟩ := Int.eq_ofNat_of_zero_le x1
  rw [Int.toNat_natCast] at x2
  have hh : ((2 ^ N : Nat) : Int) = (2 : Int) ^ N := by simp
  rw [← hh] at x2
  exact ⟨N, X, rfl, rfl, by omega, by omega, by have := (setB_lt h).2; omega, Int.ofNat_lt.1 x2⟩
theorem oth_partL {n x y : Int} (hx : setB n x = true) (hy : setB n y = true) (h : partB x y = true) : partB (otherI n y) (otherI n x) = true := by
  obtain ⟨N, X, rfl, rfl, a, b, c, d⟩ := set_natL hx
  obtain ⟨N', Y, e, rfl, a', b', c', d'⟩ := set_natL hy
  have : N = N' := by omega
  subst this
  have h1 := othn_decL ⟨N, by omega⟩ ⟨X, c⟩ d
  have h2 := othn_decL ⟨N, by omega⟩ ⟨Y, c'⟩ d'
  dsimp only at h1 h2
  rw [h1, h2]
  exact part_andL (by omega) (oth_partL_dec ⟨X, c⟩ ⟨Y, c'⟩ h)
theorem oth_fam {n : Int} {xs : List Int} (h : famB n xs = true) : famB n (sortL (xs.map (otherI n))) = true := by
  obtain ⟨n1, n2, hs⟩ := famB_all h
  refine famB_mk (ptsB_mk n1 n2) (fun z hz => ?_) (asc_sortL _)
  obtain ⟨a, ha, rfl⟩ := List.mem_map.1 (mem_sortL.1 hz)
  exact other_set (hs a ha)
theorem oth_back {n : Int} {xs : List Int} (h : famB n xs = true) : sortL ((sortL (xs.map (otherI n))).map (otherI n)) = xs := sortL_eq (famB_asc h) fun z => by
  rw [List.mem_map]
  constructor
  · rintro ⟨a, ha, rfl⟩
    obtain ⟨b, hb, rfl⟩ := List.mem_map.1 (mem_sortL.1 ha)
    rwa [show otherI n (otherI n b) = b by unfold otherI; omega]
  · exact fun hz => ⟨otherI n z, mem_sortL.2 (List.mem_map.2 ⟨z, hz, rfl⟩), by unfold otherI; omega⟩
theorem long_oth_le {n : Int} {xs : List Int} (h : famB n xs = true) : longI xs ≤ longI (sortL (xs.map (otherI n))) := by
  have hs := (famB_all h).2.2
  obtain ⟨c, h1, h2, h3⟩ := long_is (famB_lt h)
  have hcA := asc_of_sub h1 (famB_asc h)
  rw [← h3, ← List.length_map (f := otherI n), ← List.length_reverse]
  refine long_ge (asc_subL ?_ (asc_sortL _) fun z hz => ?_) ?_
  · unfold Asc
    rw [List.pairwise_reverse, List.pairwise_map]
    exact hcA.imp fun hab => by unfold otherI; omega
  · obtain ⟨a, ha, rfl⟩ := List.mem_map.1 (List.mem_reverse.1 hz)
    exact mem_sortL.2 (List.mem_map.2 ⟨a, h1.subset ha, rfl⟩)
  · rw [List.pairwise_reverse, List.pairwise_map]
    exact h2.imp_of_mem fun ha hb hab => oth_partL (hs _ (h1.subset ha)) (hs _ (h1.subset hb)) hab
theorem long_oth {n : Int} {xs : List Int} (h : famB n xs = true) : longI (sortL (xs.map (otherI n))) = longI xs := by
  have h1 := long_oth_le h
  have h2 := long_oth_le (oth_fam h)
  rw [oth_back h] at h2
  omega
/-! how long -/
theorem cnt_part_dec : ∀ x y : Fin 256, partB (x.val : Nat) (y.val : Nat) = true → x.val < y.val → cntI (x.val : Nat) < cntI (y.val : Nat) := by decide +kernel
theorem cnt_set_dec : ∀ n : Fin 9, ∀ x : Fin 256, x.val < 2 ^ n.val → 0 ≤ cntI (x.val : Nat) ∧ cntI (x.val : Nat) ≤ n.val := by decide +kernel
theorem long_n {n : Int} {xs : List Int} (h : famB n xs = true) : ((longI xs : Nat) : Int) ≤ n + 1 := by
  obtain ⟨n1, n2, hs⟩ := famB_all h
  obtain ⟨c, h1, h2, h3⟩ := long_is (famB_lt h)
  have hcA := asc_of_sub h1 (famB_asc h)
  have hm : Asc (c.map cntI) := by
    unfold Asc
    rw [List.pairwise_map]
    refine (List.Pairwise.and hcA h2).imp_of_mem fun {a b} ha hb hab => ?_
    obtain ⟨a1, a2⟩ := famB_lt h a (h1.subset ha)
    obtain ⟨b1, b2⟩ := famB_lt h b (h1.subset hb)
    obtain ⟨A, rfl⟩ := Int.eq_ofNat_of_zero_le a1
    obtain ⟨B, rfl⟩ := Int.eq_ofNat_of_zero_le b1
    exact cnt_part_dec ⟨A, by omega⟩ ⟨B, by omega⟩ hab.2 (by dsimp only; omega)
  have := asc_len hm 0 (n.toNat + 1) fun z hz => by
    obtain ⟨a, ha, rfl⟩ := List.mem_map.1 hz
    obtain ⟨N, X, rfl, rfl, q1, q2, q3, q4⟩ := set_natL (hs a (h1.subset ha))
    have := cnt_set_dec ⟨N, by omega⟩ ⟨X, q3⟩ q4
    dsimp only at this
    omega
  rw [List.length_map] at this
  omega
theorem part_leL {x y : Int} (_hx : 0 ≤ x) (hy : 0 ≤ y) (h : partB x y = true) : x ≤ y := by
  have h1 := of_decide_eq_true h
  unfold andI at h1
  have : x.toNat &&& y.toNat ≤ y.toNat := Nat.and_le_right
  omega
theorem anti_iff {xs : List Int} (hz : ∀ z ∈ xs, 0 ≤ z ∧ z < 256) : antiB xs = true ↔ ∀ x ∈ xs, ∀ y ∈ xs, x < y → partB x y = false := by
  unfold antiB
  rw [Bool.not_eq_true', List.any_eq_false]
  constructor
  · intro h x hx y hy hxy
    have h1 := h x hx
    rw [Bool.not_eq_true, List.any_eq_false] at h1
    have h2 := h1 y hy
    rw [end_yes (show y ≠ x by omega)] at h2
    simpa using h2
  · intro h x hx
    rw [Bool.not_eq_true, List.any_eq_false]
    intro y hy
    by_cases e : y = x
    · subst e; rw [end_same]; simp
    · rw [end_yes e]
      simp only [if_true, Bool.not_eq_true]
      rcases Int.lt_or_lt_of_ne e with h1 | h1
      · rcases (by cases partB x y <;> simp : partB x y = true ∨ partB x y = false) with hp | hp
        · have := part_leL (hz x hx).1 (hz y hy).1 hp; omega
        · exact hp
      · exact h x hx y hy h1
theorem long_anti {n : Int} {xs : List Int} (h : famB n xs = true) : decide (((longI xs : Nat) : Int) ≤ 1) = antiB xs := by
  have hz := famB_lt h
  have ha := anti_iff hz
  rcases (by cases antiB xs <;> simp : antiB xs = true ∨ antiB xs = false) with hb | hb
  · rw [hb]
    refine decide_eq_true ?_
    have hn := ha.1 hb
    obtain ⟨c, h1, h2, h3⟩ := long_is hz
    have hcA := asc_of_sub h1 (famB_asc h)
    match c, h1, h2, h3, hcA with
    | [], _, _, h3, _ => rw [← h3]; simp
    | [_], _, _, h3, _ => rw [← h3]; simp
    | a :: b :: t, h1, h2, _, hcA =>
      have q := (List.pairwise_cons.1 h2).1 b (by simp)
      have q2 := (List.pairwise_cons.1 hcA).1 b (by simp)
      rw [hn a (h1.subset (by simp)) b (h1.subset (by simp)) q2] at q
      cases q
  · rw [hb]
    refine decide_eq_false fun hle => ?_
    have : ∀ x ∈ xs, ∀ y ∈ xs, x < y → partB x y = false := fun x hx y hy hxy => by
      rcases (by cases partB x y <;> simp : partB x y = true ∨ partB x y = false) with hp | hp
      · have hl := long_ge (xs := xs) (c := [x, y]) (asc_subL (by unfold Asc; simp [hxy]) (famB_asc h) (by simp [hx, hy])) (by simp [hp])
        simp at hl
        omega
      · exact hp
    rw [ha.2 this] at hb
    cases hb
/-! how wide -/
theorem wide_ge {xs c : List Int} (h : c.Sublist xs) (hn : NP c) : c.length ≤ wI xs := (wI_is xs).1 c h hn
theorem np_iff {xs : List Int} (hA : Asc xs) : NP xs ↔ ∀ x ∈ xs, ∀ y ∈ xs, x < y → partB x y = false :=
  ⟨fun h => np_lt h hA, fun h => hA.imp_of_mem fun ha hb hab => h _ ha _ hb hab⟩
theorem wide_anti {n : Int} {xs : List Int} (h : famB n xs = true) : (((wI xs : Nat) : Int) == ((xs.length : Nat) : Int)) = antiB xs := by
  have hz := famB_lt h
  have ha := (anti_iff hz).trans (np_iff (famB_asc h)).symm
  have hl := wI_len xs
  rcases (by cases antiB xs <;> simp : antiB xs = true ∨ antiB xs = false) with hb | hb
  · rw [hb]
    have := wide_ge (List.Sublist.refl xs) (ha.1 hb)
    rw [beq_iff_eq]; omega
  · rw [hb, beq_eq_false_iff_ne]
    intro e
    obtain ⟨c, h1, h2, h3⟩ := (wI_is xs).2
    have hc : c = xs := h1.eq_of_length (by omega)
    rw [ha.2 (hc ▸ h2)] at hb
    cases hb
/-- what lies strictly below a set. -/
def undL (xs : List Int) (x : Int) : List Int := xs.filter (fun y => y != x && partB y x)
theorem und_lt {n : Int} {xs : List Int} (h : famB n xs = true) {x y : Int} (hx : x ∈ xs) (_hy : y ∈ xs) (hxy : x < y) (hp : partB x y = true) : longI (undL xs x) < longI (undL xs y) := by
  have hz := famB_lt h
  have hzu : ∀ z ∈ undL xs x, 0 ≤ z ∧ z < 256 := fun z hz' => hz z (List.mem_filter.1 hz').1
  obtain ⟨c, h1, h2, h3⟩ := long_is hzu
  have hcA := asc_of_sub h1 (asc_filter (famB_asc h) _)
  have hm : ∀ z ∈ c, z ∈ xs ∧ z ≠ x ∧ partB z x = true := fun z hz' => by
    have := List.mem_filter.1 (h1.subset hz')
    rw [Bool.and_eq_true, bne_iff_ne] at this
    exact ⟨this.1, this.2.1, this.2.2⟩
  have hlt : ∀ z ∈ c, z < x := fun z hz' => by
    obtain ⟨a, b, d⟩ := hm z hz'
    have := part_leL (hz z a).1 (hz x hx).1 d
    omega
  have := long_ge (xs := undL xs y) (c := c ++ [x]) (asc_subL (asc_snoc hcA hlt) (asc_filter (famB_asc h) _) fun z hz' => by
      rcases List.mem_append.1 hz' with h5 | h5
      · obtain ⟨a, b, d⟩ := hm z h5
        have h6 := hlt z h5
        exact List.mem_filter.2 ⟨a, by rw [Bool.and_eq_true, bne_iff_ne]; exact ⟨by omega, part_trans (hz z a).1 (hz x hx).1 d hp⟩⟩
      · simp at h5
        subst h5
        exact List.mem_filter.2 ⟨hx, by rw [Bool.and_eq_true, bne_iff_ne]; exact ⟨by omega, hp⟩⟩)
    (List.pairwise_append.2 ⟨h2, by simp, fun a ha b hb => by simp at hb; subst hb; exact (hm a ha).2.2⟩)
  rw [List.length_append, h3] at this
  simp at this
  omega
theorem und_top {n : Int} {xs : List Int} (h : famB n xs = true) {x : Int} (hx : x ∈ xs) : longI (undL xs x) < longI xs := by
  have hz := famB_lt h
  have hzu : ∀ z ∈ undL xs x, 0 ≤ z ∧ z < 256 := fun z hz' => hz z (List.mem_filter.1 hz').1
  obtain ⟨c, h1, h2, h3⟩ := long_is hzu
  have hcA := asc_of_sub h1 (asc_filter (famB_asc h) _)
  have hm : ∀ z ∈ c, z ∈ xs ∧ z ≠ x ∧ partB z x = true := fun z hz' => by
    have := List.mem_filter.1 (h1.subset hz')
    rw [Bool.and_eq_true, bne_iff_ne] at this
    exact ⟨this.1, this.2.1, this.2.2⟩
  have hlt : ∀ z ∈ c, z < x := fun z hz' => by
    obtain ⟨a, b, d⟩ := hm z hz'
    have := part_leL (hz z a).1 (hz x hx).1 d
    omega
  have := long_ge (xs := xs) (c := c ++ [x]) (asc_subL (asc_snoc hcA hlt) (famB_asc h) fun z hz' => by
      rcases List.mem_append.1 hz' with h5 | h5
      · exact (hm z h5).1
      · simp at h5; subst h5; exact hx)
    (List.pairwise_append.2 ⟨h2, by simp, fun a ha b hb => by simp at hb; subst hb; exact (hm a ha).2.2⟩)
  rw [List.length_append, h3] at this
  simp at this
  omega
theorem split_count {xs : List Int} {g : Int → Nat} {W : Nat} (hW : ∀ k, (xs.filter (fun x => g x == k)).length ≤ W) : ∀ K, (xs.filter (fun x => decide (g x < K))).length ≤ K * W
  | 0 => by rw [List.filter_eq_nil_iff.2 (by simp)]; simp
  | K + 1 => by
    have ih := split_count hW K
    have hk := hW K
    have : (xs.filter (fun x => decide (g x < K + 1))).length ≤ (xs.filter (fun x => decide (g x < K))).length + (xs.filter (fun x => g x == K)).length := by
      clear hW ih hk
      induction xs with
      | nil => simp
      | cons x xs ihx =>
        simp only [List.filter_cons]
        by_cases h1 : g x < K
        · rw [if_pos (by simp; omega), if_pos (by simp [h1]), if_neg (by simp; omega)]
          simp only [List.length_cons]; omega
        · by_cases h2 : g x = K
          · rw [if_pos (by simp; omega), if_neg (by simp [h1]), if_pos (by simp [h2])]
            simp only [List.length_cons]; omega
          · rw [if_neg (by simp; omega), if_neg (by simp [h1]), if_neg (by simp [h2])]
            exact ihx
    rw [Nat.succ_mul]
    omega
theorem wide_long {n : Int} {xs : List Int} (h : famB n xs = true) : xs.length ≤ wI xs * longI xs := by
  have hW : ∀ k, (xs.filter (fun x => longI (undL xs x) == k)).length ≤ wI xs := fun k => by
    refine wide_ge List.filter_sublist ?_
    have hA := asc_filter (famB_asc h) (fun x => longI (undL xs x) == k)
    refine (np_iff hA).2 fun x hx y hy hxy => ?_
    rcases (by cases partB x y <;> simp : partB x y = true ∨ partB x y = false) with hp | hp
    · obtain ⟨x1, x2⟩ := List.mem_filter.1 hx
      obtain ⟨y1, y2⟩ := List.mem_filter.1 hy
      have := und_lt h x1 y1 hxy hp
      rw [beq_iff_eq] at x2 y2
      omega
    · exact hp
  have := split_count hW (longI xs)
  rw [List.filter_eq_self.2 fun x hx => decide_eq_true (und_top h hx)] at this
  rw [Nat.mul_comm]
  exact this

end
section
/- The laws FnLong, FnWide over the program. -/
open Go.ChangeShapes Go.WideShapes Go.ChangeAt Go.RowKit Go.Proofs

theorem draw_ChainLong (v : Value) (a : Option Addr) (len cap : Nat) (w : World) (hv : v = .slice a len cap) (hc : len ≤ cap) (hcap : cap ≤ 9223372036854775807) (hB : Bytes w w.heap.size a len) :
    Calls Try.prog 22 #[v] w (FewDraw w) := by
  have h0 := Lib.hid (draw_few v a len cap w hv hc hcap hB)
  clear hv hc hcap hB
  go_enter Try.func22, Try.ntmps22
  go_wp2_with fail
  refine (h0.out).mono ?_
  rintro e w1 ⟨n, u, xs, rfl, hl, hO, hb, hC, hd⟩
  obtain ⟨ua, uc, rfl, _⟩ := id hO
  replace hO := Lib.hid hO
  replace hb := Lib.hid hb
  replace hC := Lib.hid hC
  replace hd := Lib.hid hd
  go_wp2_with fail
  go_ret2
  exact ⟨_, _, xs, rfl, hl, hO.out, hb.out, hC.out, hd.out⟩
theorem Rdr.at61w {w : World} {r S : Nat} {p : Int} (h : Rdr w r S p) (q : Int) : Rdr (w.setCell ⟨r, 1, none⟩ (.int .i64 q)) r S q := by
  obtain ⟨h1, h2, h3, h4, a, len, cap, h5, h6, h7⟩ := h
  have g1 : (w.setCell ⟨r, 1, none⟩ (.int .i64 q)).cell? ⟨r, 1, none⟩ = some (.int .i64 q) := World.cell?_setCell_same _ _ _ h4
  have g0 : (w.setCell ⟨r, 1, none⟩ (.int .i64 q)).cell? ⟨r, 0, none⟩ = some (.slice a len cap) := by
    rw [World.cell?_setCell_other _ _ _ _ (by intro e; injection e; omega)]; exact h5
  have h7' : Bytes (w.setCell ⟨r, 1, none⟩ (.int .i64 q)) S a len := fun hl => by
    obtain ⟨b, off, ha, hbS, hc⟩ := h7 hl
    refine ⟨b, off, ha, hbS, fun i hi => ?_⟩
    obtain ⟨x, x1, x2, hx⟩ := hc i hi
    exact ⟨x, x1, x2, by rw [World.cell?_setCell_other _ _ _ _ (by intro e; injection e; omega)]; exact hx⟩
  exact ⟨h1, by rw [World.frozen?_setCell]; exact h2, by rw [World.frozen?_setCell]; exact h3, g1, a, len, cap, g0, h6, h7'⟩
theorem bytes_laterW {w w' : World} {a : Option Addr} {len : Nat} (h : Bytes w w.heap.size a len) (hb : Below w.heap.size w w') : Bytes w' w'.heap.size a len := fun hl => by
  obtain ⟨b, off, ha, hbS, hc⟩ := h hl
  refine ⟨b, off, ha, Nat.lt_of_lt_of_le hbS hb.size, fun i hi => ?_⟩
  obtain ⟨x, x1, x2, hx⟩ := hc i hi
  exact ⟨x, x1, x2, (hb.cell (p := ⟨b, off + i, none⟩) (show b < w.heap.size by omega)).trans hx⟩
/-- what a draw of a number and a family gives. -/
def WideDraw (w : World) (e : Ending) (w' : World) : Prop := ∃ n u xs, e = .returned (.tuple #[.int .i64 n, u]) ∧ xs.length ≤ 300 ∧ Own w' w.heap.size w'.heap.size u xs ∧ Below w.heap.size w w'
set_option maxRecDepth 100000 in
set_option maxHeartbeats 1000000 in
theorem draw_ChainWide (v : Value) (a : Option Addr) (len cap : Nat) (w : World) (hv : v = .slice a len cap) (hc : len ≤ cap) (hcap : cap ≤ 9223372036854775807) (hB : Bytes w w.heap.size a len) :
    Calls Try.prog 17 #[v] w (WideDraw w) := by
  have h0 := Lib.hid (rd_open v a len cap w hv hc hcap hB)
  have h1 := Lib.hid (fun w1 (hb : Below w.heap.size w w1) => draw_givenC v a len cap w1 hv hc hcap (bytes_laterW hB hb))
  have h2 := Lib.hid (fun w1 (hb : Below w.heap.size w w1) => draw_few v a len cap w1 hv hc hcap (bytes_laterW hB hb))
  clear hv hc hcap hB
  go_enter Try.func17, Try.ntmps17
  go_wp2_with fail
  refine (h0.out).mono ?_
  rintro e w2 ⟨r, rfl, hr, hR0, hb2, hz0⟩
  have c1 : w2.cell? ⟨r, 1, none⟩ = some (.int .i64 0) := hR0.2.2.2.1
  have c2 : w2.frozen? ⟨r, 1, none⟩ = false := hR0.2.2.1
  have hrw : w.heap.size ≤ r := by omega
  have hR1 := Lib.hid (hR0.at61w 61)
  have hb3 := Lib.hid (below_setCell (p := ⟨r, 1, none⟩) hb2 hrw (.int .i64 61))
  replace hr := Lib.hid hr
  replace hz0 := Lib.hid hz0
  clear hR0 hb2
  go_wp2_with fail
  refine (rd_pick r _ 61 12 _ hR1.out (by omega) (by omega) (by omega)).mono ?_
  rintro e w4 ⟨i, rfl, ⟨i1, i2, i3, i4⟩, hR3, hO3⟩
  have hb4 := Lib.hid (hO3.below hb3.out hrw hb3.out.size)
  clear i3 i4 hO3 hR1 hR3
  have z4 := hb4.out.size
  by_cases hi : i = 0
  · have d := Lib.hid (h1.out w4 hb4.out)
    go_wp2_with fail
    refine d.out.mono ?_
    rintro e w5 ⟨n, u, xs, rfl, hl, hO, hb, hC, hd⟩
    obtain ⟨ua, uc, rfl, _⟩ := id hO
    replace hO := Lib.hid hO
    replace hb := Lib.hid (hb4.out.trans (hb.mono z4))
    go_wp2_with fail
    go_ret2
    exact ⟨_, _, xs, rfl, hl, hO.out.mono z4 (Nat.le_refl _), hb.out⟩
  · have d := Lib.hid (h2.out w4 hb4.out)
    go_wp2_with fail
    refine d.out.mono ?_
    rintro e w5 ⟨n, u, xs, rfl, hl, hO, hb, hC, hd⟩
    obtain ⟨ua, uc, rfl, _⟩ := id hO
    have hl3 : xs.length ≤ 300 := by omega
    replace hO := Lib.hid hO
    replace hb := Lib.hid (hb4.out.trans (hb.mono z4))
    go_wp2_with fail
    go_ret2
    exact ⟨_, _, xs, rfl, hl3, hO.out.mono z4 (Nat.le_refl _), hb.out⟩
set_option maxRecDepth 100000 in
set_option maxHeartbeats 4000000 in
theorem law_FnLong (v : Value) (a : Option Addr) (len cap : Nat) (w : World) (hv : v = .slice a len cap) (hc : len ≤ cap) (hcap : cap ≤ 9223372036854775807) (hB : Bytes w w.heap.size a len) :
    Calls Try.prog 6 #[v] w fun e w' => e = .returned (.bool true) ∧ Below w.heap.size w w' := by
  have h0 := Lib.hid (draw_ChainLong v a len cap w hv hc hcap hB)
  subst hv
  clear hB
  by_cases hbig : 1048576 < len
  · go_enter Try.func6, Try.ntmps6
    go_wp2_with fail
    go_ret
    exact ⟨rfl, Below.refl _ _⟩
  · go_enter Try.func6, Try.ntmps6
    go_wp2_with fail
    refine (h0.out).mono ?_
    rintro e w1 ⟨n, u, xs, rfl, hl, hO, hb, hC, hd⟩
    obtain ⟨ua, uc, rfl, _⟩ := id hO
    have z1 := hb.size
    have hi := im_ChainLong n _ xs _ w1 hO.row (Nat.le_refl _) (by omega)
    have hs := fun (W : World) (hW : Below w1.heap.size w1 W) => sp_ChainLong n _ xs w1.heap.size W (hO.row.below hW (Nat.le_refl _)) hW.size (by omega)
    have hot := fun (W : World) (hW : Row W W.heap.size (.slice ua xs.length uc) xs) => im_FamilyOther n _ xs W.heap.size W hW (Nat.le_refl _) (by omega)
    have hat := fun (W : World) (hW : Row W W.heap.size (.slice ua xs.length uc) xs) => im_AntichainIn n _ xs W.heap.size W hW (Nat.le_refl _) (by omega)
    have RX1 := Lib.hid hO.row
    have hb1 := Lib.hid hb
    clear hb hO h0 hC
    rcases (by cases famB n xs <;> simp : famB n xs = true ∨ famB n xs = false) with hbv | hbv
    · obtain ⟨n1, n2, _⟩ := famB_all hbv
      have hln := long_n hbv
      have hla := long_anti hbv
      have hlo := long_oth hbv
      have fO := oth_fam hbv
      have lO := famB_len fO
      have hv1 : lngI n xs = ((longI xs : Nat) : Int) := by unfold lngI; rw [hbv]; rfl
      have hv2 : lngI n (sortL (xs.map (otherI n))) = ((longI xs : Nat) : Int) := by unfold lngI; rw [fO, ← hlo]; rfl
      have hko := fun (W : World) (v : Value) (h1 : Row W W.heap.size v (sortL (xs.map (otherI n)))) => im_ChainLong n v _ W.heap.size W h1 (Nat.le_refl _) (by omega)
      rw [hbv, hv1] at hi hs
      rw [hv2, fO] at hko
      rw [hbv] at hot hat
      obtain ⟨O, hOO⟩ : ∃ O, sortL (xs.map (otherI n)) = O := ⟨_, rfl⟩
      rw [hOO] at hko hot lO
      obtain ⟨m, hm⟩ : ∃ m, longI xs = m := ⟨_, rfl⟩
      rw [hm] at hi hs hko hln hla
      obtain ⟨b, hbb⟩ : ∃ b, antiB xs = b := ⟨_, rfl⟩
      rw [hbb, Bool.true_and] at hat
      rw [hbb] at hla
      have hcc : (((m : Nat) : Int) != (m : Nat)) = false := by simp
      replace hi := Lib.hid hi
      replace hs := Lib.hid hs
      replace hko := Lib.hid hko
      replace hot := Lib.hid (show ∀ (W : World), Row W W.heap.size (.slice ua xs.length uc) xs → Calls Try.prog 24 #[.int .i64 n, .slice ua xs.length uc] W (ListPost O true W) from hot)
      replace hat := Lib.hid hat
      replace hbv := Lib.hid hbv
      replace fO := Lib.hid fO
      replace hOO := Lib.hid hOO
      replace hm := Lib.hid hm
      replace hbb := Lib.hid hbb
      replace hd := Lib.hid hd
      clear hv1 hv2 hlo
      go_wp2_with fail
      refine hi.out.mono ?_
      rintro e w2 ⟨rfl, hbn⟩
      have hcs := Lib.hid (hs.out w2 hbn)
      have RX2 := Lib.hid ((RX1.out.below hbn (Nat.le_refl _)).mono hbn.size)
      have hb2 := Lib.hid (hb1.out.trans (hbn.mono hb1.out.size))
      clear hbn
      go_wp2_with fail
      refine hcs.out.mono ?_
      rintro e w3 ⟨rfl, hbn⟩
      have RX3 := Lib.hid ((RX2.out.below hbn (Nat.le_refl _)).mono hbn.size)
      have hb3 := Lib.hid (hb2.out.trans (hbn.mono hb2.out.size))
      clear hbn
      go_wp2_with fail
      refine (hot.out w3 RX3.out).mono ?_
      rintro e w4 ⟨v4, rfl, hN, hbn⟩
      obtain ⟨c4, d4, rfl, _⟩ := id hN
      have RX4 := Lib.hid ((RX3.out.below hbn (Nat.le_refl _)).mono hbn.size)
      have RO4 := Lib.hid hN.row
      have hb4 := Lib.hid (hb3.out.trans (hbn.mono hb3.out.size))
      clear hbn hN
      go_wp2_with fail
      refine (hko.out w4 _ RO4.out).mono ?_
      rintro e w5 ⟨rfl, hbn⟩
      have RX5 := Lib.hid ((RX4.out.below hbn (Nat.le_refl _)).mono hbn.size)
      have hb5 := Lib.hid (hb4.out.trans (hbn.mono hb4.out.size))
      clear hbn
      cases b with
      | true =>
        have hle := of_decide_eq_true hla
        clear hla
        go_wp2_with fail
        refine (hat.out w5 RX5.out).mono ?_
        rintro e w6 ⟨rfl, hbn⟩
        have hb6 := Lib.hid (hb5.out.trans (hbn.mono hb5.out.size))
        clear hbn
        go_wp2_with fail
        go_ret
        exact ⟨rfl, hb6.out⟩
      | false =>
        have hle := of_decide_eq_false hla
        clear hla
        go_wp2_with fail
        refine (hat.out w5 RX5.out).mono ?_
        rintro e w6 ⟨rfl, hbn⟩
        have hb6 := Lib.hid (hb5.out.trans (hbn.mono hb5.out.size))
        clear hbn
        go_wp2_with fail
        go_ret
        exact ⟨ret_bool (by simp; omega), hb6.out⟩
    · have hv1 : lngI n xs = 0 := by unfold lngI; rw [hbv]; rfl
      rw [hbv, hv1] at hi hs
      replace hi := Lib.hid hi
      replace hs := Lib.hid hs
      replace hbv := Lib.hid hbv
      replace hv1 := Lib.hid hv1
      clear hot hat
      go_wp2_with fail
      refine hi.out.mono ?_
      rintro e w2 ⟨rfl, hbn⟩
      have hcs := Lib.hid (hs.out w2 hbn)
      have hb2 := Lib.hid (hb1.out.trans (hbn.mono hb1.out.size))
      clear hbn
      go_wp2_with fail
      refine hcs.out.mono ?_
      rintro e w3 ⟨rfl, hbn⟩
      have hb3 := Lib.hid (hb2.out.trans (hbn.mono hb2.out.size))
      go_wp2_with fail
      go_ret
      exact ⟨rfl, hb3.out⟩
set_option maxRecDepth 100000 in
set_option maxHeartbeats 4000000 in
theorem law_FnWide (v : Value) (a : Option Addr) (len cap : Nat) (w : World) (hv : v = .slice a len cap) (hc : len ≤ cap) (hcap : cap ≤ 9223372036854775807) (hB : Bytes w w.heap.size a len) :
    Calls Try.prog 5 #[v] w fun e w' => e = .returned (.bool true) ∧ Below w.heap.size w w' := by
  have h0 := Lib.hid (draw_ChainWide v a len cap w hv hc hcap hB)
  subst hv
  clear hB
  by_cases hbig : 1048576 < len
  · go_enter Try.func5, Try.ntmps5
    go_wp2_with fail
    go_ret
    exact ⟨rfl, Below.refl _ _⟩
  · go_enter Try.func5, Try.ntmps5
    go_wp2_with fail
    refine (h0.out).mono ?_
    rintro e w1 ⟨n, u, xs, rfl, hl, hO, hb⟩
    obtain ⟨ua, uc, rfl, _⟩ := id hO
    have z1 := hb.size
    have hi := im_ChainWide n _ xs _ w1 hO.row (Nat.le_refl _) (by omega)
    have hs := fun (W : World) (hW : Below w1.heap.size w1 W) => sp_ChainWide n _ xs w1.heap.size W (hO.row.below hW (Nat.le_refl _)) hW.size (by omega)
    have hlg := fun (W : World) (hW : Row W W.heap.size (.slice ua xs.length uc) xs) => im_ChainLong n _ xs W.heap.size W hW (Nat.le_refl _) (by omega)
    have hat := fun (W : World) (hW : Row W W.heap.size (.slice ua xs.length uc) xs) => im_AntichainIn n _ xs W.heap.size W hW (Nat.le_refl _) (by omega)
    have RX1 := Lib.hid hO.row
    have hb1 := Lib.hid hb
    clear hb hO h0
    rcases (by cases wideB n xs <;> simp : wideB n xs = true ∨ wideB n xs = false) with hbv | hbv
    · have fx : famB n xs = true := by unfold wideB at hbv; rw [Bool.and_eq_true] at hbv; exact hbv.1
      have hwl := wide_long fx
      have hwa := wide_anti fx
      have hw1 := wI_len xs
      have hl1 : longI xs ≤ xs.length := upM_len partB xs 0
      have hv1 : wideI n xs = ((wI xs : Nat) : Int) := by unfold wideI; rw [hbv]; rfl
      have hv2 : lngI n xs = ((longI xs : Nat) : Int) := by unfold lngI; rw [fx]; rfl
      rw [hbv, hv1] at hi hs
      rw [hv2, fx] at hlg
      rw [fx] at hat
      obtain ⟨m, hm⟩ : ∃ m, wI xs = m := ⟨_, rfl⟩
      obtain ⟨k, hk⟩ : ∃ k, longI xs = k := ⟨_, rfl⟩
      rw [hm] at hi hs hwl hwa hw1
      rw [hk] at hlg hwl hl1
      obtain ⟨b, hbb⟩ : ∃ b, antiB xs = b := ⟨_, rfl⟩
      rw [hbb, Bool.true_and] at hat
      rw [hbb] at hwa
      have hcc : (((m : Nat) : Int) != (m : Nat)) = false := by simp
      have hmul : ((m : Nat) : Int) * ((k : Nat) : Int) = ((m * k : Nat) : Int) := by simp
      have hmb : m * k ≤ 300 * 300 := Nat.mul_le_mul (by omega) (by omega)
      obtain ⟨P, hP⟩ : ∃ P, m * k = P := ⟨_, rfl⟩
      rw [hP] at hmul hmb hwl
      have hle : ((xs.length : Nat) : Int) ≤ ((P : Nat) : Int) := by omega
      replace hi := Lib.hid hi
      replace hs := Lib.hid hs
      replace hlg := Lib.hid hlg
      replace hat := Lib.hid hat
      replace hbv := Lib.hid hbv
      replace fx := Lib.hid fx
      replace hm := Lib.hid hm
      replace hk := Lib.hid hk
      replace hbb := Lib.hid hbb
      replace hP := Lib.hid hP
      clear hv1 hv2
      go_wp2_with fail
      refine hi.out.mono ?_
      rintro e w2 ⟨rfl, hbn⟩
      have hcs := Lib.hid (hs.out w2 hbn)
      have RX2 := Lib.hid ((RX1.out.below hbn (Nat.le_refl _)).mono hbn.size)
      have hb2 := Lib.hid (hb1.out.trans (hbn.mono hb1.out.size))
      clear hbn
      go_wp2_with fail
      refine hcs.out.mono ?_
      rintro e w3 ⟨rfl, hbn⟩
      have RX3 := Lib.hid ((RX2.out.below hbn (Nat.le_refl _)).mono hbn.size)
      have hb3 := Lib.hid (hb2.out.trans (hbn.mono hb2.out.size))
      clear hbn
      go_wp2_with fail
      refine (hlg.out w3 RX3.out).mono ?_
      rintro e w4 ⟨rfl, hbn⟩
      have RX4 := Lib.hid ((RX3.out.below hbn (Nat.le_refl _)).mono hbn.size)
      have hb4 := Lib.hid (hb3.out.trans (hbn.mono hb3.out.size))
      clear hbn
      go_wp2_with fail
      refine (hat.out w4 RX4.out).mono ?_
      rintro e w5 ⟨rfl, hbn⟩
      have hb5 := Lib.hid (hb4.out.trans (hbn.mono hb4.out.size))
      clear hbn
      cases b with
      | true =>
        have hme := beq_iff_eq.1 hwa
        clear hwa
        go_wp2_with fail
        go_ret
        exact ⟨rfl, hb5.out⟩
      | false =>
        have hme := beq_eq_false_iff_ne.1 hwa
        go_wp2_with fail
        go_ret
        exact ⟨rfl, hb5.out⟩
    · have hv1 : wideI n xs = 0 := by unfold wideI; rw [hbv]; rfl
      rw [hbv, hv1] at hi hs
      replace hi := Lib.hid hi
      replace hs := Lib.hid hs
      replace hbv := Lib.hid hbv
      replace hv1 := Lib.hid hv1
      clear hlg hat
      go_wp2_with fail
      refine hi.out.mono ?_
      rintro e w2 ⟨rfl, hbn⟩
      have hcs := Lib.hid (hs.out w2 hbn)
      have hb2 := Lib.hid (hb1.out.trans (hbn.mono hb1.out.size))
      clear hbn
      go_wp2_with fail
      refine hcs.out.mono ?_
      rintro e w3 ⟨rfl, hbn⟩
      have hb3 := Lib.hid (hb2.out.trans (hbn.mono hb2.out.size))
      go_wp2_with fail
      go_ret
      exact ⟨rfl, hb3.out⟩

end
end Go.Proofs.Ytgkbaenjniapiaa
