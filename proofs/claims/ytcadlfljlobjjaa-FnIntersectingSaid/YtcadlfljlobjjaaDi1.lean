/- Sets far apart: plain mathematics. -/
import Derived.Test.YtcadlfljlobjjaaBn5
import Derived.Test.YtcadlfljlobjjaaEm2
import Derived.Test.YtcadlfljlobjjaaTr1
namespace Go.Proofs.Ytcadlfljlobjjaa
open Go.ChangeShapes Go.WideShapes Go.ChangeAt Go.RowKit Go.Proofs

theorem rowD_iff (d s : Int) : ∀ (ys : List Int) (m : Int), d ≤ rowD m s ys ↔ d ≤ m ∧ ∀ y ∈ ys, d ≤ dstI s y
  | [], m => by show d ≤ m ↔ _; simp
  | y :: ys, m => by
    show d ≤ rowD (min m (dstI s y)) s ys ↔ _
    rw [rowD_iff d s ys]
    constructor
    · rintro ⟨h1, h2⟩
      refine ⟨by omega, fun z hz => ?_⟩
      rcases List.mem_cons.1 hz with rfl | hz
      · omega
      · exact h2 z hz
    · rintro ⟨h1, h2⟩
      have := h2 y (List.mem_cons_self ..)
      exact ⟨by omega, fun z hz => h2 z (List.mem_cons_of_mem _ hz)⟩
theorem ldT_iff (d m : Int) (xs : List Int) : ∀ k, k ≤ xs.length → (d ≤ ldT m xs k ↔ d ≤ m ∧ ∀ j, j < k → ∀ i, i < j → d ≤ dstI (xs.getD j 0) (xs.getD i 0))
  | 0, _ => by show d ≤ m ↔ _; simp
  | k + 1, hk => by
    show d ≤ rowD (ldT m xs k) (xs.getD k 0) (xs.take k) ↔ _
    rw [rowD_iff, ldT_iff d m xs k (by omega)]
    constructor
    · rintro ⟨⟨h1, h2⟩, h3⟩
      refine ⟨h1, fun j hj i hi => ?_⟩
      by_cases e : j = k
      · subst e
        refine h3 _ ?_
        have : (xs.take j).getD i 0 = xs.getD i 0 := by simp [List.getD_eq_getElem?_getD, hi]
        rw [← this]
        exact getD_mem (by rw [List.length_take]; omega)
      · exact h2 j (by omega) i hi
    · rintro ⟨h1, h2⟩
      refine ⟨⟨h1, fun j hj i hi => h2 j (by omega) i hi⟩, fun y hy => ?_⟩
      obtain ⟨i, hi, rfl⟩ := List.getElem_of_mem hy
      rw [List.length_take] at hi
      have := h2 k (by omega) i (by omega)
      have e : (xs.take k)[i] = xs.getD i 0 := by simp [List.getD, show i < xs.length by omega]
      rw [e]; exact this
/-- any two of the sets are at least d apart. -/
def Far (d : Int) (xs : List Int) : Prop := ∀ x ∈ xs, ∀ y ∈ xs, x ≠ y → d ≤ dstI x y
theorem far_iff {d : Int} {xs : List Int} (hA : Asc xs) (h8 : d ≤ 8) : d ≤ ldT 8 xs xs.length ↔ Far d xs := by
  rw [ldT_iff d 8 xs _ (Nat.le_refl _)]
  constructor
  · rintro ⟨_, h⟩ x hx y hy hne
    obtain ⟨i, hi, rfl⟩ := List.getElem_of_mem hx
    obtain ⟨j, hj, rfl⟩ := List.getElem_of_mem hy
    have e1 : xs[i] = xs.getD i 0 := by simp [List.getD, hi]
    have e2 : xs[j] = xs.getD j 0 := by simp [List.getD, hj]
    rw [e1, e2] at hne ⊢
    rcases Nat.lt_trichotomy i j with h1 | h1 | h1
    · rw [dstI_comm]; exact h j hj i h1
    · subst h1; exact absurd rfl hne
    · exact h i hi j h1
  · intro h
    refine ⟨h8, fun j hj i hi => ?_⟩
    have := asc_get hA hi hj
    exact h _ (getD_mem hj) _ (getD_mem (by omega)) (by omega)
theorem cnt_one : ∀ z : Fin 256, z.val ≠ 0 → 1 ≤ cntI (z.val : Nat) := by decide +kernel
theorem dst_one {x y : Int} (h1 : 0 ≤ x) (h2 : x < 256) (h3 : 0 ≤ y) (h4 : y < 256) (hne : x ≠ y) : 1 ≤ dstI x y := by
  obtain ⟨d1, d2⟩ := xorI_lt h1 h2 h3 h4
  unfold xorI at d1 d2
  have h := cnt_one ⟨x.toNat ^^^ y.toNat, by omega⟩ (by
    show x.toNat ^^^ y.toNat ≠ 0
    intro e
    have h := congrArg (fun t => x.toNat ^^^ t) e
    simp only [← Nat.xor_assoc, Nat.xor_self, Nat.zero_xor, Nat.xor_zero] at h
    omega)
  exact h
theorem oth_xor : ∀ n : Fin 9, ∀ x : Fin 256, x.val < 2 ^ n.val → (2 ^ n.val - 1 - x.val) = x.val ^^^ (2 ^ n.val - 1) := by decide +kernel
theorem dst_oth {n x y : Int} (hx : setB n x = true) (hy : setB n y = true) : dstI (otherI n x) (otherI n y) = dstI x y := by
  obtain ⟨n1, n2, x1, x2⟩ := setB_yes hx
  obtain ⟨_, _, y1, y2⟩ := setB_yes hy
  have bx := setB_lt hx
  have bby := setB_lt hy
  have e : ((2 ^ n.toNat : Nat) : Int) = 2 ^ n.toNat := by simp
  have a := oth_xor ⟨n.toNat, by omega⟩ ⟨x.toNat, by omega⟩ (nat_lt_pow x2)
  have b := oth_xor ⟨n.toNat, by omega⟩ ⟨y.toNat, by omega⟩ (nat_lt_pow y2)
  simp only at a b
  have ha : (otherI n x).toNat = x.toNat ^^^ (2 ^ n.toNat - 1) := by rw [← a]; unfold otherI; omega
  have hb : (otherI n y).toNat = y.toNat ^^^ (2 ^ n.toNat - 1) := by rw [← b]; unfold otherI; omega
  unfold dstI xorI
  rw [ha, hb]
  congr 2
  rw [Nat.xor_assoc, Nat.xor_comm (2 ^ n.toNat - 1), Nat.xor_assoc, Nat.xor_self, Nat.xor_zero]
/-- the others of a family, in order. -/
def otL (n : Int) (xs : List Int) : List Int := sortL (xs.map (otherI n))
theorem ot_fam {n : Int} {xs : List Int} (hf : famB n xs = true) : famB n (otL n xs) = true := by
  obtain ⟨n1, n2, hs⟩ := famB_all hf
  refine famB_mk (ptsB_mk n1 n2) (fun z hz => ?_) (asc_sortL _)
  unfold otL at hz
  rw [mem_sortL] at hz
  obtain ⟨x, hx, rfl⟩ := List.mem_map.1 hz
  exact other_set (hs x hx)
theorem ot_eq {n : Int} {xs : List Int} (hf : famB n xs = true) : otL n xs = xs.reverse.map (otherI n) := by
  obtain ⟨n1, n2, hs⟩ := famB_all hf
  refine sortL_eq ?_ (fun z => by rw [List.mem_map, List.mem_map]; simp)
  exact asc_other (N := 2 ^ n.toNat) (famB_asc hf)
theorem ot_len {n : Int} {xs : List Int} (hf : famB n xs = true) : (otL n xs).length = xs.length := by rw [ot_eq hf]; simp
theorem ot_far {n : Int} {xs : List Int} (hf : famB n xs = true) (d : Int) : Far d (otL n xs) ↔ Far d xs := by
  obtain ⟨n1, n2, hs⟩ := famB_all hf
  have hinj : ∀ x y, otherI n x = otherI n y → x = y := fun x y h => by unfold otherI at h; omega
  rw [ot_eq hf]
  constructor
  · intro h x hx y hy hne
    rw [← dst_oth (hs x hx) (hs y hy)]
    exact h _ (List.mem_map_of_mem (List.mem_reverse.2 hx)) _ (List.mem_map_of_mem (List.mem_reverse.2 hy)) (fun e => hne (hinj _ _ e))
  · intro h x hx y hy hne
    obtain ⟨a, ha, rfl⟩ := List.mem_map.1 hx
    obtain ⟨b, hb, rfl⟩ := List.mem_map.1 hy
    have ha := List.mem_reverse.1 ha
    have hb := List.mem_reverse.1 hb
    rw [dst_oth (hs a ha) (hs b hb)]
    exact h a ha b hb (fun e => hne (by rw [e]))
theorem ld_oth {n : Int} {xs : List Int} (hf : famB n xs = true) : ldT 8 (otL n xs) (otL n xs).length = ldT 8 xs xs.length := by
  have h1 := (ldT_bd xs 8 (by omega) xs.length).2
  have h2 := (ldT_bd (otL n xs) 8 (by omega) (otL n xs).length).2
  have a := (far_iff (famB_asc (ot_fam hf)) h1).2 ((ot_far hf _).2 ((far_iff (famB_asc hf) h1).1 (Int.le_refl _)))
  have b := (far_iff (famB_asc hf) h2).2 ((ot_far hf _).1 ((far_iff (famB_asc (ot_fam hf)) h2).1 (Int.le_refl _)))
  omega
theorem ldV_oth {n : Int} {xs : List Int} (hf : famB n xs = true) : ldV n (otL n xs) = ldV n xs ∧ ldB n (otL n xs) = ldB n xs := by
  have hb : ldB n (otL n xs) = ldB n xs := by unfold ldB; rw [hf, ot_fam hf, ot_len hf]
  refine ⟨?_, hb⟩
  unfold ldV
  rw [hb, ld_oth hf]
theorem ld_one {n : Int} {xs : List Int} (hf : famB n xs = true) : 1 ≤ ldT 8 xs xs.length := (far_iff (famB_asc hf) (by omega)).2 (fun x hx y hy hne => dst_one (famB_lt hf x hx).1 (famB_lt hf x hx).2 (famB_lt hf y hy).1 (famB_lt hf y hy).2 hne)
/-- the sets of a ball, counted. -/
def blN (n s r : Int) : Nat := (upI (2 ^ n.toNat)).countP (fun x => decide (dstI x s ≤ r))
theorem flip_count {n : Int} (n1 : 1 ≤ n) (n2 : n ≤ 8) {p : Nat} (hp : (p : Int) < n) (P : Int → Bool) : (upI (2 ^ n.toNat)).countP (fun x => P (xorI x (2 ^ p))) = (upI (2 ^ n.toNat)).countP P := by
  have h256 := pow_le256 n1 n2
  have hp8 : p < 8 := by omega
  rw [count_split (fun s => hasB s (p : Nat)) (fun x => P (xorI x (2 ^ p))), count_split (fun s => hasB s (p : Nat)) P]
  have f : ∀ s, 0 ≤ s → s < 2 ^ n.toNat → hasB s (p : Nat) = true → xorI s (2 ^ p) = lessI s (p : Nat) ∧ xorI (lessI s (p : Nat)) (2 ^ p) = s := fun s s1 s2 hh => by
    obtain ⟨g, f, _⟩ := nb_facts s1 (by omega) hp8
    obtain ⟨f1, f2⟩ := f hh
    rw [hh, if_pos rfl] at g
    have hl := less_lt s1 (by omega) (show (0 : Int) ≤ (p : Nat) by omega) (show ((p : Nat) : Int) ≤ 7 by omega)
    obtain ⟨g2, _, _⟩ := nb_facts hl.1 hl.2 hp8
    rw [f1, if_neg (by simp), f2] at g2
    exact ⟨g, g2⟩
  have c1 := swap_pt n1 n2 hp (fun x => P (xorI x (2 ^ p))) P (fun s s1 s2 hh => by rw [(f s s1 s2 hh).1])
  have c2 := swap_pt n1 n2 hp P (fun x => P (xorI x (2 ^ p))) (fun s s1 s2 hh => by show P s = P (xorI (lessI s (p : Nat)) (2 ^ p)); rw [(f s s1 s2 hh).2])
  omega
theorem bl0_dec : ∀ n : Fin 9, ∀ r : Fin 9, 1 ≤ n.val → (((upI (2 ^ n.val)).countP (fun x => decide (dstI x 0 ≤ ((r.val : Nat) : Int))) : Nat) : Int) = bndN ((n.val : Nat) : Int) (r.val + 1) := by decide +kernel
theorem top_dec : ∀ s : Fin 256, s.val ≠ 0 → ∃ p : Fin 8, hasB (s.val : Nat) (p.val : Nat) = true ∧ lessI (s.val : Nat) (p.val : Nat) < (s.val : Nat) := by decide +kernel
theorem xorI_assoc (x y z : Int) : xorI (xorI x y) z = xorI x (xorI y z) := by unfold xorI; simp [Nat.xor_assoc]
theorem bl_size {n : Int} (n1 : 1 ≤ n) (n2 : n ≤ 8) {r : Int} (r0 : 0 ≤ r) (r8 : r ≤ 8) : ∀ (t : Nat) (s : Int), 0 ≤ s → s < 2 ^ n.toNat → s.toNat ≤ t → (blN n s r : Int) = bndN n (r.toNat + 1) := by
  have h256 := pow_le256 n1 n2
  intro t
  induction t with
  | zero =>
    intro s s0 s1 ht
    obtain rfl : s = 0 := by omega
    have h := bl0_dec ⟨n.toNat, by omega⟩ ⟨r.toNat, by omega⟩ (by show 1 ≤ n.toNat; omega)
    have e1 : ((n.toNat : Nat) : Int) = n := Int.toNat_of_nonneg (by omega)
    have e2 : ((r.toNat : Nat) : Int) = r := Int.toNat_of_nonneg r0
    simp only [e1, e2] at h
    exact h
  | succ t ih =>
    intro s s0 s1 ht
    by_cases hz : s = 0
    · exact ih s s0 s1 (by omega)
    · obtain ⟨p, hp, hlt⟩ := top_dec ⟨s.toNat, by omega⟩ (by show s.toNat ≠ 0; omega)
      have e : ((s.toNat : Nat) : Int) = s := Int.toNat_of_nonneg s0
      simp only [e] at hp hlt
      have hp8 : p.val < 8 := p.isLt
      have hl := less_lt s0 (by omega) (show (0 : Int) ≤ (p.val : Nat) by omega) (show ((p.val : Nat) : Int) ≤ 7 by omega)
      have hpn : ((p.val : Nat) : Int) < n := by
        refine Classical.byContradiction fun hc => ?_
        have := has_high ⟨n.toNat, by omega⟩ ⟨s.toNat, by omega⟩ p (nat_lt_pow s1) (by show n.toNat ≤ p.val; omega)
        simp only [e] at this
        rw [this] at hp; cases hp
      have h := ih (lessI s (p.val : Nat)) hl.1 (by omega) (by omega)
      rw [← h]
      obtain ⟨g, _, _⟩ := nb_facts s0 (by omega) hp8
      rw [hp, if_pos rfl] at g
      have hf := flip_count n1 n2 hpn (fun x => decide (dstI x s ≤ r))
      unfold blN
      rw [← hf]
      congr 1
      refine List.countP_congr (fun x _ => ?_)
      have e3 : dstI (xorI x (2 ^ p.val)) s = dstI x (lessI s (p.val : Nat)) := by
        unfold dstI
        rw [xorI_assoc, xorI_comm (2 ^ p.val) s, g]
      rw [e3]
theorem cnt_tri (a b : Nat) : ∀ k, cntTo ((a ^^^ b : Nat) : Int) k ≤ cntTo (a : Nat) k + cntTo (b : Nat) k
  | 0 => Nat.le_refl _
  | k + 1 => by
    have ih := cnt_tri a b k
    have e : hasB ((a ^^^ b : Nat) : Int) (k : Nat) = (hasB (a : Nat) (k : Nat)).xor (hasB (b : Nat) (k : Nat)) := by
      unfold hasB
      simp [Nat.testBit_xor]
    simp only [cntTo]
    rw [e]
    cases hasB (a : Nat) (k : Nat) <;> cases hasB (b : Nat) (k : Nat) <;> simp <;> omega
theorem dst_tri {x s t : Int} (x0 : 0 ≤ x) (x1 : x < 256) (s0 : 0 ≤ s) (s1 : s < 256) (t0 : 0 ≤ t) (t1 : t < 256) : dstI s t ≤ dstI x s + dstI x t := by
  obtain ⟨a1, a2⟩ := xorI_lt x0 x1 s0 s1
  obtain ⟨b1, b2⟩ := xorI_lt x0 x1 t0 t1
  unfold xorI at a1 a2 b1 b2
  have h : cntI (((x.toNat ^^^ s.toNat) ^^^ (x.toNat ^^^ t.toNat) : Nat) : Int) ≤ cntI ((x.toNat ^^^ s.toNat : Nat) : Int) + cntI ((x.toNat ^^^ t.toNat : Nat) : Int) := by
    unfold cntI
    have := cnt_tri (x.toNat ^^^ s.toNat) (x.toNat ^^^ t.toNat) 8
    omega
  have e : (x.toNat ^^^ s.toNat) ^^^ (x.toNat ^^^ t.toNat) = s.toNat ^^^ t.toNat := by
    rw [Nat.xor_comm x.toNat s.toNat, Nat.xor_assoc, ← Nat.xor_assoc x.toNat x.toNat, Nat.xor_self, Nat.zero_xor]
  simp only [e] at h
  exact h
theorem pack {n r : Int} (n1 : 1 ≤ n) (n2 : n ≤ 8) (r0 : 0 ≤ r) (r8 : r ≤ 8) : ∀ xs : List Int, xs.Nodup → (∀ z ∈ xs, setB n z = true) → Far (2 * r + 1) xs → (xs.length : Int) * bndN n (r.toNat + 1) ≤ (((upI (2 ^ n.toNat)).countP (fun x => xs.any (fun s => decide (dstI x s ≤ r))) : Nat) : Int)
  | [], _, _, _ => by simp
  | s :: xs, hnd, hs, hf => by
    rw [List.nodup_cons] at hnd
    have ih := pack n1 n2 r0 r8 xs hnd.2 (fun z hz => hs z (List.mem_cons_of_mem _ hz)) (fun x hx y hy hne => hf x (List.mem_cons_of_mem _ hx) y (List.mem_cons_of_mem _ hy) hne)
    obtain ⟨_, _, s0, s1⟩ := setB_yes (hs s (List.mem_cons_self ..))
    have hsb := setB_lt (hs s (List.mem_cons_self ..))
    have h1 := bl_size n1 n2 r0 r8 s.toNat s s0 s1 (Nat.le_refl _)
    have h256 := pow_le256 n1 n2
    have e : ((2 ^ n.toNat : Nat) : Int) = 2 ^ n.toNat := by simp
    have h2 := countP_or (p := fun x => decide (dstI x s ≤ r)) (q := fun x => xs.any (fun s => decide (dstI x s ≤ r))) (upI (2 ^ n.toNat)) (fun x hx hp => by
      have hx2 := mem_upI.1 hx
      have hp := of_decide_eq_true hp
      show xs.any _ = false
      rw [List.any_eq_false]
      intro t ht hq
      have hq := of_decide_eq_true hq
      have htb := setB_lt (hs t (List.mem_cons_of_mem _ ht))
      have h3 := hf s (List.mem_cons_self ..) t (List.mem_cons_of_mem _ ht) (fun e => hnd.1 (e ▸ ht))
      have h4 := dst_tri hx2.1 (by omega) hsb.1 hsb.2 htb.1 htb.2
      omega)
    have e2 : (upI (2 ^ n.toNat)).countP (fun x => (s :: xs).any (fun s => decide (dstI x s ≤ r))) = (upI (2 ^ n.toNat)).countP (fun z => decide (dstI z s ≤ r) || xs.any (fun s => decide (dstI z s ≤ r))) := by simp [List.any_cons]
    rw [e2, h2, List.length_cons, Int.natCast_add, Int.natCast_add, Int.add_mul, ← h1]
    unfold blN
    unfold blN at h1
    rw [h1]
    omega
theorem pack_fam {n : Int} {xs : List Int} (hf : famB n xs = true) : (xs.length : Int) * bndN n (((ldT 8 xs xs.length - 1) / 2).toNat + 1) ≤ 2 ^ n.toNat := by
  obtain ⟨n1, n2, hs⟩ := famB_all hf
  have h1 := ld_one hf
  have h2 := (ldT_bd xs 8 (by omega) xs.length).2
  have hfar := (far_iff (famB_asc hf) h2).1 (Int.le_refl _)
  have hnd : xs.Nodup := (famB_asc hf).imp (fun h => by omega)
  have h3 := pack n1 n2 (r := (ldT 8 xs xs.length - 1) / 2) (by omega) (by omega) xs hnd hs (fun x hx y hy hne => by have := hfar x hx y hy hne; omega)
  have h4 := List.countP_le_length (p := fun x => xs.any (fun s => decide (dstI x s ≤ (ldT 8 xs xs.length - 1) / 2))) (l := upI (2 ^ n.toNat))
  rw [upI_len] at h4
  have e : ((2 ^ n.toNat : Nat) : Int) = 2 ^ n.toNat := by simp
  omega
end Go.Proofs.Ytcadlfljlobjjaa
