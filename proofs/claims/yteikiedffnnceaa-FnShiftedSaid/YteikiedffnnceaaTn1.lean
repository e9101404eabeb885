/- Shifts and pressings, one behind the other: plain mathematics, no program in it. -/
import Derived.Test.YteikiedffnnceaaFam
import Derived.Test.YteikiedffnnceaaSets2
namespace Go.Proofs.Yteikiedffnnceaa
open Go.RowKit

/-- what a set becomes, unless that is there already. -/
def rpI (φ : Int → Int) (xs : List Int) (x : Int) : Int := if memB (φ x) xs then x else φ x
/-- the family behind a turn. -/
def tnL (φ : Int → Int) (xs : List Int) : List Int := sortL (xs.map (rpI φ xs))
/-- the family behind all turns. -/
def rdL (φs : List (Int → Int)) (xs : List Int) : List Int := φs.foldl (fun f φ => tnL φ f) xs
/-- the turn takes sets of n points to such sets. -/
def SetT (n : Int) (φ : Int → Int) : Prop := ∀ x, setB n x = true → setB n (φ x) = true
/-- and to none that is greater. -/
def LowT (n : Int) (φ : Int → Int) : Prop := ∀ x, setB n x = true → φ x ≤ x
theorem rp_set {n : Int} {φ : Int → Int} (h : SetT n φ) {xs : List Int} {x : Int} (hx : setB n x = true) : setB n (rpI φ xs x) = true := by
  unfold rpI; split
  · exact hx
  · exact h x hx
theorem tn_fam {n : Int} {φ : Int → Int} (h : SetT n φ) {xs : List Int} (hf : famB n xs = true) : famB n (tnL φ xs) = true := by
  obtain ⟨n1, n2, hz⟩ := famB_all hf
  refine famB_mk (ptsB_mk n1 n2) (fun z hz' => ?_) (asc_sortL _)
  obtain ⟨y, hy, rfl⟩ := List.mem_map.1 (mem_sortL.1 hz')
  exact rp_set h (hz y hy)
theorem rd_fam {n : Int} {φs : List (Int → Int)} : ∀ {xs : List Int}, (∀ φ ∈ φs, SetT n φ) → famB n xs = true → famB n (rdL φs xs) = true := by
  induction φs with
  | nil => exact fun _ hf => hf
  | cons φ φs ih => exact fun h hf => ih (fun ψ hψ => h ψ (List.mem_cons_of_mem _ hψ)) (tn_fam (h φ List.mem_cons_self) hf)
theorem rd_cons (φ : Int → Int) (φs : List (Int → Int)) (xs : List Int) : rdL (φ :: φs) xs = rdL φs (tnL φ xs) := rfl
theorem rd_snoc (φ : Int → Int) (φs : List (Int → Int)) (xs : List Int) : rdL (φs ++ [φ]) xs = tnL φ (rdL φs xs) := by unfold rdL; rw [List.foldl_append]; rfl

/-- the sum of a list. -/
def smI : List Int → Int
  | [] => 0
  | x :: xs => x + smI xs
theorem smI_app (xs ys : List Int) : smI (xs ++ ys) = smI xs + smI ys := by
  induction xs with
  | nil => simp [smI]
  | cons x xs ih => simp only [List.cons_append, smI, ih]; omega
theorem smI_ins {x : Int} (h : 0 ≤ x) (xs : List Int) : smI (insI x xs) ≤ smI xs + x := by
  unfold insI; split
  · omega
  · have := smI_app (xs.take (plN x xs)) (xs.drop (plN x xs))
    rw [List.take_append_drop] at this
    rw [smI_app]; simp only [smI]; omega
theorem smI_fold (xs : List Int) : ∀ (a : List Int), (∀ x ∈ xs, 0 ≤ x) → smI (xs.foldl (fun a x => insI x a) a) ≤ smI a + smI xs := by
  induction xs with
  | nil => intro a _; simp [smI]
  | cons x xs ih =>
    intro a h
    have h1 := ih (insI x a) (fun y hy => h y (List.mem_cons_of_mem _ hy))
    have h2 := smI_ins (h x List.mem_cons_self) a
    simp only [List.foldl_cons, smI]; omega
theorem smI_sort {xs : List Int} (h : ∀ x ∈ xs, 0 ≤ x) : smI (sortL xs) ≤ smI xs := by
  have := smI_fold xs [] h
  simp only [smI] at this
  unfold sortL; omega
theorem smI_map {f : Int → Int} {xs : List Int} : (∀ x ∈ xs, f x ≤ x) → smI (xs.map f) ≤ smI xs := by
  induction xs with
  | nil => intro _; simp [smI]
  | cons x xs ih =>
    intro h
    have h1 := ih (fun y hy => h y (List.mem_cons_of_mem _ hy))
    have h2 := h x List.mem_cons_self
    simp only [List.map_cons, smI]; omega
theorem smI_map_eq {f : Int → Int} {xs : List Int} : (∀ x ∈ xs, f x ≤ x) → smI xs ≤ smI (xs.map f) → xs.map f = xs := by
  induction xs with
  | nil => intro _ _; rfl
  | cons x xs ih =>
    intro h he
    have h1 := smI_map (f := f) (xs := xs) (fun y hy => h y (List.mem_cons_of_mem _ hy))
    have h2 := h x List.mem_cons_self
    simp only [List.map_cons, smI] at he
    rw [List.map_cons, ih (fun y hy => h y (List.mem_cons_of_mem _ hy)) (by omega)]
    congr 1; omega
theorem smI_nonneg {xs : List Int} : (∀ x ∈ xs, 0 ≤ x) → 0 ≤ smI xs := by
  induction xs with
  | nil => intro _; simp [smI]
  | cons x xs ih =>
    intro h
    have h1 := ih (fun y hy => h y (List.mem_cons_of_mem _ hy))
    have h2 := h x List.mem_cons_self
    simp only [smI]; omega
theorem rp_le {n : Int} {φ : Int → Int} (h : LowT n φ) {xs : List Int} {x : Int} (hx : setB n x = true) : rpI φ xs x ≤ x := by
  unfold rpI; split
  · omega
  · exact h x hx
theorem tn_sum {n : Int} {φ : Int → Int} (hs : SetT n φ) {xs : List Int} (hf : famB n xs = true) : smI (tnL φ xs) ≤ smI (xs.map (rpI φ xs)) := by
  refine smI_sort fun z hz => ?_
  obtain ⟨y, hy, rfl⟩ := List.mem_map.1 hz
  exact (setB_lt (rp_set hs ((famB_all hf).2.2 y hy))).1
theorem tn_le {n : Int} {φ : Int → Int} (hs : SetT n φ) (h : LowT n φ) {xs : List Int} (hf : famB n xs = true) : smI (tnL φ xs) ≤ smI xs := by
  have h1 := tn_sum hs hf
  have h2 := smI_map (f := rpI φ xs) (xs := xs) (fun x hx => rp_le h ((famB_all hf).2.2 x hx))
  omega
theorem tn_lt {n : Int} {φ : Int → Int} (hs : SetT n φ) (h : LowT n φ) {xs : List Int} (hf : famB n xs = true) (hne : tnL φ xs ≠ xs) : smI (tnL φ xs) < smI xs := by
  have h1 := tn_sum hs hf
  have h2 := smI_map_eq (f := rpI φ xs) (xs := xs) (fun x hx => rp_le h ((famB_all hf).2.2 x hx))
  by_cases hc : smI xs ≤ smI (xs.map (rpI φ xs))
  · exact absurd (by unfold tnL; rw [h2 hc]; exact sortL_asc (famB_asc hf)) hne
  · omega
/-- turns of sets that lower them. -/
def TurnsT (n : Int) (φs : List (Int → Int)) : Prop := ∀ φ ∈ φs, SetT n φ ∧ LowT n φ
theorem rd_le {n : Int} {φs : List (Int → Int)} : ∀ {xs : List Int}, TurnsT n φs → famB n xs = true → smI (rdL φs xs) ≤ smI xs := by
  induction φs with
  | nil => exact fun _ _ => Int.le_refl _
  | cons φ φs ih =>
    intro xs h hf
    have hp := h φ List.mem_cons_self
    have h1 := ih (fun ψ hψ => h ψ (List.mem_cons_of_mem _ hψ)) (tn_fam hp.1 hf)
    have h2 := tn_le hp.1 hp.2 hf
    rw [rd_cons]; omega
theorem rd_same {φs : List (Int → Int)} {xs : List Int} : (∀ φ ∈ φs, tnL φ xs = xs) → rdL φs xs = xs := by
  induction φs with
  | nil => exact fun _ => rfl
  | cons φ φs ih =>
    intro h
    rw [rd_cons, h φ List.mem_cons_self]
    exact ih (fun ψ hψ => h ψ (List.mem_cons_of_mem _ hψ))
theorem rd_lt {n : Int} {φs : List (Int → Int)} {xs : List Int} (h : TurnsT n φs) (hf : famB n xs = true) : (∃ φ ∈ φs, tnL φ xs ≠ xs) → smI (rdL φs xs) < smI xs := by
  induction φs with
  | nil => rintro ⟨φ, hφ, _⟩; cases hφ
  | cons φ φs ih =>
    rintro ⟨ψ, hψ, hne⟩
    have hp := h φ List.mem_cons_self
    have hr : TurnsT n φs := fun ψ hψ => h ψ (List.mem_cons_of_mem _ hψ)
    rw [rd_cons]
    by_cases he : tnL φ xs = xs
    · rw [he]
      refine ih hr ⟨ψ, ?_, hne⟩
      rcases List.mem_cons.1 hψ with rfl | hm
      · exact absurd he hne
      · exact hm
    · have h1 := rd_le hr (tn_fam hp.1 hf)
      have h2 := tn_lt hp.1 hp.2 hf he
      omega
theorem rd_one {n : Int} {φs : List (Int → Int)} {xs : List Int} (h : TurnsT n φs) (hf : famB n xs = true) (hr : rdL φs xs = xs) : ∀ φ ∈ φs, tnL φ xs = xs := by
  intro φ hφ
  refine Classical.byContradiction fun hne => ?_
  have := rd_lt h hf ⟨φ, hφ, hne⟩
  rw [hr] at this; omega

/-- j rounds. -/
def itR (φs : List (Int → Int)) : Nat → List Int → List Int
  | 0, xs => xs
  | j + 1, xs => rdL φs (itR φs j xs)
theorem it_fam {n : Int} {φs : List (Int → Int)} {xs : List Int} (h : TurnsT n φs) (hf : famB n xs = true) : ∀ j, famB n (itR φs j xs) = true
  | 0 => hf
  | j + 1 => rd_fam (fun φ hφ => (h φ hφ).1) (it_fam h hf j)
theorem it_fix {φs : List (Int → Int)} {xs : List Int} {j : Nat} (h : rdL φs (itR φs j xs) = itR φs j xs) : ∀ m, itR φs (j + m) xs = itR φs j xs
  | 0 => rfl
  | m + 1 => by
    show rdL φs (itR φs (j + m) xs) = _
    rw [it_fix h m, h]
open Classical in
/-- the family that is left when a round changes nothing. -/
noncomputable def stL (φs : List (Int → Int)) (xs : List Int) : List Int := if h : ∃ j, rdL φs (itR φs j xs) = itR φs j xs then itR φs h.choose xs else xs
theorem st_eq {φs : List (Int → Int)} {xs : List Int} {j : Nat} (h : rdL φs (itR φs j xs) = itR φs j xs) : itR φs j xs = stL φs xs := by
  have hex : ∃ j, rdL φs (itR φs j xs) = itR φs j xs := ⟨j, h⟩
  unfold stL
  rw [dif_pos hex]
  have hc := hex.choose_spec
  rcases Nat.le_total j hex.choose with hl | hl
  · have := it_fix h (hex.choose - j)
    rw [Nat.add_sub_cancel' hl] at this; exact this.symm
  · have := it_fix hc (j - hex.choose)
    rw [Nat.add_sub_cancel' hl] at this; exact this
theorem st_in {n : Int} {φs : List (Int → Int)} {xs : List Int} (h : TurnsT n φs) (hf : famB n xs = true) : famB n (stL φs xs) = true := by
  unfold stL; split
  · exact it_fam h hf _
  · exact hf

/-- the shifts to lesser points below the row i, and the first k of that row. -/
def shTo (i k : Nat) : List (Int → Int) := ((upI i).flatMap fun a => (upI a.toNat).map fun b x => movedI x a b) ++ (upI k).map fun b x => movedI x i b
/-- all of them for n points. -/
def shL (n : Int) : List (Int → Int) := shTo n.toNat 0
theorem shTo_k (i k : Nat) : shTo i (k + 1) = shTo i k ++ [fun x => movedI x i k] := by
  unfold shTo; rw [upI_succ k, List.map_append, List.append_assoc]; rfl
theorem shTo_i (i : Nat) : shTo (i + 1) 0 = shTo i i := by
  unfold shTo; rw [upI_succ i, List.flatMap_append]; simp [upI]
theorem shTo_len0 : (shTo 0 0) = [] := rfl
/-- the pressings. -/
def prTo (p : Nat) : List (Int → Int) := (upI p).map fun p x => lessI x p
def prL (n : Int) : List (Int → Int) := prTo n.toNat
theorem prTo_succ (p : Nat) : prTo (p + 1) = prTo p ++ [fun x => lessI x p] := by unfold prTo; rw [upI_succ, List.map_append]; rfl
theorem mem_shTo {i k : Nat} {φ : Int → Int} (h : φ ∈ shTo i k) (hk : k ≤ i) : ∃ a b : Nat, a ≤ i ∧ (k = 0 → a < i) ∧ b < a ∧ φ = fun x => movedI x a b := by
  unfold shTo at h
  rcases List.mem_append.1 h with h | h
  · obtain ⟨a, ha, h⟩ := List.mem_flatMap.1 h
    obtain ⟨b, hb, rfl⟩ := List.mem_map.1 h
    have h1 := mem_upI.1 ha
    have h2 := mem_upI.1 hb
    refine ⟨a.toNat, b.toNat, by omega, fun _ => by omega, by omega, ?_⟩
    rw [Int.toNat_of_nonneg h1.1, Int.toNat_of_nonneg h2.1]
  · obtain ⟨b, hb, rfl⟩ := List.mem_map.1 h
    have h2 := mem_upI.1 hb
    refine ⟨i, b.toNat, Nat.le_refl _, fun e => by omega, by omega, ?_⟩
    rw [Int.toNat_of_nonneg h2.1]
theorem mv_dec : ∀ s : Fin 256, ∀ i : Fin 8, ∀ k : Fin 8, (movedI (movedI s.val i.val k.val) i.val k.val = movedI s.val i.val k.val ∧ (k.val ≤ i.val → movedI s.val i.val k.val ≤ s.val) ∧ 0 ≤ movedI s.val i.val k.val) ∧ ∀ n : Fin 9, i.val < n.val → k.val < n.val → s.val < 2 ^ n.val → movedI s.val i.val k.val < 2 ^ n.val := by decide +kernel
theorem mv_facts {n i k s : Int} (h : setB n s = true) (hi : ptB n i = true) (hk : ptB n k = true) : movedI (movedI s i k) i k = movedI s i k ∧ (k ≤ i → movedI s i k ≤ s) ∧ setB n (movedI s i k) = true := by
  have s0 := setB_lt h
  obtain ⟨n1, n2, s1, s2⟩ := setB_yes h
  have i1 := ptB_yes hi
  have k1 := ptB_yes hk
  have e1 : ((s.toNat : Nat) : Int) = s := Int.toNat_of_nonneg s0.1
  have e2 : ((i.toNat : Nat) : Int) = i := Int.toNat_of_nonneg i1.1
  have e3 : ((k.toNat : Nat) : Int) = k := Int.toNat_of_nonneg k1.1
  obtain ⟨⟨a, b, c⟩, d⟩ := mv_dec ⟨s.toNat, by omega⟩ ⟨i.toNat, by omega⟩ ⟨k.toNat, by omega⟩
  have d' := d ⟨n.toNat, by omega⟩ (by show i.toNat < n.toNat; omega) (by show k.toNat < n.toNat; omega) (by
    show s.toNat < 2 ^ n.toNat
    have : ((s.toNat : Nat) : Int) < ((2 ^ n.toNat : Nat) : Int) := by rw [e1]; simpa using s2
    exact Int.ofNat_lt.1 this)
  simp only [e1, e2, e3] at a b c d'
  exact ⟨a, fun h => b (by omega), setB_mk ⟨n1, n2, c, d'⟩⟩
theorem ls_dec : ∀ s : Fin 256, ∀ p : Fin 8, 0 ≤ lessI s.val p.val ∧ lessI s.val p.val ≤ s.val := by decide +kernel
theorem ls_facts {n p s : Int} (h : setB n s = true) (hp : ptB n p = true) : lessI s p ≤ s ∧ setB n (lessI s p) = true := by
  have s0 := setB_lt h
  obtain ⟨n1, n2, s1, s2⟩ := setB_yes h
  have p1 := ptB_yes hp
  have e1 : ((s.toNat : Nat) : Int) = s := Int.toNat_of_nonneg s0.1
  have e2 : ((p.toNat : Nat) : Int) = p := Int.toNat_of_nonneg p1.1
  obtain ⟨a, b⟩ := ls_dec ⟨s.toNat, by omega⟩ ⟨p.toNat, by omega⟩
  simp only [e1, e2] at a b
  exact ⟨b, setB_mk ⟨n1, n2, a, by omega⟩⟩
theorem mv_set {n i k : Int} (hi : ptB n i = true) (hk : ptB n k = true) : SetT n (fun x => movedI x i k) := fun _ hx => (mv_facts hx hi hk).2.2
theorem ls_set {n p : Int} (hp : ptB n p = true) : SetT n (fun x => lessI x p) := fun _ hx => (ls_facts hx hp).2
theorem shL_turns (n : Int) : TurnsT n (shL n) := by
  intro φ hφ
  obtain ⟨a, b, h1, h2, h3, rfl⟩ := mem_shTo hφ (Nat.zero_le _)
  have h2 := h2 rfl
  have hi : ptB n (a : Nat) = true := ptB_mk (by omega) (by omega)
  have hk : ptB n (b : Nat) = true := ptB_mk (by omega) (by omega)
  exact ⟨mv_set hi hk, fun x hx => (mv_facts hx hi hk).2.1 (by omega)⟩
theorem prL_turns (n : Int) : TurnsT n (prL n) := by
  intro φ hφ
  obtain ⟨p, hp, rfl⟩ := List.mem_map.1 hφ
  have h1 := mem_upI.1 hp
  have hk : ptB n p = true := ptB_mk (by omega) (by omega)
  exact ⟨ls_set hk, fun x hx => (ls_facts hx hk).1⟩
theorem tn_twice {n i k : Int} (hi : ptB n i = true) (hk : ptB n k = true) {xs : List Int} (hf : famB n xs = true) : tnL (fun x => movedI x i k) (tnL (fun x => movedI x i k) xs) = tnL (fun x => movedI x i k) xs := by
  have hz := (famB_all hf).2.2
  have hmap : (tnL (fun x => movedI x i k) xs).map (rpI (fun x => movedI x i k) (tnL (fun x => movedI x i k) xs)) = tnL (fun x => movedI x i k) xs := by
    refine (List.map_congr_left (g := id) fun y hy => ?_).trans (List.map_id _)
    obtain ⟨x, hx, hxy⟩ := List.mem_map.1 (mem_sortL.1 hy)
    show rpI _ _ y = y
    unfold rpI at hxy
    split at hxy
    · next hm =>
      subst hxy
      have hin : movedI x i k ∈ tnL (fun x => movedI x i k) xs := by
        refine mem_sortL.2 (List.mem_map.2 ⟨movedI x i k, memB_yes hm, ?_⟩)
        have he := (mv_facts (hz x hx) hi hk).1
        unfold rpI
        simp only [he, ite_self]
      unfold rpI
      rw [if_pos (memB_mk hin)]
    · have he := (mv_facts (hz x hx) hi hk).1
      unfold rpI
      rw [← hxy]
      simp only [he, ite_self]
  have : ∀ ys : List Int, ys = tnL (fun x => movedI x i k) xs → tnL (fun x => movedI x i k) ys = sortL (ys.map (rpI (fun x => movedI x i k) ys)) := fun ys _ => rfl
  rw [this _ rfl, hmap]
  exact sortL_asc (asc_sortL _)
end Go.Proofs.Yteikiedffnnceaa
