/- Texts merged: XTn1 XTn2 XTn3 XTn4 XTn5 XTn6 XTn7 XTn8. -/
import Derived.Test.YthljimmhgpbmbabFam
import Derived.Test.YthljimmhgpbmbabSets2
import Derived.Test.YthljimmhgpbmbabFams8
import Derived.Test.YthljimmhgpbmbabLawsC
import Derived.Deep.LoopGhost
import Derived.BigQuiet
import Derived.Maps.AppendAt
import Derived.Deep.RegionHeld
import Derived.WalkMore
import Derived.Deep.RegionWith
namespace Go.Proofs.Ythljimmhgpbmbab
section
/- Shifts and pressings, one behind the other: plain mathematics, no program in it. -/
open Go.RowKit

/-- what a set becomes, unless that is there already. -/
def rpI (φ : Int → Int) (xs : List Int) (x : Int) : Int := if memB (φ x) xs then x else φ x
/-- the family behind a turn. -/
def tnL (φ : Int → Int) (xs : List Int) : List Int := sortL (xs.map (rpI φ xs))
/-- the family behind all turns. -/
def rdL (φs : List (Int → Int)) (xs : List Int) : List Int := φs.foldl (fun f φ => tnL φ f) xs
/-- the turn takes sets of n points to such sets. -/
def SetT (n : Int) (φ : Int → Int) : Prop := ∀ x, setB n x = true → setB n (φ x) = true
/-- and to none that is greater. -/
def LowT (n : Int) (φ : Int → Int) : Prop := ∀ x, setB n x = true → φ x ≤ x
theorem rp_set {n : Int} {φ : Int → Int} (h : SetT n φ) {xs : List Int} {x : Int} (hx : setB n x = true) : setB n (rpI φ xs x) = true := by
  unfold rpI; split
  · exact hx
  · exact h x hx
theorem tn_fam {n : Int} {φ : Int → Int} (h : SetT n φ) {xs : List Int} (hf : famB n xs = true) : famB n (tnL φ xs) = true := by
  obtain ⟨n1, n2, hz⟩ := famB_all hf
  refine famB_mk (ptsB_mk n1 n2) (fun z hz' => ?_) (asc_sortL _)
  obtain ⟨y, hy, rfl⟩ := List.mem_map.1 (mem_sortL.1 hz')
  exact rp_set h (hz y hy)
theorem rd_fam {n : Int} {φs : List (Int → Int)} : ∀ {xs : List Int}, (∀ φ ∈ φs, SetT n φ) → famB n xs = true → famB n (rdL φs xs) = true := by
  induction φs with
  | nil => exact fun _ hf => hf
  | cons φ φs ih => exact fun h hf => ih (fun ψ hψ => h ψ (List.mem_cons_of_mem _ hψ)) (tn_fam (h φ List.mem_cons_self) hf)
theorem rd_cons (φ : Int → Int) (φs : List (Int → Int)) (xs : List Int) : rdL (φ :: φs) xs = rdL φs (tnL φ xs) := rfl
theorem rd_snoc (φ : Int → Int) (φs : List (Int → Int)) (xs : List Int) : rdL (φs ++ [φ]) xs = tnL φ (rdL φs xs) := by unfold rdL; rw [List.foldl_append]; rfl

/-- the sum of a list. -/
def smI : List Int → Int
  | [] => 0
  | x :: xs => x + smI xs
theorem smI_app (xs ys : List Int) : smI (xs ++ ys) = smI xs + smI ys := by
  induction xs with
  | nil => simp [smI]
  | cons x xs ih => simp only [List.cons_append, smI, ih]; omega
theorem smI_ins {x : Int} (h : 0 ≤ x) (xs : List Int) : smI (insI x xs) ≤ smI xs + x := by
  unfold insI; split
  · omega
  · have := smI_app (xs.take (plN x xs)) (xs.drop (plN x xs))
    rw [List.take_append_drop] at this
    rw [smI_app]; simp only [smI]; omega
theorem smI_fold (xs : List Int) : ∀ (a : List Int), (∀ x ∈ xs, 0 ≤ x) → smI (xs.foldl (fun a x => insI x a) a) ≤ smI a + smI xs := by
  induction xs with
  | nil => intro a _; simp [smI]
  | cons x xs ih =>
    intro a h
    have h1 := ih (insI x a) (fun y hy => h y (List.mem_cons_of_mem _ hy))
    have h2 := smI_ins (h x List.mem_cons_self) a
    simp only [List.foldl_cons, smI]; omega
theorem smI_sort {xs : List Int} (h : ∀ x ∈ xs, 0 ≤ x) : smI (sortL xs) ≤ smI xs := by
  have := smI_fold xs [] h
  simp only [smI] at this
  unfold sortL; omega
theorem smI_map {f : Int → Int} {xs : List Int} : (∀ x ∈ xs, f x ≤ x) → smI (xs.map f) ≤ smI xs := by
  induction xs with
  | nil => intro _; simp [smI]
  | cons x xs ih =>
    intro h
    have h1 := ih (fun y hy => h y (List.mem_cons_of_mem _ hy))
    have h2 := h x List.mem_cons_self
    simp only [List.map_cons, smI]; omega
theorem smI_map_eq {f : Int → Int} {xs : List Int} : (∀ x ∈ xs, f x ≤ x) → smI xs ≤ smI (xs.map f) → xs.map f = xs := by
  induction xs with
  | nil => intro _ _; rfl
  | cons x xs ih =>
    intro h he
    have h1 := smI_map (f := f) (xs := xs) (fun y hy => h y (List.mem_cons_of_mem _ hy))
    have h2 := h x List.mem_cons_self
    simp only [List.map_cons, smI] at he
    rw [List.map_cons, ih (fun y hy => h y (List.mem_cons_of_mem _ hy)) (by omega)]
    congr 1; omega
theorem smI_nonneg {xs : List Int} : (∀ x ∈ xs, 0 ≤ x) → 0 ≤ smI xs := by
  induction xs with
  | nil => intro _; simp [smI]
  | cons x xs ih =>
    intro h
    have h1 := ih (fun y hy => h y (List.mem_cons_of_mem _ hy))
    have h2 := h x List.mem_cons_self
    simp only [smI]; omega
theorem rp_le {n : Int} {φ : Int → Int} (h : LowT n φ) {xs : List Int} {x : Int} (hx : setB n x = true) : rpI φ xs x ≤ x := by
  unfold rpI; split
  · omega
  · exact h x hx
theorem tn_sum {n : Int} {φ : Int → Int} (hs : SetT n φ) {xs : List Int} (hf : famB n xs = true) : smI (tnL φ xs) ≤ smI (xs.map (rpI φ xs)) := by
  refine smI_sort fun z hz => ?_
  obtain ⟨y, hy, rfl⟩ := List.mem_map.1 hz
  exact (setB_lt (rp_set hs ((famB_all hf).2.2 y hy))).1
theorem tn_le {n : Int} {φ : Int → Int} (hs : SetT n φ) (h : LowT n φ) {xs : List Int} (hf : famB n xs = true) : smI (tnL φ xs) ≤ smI xs := by
  have h1 := tn_sum hs hf
  have h2 := smI_map (f := rpI φ xs) (xs := xs) (fun x hx => rp_le h ((famB_all hf).2.2 x hx))
  omega
theorem tn_lt {n : Int} {φ : Int → Int} (hs : SetT n φ) (h : LowT n φ) {xs : List Int} (hf : famB n xs = true) (hne : tnL φ xs ≠ xs) : smI (tnL φ xs) < smI xs := by
  have h1 := tn_sum hs hf
  have h2 := smI_map_eq (f := rpI φ xs) (xs := xs) (fun x hx => rp_le h ((famB_all hf).2.2 x hx))
  by_cases hc : smI xs ≤ smI (xs.map (rpI φ xs))
  · exact absurd (by unfold tnL; rw [h2 hc]; exact sortL_asc (famB_asc hf)) hne
  · omega
/-- turns of sets that lower them. -/
def TurnsT (n : Int) (φs : List (Int → Int)) : Prop := ∀ φ ∈ φs, SetT n φ ∧ LowT n φ
theorem rd_le {n : Int} {φs : List (Int → Int)} : ∀ {xs : List Int}, TurnsT n φs → famB n xs = true → smI (rdL φs xs) ≤ smI xs := by
  induction φs with
  | nil => exact fun _ _ => Int.le_refl _
  | cons φ φs ih =>
    intro xs h hf
    have hp := h φ List.mem_cons_self
    have h1 := ih (fun ψ hψ => h ψ (List.mem_cons_of_mem _ hψ)) (tn_fam hp.1 hf)
    have h2 := tn_le hp.1 hp.2 hf
    rw [rd_cons]; omega
theorem rd_same {φs : List (Int → Int)} {xs : List Int} : (∀ φ ∈ φs, tnL φ xs = xs) → rdL φs xs = xs := by
  induction φs with
  | nil => exact fun _ => rfl
  | cons φ φs ih =>
    intro h
    rw [rd_cons, h φ List.mem_cons_self]
    exact ih (fun ψ hψ => h ψ (List.mem_cons_of_mem _ hψ))
theorem rd_lt {n : Int} {φs : List (Int → Int)} {xs : List Int} (h : TurnsT n φs) (hf : famB n xs = true) : (∃ φ ∈ φs, tnL φ xs ≠ xs) → smI (rdL φs xs) < smI xs := by
  induction φs with
  | nil => rintro ⟨φ, hφ, _⟩; cases hφ
  | cons φ φs ih =>
    rintro ⟨ψ, hψ, hne⟩
    have hp := h φ List.mem_cons_self
    have hr : TurnsT n φs := fun ψ hψ => h ψ (List.mem_cons_of_mem _ hψ)
    rw [rd_cons]
    by_cases he : tnL φ xs = xs
    · rw [he]
      refine ih hr ⟨ψ, ?_, hne⟩
      rcases List.mem_cons.1 hψ with rfl | hm
      · exact absurd he hne
      · exact hm
    · have h1 := rd_le hr (tn_fam hp.1 hf)
      have h2 := tn_lt hp.1 hp.2 hf he
      omega
theorem rd_one {n : Int} {φs : List (Int → Int)} {xs : List Int} (h : TurnsT n φs) (hf : famB n xs = true) (hr : rdL φs xs = xs) : ∀ φ ∈ φs, tnL φ xs = xs := by
  intro φ hφ
  refine Classical.byContradiction fun hne => ?_
  have := rd_lt h hf ⟨φ, hφ, hne⟩
  rw [hr] at this; omega

/-- j rounds. -/
def itR (φs : List (Int → Int)) : Nat → List Int → List Int
  | 0, xs => xs
  | j + 1, xs => rdL φs (itR φs j xs)
theorem it_fam {n : Int} {φs : List (Int → Int)} {xs : List Int} (h : TurnsT n φs) (hf : famB n xs = true) : ∀ j, famB n (itR φs j xs) = true
  | 0 => hf
  | j + 1 => rd_fam (fun φ hφ => (h φ hφ).1) (it_fam h hf j)
theorem it_fix {φs : List (Int → Int)} {xs : List Int} {j : Nat} (h : rdL φs (itR φs j xs) = itR φs j xs) : ∀ m, itR φs (j + m) xs = itR φs j xs
  | 0 => rfl
  | m + 1 => by
    show rdL φs (itR φs (j + m) xs) = _
    rw [it_fix h m, h]
open Classical in
/-- the family that is left when a round changes nothing. -/
noncomputable def stL (φs : List (Int → Int)) (xs : List Int) : List Int := if h : ∃ j, rdL φs (itR φs j xs) = itR φs j xs then itR φs h.choose xs else xs
theorem st_eq {φs : List (Int → Int)} {xs : List Int} {j : Nat} (h : rdL φs (itR φs j xs) = itR φs j xs) : itR φs j xs = stL φs xs := by
  have hex : ∃ j, rdL φs (itR φs j xs) = itR φs j xs := ⟨j, h⟩
  unfold stL
  rw [dif_pos hex]
  have hc := hex.choose_spec
  rcases Nat.le_total j hex.choose with hl | hl
  · have := it_fix h (hex.choose - j)
    rw [Nat.add_sub_cancel' hl] at this; exact this.symm
  · have := it_fix hc (j - hex.choose)
    rw [Nat.add_sub_cancel' hl] at this; exact this
theorem st_in {n : Int} {φs : List (Int → Int)} {xs : List Int} (h : TurnsT n φs) (hf : famB n xs = true) : famB n (stL φs xs) = true := by
  unfold stL; split
  · exact it_fam h hf _
  · exact hf

/-- the shifts to lesser points below the row i, and the first k of that row. -/
def shTo (i k : Nat) : List (Int → Int) := ((upI i).flatMap fun a => (upI a.toNat).map fun b x => movedI x a b) ++ (upI k).map fun b x => movedI x i b
/-- all of them for n points. -/
def shL (n : Int) : List (Int → Int) := shTo n.toNat 0
theorem shTo_k (i k : Nat) : shTo i (k + 1) = shTo i k ++ [fun x => movedI x i k] := by
  unfold shTo; rw [upI_succ k, List.map_append, List.append_assoc]; rfl
theorem shTo_i (i : Nat) : shTo (i + 1) 0 = shTo i i := by
  unfold shTo; rw [upI_succ i, List.flatMap_append]; simp [upI]
theorem shTo_len0 : (shTo 0 0) = [] := rfl
/-- the pressings. -/
def prTo (p : Nat) : List (Int → Int) := (upI p).map fun p x => lessI x p
def prL (n : Int) : List (Int → Int) := prTo n.toNat
theorem prTo_succ (p : Nat) : prTo (p + 1) = prTo p ++ [fun x => lessI x p] := by unfold prTo; rw [upI_succ, List.map_append]; rfl
theorem mem_shTo {i k : Nat} {φ : Int → Int} (h : φ ∈ shTo i k) (hk : k ≤ i) : ∃ a b : Nat, a ≤ i ∧ (k = 0 → a < i) ∧ b < a ∧ φ = fun x => movedI x a b := by
  unfold shTo at h
  rcases List.mem_append.1 h with h | h
  · obtain ⟨a, ha, h⟩ := List.mem_flatMap.1 h
    obtain ⟨b, hb, rfl⟩ := List.mem_map.1 h
    have h1 := mem_upI.1 ha
    have h2 := mem_upI.1 hb
    refine ⟨a.toNat, b.toNat, by omega, fun _ => by omega, by omega, ?_⟩
    rw [Int.toNat_of_nonneg h1.1, Int.toNat_of_nonneg h2.1]
  · obtain ⟨b, hb, rfl⟩ := List.mem_map.1 h
    have h2 := mem_upI.1 hb
    refine ⟨i, b.toNat, Nat.le_refl _, fun e => by omega, by omega, ?_⟩
    rw [Int.toNat_of_nonneg h2.1]
theorem mv_dec : ∀ s : Fin 256, ∀ i : Fin 8, ∀ k : Fin 8, (movedI (movedI s.val i.val k.val) i.val k.val = movedI s.val i.val k.val ∧ (k.val ≤ i.val → movedI s.val i.val k.val ≤ s.val) ∧ 0 ≤ movedI s.val i.val k.val) ∧ ∀ n : Fin 9, i.val < n.val → k.val < n.val → s.val < 2 ^ n.val → movedI s.val i.val k.val < 2 ^ n.val := by decide +kernel
theorem mv_facts {n i k s : Int} (h : setB n s = true) (hi : ptB n i = true) (hk : ptB n k = true) : movedI (movedI s i k) i k = movedI s i k ∧ (k ≤ i → movedI s i k ≤ s) ∧ setB n (movedI s i k) = true := by
  have s0 := setB_lt h
  obtain ⟨n1, n2, s1, s2⟩ := setB_yes h
  have i1 := ptB_yes hi
  have k1 := ptB_yes hk
  have e1 : ((s.toNat : Nat) : Int) = s := Int.toNat_of_nonneg s0.1
  have e2 : ((i.toNat : Nat) : Int) = i := Int.toNat_of_nonneg i1.1
  have e3 : ((k.toNat : Nat) : Int) = k := Int.toNat_of_nonneg k1.1
  obtain ⟨⟨a, b, c⟩, d⟩ := mv_dec ⟨s.toNat, by omega⟩ ⟨i.toNat, by omega⟩ ⟨k.toNat, by omega⟩
  have d' := d ⟨n.toNat, by omega⟩ (by show i.toNat < n.toNat; omega) (by show k.toNat < n.toNat; omega) (by
    show s.toNat < 2 ^ n.toNat
    have : ((s.toNat : Nat) : Int) < ((2 ^ n.toNat : Nat) : Int) := by rw [e1]; simpa using s2
    exact Int.ofNat_lt.1 this)
  simp only [e1, e2, e3] at a b c d'
  exact ⟨a, fun h => b (by omega), setB_mk ⟨n1, n2, c, d'⟩⟩
theorem ls_dec : ∀ s : Fin 256, ∀ p : Fin 8, 0 ≤ lessI s.val p.val ∧ lessI s.val p.val ≤ s.val := by decide +kernel
theorem ls_facts {n p s : Int} (h : setB n s = true) (hp : ptB n p = true) : lessI s p ≤ s ∧ setB n (lessI s p) = true := by
  have s0 := setB_lt h
  obtain ⟨n1, n2, s1, s2⟩ := setB_yes h
  have p1 := ptB_yes hp
  have e1 : ((s.toNat : Nat) : Int) = s := Int.toNat_of_nonneg s0.1
  have e2 : ((p.toNat : Nat) : Int) = p := Int.toNat_of_nonneg p1.1
  obtain ⟨a, b⟩ := ls_dec ⟨s.toNat, by omega⟩ ⟨p.toNat, by omega⟩
  simp only [e1, e2] at a b
  exact ⟨b, setB_mk ⟨n1, n2, a, by omega⟩⟩
theorem mv_set {n i k : Int} (hi : ptB n i = true) (hk : ptB n k = true) : SetT n (fun x => movedI x i k) := fun _ hx => (mv_facts hx hi hk).2.2
theorem ls_set {n p : Int} (hp : ptB n p = true) : SetT n (fun x => lessI x p) := fun _ hx => (ls_facts hx hp).2
theorem shL_turns (n : Int) : TurnsT n (shL n) := by
  intro φ hφ
  obtain ⟨a, b, h1, h2, h3, rfl⟩ := mem_shTo hφ (Nat.zero_le _)
  have h2 := h2 rfl
  have hi : ptB n (a : Nat) = true := ptB_mk (by omega) (by omega)
  have hk : ptB n (b : Nat) = true := ptB_mk (by omega) (by omega)
  exact ⟨mv_set hi hk, fun x hx => (mv_facts hx hi hk).2.1 (by omega)⟩
theorem prL_turns (n : Int) : TurnsT n (prL n) := by
  intro φ hφ
  obtain ⟨p, hp, rfl⟩ := List.mem_map.1 hφ
  have h1 := mem_upI.1 hp
  have hk : ptB n p = true := ptB_mk (by omega) (by omega)
  exact ⟨ls_set hk, fun x hx => (ls_facts hx hk).1⟩
theorem tn_twice {n i k : Int} (hi : ptB n i = true) (hk : ptB n k = true) {xs : List Int} (hf : famB n xs = true) : tnL (fun x => movedI x i k) (tnL (fun x => movedI x i k) xs) = tnL (fun x => movedI x i k) xs := by
  have hz := (famB_all hf).2.2
  have hmap : (tnL (fun x => movedI x i k) xs).map (rpI (fun x => movedI x i k) (tnL (fun x => movedI x i k) xs)) = tnL (fun x => movedI x i k) xs := by
    refine (List.map_congr_left (g := id) fun y hy => ?_).trans (List.map_id _)
    obtain ⟨x, hx, hxy⟩ := List.mem_map.1 (mem_sortL.1 hy)
    show rpI _ _ y = y
    unfold rpI at hxy
    split at hxy
    · next hm =>
      subst hxy
      have hin : movedI x i k ∈ tnL (fun x => movedI x i k) xs := by
        refine mem_sortL.2 (List.mem_map.2 ⟨movedI x i k, memB_yes hm, ?_⟩)
        have he := (mv_facts (hz x hx) hi hk).1
        unfold rpI
        simp only [he, ite_self]
      unfold rpI
      rw [if_pos (memB_mk hin)]
    · have he := (mv_facts (hz x hx) hi hk).1
      unfold rpI
      rw [← hxy]
      simp only [he, ite_self]
  have : ∀ ys : List Int, ys = tnL (fun x => movedI x i k) xs → tnL (fun x => movedI x i k) ys = sortL (ys.map (rpI (fun x => movedI x i k) ys)) := fun ys _ => rfl
  rw [this _ rfl, hmap]
  exact sortL_asc (asc_sortL _)

end
section
/- Shifts and pressings as function values: what one of them does. -/
open Go.ChangeShapes Go.WideShapes Go.ChangeAt Go.RowKit Go.Proofs

/-- the blocks hold what they are said to hold. -/
def Has (w : World) (bs : List (Nat × Obj)) : Prop := ∀ p ∈ bs, w.heap[p.1]? = some p.2
theorem Has.lt {w : World} {bs : List (Nat × Obj)} (h : Has w bs) {p : Nat × Obj} (hp : p ∈ bs) : p.1 < w.heap.size := (Array.getElem?_eq_some_iff.1 (h p hp)).1
theorem Has.below {w W : World} {bs : List (Nat × Obj)} (h : Has w bs) (hb : Below w.heap.size w W) : Has W bs := fun p hp => (hb.block p.1 (h.lt hp)).trans (h p hp)
theorem Has.tail {w : World} {p : Nat × Obj} {bs : List (Nat × Obj)} (h : Has w (p :: bs)) : Has w bs := fun q hq => h q (List.mem_cons_of_mem _ hq)
theorem Has.head {w : World} {p : Nat × Obj} {bs : List (Nat × Obj)} (h : Has w (p :: bs)) : w.heap[p.1]? = some p.2 := h p List.mem_cons_self
theorem Has.nil (w : World) : Has w [] := fun _ h => nomatch h
theorem Has.cons {w : World} {b : Nat} {o : Obj} {bs : List (Nat × Obj)} (h0 : w.heap[b]? = some o) (h : Has w bs) : Has w ((b, o) :: bs) := fun q hq => by
  rcases List.mem_cons.1 hq with rfl | hq
  · exact h0
  · exact h q hq
/-- none of the blocks is a list of turns. -/
def NoT (bs : List (Nat × Obj)) : Prop := ∀ p ∈ bs, ∀ (cur : Array Value) (fz : Nat × Nat), p.2 ≠ .cells cur 85 fz
/-- what a function that gives a family to be read returns. -/
def FamR (w : World) (ys : List Int) (e : Ending) (w' : World) : Prop := ∃ v, e = .returned (.agg #[v, (Value.func (.func 134) #[] #[])]) ∧ SRow w' w'.heap.size v ys ∧ Below w.heap.size w w'
/-- the function value says what becomes of a set. -/
def BecV (n : Int) (v : Value) (φ : Int → Int) (bs : List (Nat × Obj)) : Prop :=
  ∃ g cs, v = .func (.func g) #[] cs ∧ EntersG g ∧ ∀ (W : World) (x : Int), setB n x = true → Has W bs → Calls Try.prog g (#[.int .u64 x] ++ cs) W fun e w' => e = .returned (.int .u64 (φ x)) ∧ Below W.heap.size W w'
/-- the function value is a turn. -/
def TurnV (n : Int) (v : Value) (φ : Int → Int) (bs : List (Nat × Obj)) : Prop :=
  ∃ g cs, v = .func (.func g) #[] cs ∧ EntersG g ∧ ∀ (W : World) (lv : Value) (xs : List Int), famB n xs = true → Has W bs → SRow W W.heap.size lv xs → Calls Try.prog g (#[.agg #[lv, (Value.func (.func 134) #[] #[])]] ++ cs) W (FamR W (tnL φ xs))
theorem one_cell_at {w : World} {b : Nat} {v : Value} {t : TypeId} (h : w.heap[b]? = some (.cells #[v] t (0, 0))) : w.cell? ⟨b, 0, none⟩ = some v := by rw [cell_of_row w b 0 _ t (0, 0) h]; rfl

theorem press_bec (n p : Int) (hp : ptB n p = true) (b : Nat) : BecV n (.func (.func 140) #[] #[.pointer (some ⟨b, 0, none⟩)]) (fun x => lessI x p) [(b, .cells #[.int .i64 p] 3 (0, 0))] := by
  refine ⟨_, _, rfl, enters_of Try.func140 (by kernel_rfl) rfl, fun W x hx hW => ?_⟩
  have hc1 := one_cell_at hW.head
  obtain ⟨x1, x2⟩ := setB_lt hx
  obtain ⟨n1, n2, _, _⟩ := setB_yes hx
  have p1 := ptB_yes hp
  have hmv := Lib.hid (fun W => set_without x p x1 x2 p1.1 (by omega) W)
  replace hx := Lib.hid hx
  replace hp := Lib.hid hp
  show Calls Try.prog 140 #[.int .u64 x, .pointer (some ⟨b, 0, none⟩)] W fun e w' => e = .returned (.int .u64 (lessI x p)) ∧ Below W.heap.size W w'
  obtain ⟨r, hr⟩ : ∃ r, lessI x p = r := ⟨_, rfl⟩
  rw [hr] at hmv ⊢
  replace hr := Lib.hid hr
  clear hW
  go_enter Try.func140, Try.ntmps140
  go_wp2_with (go_at_call 141; refine (hmv.out _).mono ?_; rintro e w' ⟨rfl, rfl⟩)
  go_ret
  exact ⟨rfl, Below.refl _ _⟩

theorem fam_cells {w : World} {c : Nat} {lv u : Value} (h : w.heap[c]? = some (.cells #[lv, u] 40 (0, 0))) : w.cell? ⟨c, 0, none⟩ = some lv ∧ w.cell? ⟨c, 1, none⟩ = some u :=
  ⟨by rw [cell_of_row w c 0 _ 40 (0, 0) h]; rfl, by rw [cell_of_row w c 1 _ 40 (0, 0) h]; rfl⟩
set_option maxHeartbeats 1000000 in
theorem repl_map (n : Int) (v : Value) (φ : Int → Int) (bs : List (Nat × Obj)) (hB : BecV n v φ bs) (b c : Nat) (lv : Value) (xs : List Int) (w : World) (hf : famB n xs = true) (hb : w.heap[b]? = some (.cells #[v] 45 (0, 0)))
    (hc : w.heap[c]? = some (.cells #[lv, (Value.func (.func 134) #[] #[])] 40 (0, 0))) (hx : SRow w w.heap.size lv xs) (hbs : Has w bs) :
    MapV 152 #[] #[.pointer (some ⟨b, 0, none⟩), .pointer (some ⟨c, 0, none⟩)] (rpI φ xs) xs w := fun W x hm hbel => by
  obtain ⟨g, cs, rfl, eg, hcall⟩ := hB
  have eg1 : ∀ args w, (callFunc g args).run Try.prog w = .ok (.enter g args) w := eg
  have hxs := (famB_all hf).2.2 x hm
  have h1 := hcall W x hxs (hbs.below hbel)
  have hblt := (Array.getElem?_eq_some_iff.1 hb).1
  have hclt := (Array.getElem?_eq_some_iff.1 hc).1
  have cb := one_cell_at ((hbel.block b hblt).trans hb)
  obtain ⟨cc0, cc1⟩ := fam_cells ((hbel.block c hclt).trans hc)
  have hxW := hx.below hbel (Nat.le_refl _)
  have hA := famB_asc hf
  have hl := fam_len hf
  have hsz := hbel.size
  obtain ⟨la, lc, rfl, _⟩ := id hx
  obtain ⟨r, hr⟩ : ∃ r, φ x = r := ⟨_, rfl⟩
  rw [hr] at h1
  replace h1 := Lib.hid h1
  replace hxW := Lib.hid hxW
  replace hA := Lib.hid hA
  have hrp : rpI φ xs x = if memB r xs then x else r := by unfold rpI; rw [hr]
  obtain ⟨y, hy⟩ : ∃ y, rpI φ xs x = y := ⟨_, rfl⟩
  show Calls Try.prog 152 #[.int .u64 x, .pointer (some ⟨b, 0, none⟩), .pointer (some ⟨c, 0, none⟩)] W fun e w' => e = .returned (.int .u64 (rpI φ xs x)) ∧ Below W.heap.size W w'
  rw [hy] at hrp ⊢
  replace hy := Lib.hid hy
  replace hr := Lib.hid hr
  replace hm := Lib.hid hm
  replace hxs := Lib.hid hxs
  replace hf := Lib.hid hf
  clear hbel hx hb hc hbs hcall
  rcases (by cases memB r xs <;> simp : memB r xs = true ∨ memB r xs = false) with hmb | hmb
  · rw [hmb, if_pos rfl] at hrp
    subst hrp
    replace hmb := Lib.hid hmb
    go_enter Try.func152, Try.ntmps152
    go_wp2_with fail
    refine h1.out.mono ?_
    rintro e w1 ⟨rfl, hb1⟩
    obtain ⟨d0, d1⟩ : w1.cell? ⟨c, 0, none⟩ = some (.slice la xs.length lc) ∧ w1.cell? ⟨c, 1, none⟩ = some (Value.func (.func 134) #[] #[]) := ⟨(hb1.cell (p := ⟨c, 0, none⟩) (by show c < W.heap.size; omega)).trans cc0, (hb1.cell (p := ⟨c, 1, none⟩) (by show c < W.heap.size; omega)).trans cc1⟩
    have hh := Lib.hid (has_any (.slice la xs.length lc) xs r w1.heap.size w1 ((hxW.out.below hb1 (by omega)).mono (by have := hb1.size; omega)) hA.out hl (Nat.le_refl _))
    rw [hmb.out] at hh
    replace hb1 := Lib.hid hb1
    go_wp2_with fail
    refine hh.out.mono ?_
    rintro e w2 ⟨rfl, hb2⟩
    replace hb2 := Lib.hid (hb1.out.trans (hb2.mono hb1.out.size))
    go_wp2_with fail
    go_ret
    exact ⟨rfl, hb2.out⟩
  · rw [hmb, if_neg (by simp)] at hrp
    subst hrp
    replace hmb := Lib.hid hmb
    go_enter Try.func152, Try.ntmps152
    go_wp2_with fail
    refine h1.out.mono ?_
    rintro e w1 ⟨rfl, hb1⟩
    obtain ⟨d0, d1⟩ : w1.cell? ⟨c, 0, none⟩ = some (.slice la xs.length lc) ∧ w1.cell? ⟨c, 1, none⟩ = some (Value.func (.func 134) #[] #[]) := ⟨(hb1.cell (p := ⟨c, 0, none⟩) (by show c < W.heap.size; omega)).trans cc0, (hb1.cell (p := ⟨c, 1, none⟩) (by show c < W.heap.size; omega)).trans cc1⟩
    have hh := Lib.hid (has_any (.slice la xs.length lc) xs y w1.heap.size w1 ((hxW.out.below hb1 (by omega)).mono (by have := hb1.size; omega)) hA.out hl (Nat.le_refl _))
    rw [hmb.out] at hh
    replace hb1 := Lib.hid hb1
    go_wp2_with fail
    refine hh.out.mono ?_
    rintro e w2 ⟨rfl, hb2⟩
    replace hb2 := Lib.hid (hb1.out.trans (hb2.mono hb1.out.size))
    go_wp2_with fail
    go_ret
    exact ⟨rfl, hb2.out⟩
set_option maxHeartbeats 1000000 in
theorem repl_turn (n : Int) (v : Value) (φ : Int → Int) (bs : List (Nat × Obj)) (hB : BecV n v φ bs) (hs : SetT n φ) (b : Nat) :
    TurnV n (.func (.func 151) #[] #[.pointer (some ⟨b, 0, none⟩)]) φ ((b, .cells #[v] 45 (0, 0)) :: bs) := by
  refine ⟨_, _, rfl, enters_of Try.func151 (by kernel_rfl) rfl, fun W lv xs hf hW hx => ?_⟩
  have hmf := mkfunc
  obtain ⟨a, cap, rfl, _⟩ := id hx
  have hbw := ((Below.refl W.heap.size W).alloc (Nat.le_refl _) (.cells #[.slice a xs.length cap, (Value.func (.func 134) #[] #[])] 40)).alloc (by simp) (.cells #[.slice none 0 0, .nilFunc] 40)
  have hW2 := hW.below hbw
  have hnew := new_cell2 W #[.slice a xs.length cap, (Value.func (.func 134) #[] #[])] 40 (.cells #[.slice none 0 0, .nilFunc] 40)
  have hk := Lib.hid (changed_any 152 (enters_of Try.func152 (by kernel_rfl) rfl) #[] #[.pointer (some ⟨b, 0, none⟩), .pointer (some ⟨W.heap.size, 0, none⟩)] (rpI φ xs) _ xs _ _ (hx.below hbw (Nat.le_refl _)) (by simp; omega) (fam_len hf)
    (fun z hz => setB_lt (rp_set hs ((famB_all hf).2.2 z hz)))
    (repl_map n v φ bs hB b W.heap.size (.slice a xs.length cap) xs _ hf hW2.head hnew ((hx.below hbw (Nat.le_refl _)).mono (by simp; omega)) hW2.tail))
  obtain ⟨l0, l1⟩ := fam_cells hnew
  replace hbw := Lib.hid hbw
  replace hf := Lib.hid hf
  clear hx hW hW2 hnew
  show Calls Try.prog 151 #[.agg #[.slice a xs.length cap, (Value.func (.func 134) #[] #[])], .pointer (some ⟨b, 0, none⟩)] W (FamR W (sortL (xs.map (rpI φ xs))))
  obtain ⟨ys, hys⟩ : ∃ ys, sortL (xs.map (rpI φ xs)) = ys := ⟨_, rfl⟩
  rw [hys] at hk ⊢
  replace hys := Lib.hid hys
  go_enter Try.func151, Try.ntmps151
  go_wp2_with fail
  refine hk.out.mono ?_
  rintro e w2 ⟨v, rfl, hS2, hb2⟩
  obtain ⟨a', c', rfl⟩ := hS2.form
  rw [World.size_alloc, World.size_alloc] at hS2 hb2
  obtain ⟨d0, d1, df0, df1⟩ := res_cells (new_cell1 W _ _ _) hb2
  have rr := two_cells (.slice a' ys.length c') (Value.func (.func 134) #[] #[]) d0 d1
  have hff := Lib.hid (fam_fin hS2 (hbw.out.trans (hb2.mono (by omega))) (by omega))
  clear hS2 hb2 hk
  go_wp2_with fail
  exact bodyPost_ret (v := .agg #[.slice a' ys.length c', (Value.func (.func 134) #[] #[])]) (by simp [results, Try.results151, go_sem, rr.1, rr.2]) rfl ⟨_, rfl, hff.out.1.row, hff.out.2⟩

/-- what a function that makes a turn leaves. -/
def MadeT (n : Int) (φ : Int → Int) (w : World) (e : Ending) (w' : World) : Prop := ∃ v bs, e = .returned v ∧ TurnV n v φ bs ∧ Has w' bs ∧ NoT bs ∧ Below w.heap.size w w'
theorem not_turn {t : TypeId} {cs : Array Value} {f0 : Nat × Nat} (h : t ≠ 85) (cur : Array Value) (fz : Nat × Nat) : Obj.cells cs t f0 ≠ .cells cur 85 fz := fun e => h (by cases e; rfl)
theorem press_at (n p : Int) (hp : ptB n p = true) (w : World) : Calls Try.prog 123 #[.int .i64 p] w (MadeT n (fun x => lessI x p) w) := by
  have hT := Lib.hid (repl_turn n _ _ _ (press_bec n p hp w.heap.size) (ls_set hp) (w.heap.size + 1))
  have hmf := mkfunc
  replace hp := Lib.hid hp
  have hH := Lib.hid (Has.cons (w := (w.alloc (.cells #[.int .i64 p] 3)).alloc (.cells #[.func (.func 140) #[] #[.pointer (some ⟨w.heap.size, 0, none⟩)]] 45)) (b := w.heap.size + 1) (new_cell1 w _ _ _)
    (Has.cons (b := w.heap.size) (new_cell2 w _ _ _) (Has.nil _)))
  have hbw := Lib.hid (((Below.refl w.heap.size w).alloc (Nat.le_refl _) (.cells #[.int .i64 p] 3)).alloc (by simp) (.cells #[.func (.func 140) #[] #[.pointer (some ⟨w.heap.size, 0, none⟩)]] 45))
  go_enter Try.func123, Try.ntmps123
  go_wp2_with (first | (go_at_call 139; go_in) | fail)
  go_ret
  refine ⟨_, _, rfl, hT.out, hH.out, ?_, hbw.out⟩
  intro p hp
  simp at hp
  rcases hp with rfl | rfl
  · exact not_turn (by decide)
  · exact not_turn (by decide)

end
section
/- Lists of turns; whether a turn changes a family. -/
open Go.ChangeShapes Go.WideShapes Go.ChangeAt Go.RowKit Go.Proofs

set_option maxHeartbeats 1000000 in
theorem equal_sets (v u : Value) (xs ys : List Int) (S : Nat) (w : World) (hx : SRow w S v xs) (hy : SRow w S u ys) (hl : xs.length ≤ 1073741824) (hm : ys.length ≤ 1073741824) :
    Calls Try.prog 138 #[v, u] w fun e w' => e = .returned (.bool (sameB xs ys)) ∧ Below w.heap.size w w' := by
  obtain ⟨a, cap, rfl, ha⟩ := hx
  obtain ⟨c, cap2, rfl, hc⟩ := hy
  by_cases hne : xs.length = ys.length
  · have hb : (((xs.length : Nat) : Int) != ((ys.length : Nat) : Int)) = false := by simp [hne]
    have hne' := Lib.hid hne
    replace ha := Lib.hid ha
    replace hc := Lib.hid hc
    clear hne
    go_enter Try.func138, Try.ntmps138
    go_wp2
    go_loopw [13] (fun i wr => ∃ k : Nat, k ≤ xs.length ∧ i = .int .i64 k ∧ Hid (∃ n, wr = w.drewN n) ∧ Hid (∀ j, j < k → xs.getD j 0 = ys.getD j 0)) (fun i _ => xs.length - (intOf i).toNat)
    case atStart => exact ⟨0, Nat.zero_le _, rfl, Lib.hid ⟨0, rfl⟩, Lib.hid (fun j hj => by omega)⟩
    case round =>
      obtain ⟨k, hk, rfl, hw, hsame⟩ := hrel
      obtain ⟨n, rfl⟩ := hw.out
      clear hw
      by_cases hlt : k < xs.length
      · obtain ⟨b1, o1, rfl, s1, c1⟩ := ha.out (by omega)
        have hlt2 : k < ys.length := by have := hne'.out; omega
        obtain ⟨b2, o2, rfl, s2, c2⟩ := hc.out (by omega)
        have k1 : (0 : Int) ≤ (k : Int) := by omega
        have k2 : (k : Int) < (xs.length : Nat) := by omega
        have k3 : (k : Int) < (ys.length : Nat) := by omega
        have e1 := c1 k hlt
        have e2 := c2 k hlt2
        obtain ⟨x, hx⟩ : ∃ x, xs.getD k 0 = x := ⟨_, rfl⟩
        obtain ⟨y, hy⟩ : ∃ y, ys.getD k 0 = y := ⟨_, rfl⟩
        rw [hx] at e1
        rw [hy] at e2
        by_cases hxy : x = y
        · have hsame' := Lib.hid (show ∀ j, j < k + 1 → xs.getD j 0 = ys.getD j 0 from fun j hj => by
            by_cases e : j = k
            · subst e; rw [hx, hy]; exact hxy
            · exact hsame.out j (by omega))
          have hd : (x != y) = false := by simp [hxy]
          clear hsame hxy hx hy c1 c2
          go_wp2
          go_quiet (fail)
          go_wp2
          go_roundw
          case rel => exact ⟨k + 1, by omega, by go_num, Lib.hid ⟨_, by first | rfl | exact drewN_add _ _ _⟩, hsame'⟩
          case measure => simp [intOf]; omega
        · have hf := Lib.hid (show false = sameB xs ys from (decide_eq_false (fun e => hxy (by rw [← hx, ← hy, e]))).symm)
          have hd : (x != y) = true := by simp [hxy]
          clear hsame hxy hx hy c1 c2
          go_wp2
          go_quiet (fail)
          go_wp2
          go_ret
          exact ⟨ret_bool hf.out, by first | exact Below.refl _ _ | exact below_drewN (Below.refl _ _) _ | exact below_drewN (below_drewN (Below.refl _ _) _) _⟩
      · have hf := Lib.hid (show true = sameB xs ys from (same_step hne'.out (fun j hj => hsame.out j (by omega))).symm)
        go_wp2
        go_ret
        exact ⟨ret_bool hf.out, below_drewN (Below.refl _ _) _⟩
  · have hb : (((xs.length : Nat) : Int) != ((ys.length : Nat) : Int)) = true := by simp; omega
    have hf := Lib.hid (show false = sameB xs ys from (decide_eq_false (fun e => hne (by rw [e]))).symm)
    clear ha hc hne
    go_enter Try.func138, Try.ntmps138
    go_wp2
    go_ret
    exact ⟨ret_bool hf.out, Below.refl _ _⟩

theorem SRow.drew {w : World} {S : Nat} {v : Value} {xs : List Int} (h : SRow w S v xs) : SRow w.drew S v xs := h
theorem fld0 (x y : Value) (w : World) : (Instr.field 40 (.agg #[x, y]) 0).run Try.prog w = .ok x w := by kernel_rfl
set_option maxRecDepth 100000 in
set_option maxHeartbeats 1000000 in
theorem changes_at (n : Int) (v : Value) (φ : Int → Int) (bs : List (Nat × Obj)) (hT : TurnV n v φ bs) (hs : SetT n φ) (lv : Value) (xs : List Int) (w : World) (hf : famB n xs = true) (hbs : Has w bs) (hx : SRow w w.heap.size lv xs) :
    Calls Try.prog 122 #[v, .agg #[lv, (Value.func (.func 134) #[] #[])]] w fun e w' => e = .returned (.bool (!sameB (tnL φ xs) xs)) ∧ Below w.heap.size w w' := by
  obtain ⟨g, cs, rfl, eg, hcall⟩ := hT
  have eg1 : ∀ args w, (callFunc g args).run Try.prog w = .ok (.enter g args) w := eg
  obtain ⟨a, cap, rfl, _⟩ := id hx
  have hlx := famB_len hf
  have hf2 := tn_fam hs hf
  have hly := famB_len hf2
  have hbw := (Below.refl w.heap.size w).alloc (Nat.le_refl _) (.cells #[.slice a xs.length cap, (Value.func (.func 134) #[] #[])] 40)
  have hbx : w.heap.size < (w.alloc (.cells #[.slice a xs.length cap, (Value.func (.func 134) #[] #[])] 40)).heap.size := by simp
  obtain ⟨l0, l1⟩ := fam_cells (new_cell w #[.slice a xs.length cap, (Value.func (.func 134) #[] #[])] 40)
  have hc2 := hcall (w.alloc (.cells #[.slice a xs.length cap, (Value.func (.func 134) #[] #[])] 40)).drew (.slice a xs.length cap) xs hf (hbs.below hbw.drew) ((hx.below hbw.drew (Nat.le_refl _)).mono (by simp))
  have hxr := hx.below hbw (Nat.le_refl _)
  obtain ⟨ys, hys⟩ : ∃ ys, tnL φ xs = ys := ⟨_, rfl⟩
  rw [hys] at hc2 hly ⊢
  obtain ⟨W0, hW0⟩ : ∃ W0, w.alloc (.cells #[.slice a xs.length cap, (Value.func (.func 134) #[] #[])] 40) = W0 := ⟨_, rfl⟩
  have hz0 : W0.heap.size = w.heap.size + 1 := by rw [← hW0]; simp
  rw [hW0] at hc2 hbw l0 l1 hxr
  have hlt : w.heap.size < W0.heap.size := by omega
  have hle : w.heap.size ≤ W0.heap.size := by omega
  have hly2 : ys.length ≤ 1073741824 := by omega
  have hlx2 : xs.length ≤ 1073741824 := by omega
  have hfl := fld0
  replace hc2 := Lib.hid hc2
  replace hys := Lib.hid hys
  replace hf := Lib.hid hf
  replace hf2 := Lib.hid hf2
  replace hbw := Lib.hid hbw
  replace hxr := Lib.hid hxr
  replace hz0 := Lib.hid hz0
  clear hbs hx hbx hcall hlx hly
  go_enter Try.func122, Try.ntmps122
  go_wp2_with fail
  replace hW0 := Lib.hid hW0
  go_region_with (first
    | (go_at_call 138; ((with_reducible refine (equal_sets _ _ ys xs w2.heap.size _ hR2.out hx2.out hly2 hlx2).mono ?_)); rintro e w3 ⟨rfl, hb3⟩; replace hb3 := Lib.hid (hb2.out.trans (hb3.mono hz2)))
    | ((with_reducible refine hc2.out.mono ?_); rintro e w2 ⟨v2, rfl, hR2, hb2⟩; obtain ⟨a2, c2, rfl, _⟩ := id hR2; have m0 : w2.cell? ⟨w.heap.size, 0, none⟩ = some (.slice a xs.length cap) := (hb2.cell (p := ⟨w.heap.size, 0, none⟩) hlt).trans l0; have hz2 := Nat.le_trans hle hb2.size; have hx2 := Lib.hid (((hxr.out.drew).below hb2 hle).mono hz2); replace hR2 := Lib.hid hR2; replace hb2 := Lib.hid (hbw.out.trans ((Below.refl w.heap.size W0).drew.trans (hb2.mono hle)))))
  all_goals
    go_wp2_with fail
    go_ret
    exact ⟨rfl, hb3.out⟩

end
section
/- Lists of turns: made by append, read. -/
open Go.ChangeShapes Go.WideShapes Go.ChangeAt Go.RowKit Go.Proofs

theorem Try.turnInfo : (Try.prog.info? 85).map (fun i => (i.zero, i.size, i.bytes)) = some (some .nilFunc, 1, 8) := by kernel_rfl
/-- the values of a list are turns. -/
def TurnsV (n : Int) (w : World) (vs : List Value) (φs : List (Int → Int)) : Prop := vs.length = φs.length ∧ ∀ (j : Nat) (v : Value) (φ : Int → Int), vs[j]? = some v → φs[j]? = some φ → ∃ bs, TurnV n v φ bs ∧ Has w bs ∧ NoT bs
theorem TurnsV.nil (n : Int) (w : World) : TurnsV n w [] [] := ⟨rfl, fun j v φ h => by simp at h⟩
theorem TurnsV.snoc {n : Int} {w : World} {vs : List Value} {φs : List (Int → Int)} {v : Value} {φ : Int → Int} {bs : List (Nat × Obj)} (h : TurnsV n w vs φs) (hv : TurnV n v φ bs) (hb : Has w bs) (hn : NoT bs) : TurnsV n w (vs ++ [v]) (φs ++ [φ]) := by
  refine ⟨by simp [h.1], fun j u ψ h1 h2 => ?_⟩
  by_cases hj : j < vs.length
  · rw [List.getElem?_append_left hj] at h1
    rw [List.getElem?_append_left (by rw [← h.1]; exact hj)] at h2
    exact h.2 j u ψ h1 h2
  · rw [List.getElem?_append_right (by omega)] at h1
    rw [List.getElem?_append_right (by rw [← h.1]; omega), ← h.1] at h2
    cases hd : j - vs.length with
    | zero =>
      rw [hd] at h1 h2
      simp at h1 h2
      subst h1 h2
      exact ⟨bs, hv, hb, hn⟩
    | succ d => rw [hd] at h1; simp at h1
theorem TurnsV.below {n : Int} {w W : World} {vs : List Value} {φs : List (Int → Int)} (h : TurnsV n w vs φs) (hb : Below w.heap.size w W) : TurnsV n W vs φs :=
  ⟨h.1, fun j v φ h1 h2 => by obtain ⟨bs, a, b, c⟩ := h.2 j v φ h1 h2; exact ⟨bs, a, b.below hb, c⟩⟩
theorem Has.grown {w W : World} {bs : List (Nat × Obj)} {B m : Nat} {v : Value} {us : List Value} (h : Has w bs) (hn : NoT bs) (hO : w.ownsRow B 85 1 v m us) (hg : w.grownBy W v.ownBlock) : Has W bs := fun p hp => by
  rw [hg.block p.1 (h.lt hp) ?_]
  · exact h p hp
  · intro e
    rcases hO.2 with ⟨rfl, _⟩ | ⟨g, cap, cur, rfl, _, hgc, _⟩
    · simp [Value.ownBlock] at e
    · simp [Value.ownBlock] at e
      subst e
      exact hn p hp cur (0, 0) (Option.some.inj ((h p hp).symm.trans hgc))
theorem TurnsV.grown {n : Int} {w W : World} {vs : List Value} {φs : List (Int → Int)} {B m : Nat} {v : Value} {us : List Value} (h : TurnsV n w vs φs) (hO : w.ownsRow B 85 1 v m us) (hg : w.grownBy W v.ownBlock) : TurnsV n W vs φs :=
  ⟨h.1, fun j v φ h1 h2 => by obtain ⟨bs, a, b, c⟩ := h.2 j v φ h1 h2; exact ⟨bs, a, b.grown c hO hg, c⟩⟩
/-- v is the call's own list of turns. -/
def TurnL (n : Int) (w : World) (B : Nat) (v : Value) (φs : List (Int → Int)) : Prop := ∃ vs, w.ownsRow B 85 1 v vs.length vs ∧ TurnsV n w vs φs
theorem TurnL.form {n : Int} {w : World} {B : Nat} {v : Value} {φs : List (Int → Int)} (h : TurnL n w B v φs) : ∃ a c, v = .slice a φs.length c := by
  obtain ⟨vs, hO, hT⟩ := h
  rcases hO.2 with ⟨rfl, h0⟩ | ⟨g, cap, cur, rfl, _⟩
  · exact ⟨none, 0, by rw [← hT.1, h0]⟩
  · exact ⟨_, cap, by rw [← hT.1]⟩
theorem TurnL.below {n : Int} {w W : World} {B : Nat} {v : Value} {φs : List (Int → Int)} (h : TurnL n w B v φs) (hb : Below w.heap.size w W) : TurnL n W B v φs := by
  obtain ⟨vs, hO, hT⟩ := h
  refine ⟨vs, ⟨hO.1, ?_⟩, hT.below hb⟩
  rcases hO.2 with hn | ⟨g, cap, cur, rfl, hB, hg, rest⟩
  · exact .inl hn
  · refine .inr ⟨g, cap, cur, rfl, hB, ?_, rest⟩
    rw [hb.block g (Array.getElem?_eq_some_iff.1 hg).1]
    exact hg
theorem TurnL.lit (n : Int) (w : World) {B : Nat} (h : B ≤ w.heap.size) : TurnL n (w.alloc (.cells #[] 85)) B (.slice (some ⟨w.heap.size, 0, none⟩) 0 0) [] :=
  ⟨[], World.ownsRow_made w #[] 0 h (by unfold maxLen; omega) rfl, TurnsV.nil n _⟩
theorem app_turn {w : World} {ops : Array Oper} {rest : List Oper} {o : Oper} {a : Act} {Q : Exit → Act → World → Prop} (hgd : o.guard = none) (s x : Operand)
    (ho : o.op = .call { callee := .builtin .append, args := #[s, x], argTypes := #[68, 68] })
    (n : Int) (B : Nat) (v : Value) (φs : List (Int → Int)) (hs : a.eval s = v) (hown : TurnL n w B v φs) (u : Value) (φ : Int → Int) (bs : List (Nat × Obj)) (b : Nat) (hx : a.eval x = .slice (some ⟨b, 0, none⟩) 1 1) (hcell : w.cell? ⟨b, 0, none⟩ = some u)
    (hu : TurnV n u φ bs) (hbs : Has w bs) (hno : NoT bs) (hlen : φs.length ≤ 1073741824) (hB : B ≤ w.heap.size)
    (h : ∀ v' w', TurnL n w' B v' (φs ++ [φ]) → Below B w w' → wpList Try.prog ops Q rest (a.put o.dst v') w') : wpList Try.prog ops Q (o :: rest) a w := by
  obtain ⟨i0, hi, hz0, hz1, hz2⟩ := info_parts Try.turnInfo
  obtain ⟨vs, hO, hT⟩ := hown
  have hvl := hT.1
  obtain ⟨g, cs, rfl, hu2⟩ := id hu
  refine wpList_append_own w hgd s x 68 ho B 85 i0 .nilFunc 1 8 Try.underlying68 hi hz0 hz1 hz2 rfl (by decide) v vs.length vs hs hO
    ⟨b, 0, none⟩ 1 1 [.func (.func g) #[] cs] hx rfl ?_ (by simp [Value.oneCell']) (by unfold maxLen; omega) (by omega) hB ?_
  · intro j u hu
    cases j with
    | zero => simp at hu; subst hu; simpa [Addr.add] using hcell
    | succ j => simp at hu
  · intro v' w' hown' hg _
    refine h v' w' ⟨vs ++ [.func (.func g) #[] cs], by simpa using hown', (hT.snoc hu hbs hno).grown hO hg⟩ ((Below.refl B w).grown hg hB (fun k e => (World.ownsRow.lt hO k e).1))
/-- v reads as a list of turns; its cells lie below block S. -/
def TRow (n : Int) (w : World) (S : Nat) (lv : Value) (φs : List (Int → Int)) : Prop :=
  ∃ a cap, lv = .slice a φs.length cap ∧ (0 < φs.length → ∃ b off, a = some ⟨b, off, none⟩ ∧ b < S ∧ ∀ j φ, φs[j]? = some φ → ∃ v bs, w.cell? ⟨b, off + j, none⟩ = some v ∧ TurnV n v φ bs ∧ Has w bs)
theorem TRow.below {n : Int} {w W : World} {S : Nat} {lv : Value} {φs : List (Int → Int)} (h : TRow n w S lv φs) (hb : Below w.heap.size w W) (hS : S ≤ w.heap.size) : TRow n W S lv φs := by
  obtain ⟨a, cap, rfl, h⟩ := h
  refine ⟨a, cap, rfl, fun hp => ?_⟩
  obtain ⟨b, off, rfl, hs, hc⟩ := h hp
  refine ⟨b, off, rfl, hs, fun j φ hj => ?_⟩
  obtain ⟨v, bs, h1, h2, h3⟩ := hc j φ hj
  exact ⟨v, bs, (hb.cell (p := ⟨b, off + j, none⟩) (show b < w.heap.size by omega)).trans h1, h2, h3.below hb⟩
theorem TRow.mono {n : Int} {w : World} {S S' : Nat} {lv : Value} {φs : List (Int → Int)} (h : TRow n w S lv φs) (hS : S ≤ S') : TRow n w S' lv φs := by
  obtain ⟨a, cap, rfl, h⟩ := h
  refine ⟨a, cap, rfl, fun hp => ?_⟩
  obtain ⟨b, off, rfl, hs, hc⟩ := h hp
  exact ⟨b, off, rfl, by omega, hc⟩
theorem TurnL.row {n : Int} {w : World} {B : Nat} {v : Value} {φs : List (Int → Int)} (h : TurnL n w B v φs) : TRow n w w.heap.size v φs := by
  obtain ⟨vs, hO, hT⟩ := h
  have hlt := World.ownsRow.lt hO
  have hce := @World.ownsRow.cells _ _ _ _ _ _ _ hO
  rcases hO.2 with ⟨rfl, h0⟩ | ⟨g, cap, cur, rfl, _⟩
  · exact ⟨none, 0, by rw [← hT.1, h0], fun hp => by have := hT.1; omega⟩
  · refine ⟨some ⟨g, 0, none⟩, cap, by rw [← hT.1], fun hp => ⟨g, 0, rfl, (hlt g rfl).2, fun j φ hj => ?_⟩⟩
    have hjl : j < vs.length := by rw [hT.1]; exact (List.getElem?_eq_some_iff.1 hj).1
    obtain ⟨bs, h1, h2, _⟩ := hT.2 j _ φ (List.getElem?_eq_getElem hjl) hj
    have := hce (g := g) rfl j _ (List.getElem?_eq_getElem hjl)
    have hadd : (⟨g, 0, none⟩ : Addr).add j = ⟨g, 0 + j, none⟩ := by rw [Nat.zero_add]; unfold Addr.add; split <;> simp_all
    rw [hadd] at this
    exact ⟨_, bs, this, h1, h2⟩
/-- what a function that makes a list of turns leaves. -/
def TurnsPost (n : Int) (φs : List (Int → Int)) (w : World) (e : Ending) (w' : World) : Prop := ∃ v, e = .returned v ∧ TRow n w' w'.heap.size v φs ∧ Below w.heap.size w w'
theorem prTo_len (k : Nat) : (prTo k).length = k := by unfold prTo; rw [List.length_map, upI_len]
theorem shTo_len (i : Nat) : ∀ k, (shTo i k).length = (shTo i 0).length + k
  | 0 => rfl
  | k + 1 => by rw [shTo_k, List.length_append, shTo_len i k]; simp; omega
theorem shTo_le : ∀ i, i ≤ 8 → (shTo i 0).length ≤ i * 8
  | 0, _ => by simp [shTo_len0]
  | i + 1, h => by rw [shTo_i, shTo_len]; have := shTo_le i (by omega); omega

set_option maxRecDepth 100000 in
set_option maxHeartbeats 1000000 in
theorem presses_at (n : Int) (n1 : 1 ≤ n) (n2 : n ≤ 8) (w : World) : Calls Try.prog 94 #[.int .i64 n] w (TurnsPost n (prL n) w) := by
  obtain ⟨N, hN⟩ : ∃ N : Nat, n = (N : Int) := ⟨n.toNat, by omega⟩
  subst hN
  have hL := Lib.hid (show prTo N = prL (N : Int) by unfold prL; simp)
  go_enter Try.func94, Try.ntmps94
  go_wp2_with fail
  go_loopw [3, 7] (fun v q wr => ∃ k : Nat, k ≤ N ∧ q = .int .i64 k ∧ Hid (TurnL (N : Int) wr w.heap.size v (prTo k)) ∧ Hid (Below w.heap.size w wr)) (fun _ q _ => N - (intOf q).toNat)
  case atStart => exact ⟨0, by omega, rfl, Lib.hid (TurnL.lit _ w (Nat.le_refl _)), Lib.hid ((Below.refl w.heap.size w).alloc (Nat.le_refl _) _)⟩
  case round =>
    obtain ⟨k, hk, rfl, hO, hb⟩ := hrel
    have hzz := hb.out.size
    obtain ⟨a, c, hv⟩ := hO.out.form
    subst hv
    have hlen := Lib.hid (prTo_len k)
    have hL2 := Lib.hid (show TurnL (N : Int) wr w.heap.size (.slice a (prTo k).length c) (prTo k) from hO.out)
    by_cases hlt : k < N
    · have k1 : (k : Int) < (N : Int) := by omega
      have hp := Lib.hid (press_at (N : Int) (k : Nat) (ptB_mk (by omega) k1) wr)
      have hs := Lib.hid (prTo_succ k)
      obtain ⟨φs, hφ⟩ : ∃ φs, prTo k = φs := ⟨_, rfl⟩
      rw [hφ] at hL2 hlen hs ⊢
      replace hφ := Lib.hid hφ
      clear hO
      go_wp2_with (first
        | (go_at_call 123; (with_reducible refine hp.out.mono ?_); rintro e w1 ⟨u, bs, rfl, hu, hH, hno, hb1⟩; obtain ⟨g, cs, rfl, _⟩ := id hu; have hz1 := hb1.size; have hO1 := Lib.hid ((hL2.out.below hb1).below ((Below.refl w1.heap.size w1).alloc (Nat.le_refl _) (.cells #[.func (.func g) #[] cs] 85))); have hH1 := Lib.hid (hH.below ((Below.refl w1.heap.size w1).alloc (Nat.le_refl _) (.cells #[.func (.func g) #[] cs] 85))); replace hu := Lib.hid hu; replace hno := Lib.hid hno; replace hb1 := Lib.hid (hb.out.trans (hb1.mono hzz)); clear hH)
        | (at_builtin; refine app_turn rfl _ _ rfl (N : Int) w.heap.size _ φs rfl hO1.out (.func (.func g) #[] cs) _ bs w1.heap.size rfl (cell_new _ _ _) hu.out hH1.out hno.out ?_ ?_ ?_; (have := hlen.out; omega); (simp; omega); intro v' w2 hO2 hb2))
      go_wp2_with fail
      go_roundw
      case rel => exact ⟨k + 1, by omega, by go_num, Lib.hid (by rw [hs.out]; exact hO2), Lib.hid ((hb1.out.alloc (by omega) _).trans hb2)⟩
      case measure => simp [intOf]; omega
    · obtain rfl : k = N := by omega
      clear hO
      go_wp2_with fail
      go_ret
      refine ⟨_, rfl, ?_, hb.out⟩
      rw [← hL.out]
      exact hL2.out.row
end
section
/- Turns one behind the other, and rounds until nothing changes any more. -/
open Go.ChangeShapes Go.WideShapes Go.ChangeAt Go.RowKit Go.Proofs

theorem fam_frozen {w : World} {c : Nat} {lv u : Value} (h : w.heap[c]? = some (.cells #[lv, u] 40 (0, 0))) : w.frozen? ⟨c, 0, none⟩ = false ∧ w.frozen? ⟨c, 1, none⟩ = false := ⟨frozen_of h 0, frozen_of h 1⟩
theorem fam_stored {w : World} {c : Nat} {p q : Value} (h : w.heap[c]? = some (.cells #[p, q] 40 (0, 0))) (X Y : Value) : ((w.setCell ⟨c, 0, none⟩ X).setCell ⟨c, 1, none⟩ Y).heap[c]? = some (.cells #[X, Y] 40 (0, 0)) := by
  have h1 := heap_setCell_same w c 0 _ 40 X h
  have h2 := heap_setCell_same _ c 1 _ 40 Y h1
  rw [h2]; rfl
/-- a store into a box that holds a family leaves a list of sets. -/
theorem SRow.stored {w : World} {S c n k : Nat} {v q : Value} {a : Option Addr} {xs : List Int} (h : SRow w S v xs) (hc : w.heap[c]? = some (.cells #[.slice a n k, q] 40 (0, 0))) (hq : ∀ x, q ≠ .int .u64 x) (X Y : Value) :
    SRow ((w.setCell ⟨c, 0, none⟩ X).setCell ⟨c, 1, none⟩ Y) S v xs := by
  obtain ⟨a, cap, rfl, h⟩ := h
  refine ⟨a, cap, rfl, fun hl => ?_⟩
  obtain ⟨b, off, rfl, hs, hx⟩ := h hl
  have hne : c ≠ b := by
    intro e
    subst e
    have h0 := hx 0 hl
    rw [cell_of_row w c (off + 0) _ 40 (0, 0) hc] at h0
    match off, h0 with
    | 0, h0 => cases h0
    | 1, h0 => exact hq _ (Option.some.inj h0)
    | off + 2, h0 => simp at h0
  refine ⟨b, off, rfl, hs, fun i hi => ?_⟩
  rw [World.cell?_setCell_far _ _ _ _ hne, World.cell?_setCell_far _ _ _ _ hne]
  exact hx i hi
theorem rd_take {φs : List (Int → Int)} {k : Nat} {φ : Int → Int} (h : φs[k]? = some φ) (xs : List Int) : rdL (φs.take (k + 1)) xs = tnL φ (rdL (φs.take k) xs) := by
  rw [List.take_add_one, h]
  exact rd_snoc φ _ xs
theorem rd_fam_take {n : Int} {φs : List (Int → Int)} {xs : List Int} (h : ∀ φ ∈ φs, SetT n φ) (hf : famB n xs = true) (k : Nat) : famB n (rdL (φs.take k) xs) = true := rd_fam (fun φ hφ => h φ (List.mem_of_mem_take hφ)) hf

set_option maxRecDepth 100000 in
set_option maxHeartbeats 2000000 in
theorem round_at (n : Int) (lt lv : Value) (φs : List (Int → Int)) (Bn : Nat) (xs : List Int) (w : World) (hf : famB n xs = true) (hφ : ∀ φ ∈ φs, SetT n φ) (hT : TRow n w w.heap.size lt φs)
    (hc : w.heap[Bn]? = some (.cells #[lt] 68 (0, 0))) (hx : SRow w w.heap.size lv xs) (hl : φs.length ≤ 1000) :
    Calls Try.prog 143 #[.agg #[lv, (Value.func (.func 134) #[] #[])], .pointer (some ⟨Bn, 0, none⟩)] w (FamR w (rdL φs xs)) := by
  obtain ⟨a, cap, rfl, _⟩ := id hx
  obtain ⟨ta, tc, rfl, _⟩ := id hT
  have hBn := (Array.getElem?_eq_some_iff.1 hc).1
  have hbw := ((Below.refl w.heap.size w).alloc (Nat.le_refl _) (.cells #[.slice a xs.length cap, (Value.func (.func 134) #[] #[])] 40)).alloc (by simp) (.cells #[.slice none 0 0, .nilFunc] 40)
  have hc0 := one_cell_at ((hbw.block Bn hBn).trans hc)
  have h0 := new_cell2 w #[.slice a xs.length cap, (Value.func (.func 134) #[] #[])] 40 (.cells #[.slice none 0 0, .nilFunc] 40)
  have h1 := new_cell1 w #[.slice none 0 0, .nilFunc] 40 (.cells #[.slice a xs.length cap, (Value.func (.func 134) #[] #[])] 40)
  have hx2 := (hx.below hbw (Nat.le_refl _)).mono (show w.heap.size ≤ ((w.alloc (.cells #[.slice a xs.length cap, (Value.func (.func 134) #[] #[])] 40)).alloc (.cells #[.slice none 0 0, .nilFunc] 40)).heap.size by simp; omega)
  have hs2 : ((w.alloc (.cells #[.slice a xs.length cap, (Value.func (.func 134) #[] #[])] 40)).alloc (.cells #[.slice none 0 0, .nilFunc] 40)).heap.size = w.heap.size + 1 + 1 := by simp
  replace hT := Lib.hid hT
  replace hbw := Lib.hid hbw
  replace h0 := Lib.hid h0
  replace h1 := Lib.hid h1
  replace hx2 := Lib.hid hx2
  replace hs2 := Lib.hid hs2
  replace hf := Lib.hid hf
  replace hφ := Lib.hid hφ
  clear hx hc
  go_enter Try.func143, Try.ntmps143
  go_wp2_with fail
  go_loopw [8] (fun q wr => ∃ k : Nat, k ≤ φs.length ∧ q = .int .i64 k ∧ Hid (∃ v, wr.heap[w.heap.size]? = some (.cells #[v, (Value.func (.func 134) #[] #[])] 40 (0, 0)) ∧ SRow wr wr.heap.size v (rdL (φs.take k) xs)) ∧ Hid (wr.heap[w.heap.size + 1]? = some (.cells #[.slice none 0 0, .nilFunc] 40 (0, 0))) ∧ Hid (Below w.heap.size w wr) ∧ Hid (w.heap.size + 1 + 1 ≤ wr.heap.size)) (fun q _ => φs.length - (intOf q).toNat)
  case atStart => exact ⟨0, by omega, rfl, Lib.hid ⟨_, h0.out, hx2.out⟩, h1, hbw, Lib.hid (by rw [hs2.out]; omega)⟩
  case round =>
    obtain ⟨k, hk, rfl, hv, hr, hb, hz⟩ := hrel
    obtain ⟨v, hv0, hv1⟩ := hv.out
    obtain ⟨va, vc, rfl, _⟩ := id hv1
    obtain ⟨l0, l1⟩ := fam_cells hv0
    have hzz := hz.out
    clear hv
    by_cases hlt : k < φs.length
    · have k1 : (0 : Int) ≤ (k : Int) := by omega
      have k2 : (k : Int) < (φs.length : Nat) := by omega
      obtain ⟨φ, hφk⟩ : ∃ φ, φs[k]? = some φ := ⟨_, List.getElem?_eq_getElem hlt⟩
      have hTr := hT.out.below hb.out (Nat.le_refl _)
      obtain ⟨a', c', e, hTc⟩ := hTr
      injection e with e1 e2 e3
      subst e1 e3
      obtain ⟨b1, o1, rfl, s1, c1⟩ := hTc (by omega)
      obtain ⟨u, bs, e1, ⟨g, cs, rfl, eg, hcall⟩, hH⟩ := c1 k φ hφk
      have eg1 : ∀ args w, (callFunc g args).run Try.prog w = .ok (.enter g args) w := eg
      have hfy := rd_fam_take hφ.out hf.out k
      have hcl := Lib.hid (hcall wr _ _ hfy hH hv1)
      have hrt := Lib.hid (rd_take hφk xs)
      have hB0 : w.heap.size < wr.heap.size := by omega
      have hB1 : w.heap.size + 1 < wr.heap.size := by omega
      replace hv0 := Lib.hid hv0
      replace hv1 := Lib.hid hv1
      replace hφk := Lib.hid hφk
      replace hfy := Lib.hid hfy
      clear hcall hTc c1 hH
      obtain ⟨ys, hys⟩ : ∃ ys, rdL (φs.take k) xs = ys := ⟨_, rfl⟩
      rw [hys] at l0 hcl hrt hv0 hv1
      replace hys := Lib.hid hys
      go_wp2_with fail
      refine hcl.out.mono ?_
      rintro e w2 ⟨v2, rfl, hS2, hb2⟩
      obtain ⟨a2, c2, rfl, _⟩ := id hS2
      have hh2 := (hb2.block w.heap.size hB0).trans hv0.out
      obtain ⟨m0, m1⟩ := fam_cells hh2
      obtain ⟨f0, f1⟩ := fam_frozen hh2
      have hst := Lib.hid (fam_stored hh2 (.slice a2 (tnL φ ys).length c2) (Value.func (.func 134) #[] #[]))
      have hrs := Lib.hid (hS2.stored hh2 (fun _ => by simp) (.slice a2 (tnL φ ys).length c2) (Value.func (.func 134) #[] #[]))
      have hr2 := Lib.hid ((hb2.block (w.heap.size + 1) hB1).trans hr.out)
      have hsz2 := hb2.size
      replace hb2 := Lib.hid (below_setCell (below_setCell (hb.out.trans (hb2.mono (by omega))) (p := ⟨w.heap.size, 0, none⟩) (Nat.le_refl _) (.slice a2 (tnL φ ys).length c2)) (p := ⟨w.heap.size, 1, none⟩) (Nat.le_refl _) (Value.func (.func 134) #[] #[]))
      replace hh2 := Lib.hid hh2
      clear hS2 hcl
      go_wp2_with fail
      go_roundw
      case rel =>
        refine ⟨k + 1, by omega, by go_num, Lib.hid ⟨_, hst.out, ?_⟩, Lib.hid ?_, hb2, Lib.hid (by simp [World.setCell]; omega)⟩
        · rw [hrt.out]
          exact hrs.out.mono (by simp [World.setCell])
        · rw [Below.heap_setCell _ _ _ _ (by simp), Below.heap_setCell _ _ _ _ (by simp)]
          exact hr2.out
      case measure => simp [intOf]; omega
    · obtain rfl : k = φs.length := by omega
      rw [List.take_length] at hv1 l0
      obtain ⟨d0, d1⟩ := fam_cells hr.out
      obtain ⟨f0, f1⟩ := fam_frozen hr.out
      have rr := two_cells (.slice va (rdL φs xs).length vc) (Value.func (.func 134) #[] #[]) d0 d1
      have hfin := Lib.hid (show SRow ((wr.setCell ⟨w.heap.size + 1, 0, none⟩ (.slice va (rdL φs xs).length vc)).setCell ⟨w.heap.size + 1, 1, none⟩ (Value.func (.func 134) #[] #[])) wr.heap.size (.slice va (rdL φs xs).length vc) (rdL φs xs) ∧ Below w.heap.size w ((wr.setCell ⟨w.heap.size + 1, 0, none⟩ (.slice va (rdL φs xs).length vc)).setCell ⟨w.heap.size + 1, 1, none⟩ (Value.func (.func 134) #[] #[])) from
        ⟨hv1.stored hr.out (fun _ => by simp) _ _, below_setCell (below_setCell hb.out (p := ⟨w.heap.size + 1, 0, none⟩) (Nat.le_succ _) _) (p := ⟨w.heap.size + 1, 1, none⟩) (Nat.le_succ _) _⟩)
      clear hv1
      replace hv0 := Lib.hid hv0
      go_wp2_with fail
      exact bodyPost_ret (v := .agg #[.slice va (rdL φs xs).length vc, (Value.func (.func 134) #[] #[])]) (by simp [results, Try.results143, go_sem, rr.1, rr.2]) rfl ⟨_, rfl, hfin.out.1.mono (by simp [World.setCell]), hfin.out.2⟩

end
section
/- Rounds until nothing changes any more: a labelled loop. What is made of a family to be read. -/
open Go.ChangeShapes Go.WideShapes Go.ChangeAt Go.RowKit Go.Proofs

theorem same_of {xs ys : List Int} (h : sameB xs ys = true) : xs = ys := of_decide_eq_true h
theorem take_all {φs : List (Int → Int)} {k : Nat} {φ : Int → Int} {ys : List Int} (hk : φs[k]? = some φ) (h : ∀ ψ ∈ φs.take k, tnL ψ ys = ys) (h2 : tnL φ ys = ys) : ∀ ψ ∈ φs.take (k + 1), tnL ψ ys = ys := by
  intro ψ hψ
  rw [List.take_add_one, hk] at hψ
  rcases List.mem_append.1 hψ with h3 | h3
  · exact h ψ h3
  · simp at h3; subst h3; exact h2
set_option maxRecDepth 100000 in
set_option maxHeartbeats 4000000 in
theorem settled_at (n : Int) (lt lv : Value) (φs : List (Int → Int)) (xs : List Int) (w : World) (hf : famB n xs = true) (hφ : TurnsT n φs) (hT : TRow n w w.heap.size lt φs)
    (hx : SRow w w.heap.size lv xs) (hl : φs.length ≤ 1000) :
    Calls Try.prog 97 #[.agg #[lv, (Value.func (.func 134) #[] #[])], lt] w (FamR w (stL φs xs)) := by
  obtain ⟨a, cap, rfl, _⟩ := id hx
  obtain ⟨ta, tc, rfl, _⟩ := id hT
  have hmf := mkfunc
  have egr : ∀ args w, (callFunc 143 args).run Try.prog w = .ok (.enter 143 args) w := enters_of Try.func143 (by kernel_rfl) rfl
  have hbw := (((Below.refl w.heap.size w).alloc (Nat.le_refl _) (.cells #[.slice a xs.length cap, (Value.func (.func 134) #[] #[])] 40)).alloc (by simp) (.cells #[.slice none 0 0, .nilFunc] 40)).alloc (by simp; omega) (.cells #[.slice ta φs.length tc] 68)
  have h0 := new_cell3a w #[.slice a xs.length cap, (Value.func (.func 134) #[] #[])] 40 (.cells #[.slice none 0 0, .nilFunc] 40) (.cells #[.slice ta φs.length tc] 68)
  have h1 := new_cell3b w #[.slice none 0 0, .nilFunc] 40 (.cells #[.slice a xs.length cap, (Value.func (.func 134) #[] #[])] 40) (.cells #[.slice ta φs.length tc] 68)
  have h2 := new_cell3c w #[.slice ta φs.length tc] 68 (.cells #[.slice a xs.length cap, (Value.func (.func 134) #[] #[])] 40) (.cells #[.slice none 0 0, .nilFunc] 40)
  have hs2 : w.heap.size + 1 + 1 + 1 ≤ (((w.alloc (.cells #[.slice a xs.length cap, (Value.func (.func 134) #[] #[])] 40)).alloc (.cells #[.slice none 0 0, .nilFunc] 40)).alloc (.cells #[.slice ta φs.length tc] 68)).heap.size := by simp
  have hx2 := (hx.below hbw (Nat.le_refl _)).mono hbw.size
  replace hT := Lib.hid hT
  replace hbw := Lib.hid hbw
  replace h0 := Lib.hid h0
  replace h1 := Lib.hid h1
  replace h2 := Lib.hid h2
  replace hx2 := Lib.hid hx2
  replace hs2 := Lib.hid hs2
  replace hf := Lib.hid hf
  replace hφ := Lib.hid hφ
  clear hx
  go_enter Try.func97, Try.ntmps97
  go_wp2_with fail
  go_step3
  go_wp2_with (go_at_call 125; go_in)
  go_step3
  go_wp2_with fail
  go_loopg [] ((smI xs).toNat) (fun g wr => ∃ (j : Nat) (ys : List Int) (v : Value), Hid (itR φs j xs = ys) ∧ Hid (g = (smI ys).toNat) ∧ Hid (wr.heap[w.heap.size]? = some (.cells #[v, (Value.func (.func 134) #[] #[])] 40 (0, 0))) ∧ Hid (wr.heap[w.heap.size + 1]? = some (.cells #[.slice none 0 0, .nilFunc] 40 (0, 0)))
    ∧ Hid (wr.heap[w.heap.size + 1 + 1]? = some (.cells #[.slice ta φs.length tc] 68 (0, 0))) ∧ Hid (SRow wr wr.heap.size v ys) ∧ Hid (Below w.heap.size w wr) ∧ Hid (w.heap.size + 1 + 1 + 1 ≤ wr.heap.size))
  case atStart => exact ⟨0, xs, _, Lib.hid rfl, Lib.hid rfl, h0, h1, h2, hx2, hbw, hs2⟩
  case round =>
    obtain ⟨j, ys, v, hit, hg, hv0, hr, hrt, hS, hb, hz⟩ := hrel
    obtain ⟨va, vc, rfl, _⟩ := id hS.out
    have hfy := Lib.hid (hit.out ▸ it_fam hφ.out hf.out j : famB n ys = true)
    have hTr := Lib.hid (hT.out.below hb.out (Nat.le_refl _))
    have hzz := hz.out
    have hB0 : w.heap.size < wr.heap.size := by omega
    have hB1 : w.heap.size + 1 < wr.heap.size := by omega
    have hB2 : w.heap.size + 1 + 1 < wr.heap.size := by omega
    go_wp2_with fail
    go_loopg [12] φs.length (fun g2 q wq => ∃ k : Nat, k + g2 = φs.length ∧ q = .int .i64 k ∧ Hid (∀ ψ ∈ φs.take k, tnL ψ ys = ys) ∧ Hid (Below wr.heap.size wr wq))
    case atStart => exact ⟨0, by omega, rfl, Lib.hid (fun ψ hψ => by simp at hψ), Lib.hid (Below.refl _ _)⟩
    case round =>
      obtain ⟨k, hk, rfl, hall, hbq⟩ := hrel
      have hzq := hbq.out.size
      obtain ⟨l0, l1⟩ := fam_cells ((hbq.out.block w.heap.size hB0).trans hv0.out)
      cases gk with
      | zero =>
        have hkz : ¬ ((k : Int) < (φs.length : Nat)) := by omega
        have hfix : stL φs xs = ys := by
          rw [← hit.out]
          refine (st_eq ?_).symm
          rw [hit.out]
          refine rd_same fun ψ hψ => hall.out ψ ?_
          rw [List.take_of_length_le (by omega)]; exact hψ
        have hr2 := (hbq.out.block (w.heap.size + 1) hB1).trans hr.out
        obtain ⟨d0, d1⟩ := fam_cells hr2
        obtain ⟨f0, f1⟩ := fam_frozen hr2
        have rr := two_cells (.slice va ys.length vc) (Value.func (.func 134) #[] #[]) d0 d1
        have hfin := Lib.hid (show SRow ((wr.setCell ⟨w.heap.size + 1, 0, none⟩ (.slice va ys.length vc)).setCell ⟨w.heap.size + 1, 1, none⟩ (Value.func (.func 134) #[] #[])) wr.heap.size (.slice va ys.length vc) ys ∧ Below w.heap.size w ((wr.setCell ⟨w.heap.size + 1, 0, none⟩ (.slice va ys.length vc)).setCell ⟨w.heap.size + 1, 1, none⟩ (Value.func (.func 134) #[] #[])) from
          ⟨((hS.out.below hbq.out (Nat.le_refl _)).mono hzq).stored hr2 (fun _ => by simp) _ _, below_setCell (below_setCell (hb.out.trans (hbq.out.mono hb.out.size)) (p := ⟨w.heap.size + 1, 0, none⟩) (Nat.le_succ _) _) (p := ⟨w.heap.size + 1, 1, none⟩) (Nat.le_succ _) _⟩)
        replace hfix := Lib.hid hfix
        go_wp2_with fail
        exact bodyPost_ret (v := .agg #[.slice va ys.length vc, (Value.func (.func 134) #[] #[])]) (by simp [results, Try.results97, go_sem, rr.1, rr.2]) rfl ⟨_, rfl, hfix.out ▸ hfin.out.1.mono (by simp [World.setCell]), hfin.out.2⟩
      | succ g2 =>
        have hkz : (k : Int) < (φs.length : Nat) := by omega
        have hk0 : (0 : Int) ≤ (k : Int) := by omega
        obtain ⟨φ, hφk⟩ : ∃ φ, φs[k]? = some φ := ⟨_, List.getElem?_eq_getElem (by omega)⟩
        have hmem := List.mem_of_getElem? hφk
        have hTq := hTr.out.below hbq.out (by omega)
        obtain ⟨a', c', e, hTc⟩ := hTq
        injection e with e1 e2 e3
        subst e1 e3
        obtain ⟨b1, o1, rfl, s1, c1⟩ := hTc (by omega)
        obtain ⟨u, bs, e1, hTV, hH⟩ := c1 k φ hφk
        have hSq := (hS.out.below hbq.out (Nat.le_refl _)).mono hzq
        have hch := changes_at n u φ bs hTV (hφ.out φ hmem).1 (.slice va ys.length vc) ys wr hfy.out hH hSq
        obtain ⟨g, cs, rfl, _⟩ := hTV
        rcases (by cases sameB (tnL φ ys) ys <;> simp : sameB (tnL φ ys) ys = true ∨ sameB (tnL φ ys) ys = false) with hsm | hsm
        · rw [hsm] at hch
          have hall2 := Lib.hid (take_all hφk hall.out (same_of hsm))
          replace hch := Lib.hid hch
          replace hsm := Lib.hid hsm
          replace hφk := Lib.hid hφk
          replace hmem := Lib.hid hmem
          clear hTc c1 hH hSq
          go_wp2_with fail
          refine hch.out.mono ?_
          rintro e w2 ⟨rfl, hb2⟩
          replace hb2 := Lib.hid (hbq.out.trans (hb2.mono hzq))
          go_wp2_with fail
          go_roundg g2
          case measure => omega
          case rel => exact ⟨k + 1, by omega, by go_num, hall2, hb2⟩
        · rw [hsm] at hch
          have hlt := rd_lt hφ.out hfy.out ⟨φ, hmem, fun e => by rw [e] at hsm; simp [sameB] at hsm⟩
          have hnn := smI_nonneg (xs := rdL φs ys) (fun z hz => (famB_lt (rd_fam (fun φ hφ' => (hφ.out φ hφ').1) hfy.out) z hz).1)
          have hmea := Lib.hid (show (smI (rdL φs ys)).toNat < (smI ys).toNat by omega)
          replace hch := Lib.hid hch
          replace hsm := Lib.hid hsm
          replace hφk := Lib.hid hφk
          replace hmem := Lib.hid hmem
          replace hSq := Lib.hid hSq
          have hTq := Lib.hid (hTr.out.below hbq.out (by omega))
          clear hTc c1 hH hlt hnn
          go_wp2_with fail
          refine hch.out.mono ?_
          rintro e w2 ⟨rfl, hb2⟩
          have hz2 := hb2.size
          have hbq2 := hbq.out.trans (hb2.mono hzq)
          have hv2 := (hbq2.block w.heap.size hB0).trans hv0.out
          obtain ⟨m0, m1⟩ := fam_cells hv2
          have hra := Lib.hid (round_at n _ _ φs (w.heap.size + 1 + 1) ys w2 hfy.out (fun φ hφ' => (hφ.out φ hφ').1) ((hTq.out.below hb2 (by omega)).mono (by omega)) ((hbq2.block (w.heap.size + 1 + 1) hB2).trans hrt.out) ((hSq.out.below hb2 (Nat.le_refl _)).mono hz2) hl)
          replace hbq2 := Lib.hid hbq2
          replace hv2 := Lib.hid hv2
          clear hb2
          go_wp2_with fail
          refine hra.out.mono ?_
          rintro e w3 ⟨v3, rfl, hS3, hb3⟩
          obtain ⟨a3, c3, rfl, _⟩ := id hS3
          have hz3 := hb3.size
          have hv3 := (hb3.block w.heap.size (by omega)).trans hv2.out
          obtain ⟨n0, n1⟩ := fam_cells hv3
          obtain ⟨f0, f1⟩ := fam_frozen hv3
          have hst := Lib.hid (fam_stored hv3 (.slice a3 (rdL φs ys).length c3) (Value.func (.func 134) #[] #[]))
          have hrs := Lib.hid (hS3.stored hv3 (fun _ => by simp) (.slice a3 (rdL φs ys).length c3) (Value.func (.func 134) #[] #[]))
          have hbq3 := hbq2.out.trans (hb3.mono (by omega))
          have hr3 := Lib.hid ((hbq3.block (w.heap.size + 1) hB1).trans hr.out)
          have hrt3 := Lib.hid ((hbq3.block (w.heap.size + 1 + 1) hB2).trans hrt.out)
          have hbf := Lib.hid (below_setCell (below_setCell (hb.out.trans (hbq3.mono (by omega))) (p := ⟨w.heap.size, 0, none⟩) (Nat.le_refl _) (.slice a3 (rdL φs ys).length c3)) (p := ⟨w.heap.size, 1, none⟩) (Nat.le_refl _) (Value.func (.func 134) #[] #[]))
          replace hv3 := Lib.hid hv3
          clear hS3 hbq3 hra
          go_wp2_with fail
          go_roundg ((smI (rdL φs ys)).toNat)
          case measure => rw [hg.out]; exact hmea.out
          case rel =>
            refine ⟨j + 1, rdL φs ys, _, Lib.hid ?_, Lib.hid rfl, hst, Lib.hid ?_, Lib.hid ?_, Lib.hid ?_, hbf, Lib.hid (by simp [World.setCell]; omega)⟩
            · show rdL φs (itR φs j xs) = _
              rw [hit.out]
            · rw [Below.heap_setCell _ _ _ _ (by simp), Below.heap_setCell _ _ _ _ (by simp)]
              exact hr3.out
            · rw [Below.heap_setCell _ _ _ _ (by simp; omega), Below.heap_setCell _ _ _ _ (by simp; omega)]
              exact hrt3.out
            · exact hrs.out.mono (by simp [World.setCell])

end
section
/- The program's shifts and pressings. -/
open Go.ChangeShapes Go.WideShapes Go.ChangeAt Go.RowKit Go.Proofs

set_option maxHeartbeats 2000000 in
theorem made_read (g : Nat) (eg : EntersG g) (cs : Array Value) (n : Int) (lv : Value) (xs ys : List Int) (S : Nat) (w : World) (hx : Row w S lv xs) (hS : S ≤ w.heap.size) (hl : xs.length ≤ 100000000)
    (hF : famB n xs = true → (∀ (W : World) (lv : Value), Below w.heap.size w W → SRow W W.heap.size lv xs → Calls Try.prog g (#[.agg #[lv, (Value.func (.func 134) #[] #[])]] ++ cs) W (FamR W ys)) ∧ (∀ z ∈ ys, 0 ≤ z ∧ z < 256) ∧ ys.length ≤ 1000) :
    Calls Try.prog 51 #[.int .i64 n, lv, .func (.func g) #[] cs] w (ListPost (ifL (famB n xs) ys) (famB n xs) w) := by
  have eg1 : ∀ args w, (callFunc g args).run Try.prog w = .ok (.enter g args) w := eg
  have hr := Lib.hid (read_any n lv xs S w hx hS hl)
  obtain ⟨la, lc, rfl, _⟩ := id hx
  replace hF := Lib.hid hF
  clear hx
  go_enter Try.func51, Try.ntmps51
  go_wp2_with fail
  refine hr.out.mono ?_
  rintro e w1 (⟨hf, v, rfl, hS1, hb1⟩ | ⟨hf, rfl, hb1⟩)
  · obtain ⟨a', c', rfl⟩ := hS1.form
    have hz1 := hb1.size
    obtain ⟨hM, hzz, hlen⟩ := hF.out hf
    have hb2 := hb1.alloc hz1 (.cells #[.slice a' xs.length c', (Value.func (.func 134) #[] #[])] 40)
    have hS2 := hS1.alloc (.cells #[.slice a' xs.length c', (Value.func (.func 134) #[] #[])] 40)
    have hm := Lib.hid (hM _ _ hb2 hS2.row)
    have hL := Lib.hid (show ys = ifL (famB n xs) ys by unfold ifL; rw [if_pos hf])
    replace hf := Lib.hid hf.symm
    replace hb2 := Lib.hid hb2
    replace hzz := Lib.hid hzz
    clear hr hS1 hb1 hS2 hM hF
    go_wp2_with fail
    refine hm.out.mono ?_
    rintro e w2 ⟨u, rfl, hS3, hb3⟩
    obtain ⟨a3, c3, rfl, _⟩ := id hS3
    have hnum := Lib.hid (numbers_at _ _ _ _ hS3 (Nat.le_refl _) (by omega) hzz.out)
    rw [World.size_alloc] at hb3
    have hz3 := hb3.size
    rw [World.size_alloc] at hz3
    replace hb3 := Lib.hid (hb2.out.trans (hb3.mono (by omega)))
    clear hS3
    go_wp2_with fail
    refine hnum.out.mono ?_
    rintro e w3 ⟨t, rfl, hO, hb4⟩
    obtain ⟨ua, uc, rfl, _⟩ := id hO
    replace hb4 := Lib.hid (hb3.out.trans (hb4.mono (by omega)))
    replace hO := Lib.hid (hO.mono (show w.heap.size ≤ w2.heap.size by omega) (Nat.le_refl _))
    go_wp2_with fail
    go_ret2
    exact ⟨_, ret_vb hf.out, hL.out ▸ hO.out, hb4.out⟩
  · have hz1 := hb1.size
    have hL := Lib.hid (show [] = ifL (famB n xs) ys by unfold ifL; rw [hf]; rfl)
    replace hf := Lib.hid hf.symm
    replace hb1 := Lib.hid hb1
    clear hr hF
    go_wp2_with fail
    go_ret2
    exact ⟨_, ret_vb hf.out, hL.out ▸ own_empty _ _ _ _ _, (hb1.out.alloc hz1 _).alloc (by simp; omega) _⟩
theorem fam_bounds {n : Int} {ys : List Int} (h : famB n ys = true) : (∀ z ∈ ys, 0 ≤ z ∧ z < 256) ∧ ys.length ≤ 1000 := ⟨famB_lt h, by have := famB_len h; omega⟩
theorem made_turn (n : Int) (u lv : Value) (φ : Int → Int) (bs : List (Nat × Obj)) (hu : TurnV n u φ bs) (hs : SetT n φ) (xs : List Int) (S : Nat) (w : World) (hbs : Has w bs) (hx : Row w S lv xs) (hS : S ≤ w.heap.size) (hl : xs.length ≤ 100000000) :
    Calls Try.prog 51 #[.int .i64 n, lv, u] w (ListPost (ifL (famB n xs) (tnL φ xs)) (famB n xs) w) := by
  obtain ⟨g, cs, rfl, eg, hcall⟩ := hu
  exact made_read g eg cs n lv xs (tnL φ xs) S w hx hS hl (fun hf => ⟨fun W lv hb hr => hcall W lv xs hf (hbs.below hb) hr, fam_bounds (tn_fam hs hf)⟩)

theorem shL_len {n : Int} (n1 : 1 ≤ n) (n2 : n ≤ 8) : (shL n).length ≤ 1000 := by
  have := shTo_le n.toNat (by omega)
  unfold shL; omega
theorem prL_len {n : Int} (n1 : 1 ≤ n) (n2 : n ≤ 8) : (prL n).length ≤ 1000 := by
  unfold prL; rw [prTo_len]; omega
set_option maxRecDepth 100000 in
set_option maxHeartbeats 2000000 in
theorem presses_fam (n : Int) (Bn : Nat) (xs : List Int) (lv : Value) (W : World) (hc : W.cell? ⟨Bn, 0, none⟩ = some (.int .i64 n)) (hB : Bn < W.heap.size) (hf : famB n xs = true) (hx : SRow W W.heap.size lv xs) :
    Calls Try.prog 96 #[.agg #[lv, (Value.func (.func 134) #[] #[])], .pointer (some ⟨Bn, 0, none⟩)] W (FamR W (stL (prL n) xs)) := by
  obtain ⟨n1, n2, _⟩ := famB_all hf
  obtain ⟨a, cap, rfl, _⟩ := id hx
  have hbw := ((Below.refl W.heap.size W).alloc (Nat.le_refl _) (.cells #[.slice a xs.length cap, (Value.func (.func 134) #[] #[])] 40)).alloc (by simp) (.cells #[.slice none 0 0, .nilFunc] 40)
  have hcW := (hbw.cell (p := ⟨Bn, 0, none⟩) hB).trans hc
  obtain ⟨l0, l1⟩ := fam_cells (new_cell2 W #[.slice a xs.length cap, (Value.func (.func 134) #[] #[])] 40 (.cells #[.slice none 0 0, .nilFunc] 40))
  have hnew := new_cell1 W #[.slice none 0 0, .nilFunc] 40 (.cells #[.slice a xs.length cap, (Value.func (.func 134) #[] #[])] 40)
  have hxr := hx.below hbw (Nat.le_refl _)
  have hz0 : ((W.alloc (.cells #[.slice a xs.length cap, (Value.func (.func 134) #[] #[])] 40)).alloc (.cells #[.slice none 0 0, .nilFunc] 40)).heap.size = W.heap.size + 1 + 1 := by simp
  have hlS := prL_len n1 n2
  have hTS := Lib.hid (prL_turns n)
  have hsf := Lib.hid (st_in (prL_turns n) hf)
  obtain ⟨φs, hφs⟩ : ∃ φs, prL n = φs := ⟨_, rfl⟩
  rw [hφs] at hlS hTS hsf ⊢
  obtain ⟨W0, hW0⟩ : ∃ W0, (W.alloc (.cells #[.slice a xs.length cap, (Value.func (.func 134) #[] #[])] 40)).alloc (.cells #[.slice none 0 0, .nilFunc] 40) = W0 := ⟨_, rfl⟩
  rw [hW0] at hbw hcW l0 l1 hnew hxr hz0
  have hc1 := presses_at n n1 n2 W0.drew
  rw [hφs] at hc1
  have hlt : W.heap.size < W0.heap.size := by omega
  have hlt1 : W.heap.size + 1 < W0.heap.size := by omega
  have hle : W.heap.size ≤ W0.heap.size := by omega
  replace hc1 := Lib.hid hc1
  replace hφs := Lib.hid hφs
  replace hbw := Lib.hid hbw
  replace hnew := Lib.hid hnew
  replace hxr := Lib.hid hxr
  replace hz0 := Lib.hid hz0
  replace hf := Lib.hid hf
  clear hx
  go_enter Try.func96, Try.ntmps96
  go_wp2_with fail
  replace hW0 := Lib.hid hW0
  go_region_with (first
    | (go_at_call 94; (with_reducible refine hc1.out.mono ?_); rintro e w2 ⟨v2, rfl, hT2, hb2⟩; obtain ⟨a2, c2, rfl, _⟩ := id hT2; have m0 : w2.cell? ⟨W.heap.size, 0, none⟩ = some (.slice a xs.length cap) := (hb2.cell (p := ⟨W.heap.size, 0, none⟩) hlt).trans l0; have m1 : w2.cell? ⟨W.heap.size, 1, none⟩ = some (Value.func (.func 134) #[] #[]) := (hb2.cell (p := ⟨W.heap.size, 1, none⟩) hlt).trans l1; have hz2 := hb2.size; have hx2 := Lib.hid ((hxr.out.drew.below hb2 hle).mono (Nat.le_trans hle hz2)); replace hT2 := Lib.hid hT2; replace hb2 := Lib.hid hb2)
    | (go_at_call 97; (with_reducible refine (settled_at n _ _ φs xs _ hf.out hTS.out hT2.out hx2.out hlS).mono ?_); rintro e w3 ⟨v3, rfl, hS3, hb3⟩; obtain ⟨a3, c3, rfl, _⟩ := id hS3; have hn3 := (hb3.block (W.heap.size + 1) (Nat.lt_of_lt_of_le hlt1 hz2)).trans ((hb2.out.block (W.heap.size + 1) hlt1).trans hnew.out); obtain ⟨d0, d1⟩ := fam_cells hn3; obtain ⟨f0, f1⟩ := fam_frozen hn3; replace hn3 := Lib.hid hn3; replace hS3 := Lib.hid hS3; replace hb3 := Lib.hid hb3))
  all_goals
    have rr := two_cells (.slice a3 (stL φs xs).length c3) (Value.func (.func 134) #[] #[]) d0 d1
    have hfin := Lib.hid (show SRow ((w3.setCell ⟨W.heap.size + 1, 0, none⟩ (.slice a3 (stL φs xs).length c3)).setCell ⟨W.heap.size + 1, 1, none⟩ (Value.func (.func 134) #[] #[])) w3.heap.size (.slice a3 (stL φs xs).length c3) (stL φs xs) ∧ Below W.heap.size W ((w3.setCell ⟨W.heap.size + 1, 0, none⟩ (.slice a3 (stL φs xs).length c3)).setCell ⟨W.heap.size + 1, 1, none⟩ (Value.func (.func 134) #[] #[])) from
      ⟨hS3.out.stored hn3.out (fun _ => by simp) _ _, below_setCell (below_setCell (hbw.out.trans ((Below.refl W.heap.size W0).drew.trans ((hb2.out.mono hle).trans (hb3.out.mono (Nat.le_trans hle hz2))))) (p := ⟨W.heap.size + 1, 0, none⟩) (Nat.le_succ _) _) (p := ⟨W.heap.size + 1, 1, none⟩) (Nat.le_succ _) _⟩)
    go_wp2_with fail
    exact bodyPost_ret (v := .agg #[.slice a3 (stL φs xs).length c3, (Value.func (.func 134) #[] #[])]) (by simp [results, Try.results96, go_sem, rr.1, rr.2]) rfl ⟨_, rfl, hfin.out.1.mono (by simp [World.setCell]), hfin.out.2⟩
set_option maxRecDepth 100000 in
set_option maxHeartbeats 1000000 in
theorem im_PressAll (n : Int) (lv : Value) (xs : List Int) (S : Nat) (w : World) (hx : Row w S lv xs) (hS : S ≤ w.heap.size) (hl : xs.length ≤ 100000000) :
    Calls Try.prog 49 #[.int .i64 n, lv] w (ListPost (ifL (famB n xs) (stL (prL n) xs)) (famB n xs) w) := by
  have hbw := (Below.refl w.heap.size w).alloc (Nat.le_refl _) (.cells #[.int .i64 n] 3)
  have hc := cell_new w (.int .i64 n) 3
  have hk := Lib.hid (made_read 96 (enters_of Try.func96 (by kernel_rfl) rfl) #[.pointer (some ⟨w.heap.size, 0, none⟩)] n lv xs (stL (prL n) xs) S (w.alloc (.cells #[.int .i64 n] 3)) (hx.below hbw hS) (by simp; omega) hl
    (fun hf => ⟨fun W lv hb hr => presses_fam n w.heap.size xs lv W ((hb.cell (p := ⟨w.heap.size, 0, none⟩) (by simp)).trans hc) (by have := hb.size; simp at this; omega) hf hr, fam_bounds (st_in (prL_turns n) hf)⟩))
  have hmf := mkfunc
  replace hbw := Lib.hid hbw
  obtain ⟨la, lc, rfl, _⟩ := id hx
  clear hx
  go_enter Try.func49, Try.ntmps49
  go_wp2_with fail
  refine hk.out.mono ?_
  rintro e w2 ⟨v, rfl, hO, hb2⟩
  rw [World.size_alloc] at hO hb2
  obtain ⟨ua, uc, rfl, _⟩ := id hO
  replace hO := Lib.hid (hO.mono (Nat.le_succ _) (Nat.le_refl _))
  replace hb2 := Lib.hid (hbw.out.trans (hb2.mono (Nat.le_succ _)))
  go_wp2_with fail
  go_ret2
  exact ⟨_, rfl, hO.out, hb2.out⟩

end
section
/- The program: whether a family stays as it is. -/
open Go.ChangeShapes Go.WideShapes Go.ChangeAt Go.RowKit Go.Proofs

theorem anyT_take {φs : List (Int → Int)} {k : Nat} {φ : Int → Int} (h : φs[k]? = some φ) (p : (Int → Int) → Bool) : (φs.take (k + 1)).any p = ((φs.take k).any p || p φ) := by rw [List.take_add_one, h, List.any_append]; simp
/-- what a search leaves. -/
def IdxT (b : Bool) (w : World) (e : Ending) (w' : World) : Prop := ∃ r : Int, e = .returned (.int .i64 r) ∧ decide (0 ≤ r) = b ∧ -1 ≤ r ∧ r ≤ 1000000 ∧ Below w.heap.size w w'
/-- the function value answers p of each turn of the list. -/
def AsksT (n : Int) (g : Nat) (cs : Array Value) (p : (Int → Int) → Bool) (φs : List (Int → Int)) (w : World) : Prop :=
  ∀ (W : World) (u : Value) (φ : Int → Int) (bs : List (Nat × Obj)), φ ∈ φs → TurnV n u φ bs → Has W bs → Below w.heap.size w W → Calls Try.prog g (#[u] ++ cs) W fun e w' => e = .returned (.bool (p φ)) ∧ Below W.heap.size W w'
set_option maxRecDepth 100000 in
set_option maxHeartbeats 1000000 in
theorem index_turns (n : Int) (g : Nat) (eg : EntersG g) (cs : Array Value) (p : (Int → Int) → Bool) (lt : Value) (φs : List (Int → Int)) (w : World) (hT : TRow n w w.heap.size lt φs) (hl : φs.length ≤ 1000) (hp : AsksT n g cs p φs w) :
    Calls Try.prog 137 #[lt, .func (.func g) #[] cs] w (IdxT (φs.any p) w) := by
  have eg1 : ∀ args w, (callFunc g args).run Try.prog w = .ok (.enter g args) w := eg
  obtain ⟨ta, tc, rfl, _⟩ := id hT
  replace hT := Lib.hid hT
  replace hp := Lib.hid hp
  go_enter Try.func137, Try.ntmps137
  go_wp2_with fail
  go_loopw [8] (fun q wr => ∃ k : Nat, k ≤ φs.length ∧ q = .int .i64 k ∧ Hid ((φs.take k).any p = false) ∧ Hid (Below w.heap.size w wr)) (fun q _ => φs.length - (intOf q).toNat)
  case atStart => exact ⟨0, by omega, rfl, Lib.hid rfl, Lib.hid (Below.refl _ _)⟩
  case round =>
    obtain ⟨k, hk, rfl, hn, hb⟩ := hrel
    have hzz := hb.out.size
    by_cases hlt : k < φs.length
    · have k1 : (0 : Int) ≤ (k : Int) := by omega
      have k2 : (k : Int) < (φs.length : Nat) := by omega
      obtain ⟨φ, hφk⟩ : ∃ φ, φs[k]? = some φ := ⟨_, List.getElem?_eq_getElem hlt⟩
      have hmem := List.mem_of_getElem? hφk
      have hTr := hT.out.below hb.out (Nat.le_refl _)
      obtain ⟨a', c', e, hTc⟩ := hTr
      injection e with e1 e2 e3
      subst e1 e3
      obtain ⟨b1, o1, rfl, s1, c1⟩ := hTc (by omega)
      obtain ⟨u, bs, e1, hTV, hH⟩ := c1 k φ hφk
      have hcall := hp.out wr u φ bs hmem hTV hH hb.out
      have hft := anyT_take hφk p
      rw [hn.out, Bool.false_or] at hft
      obtain ⟨g', cs', rfl, _⟩ := hTV
      clear hTc c1 hH
      rcases (by cases p φ <;> simp : p φ = true ∨ p φ = false) with hpx | hpx
      · rw [hpx] at hcall hft
        have hf := Lib.hid (show φs.any p = true from List.any_eq_true.2 ⟨φ, hmem, hpx⟩)
        replace hcall := Lib.hid hcall
        replace hft := Lib.hid hft
        replace hpx := Lib.hid hpx
        replace hφk := Lib.hid hφk
        replace hmem := Lib.hid hmem
        go_wp2_with fail
        refine hcall.out.mono ?_
        rintro e w2 ⟨rfl, hb2⟩
        replace hb2 := Lib.hid (hb.out.trans (hb2.mono (by omega)))
        go_wp2_with fail
        go_ret
        exact ⟨(k : Nat), rfl, by rw [hf.out]; exact decide_eq_true (by omega), by omega, by omega, hb2.out⟩
      · rw [hpx] at hcall hft
        replace hcall := Lib.hid hcall
        replace hft := Lib.hid hft
        replace hpx := Lib.hid hpx
        replace hφk := Lib.hid hφk
        replace hmem := Lib.hid hmem
        go_wp2_with fail
        refine hcall.out.mono ?_
        rintro e w2 ⟨rfl, hb2⟩
        replace hb2 := Lib.hid (hb.out.trans (hb2.mono (by omega)))
        go_wp2_with fail
        go_roundw
        case rel => exact ⟨k + 1, by omega, by go_num, hft, hb2⟩
        case measure => simp [intOf]; omega
    · have hf := Lib.hid (show φs.any p = false by
        have h := hn.out
        rw [List.take_of_length_le (by omega)] at h
        exact h)
      go_wp2_with fail
      go_ret
      exact ⟨-1, rfl, by rw [hf.out]; rfl, by omega, by omega, hb.out⟩
theorem contains_turns (n : Int) (g : Nat) (eg : EntersG g) (cs : Array Value) (p : (Int → Int) → Bool) (lt : Value) (φs : List (Int → Int)) (w : World) (hT : TRow n w w.heap.size lt φs) (hl : φs.length ≤ 1000) (hp : AsksT n g cs p φs w) :
    Calls Try.prog 120 #[lt, .func (.func g) #[] cs] w fun e w' => e = .returned (.bool (φs.any p)) ∧ Below w.heap.size w w' := by
  have h := Lib.hid (index_turns n g eg cs p lt φs w hT hl hp)
  obtain ⟨ta, tc, rfl, _⟩ := id hT
  obtain ⟨b, hb⟩ : ∃ b, φs.any p = b := ⟨_, rfl⟩
  rw [hb] at h ⊢
  replace hb := Lib.hid hb
  clear hp hT
  go_enter Try.func120, Try.ntmps120
  go_wp2_with fail
  refine h.out.mono ?_
  rintro e w2 ⟨r, rfl, hr, r1, r2, hb2⟩
  replace hr := Lib.hid hr
  replace hb2 := Lib.hid hb2
  go_wp2_with fail
  go_ret
  exact ⟨ret_bool hr.out, hb2.out⟩
theorem stays_clo (n : Int) (c : Nat) (lv : Value) (xs : List Int) (φs : List (Int → Int)) (w : World) (hc : w.heap[c]? = some (.cells #[lv, (Value.func (.func 134) #[] #[])] 40 (0, 0))) (hx : SRow w w.heap.size lv xs) (hf : famB n xs = true) (hφ : ∀ φ ∈ φs, SetT n φ) :
    AsksT n 121 #[.pointer (some ⟨c, 0, none⟩)] (fun φ => !sameB (tnL φ xs) xs) φs w := fun W u φ bs hmem hTV hH hb => by
  have hch := changes_at n u φ bs hTV (hφ φ hmem) lv xs W hf hH ((hx.below hb (Nat.le_refl _)).mono hb.size)
  have hclt := (Array.getElem?_eq_some_iff.1 hc).1
  obtain ⟨l0, l1⟩ := fam_cells ((hb.block c hclt).trans hc)
  obtain ⟨g, cs, rfl, _⟩ := hTV
  obtain ⟨a, cap, rfl, _⟩ := id hx
  obtain ⟨b, hbb⟩ : ∃ b, (!sameB (tnL φ xs) xs) = b := ⟨_, rfl⟩
  show Calls Try.prog 121 #[.func (.func g) #[] cs, .pointer (some ⟨c, 0, none⟩)] W fun e w' => e = .returned (.bool (!sameB (tnL φ xs) xs)) ∧ Below W.heap.size W w'
  rw [hbb] at hch ⊢
  replace hch := Lib.hid hch
  replace hbb := Lib.hid hbb
  replace hmem := Lib.hid hmem
  replace hf := Lib.hid hf
  clear hx hb hc hH
  go_enter Try.func121, Try.ntmps121
  go_wp2_with fail
  refine hch.out.mono ?_
  rintro e w2 ⟨rfl, hb2⟩
  replace hb2 := Lib.hid hb2
  go_wp2_with fail
  go_ret
  exact ⟨rfl, hb2.out⟩
/-- no turn changes the family. -/
def staysB (n : Int) (φs : List (Int → Int)) (xs : List Int) : Bool := famB n xs && !φs.any (fun φ => !sameB (tnL φ xs) xs)
set_option maxRecDepth 100000 in
set_option maxHeartbeats 2000000 in
theorem stays_at (n : Int) (g : Nat) (eg : EntersG g) (φs : List (Int → Int)) (hφ : ∀ φ ∈ φs, SetT n φ) (hlen : 1 ≤ n → n ≤ 8 → φs.length ≤ 1000) (hg : ∀ W, 1 ≤ n → n ≤ 8 → Calls Try.prog g #[.int .i64 n] W (TurnsPost n φs W)) (lv : Value) (xs : List Int) (S : Nat) (w : World) (hx : Row w S lv xs) (hS : S ≤ w.heap.size) (hl : xs.length ≤ 100000000) :
    Calls Try.prog 93 #[.int .i64 n, lv, .func (.func g) #[] #[]] w fun e w' => e = .returned (.bool (staysB n φs xs)) ∧ Below w.heap.size w w' := by
  have eg1 : ∀ args w, (callFunc g args).run Try.prog w = .ok (.enter g args) w := eg
  have hr := Lib.hid (read_any n lv xs S w hx hS hl)
  obtain ⟨la, lc, rfl, _⟩ := id hx
  have hmf := mkfunc
  replace hφ := Lib.hid hφ
  replace hlen := Lib.hid hlen
  replace hg := Lib.hid hg
  clear hx
  go_enter Try.func93, Try.ntmps93
  go_wp2_with fail
  refine hr.out.mono ?_
  rintro e w1 (⟨hf, v, rfl, hS1, hb1⟩ | ⟨hf, rfl, hb1⟩)
  · obtain ⟨a', c', rfl⟩ := hS1.form
    have hz1 := hb1.size
    obtain ⟨n1, n2, _⟩ := famB_all hf
    have hst := new_cell w1 #[.slice a' xs.length c', (Value.func (.func 134) #[] #[])] 40
    have hbw0 := (Below.refl w1.heap.size w1).alloc (Nat.le_refl _) (.cells #[.slice a' xs.length c', (Value.func (.func 134) #[] #[])] 40)
    have hrs := hS1.row.below hbw0 (Nat.le_refl _)
    have hbw := hb1.alloc hz1 (.cells #[.slice a' xs.length c', (Value.func (.func 134) #[] #[])] 40)
    obtain ⟨q0, q1⟩ := fam_cells hst
    have hc1 := hg.out (w1.alloc (.cells #[.slice a' xs.length c', (Value.func (.func 134) #[] #[])] 40)) n1 n2
    have hz2 : (w1.alloc (.cells #[.slice a' xs.length c', (Value.func (.func 134) #[] #[])] 40)).heap.size = w1.heap.size + 1 := by simp
    have hle := hlen.out n1 n2
    have hB := Lib.hid (show staysB n φs xs = !φs.any (fun φ => !sameB (tnL φ xs) xs) by unfold staysB; rw [hf, Bool.true_and])
    replace hf := Lib.hid hf
    replace hc1 := Lib.hid hc1
    replace hst := Lib.hid hst
    replace hrs := Lib.hid hrs
    replace hbw := Lib.hid hbw
    replace hz2 := Lib.hid hz2
    clear hS1 hr hb1 hbw0
    go_wp2_with fail
    refine hc1.out.mono ?_
    rintro e w2 ⟨v2, rfl, hT2, hb2⟩
    obtain ⟨a2, c2, rfl, _⟩ := id hT2
    have hz3 := hb2.size
    have hct := Lib.hid (contains_turns n 121 (enters_of Try.func121 (by kernel_rfl) rfl) #[.pointer (some ⟨w1.heap.size, 0, none⟩)] _ _ φs w2 hT2 hle
      (stays_clo n w1.heap.size (.slice a' xs.length c') xs φs w2 ((hb2.block w1.heap.size (by rw [hz2.out]; omega)).trans hst.out) ((hrs.out.below hb2 (by rw [hz2.out]; omega)).mono (by rw [hz2.out] at hz3; omega)) hf.out hφ.out))
    obtain ⟨b, hbb⟩ : ∃ b, φs.any (fun φ => !sameB (tnL φ xs) xs) = b := ⟨_, rfl⟩
    rw [hbb] at hct hB
    replace hbb := Lib.hid hbb
    rw [hz2.out] at hb2 hz3
    replace hb2 := Lib.hid (hbw.out.trans (hb2.mono (by omega)))
    clear hT2
    go_wp2_with fail
    refine hct.out.mono ?_
    rintro e w3 ⟨rfl, hb3⟩
    replace hb3 := Lib.hid (hb2.out.trans (hb3.mono (by omega)))
    go_wp2_with fail
    go_ret
    exact ⟨ret_bool hB.out.symm, hb3.out⟩
  · have hz1 := hb1.size
    have hB := Lib.hid (show false = staysB n φs xs by unfold staysB; rw [hf, Bool.false_and])
    have hbw := hb1.alloc hz1 (.cells #[.slice none 0 0, .nilFunc] 40)
    replace hf := Lib.hid hf
    replace hbw := Lib.hid hbw
    clear hr hb1
    go_wp2_with fail
    go_ret
    exact ⟨ret_bool hB.out, hbw.out⟩
theorem im_PressedIn (n : Int) (lv : Value) (xs : List Int) (S : Nat) (w : World) (hx : Row w S lv xs) (hS : S ≤ w.heap.size) (hl : xs.length ≤ 100000000) :
    Calls Try.prog 47 #[.int .i64 n, lv] w fun e w' => e = .returned (.bool (staysB n (prL n) xs)) ∧ Below w.heap.size w w' := by
  have hs := Lib.hid (stays_at n 94 (enters_of Try.func94 (by kernel_rfl) rfl) (prL n) (fun φ hφ => (prL_turns n φ hφ).1) prL_len (fun W h1 h2 => presses_at n h1 h2 W) lv xs S w hx hS hl)
  obtain ⟨la, lc, rfl, _⟩ := id hx
  clear hx
  go_enter Try.func47, Try.ntmps47
  go_wp2_with fail
  refine hs.out.mono ?_
  rintro e w2 ⟨rfl, hb2⟩
  replace hb2 := Lib.hid hb2
  go_wp2_with fail
  go_ret
  exact ⟨rfl, hb2.out⟩

end
end Go.Proofs.Ythljimmhgpbmbab
