/- Texts merged: XTn1 XTn2 XTn3 XTn4 XTn5 XTn6 XTn7 XTn8. -/
import Derived.Test.YthljimmhgpbmbaaFam
import Derived.Test.YthljimmhgpbmbaaSets2
import Derived.Test.YthljimmhgpbmbaaFams8
import Derived.Test.YthljimmhgpbmbaaLawsC
import Derived.Deep.LoopGhost
import Derived.BigQuiet
import Derived.Maps.AppendAt
import Derived.Deep.RegionHeld
import Derived.WalkMore
import Derived.Deep.RegionWith
namespace Go.Proofs.Ythljimmhgpbmbaa
section
/- Shifts and pressings, one behind the other: plain mathematics, no program in it. -/
open Go.RowKit

/-- what a set becomes, unless that is there already. -/
def rpI (φ : Int → Int) (xs : List Int) (x : Int) : Int := if memB (φ x) xs then x else φ x
/-- the family behind a turn. -/
def tnL (φ : Int → Int) (xs : List Int) : List Int := sortL (xs.map (rpI φ xs))
/-- the family behind all turns. -/
def rdL (φs : List (Int → Int)) (xs : List Int) : List Int := φs.foldl (fun f φ => tnL φ f) xs
/-- the turn takes sets of n points to such sets. -/
def SetT (n : Int) (φ : Int → Int) : Prop := ∀ x, setB n x = true → setB n (φ x) = true
/-- and to none that is greater. -/
def LowT (n : Int) (φ : Int → Int) : Prop := ∀ x, setB n x = true → φ x ≤ x
theorem rp_set {n : Int} {φ : Int → Int} (h : SetT n φ) {xs : List Int} {x : Int} (hx : setB n x = true) : setB n (rpI φ xs x) = true := by
  unfold rpI; split
  · exact hx
  · exact h x hx
theorem tn_fam {n : Int} {φ : Int → Int} (h : SetT n φ) {xs : List Int} (hf : famB n xs = true) : famB n (tnL φ xs) = true := by
  obtain ⟨n1, n2, hz⟩ := famB_all hf
  refine famB_mk (ptsB_mk n1 n2) (fun z hz' => ?_) (asc_sortL _)
  obtain ⟨y, hy, rfl⟩ := List.mem_map.1 (mem_sortL.1 hz')
  exact rp_set h (hz y hy)
theorem rd_fam {n : Int} {φs : List (Int → Int)} : ∀ {xs : List Int}, (∀ φ ∈ φs, SetT n φ) → famB n xs = true → famB n (rdL φs xs) = true := by
  induction φs with
  | nil => exact fun _ hf => hf
  | cons φ φs ih => exact fun h hf => ih (fun ψ hψ => h ψ (List.mem_cons_of_mem _ hψ)) (tn_fam (h φ List.mem_cons_self) hf)
theorem rd_cons (φ : Int → Int) (φs : List (Int → Int)) (xs : List Int) : rdL (φ :: φs) xs = rdL φs (tnL φ xs) := rfl
theorem rd_snoc (φ : Int → Int) (φs : List (Int → Int)) (xs : List Int) : rdL (φs ++ [φ]) xs = tnL φ (rdL φs xs) := by unfold rdL; rw [List.foldl_append]; rfl

/-- the sum of a list. -/
def smI : List Int → Int
  | [] => 0
  | x :: xs => x + smI xs
theorem smI_app (xs ys : List Int) : smI (xs ++ ys) = smI xs + smI ys := by
  induction xs with
  | nil => simp [smI]
  | cons x xs ih => simp only [List.cons_append, smI, ih]; omega
theorem smI_ins {x : Int} (h : 0 ≤ x) (xs : List Int) : smI (insI x xs) ≤ smI xs + x := by
  unfold insI; split
  · omega
  · have := smI_app (xs.take (plN x xs)) (xs.drop (plN x xs))
    rw [List.take_append_drop] at this
    rw [smI_app]; simp only [smI]; omega
theorem smI_fold (xs : List Int) : ∀ (a : List Int), (∀ x ∈ xs, 0 ≤ x) → smI (xs.foldl (fun a x => insI x a) a) ≤ smI a + smI xs := by
  induction xs with
  | nil => intro a _; simp [smI]
  | cons x xs ih =>
    intro a h
    have h1 := ih (insI x a) (fun y hy => h y (List.mem_cons_of_mem _ hy))
    have h2 := smI_ins (h x List.mem_cons_self) a
    simp only [List.foldl_cons, smI]; omega
theorem smI_sort {xs : List Int} (h : ∀ x ∈ xs, 0 ≤ x) : smI (sortL xs) ≤ smI xs := by
  have := smI_fold xs [] h
  simp only [smI] at this
  unfold sortL; omega
theorem smI_map {f : Int → Int} {xs : List Int} : (∀ x ∈ xs, f x ≤ x) → smI (xs.map f) ≤ smI xs := by
  induction xs with
  | nil => intro _; simp [smI]
  | cons x xs ih =>
    intro h
    have h1 := ih (fun y hy => h y (List.mem_cons_of_mem _ hy))
    have h2 := h x List.mem_cons_self
    simp only [List.map_cons, smI]; omega
theorem smI_map_eq {f : Int → Int} {xs : List Int} : (∀ x ∈ xs, f x ≤ x) → smI xs ≤ smI (xs.map f) → xs.map f = xs := by
  induction xs with
  | nil => intro _ _; rfl
  | cons x xs ih =>
    intro h he
    have h1 := smI_map (f := f) (xs := xs) (fun y hy => h y (List.mem_cons_of_mem _ hy))
    have h2 := h x List.mem_cons_self
    simp only [List.map_cons, smI] at he
    rw [List.map_cons, ih (fun y hy => h y (List.mem_cons_of_mem _ hy)) (by omega)]
    congr 1; omega
theorem smI_nonneg {xs : List Int} : (∀ x ∈ xs, 0 ≤ x) → 0 ≤ smI xs := by
  induction xs with
  | nil => intro _; simp [smI]
  | cons x xs ih =>
    intro h
    have h1 := ih (fun y hy => h y (List.mem_cons_of_mem _ hy))
    have h2 := h x List.mem_cons_self
    simp only [smI]; omega
theorem rp_le {n : Int} {φ : Int → Int} (h : LowT n φ) {xs : List Int} {x : Int} (hx : setB n x = true) : rpI φ xs x ≤ x := by
  unfold rpI; split
  · omega
  · exact h x hx
theorem tn_sum {n : Int} {φ : Int → Int} (hs : SetT n φ) {xs : List Int} (hf : famB n xs = true) : smI (tnL φ xs) ≤ smI (xs.map (rpI φ xs)) := by
  refine smI_sort fun z hz => ?_
  obtain ⟨y, hy, rfl⟩ := List.mem_map.1 hz
  exact (setB_lt (rp_set hs ((famB_all hf).2.2 y hy))).1
theorem tn_le {n : Int} {φ : Int → Int} (hs : SetT n φ) (h : LowT n φ) {xs : List Int} (hf : famB n xs = true) : smI (tnL φ xs) ≤ smI xs := by
  have h1 := tn_sum hs hf
  have h2 := smI_map (f := rpI φ xs) (xs := xs) (fun x hx => rp_le h ((famB_all hf).2.2 x hx))
  omega
theorem tn_lt {n : Int} {φ : Int → Int} (hs : SetT n φ) (h : LowT n φ) {xs : List Int} (hf : famB n xs = true) (hne : tnL φ xs ≠ xs) : smI (tnL φ xs) < smI xs := by
  have h1 := tn_sum hs hf
  have h2 := smI_map_eq (f := rpI φ xs) (xs := xs) (fun x hx => rp_le h ((famB_all hf).2.2 x hx))
  by_cases hc : smI xs ≤ smI (xs.map (rpI φ xs))
  · exact absurd (by unfold tnL; rw [h2 hc]; exact sortL_asc (famB_asc hf)) hne
  · omega
/-- turns of sets that lower them. -/
def TurnsT (n : Int) (φs : List (Int → Int)) : Prop := ∀ φ ∈ φs, SetT n φ ∧ LowT n φ
theorem rd_le {n : Int} {φs : List (Int → Int)} : ∀ {xs : List Int}, TurnsT n φs → famB n xs = true → smI (rdL φs xs) ≤ smI xs := by
  induction φs with
  | nil => exact fun _ _ => Int.le_refl _
  | cons φ φs ih =>
    intro xs h hf
    have hp := h φ List.mem_cons_self
    have h1 := ih (fun ψ hψ => h ψ (List.mem_cons_of_mem _ hψ)) (tn_fam hp.1 hf)
    have h2 := tn_le hp.1 hp.2 hf
    rw [rd_cons]; omega
theorem rd_same {φs : List (Int → Int)} {xs : List Int} : (∀ φ ∈ φs, tnL φ xs = xs) → rdL φs xs = xs := by
  induction φs with
  | nil => exact fun _ => rfl
  | cons φ φs ih =>
    intro h
    rw [rd_cons, h φ List.mem_cons_self]
    exact ih (fun ψ hψ => h ψ (List.mem_cons_of_mem _ hψ))
theorem rd_lt {n : Int} {φs : List (Int → Int)} {xs : List Int} (h : TurnsT n φs) (hf : famB n xs = true) : (∃ φ ∈ φs, tnL φ xs ≠ xs) → smI (rdL φs xs) < smI xs := by
  induction φs with
  | nil => rintro ⟨φ, hφ, _⟩; cases hφ
  | cons φ φs ih =>
    rintro ⟨ψ, hψ, hne⟩
    have hp := h φ List.mem_cons_self
    have hr : TurnsT n φs := fun ψ hψ => h ψ (List.mem_cons_of_mem _ hψ)
    rw [rd_cons]
    by_cases he : tnL φ xs = xs
    · rw [he]
      refine ih hr ⟨ψ, ?_, hne⟩
      rcases List.mem_cons.1 hψ with rfl | hm
      · exact absurd he hne
      · exact hm
    · have h1 := rd_le hr (tn_fam hp.1 hf)
      have h2 := tn_lt hp.1 hp.2 hf he
      omega
theorem rd_one {n : Int} {φs : List (Int → Int)} {xs : List Int} (h : TurnsT n φs) (hf : famB n xs = true) (hr : rdL φs xs = xs) : ∀ φ ∈ φs, tnL φ xs = xs := by
  intro φ hφ
  refine Classical.byContradiction fun hne => ?_
  have := rd_lt h hf ⟨φ, hφ, hne⟩
  rw [hr] at this; omega

/-- j rounds. -/
def itR (φs : List (Int → Int)) : Nat → List Int → List Int
  | 0, xs => xs
  | j + 1, xs => rdL φs (itR φs j xs)
theorem it_fam {n : Int} {φs : List (Int → Int)} {xs : List Int} (h : TurnsT n φs) (hf : famB n xs = true) : ∀ j, famB n (itR φs j xs) = true
  | 0 => hf
  | j + 1 => rd_fam (fun φ hφ => (h φ hφ).1) (it_fam h hf j)
theorem it_fix {φs : List (Int → Int)} {xs : List Int} {j : Nat} (h : rdL φs (itR φs j xs) = itR φs j xs) : ∀ m, itR φs (j + m) xs = itR φs j xs
  | 0 => rfl
  | m + 1 => by
    show rdL φs (itR φs (j + m) xs) = _
    rw [it_fix h m, h]
open Classical in
/-- the family that is left when a round changes nothing. -/
noncomputable def stL (φs : List (Int → Int)) (xs : List Int) : List Int := if h : ∃ j, rdL φs (itR φs j xs) = itR φs j xs then itR φs h.choose xs else xs
theorem st_eq {φs : List (Int → Int)} {xs : List Int} {j : Nat} (h : rdL φs (itR φs j xs) = itR φs j xs) : itR φs j xs = stL φs xs := by
  have hex : ∃ j, rdL φs (itR φs j xs) = itR φs j xs := ⟨j, h⟩
  unfold stL
  rw [dif_pos hex]
  have hc := hex.choose_spec
  rcases Nat.le_total j hex.choose with hl | hl
  · have := it_fix h (hex.choose - j)
    rw [Nat.add_sub_cancel' hl] at this; exact this.symm
  · have := it_fix hc (j - hex.choose)
    rw [Nat.add_sub_cancel' hl] at this; exact this
theorem st_in {n : Int} {φs : List (Int → Int)} {xs : List Int} (h : TurnsT n φs) (hf : famB n xs = true) : famB n (stL φs xs) = true := by
  unfold stL; split
  · exact it_fam h hf _
  · exact hf

/-- the shifts to lesser points below the row i, and the first k of that row. -/
def shTo (i k : Nat) : List (Int → Int) := ((upI i).flatMap fun a => (upI a.toNat).map fun b x => movedI x a b) ++ (upI k).map fun b x => movedI x i b
/-- all of them for n points. -/
def shL (n : Int) : List (Int → Int) := shTo n.toNat 0
theorem shTo_k (i k : Nat) : shTo i (k + 1) = shTo i k ++ [fun x => movedI x i k] := by
  unfold shTo; rw [upI_succ k, List.map_append, List.append_assoc]; rfl
theorem shTo_i (i : Nat) : shTo (i + 1) 0 = shTo i i := by
  unfold shTo; rw [upI_succ i, List.flatMap_append]; simp [upI]
theorem shTo_len0 : (shTo 0 0) = [] := rfl
/-- the pressings. -/
def prTo (p : Nat) : List (Int → Int) := (upI p).map fun p x => lessI x p
def prL (n : Int) : List (Int → Int) := prTo n.toNat
theorem prTo_succ (p : Nat) : prTo (p + 1) = prTo p ++ [fun x => lessI x p] := by unfold prTo; rw [upI_succ, List.map_append]; rfl
theorem mem_shTo {i k : Nat} {φ : Int → Int} (h : φ ∈ shTo i k) (hk : k ≤ i) : ∃ a b : Nat, a ≤ i ∧ (k = 0 → a < i) ∧ b < a ∧ φ = fun x => movedI x a b := by
  unfold shTo at h
  rcases List.mem_append.1 h with h | h
  · obtain ⟨a, ha, h⟩ := List.mem_flatMap.1 h
    obtain ⟨b, hb, rfl⟩ := List.mem_map.1 h
    have h1 := mem_upI.1 ha
    have h2 := mem_upI.1 hb
    refine ⟨a.toNat, b.toNat, by omega, fun _ => by omega, by omega, ?_⟩
    rw [Int.toNat_of_nonneg h1.1, Int.toNat_of_nonneg h2.1]
  · obtain ⟨b, hb, rfl⟩ := List.mem_map.1 h
    have h2 := mem_upI.1 hb
    refine ⟨i, b.toNat, Nat.le_refl _, fun e => by omega, by omega, ?_⟩
    rw [Int.toNat_of_nonneg h2.1]
theorem mv_dec : ∀ s : Fin 256, ∀ i : Fin 8, ∀ k : Fin 8, (movedI (movedI s.val i.val k.val) i.val k.val = movedI s.val i.val k.val ∧ (k.val ≤ i.val → movedI s.val i.val k.val ≤ s.val) ∧ 0 ≤ movedI s.val i.val k.val) ∧ ∀ n : Fin 9, i.val < n.val → k.val < n.val → s.val < 2 ^ n.val → movedI s.val i.val k.val < 2 ^ n.val := by decide +kernel
theorem mv_facts {n i k s : Int} (h : setB n s = true) (hi : ptB n i = true) (hk : ptB n k = true) : movedI (movedI s i k) i k = movedI s i k ∧ (k ≤ i → movedI s i k ≤ s) ∧ setB n (movedI s i k) = true := by
  have s0 := setB_lt h
  obtain ⟨n1, n2, s1, s2⟩ := setB_yes h
  have i1 := ptB_yes hi
  have k1 := ptB_yes hk
  have e1 : ((s.toNat : Nat) : Int) = s := Int.toNat_of_nonneg s0.1
  have e2 : ((i.toNat : Nat) : Int) = i := Int.toNat_of_nonneg i1.1
  have e3 : ((k.toNat : Nat) : Int) = k := Int.toNat_of_nonneg k1.1
  obtain ⟨⟨a, b, c⟩, d⟩ := mv_dec ⟨s.toNat, by omega⟩ ⟨i.toNat, by omega⟩ ⟨k.toNat, by omega⟩
  have d' := d ⟨n.toNat, by omega⟩ (by show i.toNat < n.toNat; omega) (by show k.toNat < n.toNat; omega) (by
    show s.toNat < 2 ^ n.toNat
    have : ((s.toNat : Nat) : Int) < ((2 ^ n.toNat : Nat) : Int) := by rw [e1]; simpa using s2
    exact Int.ofNat_lt.1 this)
  simp only [e1, e2, e3] at a b c d'
  exact ⟨a, fun h => b (by omega), setB_mk ⟨n1, n2, c, d'⟩⟩
theorem ls_dec : ∀ s : Fin 256, ∀ p : Fin 8, 0 ≤ lessI s.val p.val ∧ lessI s.val p.val ≤ s.val := by decide +kernel
theorem ls_facts {n p s : Int} (h : setB n s = true) (hp : ptB n p = true) : lessI s p ≤ s ∧ setB n (lessI s p) = true := by
  have s0 := setB_lt h
  obtain ⟨n1, n2, s1, s2⟩ := setB_yes h
  have p1 := ptB_yes hp
  have e1 : ((s.toNat : Nat) : Int) = s := Int.toNat_of_nonneg s0.1
  have e2 : ((p.toNat : Nat) : Int) = p := Int.toNat_of_nonneg p1.1
  obtain ⟨a, b⟩ := ls_dec ⟨s.toNat, by omega⟩ ⟨p.toNat, by omega⟩
  simp only [e1, e2] at a b
  exact ⟨b, setB_mk ⟨n1, n2, a, by omega⟩⟩
theorem mv_set {n i k : Int} (hi : ptB n i = true) (hk : ptB n k = true) : SetT n (fun x => movedI x i k) := fun _ hx => (mv_facts hx hi hk).2.2
theorem ls_set {n p : Int} (hp : ptB n p = true) : SetT n (fun x => lessI x p) := fun _ hx => (ls_facts hx hp).2
theorem shL_turns (n : Int) : TurnsT n (shL n) := by
  intro φ hφ
  obtain ⟨a, b, h1, h2, h3, rfl⟩ := mem_shTo hφ (Nat.zero_le _)
  have h2 := h2 rfl
  have hi : ptB n (a : Nat) = true := ptB_mk (by omega) (by omega)
  have hk : ptB n (b : Nat) = true := ptB_mk (by omega) (by omega)
  exact ⟨mv_set hi hk, fun x hx => (mv_facts hx hi hk).2.1 (by omega)⟩
theorem prL_turns (n : Int) : TurnsT n (prL n) := by
  intro φ hφ
  obtain ⟨p, hp, rfl⟩ := List.mem_map.1 hφ
  have h1 := mem_upI.1 hp
  have hk : ptB n p = true := ptB_mk (by omega) (by omega)
  exact ⟨ls_set hk, fun x hx => (ls_facts hx hk).1⟩
theorem tn_twice {n i k : Int} (hi : ptB n i = true) (hk : ptB n k = true) {xs : List Int} (hf : famB n xs = true) : tnL (fun x => movedI x i k) (tnL (fun x => movedI x i k) xs) = tnL (fun x => movedI x i k) xs := by
  have hz := (famB_all hf).2.2
  have hmap : (tnL (fun x => movedI x i k) xs).map (rpI (fun x => movedI x i k) (tnL (fun x => movedI x i k) xs)) = tnL (fun x => movedI x i k) xs := by
    refine (List.map_congr_left (g := id) fun y hy => ?_).trans (List.map_id _)
    obtain ⟨x, hx, hxy⟩ := List.mem_map.1 (mem_sortL.1 hy)
    show rpI _ _ y = y
    unfold rpI at hxy
    split at hxy
    · next hm =>
      subst hxy
      have hin : movedI x i k ∈ tnL (fun x => movedI x i k) xs := by
        refine mem_sortL.2 (List.mem_map.2 ⟨movedI x i k, memB_yes hm, ?_⟩)
        have he := (mv_facts (hz x hx) hi hk).1
        unfold rpI
        simp only [he, ite_self]
      unfold rpI
      rw [if_pos (memB_mk hin)]
    · have he := (mv_facts (hz x hx) hi hk).1
      unfold rpI
      rw [← hxy]
      simp only [he, ite_self]
  have : ∀ ys : List Int, ys = tnL (fun x => movedI x i k) xs → tnL (fun x => movedI x i k) ys = sortL (ys.map (rpI (fun x => movedI x i k) ys)) := fun ys _ => rfl
  rw [this _ rfl, hmap]
  exact sortL_asc (asc_sortL _)

end
section
/- Shifts and pressings as function values: what one of them does. -/
open Go.ChangeShapes Go.WideShapes Go.ChangeAt Go.RowKit Go.Proofs

/-- the blocks hold what they are said to hold. -/
def Has (w : World) (bs : List (Nat × Obj)) : Prop := ∀ p ∈ bs, w.heap[p.1]? = some p.2
theorem Has.lt {w : World} {bs : List (Nat × Obj)} (h : Has w bs) {p : Nat × Obj} (hp : p ∈ bs) : p.1 < w.heap.size := (Array.getElem?_eq_some_iff.1 (h p hp)).1
theorem Has.below {w W : World} {bs : List (Nat × Obj)} (h : Has w bs) (hb : Below w.heap.size w W) : Has W bs := fun p hp => (hb.block p.1 (h.lt hp)).trans (h p hp)
theorem Has.tail {w : World} {p : Nat × Obj} {bs : List (Nat × Obj)} (h : Has w (p :: bs)) : Has w bs := fun q hq => h q (List.mem_cons_of_mem _ hq)
theorem Has.head {w : World} {p : Nat × Obj} {bs : List (Nat × Obj)} (h : Has w (p :: bs)) : w.heap[p.1]? = some p.2 := h p List.mem_cons_self
theorem Has.nil (w : World) : Has w [] := fun _ h => nomatch h
theorem Has.cons {w : World} {b : Nat} {o : Obj} {bs : List (Nat × Obj)} (h0 : w.heap[b]? = some o) (h : Has w bs) : Has w ((b, o) :: bs) := fun q hq => by
  rcases List.mem_cons.1 hq with rfl | hq
  · exact h0
  · exact h q hq
/-- what a function that gives a family to be read returns. -/
def FamR (w : World) (ys : List Int) (e : Ending) (w' : World) : Prop := ∃ v, e = .returned (.agg #[v, (Value.func (.func 99) #[] #[])]) ∧ SRow w' w'.heap.size v ys ∧ Below w.heap.size w w'
/-- the function value says what becomes of a set. -/
def BecV (n : Int) (v : Value) (φ : Int → Int) (bs : List (Nat × Obj)) : Prop :=
  ∃ g cs, v = .func (.func g) #[] cs ∧ EntersG g ∧ ∀ (W : World) (x : Int), setB n x = true → Has W bs → Calls Try.prog g (#[.int .u64 x] ++ cs) W fun e w' => e = .returned (.int .u64 (φ x)) ∧ Below W.heap.size W w'
/-- the function value is a turn. -/
def TurnV (n : Int) (v : Value) (φ : Int → Int) (bs : List (Nat × Obj)) : Prop :=
  ∃ g cs, v = .func (.func g) #[] cs ∧ EntersG g ∧ ∀ (W : World) (lv : Value) (xs : List Int), famB n xs = true → Has W bs → SRow W W.heap.size lv xs → Calls Try.prog g (#[.agg #[lv, (Value.func (.func 99) #[] #[])]] ++ cs) W (FamR W (tnL φ xs))
theorem one_cell_at {w : World} {b : Nat} {v : Value} {t : TypeId} (h : w.heap[b]? = some (.cells #[v] t (0, 0))) : w.cell? ⟨b, 0, none⟩ = some v := by rw [cell_of_row w b 0 _ t (0, 0) h]; rfl

theorem fam_cells {w : World} {c : Nat} {lv u : Value} (h : w.heap[c]? = some (.cells #[lv, u] 43 (0, 0))) : w.cell? ⟨c, 0, none⟩ = some lv ∧ w.cell? ⟨c, 1, none⟩ = some u :=
  ⟨by rw [cell_of_row w c 0 _ 43 (0, 0) h]; rfl, by rw [cell_of_row w c 1 _ 43 (0, 0) h]; rfl⟩
end
section
/- Lists of turns; whether a turn changes a family. -/
open Go.ChangeShapes Go.WideShapes Go.ChangeAt Go.RowKit Go.Proofs

theorem SRow.drew {w : World} {S : Nat} {v : Value} {xs : List Int} (h : SRow w S v xs) : SRow w.drew S v xs := h
theorem fld0 (x y : Value) (w : World) : (Instr.field 43 (.agg #[x, y]) 0).run Try.prog w = .ok x w := by kernel_rfl
end
section
/- Lists of turns: made by append, read. -/
open Go.ChangeShapes Go.WideShapes Go.ChangeAt Go.RowKit Go.Proofs

/-- v reads as a list of turns; its cells lie below block S. -/
def TRow (n : Int) (w : World) (S : Nat) (lv : Value) (φs : List (Int → Int)) : Prop :=
  ∃ a cap, lv = .slice a φs.length cap ∧ (0 < φs.length → ∃ b off, a = some ⟨b, off, none⟩ ∧ b < S ∧ ∀ j φ, φs[j]? = some φ → ∃ v bs, w.cell? ⟨b, off + j, none⟩ = some v ∧ TurnV n v φ bs ∧ Has w bs)
theorem TRow.below {n : Int} {w W : World} {S : Nat} {lv : Value} {φs : List (Int → Int)} (h : TRow n w S lv φs) (hb : Below w.heap.size w W) (hS : S ≤ w.heap.size) : TRow n W S lv φs := by
  obtain ⟨a, cap, rfl, h⟩ := h
  refine ⟨a, cap, rfl, fun hp => ?_⟩
  obtain ⟨b, off, rfl, hs, hc⟩ := h hp
  refine ⟨b, off, rfl, hs, fun j φ hj => ?_⟩
  obtain ⟨v, bs, h1, h2, h3⟩ := hc j φ hj
  exact ⟨v, bs, (hb.cell (p := ⟨b, off + j, none⟩) (show b < w.heap.size by omega)).trans h1, h2, h3.below hb⟩
theorem TRow.mono {n : Int} {w : World} {S S' : Nat} {lv : Value} {φs : List (Int → Int)} (h : TRow n w S lv φs) (hS : S ≤ S') : TRow n w S' lv φs := by
  obtain ⟨a, cap, rfl, h⟩ := h
  refine ⟨a, cap, rfl, fun hp => ?_⟩
  obtain ⟨b, off, rfl, hs, hc⟩ := h hp
  exact ⟨b, off, rfl, by omega, hc⟩
/-- what a function that makes a list of turns leaves. -/
def TurnsPost (n : Int) (φs : List (Int → Int)) (w : World) (e : Ending) (w' : World) : Prop := ∃ v, e = .returned v ∧ TRow n w' w'.heap.size v φs ∧ Below w.heap.size w w'
theorem prTo_len (k : Nat) : (prTo k).length = k := by unfold prTo; rw [List.length_map, upI_len]
theorem shTo_len (i : Nat) : ∀ k, (shTo i k).length = (shTo i 0).length + k
  | 0 => rfl
  | k + 1 => by rw [shTo_k, List.length_append, shTo_len i k]; simp; omega
theorem shTo_le : ∀ i, i ≤ 8 → (shTo i 0).length ≤ i * 8
  | 0, _ => by simp [shTo_len0]
  | i + 1, h => by rw [shTo_i, shTo_len]; have := shTo_le i (by omega); omega

end
section
/- Turns one behind the other, and rounds until nothing changes any more. -/
open Go.ChangeShapes Go.WideShapes Go.ChangeAt Go.RowKit Go.Proofs

theorem fam_frozen {w : World} {c : Nat} {lv u : Value} (h : w.heap[c]? = some (.cells #[lv, u] 43 (0, 0))) : w.frozen? ⟨c, 0, none⟩ = false ∧ w.frozen? ⟨c, 1, none⟩ = false := ⟨frozen_of h 0, frozen_of h 1⟩
theorem fam_stored {w : World} {c : Nat} {p q : Value} (h : w.heap[c]? = some (.cells #[p, q] 43 (0, 0))) (X Y : Value) : ((w.setCell ⟨c, 0, none⟩ X).setCell ⟨c, 1, none⟩ Y).heap[c]? = some (.cells #[X, Y] 43 (0, 0)) := by
  have h1 := heap_setCell_same w c 0 _ 43 X h
  have h2 := heap_setCell_same _ c 1 _ 43 Y h1
  rw [h2]; rfl
/-- a store into a box that holds a family leaves a list of sets. -/
theorem SRow.stored {w : World} {S c n k : Nat} {v q : Value} {a : Option Addr} {xs : List Int} (h : SRow w S v xs) (hc : w.heap[c]? = some (.cells #[.slice a n k, q] 43 (0, 0))) (hq : ∀ x, q ≠ .int .u64 x) (X Y : Value) :
    SRow ((w.setCell ⟨c, 0, none⟩ X).setCell ⟨c, 1, none⟩ Y) S v xs := by
  obtain ⟨a, cap, rfl, h⟩ := h
  refine ⟨a, cap, rfl, fun hl => ?_⟩
  obtain ⟨b, off, rfl, hs, hx⟩ := h hl
  have hne : c ≠ b := by
    intro e
    subst e
    have h0 := hx 0 hl
    rw [cell_of_row w c (off + 0) _ 43 (0, 0) hc] at h0
    match off, h0 with
    | 0, h0 => cases h0
    | 1, h0 => exact hq _ (Option.some.inj h0)
    | off + 2, h0 => simp at h0
  refine ⟨b, off, rfl, hs, fun i hi => ?_⟩
  rw [World.cell?_setCell_far _ _ _ _ hne, World.cell?_setCell_far _ _ _ _ hne]
  exact hx i hi
theorem rd_take {φs : List (Int → Int)} {k : Nat} {φ : Int → Int} (h : φs[k]? = some φ) (xs : List Int) : rdL (φs.take (k + 1)) xs = tnL φ (rdL (φs.take k) xs) := by
  rw [List.take_add_one, h]
  exact rd_snoc φ _ xs
theorem rd_fam_take {n : Int} {φs : List (Int → Int)} {xs : List Int} (h : ∀ φ ∈ φs, SetT n φ) (hf : famB n xs = true) (k : Nat) : famB n (rdL (φs.take k) xs) = true := rd_fam (fun φ hφ => h φ (List.mem_of_mem_take hφ)) hf

end
section
/- Rounds until nothing changes any more: a labelled loop. What is made of a family to be read. -/
open Go.ChangeShapes Go.WideShapes Go.ChangeAt Go.RowKit Go.Proofs

theorem same_of {xs ys : List Int} (h : sameB xs ys = true) : xs = ys := of_decide_eq_true h
theorem take_all {φs : List (Int → Int)} {k : Nat} {φ : Int → Int} {ys : List Int} (hk : φs[k]? = some φ) (h : ∀ ψ ∈ φs.take k, tnL ψ ys = ys) (h2 : tnL φ ys = ys) : ∀ ψ ∈ φs.take (k + 1), tnL ψ ys = ys := by
  intro ψ hψ
  rw [List.take_add_one, hk] at hψ
  rcases List.mem_append.1 hψ with h3 | h3
  · exact h ψ h3
  · simp at h3; subst h3; exact h2
end
section
/- The program's shifts and pressings. -/
open Go.ChangeShapes Go.WideShapes Go.ChangeAt Go.RowKit Go.Proofs

set_option maxHeartbeats 2000000 in
theorem made_read (g : Nat) (eg : EntersG g) (cs : Array Value) (n : Int) (lv : Value) (xs ys : List Int) (S : Nat) (w : World) (hx : Row w S lv xs) (hS : S ≤ w.heap.size) (hl : xs.length ≤ 100000000)
    (hF : famB n xs = true → (∀ (W : World) (lv : Value), Below w.heap.size w W → SRow W W.heap.size lv xs → Calls Try.prog g (#[.agg #[lv, (Value.func (.func 99) #[] #[])]] ++ cs) W (FamR W ys)) ∧ (∀ z ∈ ys, 0 ≤ z ∧ z < 256) ∧ ys.length ≤ 1000) :
    Calls Try.prog 44 #[.int .i64 n, lv, .func (.func g) #[] cs] w (ListPost (ifL (famB n xs) ys) (famB n xs) w) := by
  have eg1 : ∀ args w, (callFunc g args).run Try.prog w = .ok (.enter g args) w := eg
  have hr := Lib.hid (read_any n lv xs S w hx hS hl)
  obtain ⟨la, lc, rfl, _⟩ := id hx
  replace hF := Lib.hid hF
  clear hx
  go_enter Try.func44, Try.ntmps44
  go_wp2_with fail
  refine hr.out.mono ?_
  rintro e w1 (⟨hf, v, rfl, hS1, hb1⟩ | ⟨hf, rfl, hb1⟩)
  · obtain ⟨a', c', rfl⟩ := hS1.form
    have hz1 := hb1.size
    obtain ⟨hM, hzz, hlen⟩ := hF.out hf
    have hb2 := hb1.alloc hz1 (.cells #[.slice a' xs.length c', (Value.func (.func 99) #[] #[])] 43)
    have hS2 := hS1.alloc (.cells #[.slice a' xs.length c', (Value.func (.func 99) #[] #[])] 43)
    have hm := Lib.hid (hM _ _ hb2 hS2.row)
    have hL := Lib.hid (show ys = ifL (famB n xs) ys by unfold ifL; rw [if_pos hf])
    replace hf := Lib.hid hf.symm
    replace hb2 := Lib.hid hb2
    replace hzz := Lib.hid hzz
    clear hr hS1 hb1 hS2 hM hF
    go_wp2_with fail
    refine hm.out.mono ?_
    rintro e w2 ⟨u, rfl, hS3, hb3⟩
    obtain ⟨a3, c3, rfl, _⟩ := id hS3
    have hnum := Lib.hid (numbers_at _ _ _ _ hS3 (Nat.le_refl _) (by omega) hzz.out)
    rw [World.size_alloc] at hb3
    have hz3 := hb3.size
    rw [World.size_alloc] at hz3
    replace hb3 := Lib.hid (hb2.out.trans (hb3.mono (by omega)))
    clear hS3
    go_wp2_with fail
    refine hnum.out.mono ?_
    rintro e w3 ⟨t, rfl, hO, hb4⟩
    obtain ⟨ua, uc, rfl, _⟩ := id hO
    replace hb4 := Lib.hid (hb3.out.trans (hb4.mono (by omega)))
    replace hO := Lib.hid (hO.mono (show w.heap.size ≤ w2.heap.size by omega) (Nat.le_refl _))
    go_wp2_with fail
    go_ret2
    exact ⟨_, ret_vb hf.out, hL.out ▸ hO.out, hb4.out⟩
  · have hz1 := hb1.size
    have hL := Lib.hid (show [] = ifL (famB n xs) ys by unfold ifL; rw [hf]; rfl)
    replace hf := Lib.hid hf.symm
    replace hb1 := Lib.hid hb1
    clear hr hF
    go_wp2_with fail
    go_ret2
    exact ⟨_, ret_vb hf.out, hL.out ▸ own_empty _ _ _ _ _, (hb1.out.alloc hz1 _).alloc (by simp; omega) _⟩
theorem fam_bounds {n : Int} {ys : List Int} (h : famB n ys = true) : (∀ z ∈ ys, 0 ≤ z ∧ z < 256) ∧ ys.length ≤ 1000 := ⟨famB_lt h, by have := famB_len h; omega⟩
theorem made_turn (n : Int) (u lv : Value) (φ : Int → Int) (bs : List (Nat × Obj)) (hu : TurnV n u φ bs) (hs : SetT n φ) (xs : List Int) (S : Nat) (w : World) (hbs : Has w bs) (hx : Row w S lv xs) (hS : S ≤ w.heap.size) (hl : xs.length ≤ 100000000) :
    Calls Try.prog 44 #[.int .i64 n, lv, u] w (ListPost (ifL (famB n xs) (tnL φ xs)) (famB n xs) w) := by
  obtain ⟨g, cs, rfl, eg, hcall⟩ := hu
  exact made_read g eg cs n lv xs (tnL φ xs) S w hx hS hl (fun hf => ⟨fun W lv hb hr => hcall W lv xs hf (hbs.below hb) hr, fam_bounds (tn_fam hs hf)⟩)

theorem shL_len {n : Int} (n1 : 1 ≤ n) (n2 : n ≤ 8) : (shL n).length ≤ 1000 := by
  have := shTo_le n.toNat (by omega)
  unfold shL; omega
theorem prL_len {n : Int} (n1 : 1 ≤ n) (n2 : n ≤ 8) : (prL n).length ≤ 1000 := by
  unfold prL; rw [prTo_len]; omega
end
section
/- The program: whether a family stays as it is. -/
open Go.ChangeShapes Go.WideShapes Go.ChangeAt Go.RowKit Go.Proofs

theorem anyT_take {φs : List (Int → Int)} {k : Nat} {φ : Int → Int} (h : φs[k]? = some φ) (p : (Int → Int) → Bool) : (φs.take (k + 1)).any p = ((φs.take k).any p || p φ) := by rw [List.take_add_one, h, List.any_append]; simp
/-- what a search leaves. -/
def IdxT (b : Bool) (w : World) (e : Ending) (w' : World) : Prop := ∃ r : Int, e = .returned (.int .i64 r) ∧ decide (0 ≤ r) = b ∧ -1 ≤ r ∧ r ≤ 1000000 ∧ Below w.heap.size w w'
/-- the function value answers p of each turn of the list. -/
def AsksT (n : Int) (g : Nat) (cs : Array Value) (p : (Int → Int) → Bool) (φs : List (Int → Int)) (w : World) : Prop :=
  ∀ (W : World) (u : Value) (φ : Int → Int) (bs : List (Nat × Obj)), φ ∈ φs → TurnV n u φ bs → Has W bs → Below w.heap.size w W → Calls Try.prog g (#[u] ++ cs) W fun e w' => e = .returned (.bool (p φ)) ∧ Below W.heap.size W w'
/-- no turn changes the family. -/
def staysB (n : Int) (φs : List (Int → Int)) (xs : List Int) : Bool := famB n xs && !φs.any (fun φ => !sameB (tnL φ xs) xs)
end
end Go.Proofs.Ythljimmhgpbmbaa
