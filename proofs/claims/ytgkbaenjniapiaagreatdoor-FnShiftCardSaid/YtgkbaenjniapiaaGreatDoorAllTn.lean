/- Texts merged: XTn1 XTn2 XTn3 XTn4 XTn5 XTn6 XTn7 XTn8. -/
import Derived.Test.YtgkbaenjniapiaaGreatDoorFam
import Derived.Test.YtgkbaenjniapiaaGreatDoorSets2
import Derived.Test.YtgkbaenjniapiaaGreatDoorFams8
import Derived.Test.YtgkbaenjniapiaaGreatDoorLawsC
import Derived.Deep.LoopGhost
import Derived.BigQuiet
import Derived.Maps.AppendAt
import Derived.Deep.RegionHeld
import Derived.WalkMore
import Derived.Deep.RegionWith
namespace Go.Proofs.YtgkbaenjniapiaaGreatDoor
section
/- Shifts and pressings, one behind the other: plain mathematics, no program in it. -/
open Go.RowKit

/-- what a set becomes, unless that is there already. -/
def rpI (φ : Int → Int) (xs : List Int) (x : Int) : Int := if memB (φ x) xs then x else φ x
/-- the family behind a turn. -/
def tnL (φ : Int → Int) (xs : List Int) : List Int := sortL (xs.map (rpI φ xs))
/-- the family behind all turns. -/
def rdL (φs : List (Int → Int)) (xs : List Int) : List Int := φs.foldl (fun f φ => tnL φ f) xs
/-- the turn takes sets of n points to such sets. -/
def SetT (n : Int) (φ : Int → Int) : Prop := ∀ x, setB n x = true → setB n (φ x) = true
/-- and to none that is greater. -/
def LowT (n : Int) (φ : Int → Int) : Prop := ∀ x, setB n x = true → φ x ≤ x
theorem rp_set {n : Int} {φ : Int → Int} (h : SetT n φ) {xs : List Int} {x : Int} (hx : setB n x = true) : setB n (rpI φ xs x) = true := by
  unfold rpI; split
  · exact hx
  · exact h x hx
theorem tn_fam {n : Int} {φ : Int → Int} (h : SetT n φ) {xs : List Int} (hf : famB n xs = true) : famB n (tnL φ xs) = true := by
  obtain ⟨n1, n2, hz⟩ := famB_all hf
  refine famB_mk (ptsB_mk n1 n2) (fun z hz' => ?_) (asc_sortL _)
  obtain ⟨y, hy, rfl⟩ := List.mem_map.1 (mem_sortL.1 hz')
  exact rp_set h (hz y hy)
theorem rd_fam {n : Int} {φs : List (Int → Int)} : ∀ {xs : List Int}, (∀ φ ∈ φs, SetT n φ) → famB n xs = true → famB n (rdL φs xs) = true := by
  induction φs with
  | nil => exact fun _ hf => hf
  | cons φ φs ih => exact fun h hf => ih (fun ψ hψ => h ψ (List.mem_cons_of_mem _ hψ)) (tn_fam (h φ List.mem_cons_self) hf)
theorem rd_cons (φ : Int → Int) (φs : List (Int → Int)) (xs : List Int) : rdL (φ :: φs) xs = rdL φs (tnL φ xs) := rfl
theorem rd_snoc (φ : Int → Int) (φs : List (Int → Int)) (xs : List Int) : rdL (φs ++ [φ]) xs = tnL φ (rdL φs xs) := by unfold rdL; rw [List.foldl_append]; rfl

/-- the sum of a list. -/
def smI : List Int → Int
  | [] => 0
  | x :: xs => x + smI xs
theorem smI_app (xs ys : List Int) : smI (xs ++ ys) = smI xs + smI ys := by
  induction xs with
  | nil => simp [smI]
  | cons x xs ih => simp only [List.cons_append, smI, ih]; omega
theorem smI_ins {x : Int} (h : 0 ≤ x) (xs : List Int) : smI (insI x xs) ≤ smI xs + x := by
  unfold insI; split
  · omega
  · have := smI_app (xs.take (plN x xs)) (xs.drop (plN x xs))
    rw [List.take_append_drop] at this
    rw [smI_app]; simp only [smI]; omega
theorem smI_fold (xs : List Int) : ∀ (a : List Int), (∀ x ∈ xs, 0 ≤ x) → smI (xs.foldl (fun a x => insI x a) a) ≤ smI a + smI xs := by
  induction xs with
  | nil => intro a _; simp [smI]
  | cons x xs ih =>
    intro a h
    have h1 := ih (insI x a) (fun y hy => h y (List.mem_cons_of_mem _ hy))
    have h2 := smI_ins (h x List.mem_cons_self) a
    simp only [List.foldl_cons, smI]; omega
theorem smI_sort {xs : List Int} (h : ∀ x ∈ xs, 0 ≤ x) : smI (sortL xs) ≤ smI xs := by
  have := smI_fold xs [] h
  simp only [smI] at this
  unfold sortL; omega
theorem smI_map {f : Int → Int} {xs : List Int} : (∀ x ∈ xs, f x ≤ x) → smI (xs.map f) ≤ smI xs := by
  induction xs with
  | nil => intro _; simp [smI]
  | cons x xs ih =>
    intro h
    have h1 := ih (fun y hy => h y (List.mem_cons_of_mem _ hy))
    have h2 := h x List.mem_cons_self
    simp only [List.map_cons, smI]; omega
theorem smI_map_eq {f : Int → Int} {xs : List Int} : (∀ x ∈ xs, f x ≤ x) → smI xs ≤ smI (xs.map f) → xs.map f = xs := by
  induction xs with
  | nil => intro _ _; rfl
  | cons x xs ih =>
    intro h he
    have h1 := smI_map (f := f) (xs := xs) (fun y hy => h y (List.mem_cons_of_mem _ hy))
    have h2 := h x List.mem_cons_self
    simp only [List.map_cons, smI] at he
    rw [List.map_cons, ih (fun y hy => h y (List.mem_cons_of_mem _ hy)) (by omega)]
    congr 1; omega
theorem smI_nonneg {xs : List Int} : (∀ x ∈ xs, 0 ≤ x) → 0 ≤ smI xs := by
  induction xs with
  | nil => intro _; simp [smI]
  | cons x xs ih =>
    intro h
    have h1 := ih (fun y hy => h y (List.mem_cons_of_mem _ hy))
    have h2 := h x List.mem_cons_self
    simp only [smI]; omega
theorem rp_le {n : Int} {φ : Int → Int} (h : LowT n φ) {xs : List Int} {x : Int} (hx : setB n x = true) : rpI φ xs x ≤ x := by
  unfold rpI; split
  · omega
  · exact h x hx
theorem tn_sum {n : Int} {φ : Int → Int} (hs : SetT n φ) {xs : List Int} (hf : famB n xs = true) : smI (tnL φ xs) ≤ smI (xs.map (rpI φ xs)) := by
  refine smI_sort fun z hz => ?_
  obtain ⟨y, hy, rfl⟩ := List.mem_map.1 hz
  exact (setB_lt (rp_set hs ((famB_all hf).2.2 y hy))).1
theorem tn_le {n : Int} {φ : Int → Int} (hs : SetT n φ) (h : LowT n φ) {xs : List Int} (hf : famB n xs = true) : smI (tnL φ xs) ≤ smI xs := by
  have h1 := tn_sum hs hf
  have h2 := smI_map (f := rpI φ xs) (xs := xs) (fun x hx => rp_le h ((famB_all hf).2.2 x hx))
  omega
theorem tn_lt {n : Int} {φ : Int → Int} (hs : SetT n φ) (h : LowT n φ) {xs : List Int} (hf : famB n xs = true) (hne : tnL φ xs ≠ xs) : smI (tnL φ xs) < smI xs := by
  have h1 := tn_sum hs hf
  have h2 := smI_map_eq (f := rpI φ xs) (xs := xs) (fun x hx => rp_le h ((famB_all hf).2.2 x hx))
  by_cases hc : smI xs ≤ smI (xs.map (rpI φ xs))
  · exact absurd (by unfold tnL; rw [h2 hc]; exact sortL_asc (famB_asc hf)) hne
  · omega
/-- turns of sets that lower them. -/
def TurnsT (n : Int) (φs : List (Int → Int)) : Prop := ∀ φ ∈ φs, SetT n φ ∧ LowT n φ
theorem rd_le {n : Int} {φs : List (Int → Int)} : ∀ {xs : List Int}, TurnsT n φs → famB n xs = true → smI (rdL φs xs) ≤ smI xs := by
  induction φs with
  | nil => exact fun _ _ => Int.le_refl _
  | cons φ φs ih =>
    intro xs h hf
    have hp := h φ List.mem_cons_self
    have h1 := ih (fun ψ hψ => h ψ (List.mem_cons_of_mem _ hψ)) (tn_fam hp.1 hf)
    have h2 := tn_le hp.1 hp.2 hf
    rw [rd_cons]; omega
theorem rd_same {φs : List (Int → Int)} {xs : List Int} : (∀ φ ∈ φs, tnL φ xs = xs) → rdL φs xs = xs := by
  induction φs with
  | nil => exact fun _ => rfl
  | cons φ φs ih =>
    intro h
    rw [rd_cons, h φ List.mem_cons_self]
    exact ih (fun ψ hψ => h ψ (List.mem_cons_of_mem _ hψ))
theorem rd_lt {n : Int} {φs : List (Int → Int)} {xs : List Int} (h : TurnsT n φs) (hf : famB n xs = true) : (∃ φ ∈ φs, tnL φ xs ≠ xs) → smI (rdL φs xs) < smI xs := by
  induction φs with
  | nil => rintro ⟨φ, hφ, _⟩; cases hφ
  | cons φ φs ih =>
    rintro ⟨ψ, hψ, hne⟩
    have hp := h φ List.mem_cons_self
    have hr : TurnsT n φs := fun ψ hψ => h ψ (List.mem_cons_of_mem _ hψ)
    rw [rd_cons]
    by_cases he : tnL φ xs = xs
    · rw [he]
      refine ih hr ⟨ψ, ?_, hne⟩
      rcases List.mem_cons.1 hψ with rfl | hm
      · exact absurd he hne
      · exact hm
    · have h1 := rd_le hr (tn_fam hp.1 hf)
      have h2 := tn_lt hp.1 hp.2 hf he
      omega
theorem rd_one {n : Int} {φs : List (Int → Int)} {xs : List Int} (h : TurnsT n φs) (hf : famB n xs = true) (hr : rdL φs xs = xs) : ∀ φ ∈ φs, tnL φ xs = xs := by
  intro φ hφ
  refine Classical.byContradiction fun hne => ?_
  have := rd_lt h hf ⟨φ, hφ, hne⟩
  rw [hr] at this; omega

/-- j rounds. -/
def itR (φs : List (Int → Int)) : Nat → List Int → List Int
  | 0, xs => xs
  | j + 1, xs => rdL φs (itR φs j xs)
theorem it_fam {n : Int} {φs : List (Int → Int)} {xs : List Int} (h : TurnsT n φs) (hf : famB n xs = true) : ∀ j, famB n (itR φs j xs) = true
  | 0 => hf
  | j + 1 => rd_fam (fun φ hφ => (h φ hφ).1) (it_fam h hf j)
theorem it_fix {φs : List (Int → Int)} {xs : List Int} {j : Nat} (h : rdL φs (itR φs j xs) = itR φs j xs) : ∀ m, itR φs (j + m) xs = itR φs j xs
  | 0 => rfl
  | m + 1 => by
    show rdL φs (itR φs (j + m) xs) = _
    rw [it_fix h m, h]
open Classical in
/-- the family that is left when a round changes nothing. -/
noncomputable def stL (φs : List (Int → Int)) (xs : List Int) : List Int := if h : ∃ j, rdL φs (itR φs j xs) = itR φs j xs then itR φs h.choose xs else xs
theorem st_eq {φs : List (Int → Int)} {xs : List Int} {j : Nat} (h : rdL φs (itR φs j xs) = itR φs j xs) : itR φs j xs = stL φs xs := by
  have hex : ∃ j, rdL φs (itR φs j xs) = itR φs j xs := ⟨j, h⟩
  unfold stL
  rw [dif_pos hex]
  have hc := hex.choose_spec
  rcases Nat.le_total j hex.choose with hl | hl
  · have := it_fix h (hex.choose - j)
    rw [Nat.add_sub_cancel' hl] at this; exact this.symm
  · have := it_fix hc (j - hex.choose)
    rw [Nat.add_sub_cancel' hl] at this; exact this
theorem st_in {n : Int} {φs : List (Int → Int)} {xs : List Int} (h : TurnsT n φs) (hf : famB n xs = true) : famB n (stL φs xs) = true := by
  unfold stL; split
  · exact it_fam h hf _
  · exact hf

/-- the shifts to lesser points below the row i, and the first k of that row. -/
def shTo (i k : Nat) : List (Int → Int) := ((upI i).flatMap fun a => (upI a.toNat).map fun b x => movedI x a b) ++ (upI k).map fun b x => movedI x i b
/-- all of them for n points. -/
def shL (n : Int) : List (Int → Int) := shTo n.toNat 0
theorem shTo_k (i k : Nat) : shTo i (k + 1) = shTo i k ++ [fun x => movedI x i k] := by
  unfold shTo; rw [upI_succ k, List.map_append, List.append_assoc]; rfl
theorem shTo_i (i : Nat) : shTo (i + 1) 0 = shTo i i := by
  unfold shTo; rw [upI_succ i, List.flatMap_append]; simp [upI]
theorem shTo_len0 : (shTo 0 0) = [] := rfl
/-- the pressings. -/
def prTo (p : Nat) : List (Int → Int) := (upI p).map fun p x => lessI x p
def prL (n : Int) : List (Int → Int) := prTo n.toNat
theorem prTo_succ (p : Nat) : prTo (p + 1) = prTo p ++ [fun x => lessI x p] := by unfold prTo; rw [upI_succ, List.map_append]; rfl
theorem mem_shTo {i k : Nat} {φ : Int → Int} (h : φ ∈ shTo i k) (hk : k ≤ i) : ∃ a b : Nat, a ≤ i ∧ (k = 0 → a < i) ∧ b < a ∧ φ = fun x => movedI x a b := by
  unfold shTo at h
  rcases List.mem_append.1 h with h | h
  · obtain ⟨a, ha, h⟩ := List.mem_flatMap.1 h
    obtain ⟨b, hb, rfl⟩ := List.mem_map.1 h
    have h1 := mem_upI.1 ha
    have h2 := mem_upI.1 hb
    refine ⟨a.toNat, b.toNat, by omega, fun _ => by omega, by omega, ?_⟩
    rw [Int.toNat_of_nonneg h1.1, Int.toNat_of_nonneg h2.1]
  · obtain ⟨b, hb, rfl⟩ := List.mem_map.1 h
    have h2 := mem_upI.1 hb
    refine ⟨i, b.toNat, Nat.le_refl _, fun e => by omega, by omega, ?_⟩
    rw [Int.toNat_of_nonneg h2.1]
theorem mv_dec : ∀ s : Fin 256, ∀ i : Fin 8, ∀ k : Fin 8, (movedI (movedI s.val i.val k.val) i.val k.val = movedI s.val i.val k.val ∧ (k.val ≤ i.val → movedI s.val i.val k.val ≤ s.val) ∧ 0 ≤ movedI s.val i.val k.val) ∧ ∀ n : Fin 9, i.val < n.val → k.val < n.val → s.val < 2 ^ n.val → movedI s.val i.val k.val < 2 ^ n.val := by decide +kernel
theorem mv_facts {n i k s : Int} (h : setB n s = true) (hi : ptB n i = true) (hk : ptB n k = true) : movedI (movedI s i k) i k = movedI s i k ∧ (k ≤ i → movedI s i k ≤ s) ∧ setB n (movedI s i k) = true := by
  have s0 := setB_lt h
  obtain ⟨n1, n2, s1, s2⟩ := setB_yes h
  have i1 := ptB_yes hi
  have k1 := ptB_yes hk
  have e1 : ((s.toNat : Nat) : Int) = s := Int.toNat_of_nonneg s0.1
  have e2 : ((i.toNat : Nat) : Int) = i := Int.toNat_of_nonneg i1.1
  have e3 : ((k.toNat : Nat) : Int) = k := Int.toNat_of_nonneg k1.1
  obtain ⟨⟨a, b, c⟩, d⟩ := mv_dec ⟨s.toNat, by omega⟩ ⟨i.toNat, by omega⟩ ⟨k.toNat, by omega⟩
  have d' := d ⟨n.toNat, by omega⟩ (by show i.toNat < n.toNat; omega) (by show k.toNat < n.toNat; omega) (by
    show s.toNat < 2 ^ n.toNat
    have : ((s.toNat : Nat) : Int) < ((2 ^ n.toNat : Nat) : Int) := by rw [e1]; simpa using s2
    exact Int.ofNat_lt.1 this)
  simp only [e1, e2, e3] at a b c d'
  exact ⟨a, fun h => b (by omega), setB_mk ⟨n1, n2, c, d'⟩⟩
theorem ls_dec : ∀ s : Fin 256, ∀ p : Fin 8, 0 ≤ lessI s.val p.val ∧ lessI s.val p.val ≤ s.val := by decide +kernel
theorem ls_facts {n p s : Int} (h : setB n s = true) (hp : ptB n p = true) : lessI s p ≤ s ∧ setB n (lessI s p) = true := by
  have s0 := setB_lt h
  obtain ⟨n1, n2, s1, s2⟩ := setB_yes h
  have p1 := ptB_yes hp
  have e1 : ((s.toNat : Nat) : Int) = s := Int.toNat_of_nonneg s0.1
  have e2 : ((p.toNat : Nat) : Int) = p := Int.toNat_of_nonneg p1.1
  obtain ⟨a, b⟩ := ls_dec ⟨s.toNat, by omega⟩ ⟨p.toNat, by omega⟩
  simp only [e1, e2] at a b
  exact ⟨b, setB_mk ⟨n1, n2, a, by omega⟩⟩
theorem mv_set {n i k : Int} (hi : ptB n i = true) (hk : ptB n k = true) : SetT n (fun x => movedI x i k) := fun _ hx => (mv_facts hx hi hk).2.2
theorem ls_set {n p : Int} (hp : ptB n p = true) : SetT n (fun x => lessI x p) := fun _ hx => (ls_facts hx hp).2
theorem shL_turns (n : Int) : TurnsT n (shL n) := by
  intro φ hφ
  obtain ⟨a, b, h1, h2, h3, rfl⟩ := mem_shTo hφ (Nat.zero_le _)
  have h2 := h2 rfl
  have hi : ptB n (a : Nat) = true := ptB_mk (by omega) (by omega)
  have hk : ptB n (b : Nat) = true := ptB_mk (by omega) (by omega)
  exact ⟨mv_set hi hk, fun x hx => (mv_facts hx hi hk).2.1 (by omega)⟩
theorem prL_turns (n : Int) : TurnsT n (prL n) := by
  intro φ hφ
  obtain ⟨p, hp, rfl⟩ := List.mem_map.1 hφ
  have h1 := mem_upI.1 hp
  have hk : ptB n p = true := ptB_mk (by omega) (by omega)
  exact ⟨ls_set hk, fun x hx => (ls_facts hx hk).1⟩
theorem tn_twice {n i k : Int} (hi : ptB n i = true) (hk : ptB n k = true) {xs : List Int} (hf : famB n xs = true) : tnL (fun x => movedI x i k) (tnL (fun x => movedI x i k) xs) = tnL (fun x => movedI x i k) xs := by
  have hz := (famB_all hf).2.2
  have hmap : (tnL (fun x => movedI x i k) xs).map (rpI (fun x => movedI x i k) (tnL (fun x => movedI x i k) xs)) = tnL (fun x => movedI x i k) xs := by
    refine (List.map_congr_left (g := id) fun y hy => ?_).trans (List.map_id _)
    obtain ⟨x, hx, hxy⟩ := List.mem_map.1 (mem_sortL.1 hy)
    show rpI _ _ y = y
    unfold rpI at hxy
    split at hxy
    · next hm =>
      subst hxy
      have hin : movedI x i k ∈ tnL (fun x => movedI x i k) xs := by
        refine mem_sortL.2 (List.mem_map.2 ⟨movedI x i k, memB_yes hm, ?_⟩)
        have he := (mv_facts (hz x hx) hi hk).1
        unfold rpI
        simp only [he, ite_self]
      unfold rpI
      rw [if_pos (memB_mk hin)]
    · have he := (mv_facts (hz x hx) hi hk).1
      unfold rpI
      rw [← hxy]
      simp only [he, ite_self]
  have : ∀ ys : List Int, ys = tnL (fun x => movedI x i k) xs → tnL (fun x => movedI x i k) ys = sortL (ys.map (rpI (fun x => movedI x i k) ys)) := fun ys _ => rfl
  rw [this _ rfl, hmap]
  exact sortL_asc (asc_sortL _)

end
section
/- Shifts and pressings as function values: what one of them does. -/
open Go.ChangeShapes Go.WideShapes Go.ChangeAt Go.RowKit Go.Proofs

/-- the blocks hold what they are said to hold. -/
def Has (w : World) (bs : List (Nat × Obj)) : Prop := ∀ p ∈ bs, w.heap[p.1]? = some p.2
theorem Has.lt {w : World} {bs : List (Nat × Obj)} (h : Has w bs) {p : Nat × Obj} (hp : p ∈ bs) : p.1 < w.heap.size := (Array.getElem?_eq_some_iff.1 (h p hp)).1
theorem Has.below {w W : World} {bs : List (Nat × Obj)} (h : Has w bs) (hb : Below w.heap.size w W) : Has W bs := fun p hp => (hb.block p.1 (h.lt hp)).trans (h p hp)
theorem Has.tail {w : World} {p : Nat × Obj} {bs : List (Nat × Obj)} (h : Has w (p :: bs)) : Has w bs := fun q hq => h q (List.mem_cons_of_mem _ hq)
theorem Has.head {w : World} {p : Nat × Obj} {bs : List (Nat × Obj)} (h : Has w (p :: bs)) : w.heap[p.1]? = some p.2 := h p List.mem_cons_self
theorem Has.nil (w : World) : Has w [] := fun _ h => nomatch h
theorem Has.cons {w : World} {b : Nat} {o : Obj} {bs : List (Nat × Obj)} (h0 : w.heap[b]? = some o) (h : Has w bs) : Has w ((b, o) :: bs) := fun q hq => by
  rcases List.mem_cons.1 hq with rfl | hq
  · exact h0
  · exact h q hq
/-- none of the blocks is a list of turns. -/
def NoT (bs : List (Nat × Obj)) : Prop := ∀ p ∈ bs, ∀ (cur : Array Value) (fz : Nat × Nat), p.2 ≠ .cells cur 43 fz
/-- what a function that gives a family to be read returns. -/
def FamR (w : World) (ys : List Int) (e : Ending) (w' : World) : Prop := ∃ v, e = .returned (.agg #[v, (Value.func (.func 73) #[] #[])]) ∧ SRow w' w'.heap.size v ys ∧ Below w.heap.size w w'
/-- the function value says what becomes of a set. -/
def BecV (n : Int) (v : Value) (φ : Int → Int) (bs : List (Nat × Obj)) : Prop :=
  ∃ g cs, v = .func (.func g) #[] cs ∧ EntersG g ∧ ∀ (W : World) (x : Int), setB n x = true → Has W bs → Calls Tryz.prog g (#[.int .u64 x] ++ cs) W fun e w' => e = .returned (.int .u64 (φ x)) ∧ Below W.heap.size W w'
/-- the function value is a turn. -/
def TurnV (n : Int) (v : Value) (φ : Int → Int) (bs : List (Nat × Obj)) : Prop :=
  ∃ g cs, v = .func (.func g) #[] cs ∧ EntersG g ∧ ∀ (W : World) (lv : Value) (xs : List Int), famB n xs = true → Has W bs → SRow W W.heap.size lv xs → Calls Tryz.prog g (#[.agg #[lv, (Value.func (.func 73) #[] #[])]] ++ cs) W (FamR W (tnL φ xs))
theorem one_cell_at {w : World} {b : Nat} {v : Value} {t : TypeId} (h : w.heap[b]? = some (.cells #[v] t (0, 0))) : w.cell? ⟨b, 0, none⟩ = some v := by rw [cell_of_row w b 0 _ t (0, 0) h]; rfl

theorem shift_bec (n i k : Int) (hi : ptB n i = true) (hk : ptB n k = true) (b c : Nat) : BecV n (.func (.func 52) #[] #[.pointer (some ⟨b, 0, none⟩), .pointer (some ⟨c, 0, none⟩)]) (fun x => movedI x i k)
    [(b, .cells #[.int .i64 i] 3 (0, 0)), (c, .cells #[.int .i64 k] 3 (0, 0))] := by
  refine ⟨_, _, rfl, enters_of Tryz.func52 (by kernel_rfl) rfl, fun W x hx hW => ?_⟩
  have hc1 := one_cell_at hW.head
  have hc2 := one_cell_at hW.tail.head
  obtain ⟨x1, x2⟩ := setB_lt hx
  obtain ⟨n1, n2, _, _⟩ := setB_yes hx
  have i1 := ptB_yes hi
  have k1 := ptB_yes hk
  have hmv := Lib.hid (fun W => set_moved x i k x1 x2 i1.1 (by omega) k1.1 (by omega) W)
  replace hx := Lib.hid hx
  replace hi := Lib.hid hi
  replace hk := Lib.hid hk
  show Calls Tryz.prog 52 #[.int .u64 x, .pointer (some ⟨b, 0, none⟩), .pointer (some ⟨c, 0, none⟩)] W fun e w' => e = .returned (.int .u64 (movedI x i k)) ∧ Below W.heap.size W w'
  obtain ⟨r, hr⟩ : ∃ r, movedI x i k = r := ⟨_, rfl⟩
  rw [hr] at hmv ⊢
  replace hr := Lib.hid hr
  clear hW
  go_enter Tryz.func52, Tryz.ntmps52
  go_wp2_with (go_at_call 53; refine (hmv.out _).mono ?_; rintro e w' ⟨rfl, rfl⟩)
  go_ret
  exact ⟨rfl, Below.refl _ _⟩
theorem fam_cells {w : World} {c : Nat} {lv u : Value} (h : w.heap[c]? = some (.cells #[lv, u] 50 (0, 0))) : w.cell? ⟨c, 0, none⟩ = some lv ∧ w.cell? ⟨c, 1, none⟩ = some u :=
  ⟨by rw [cell_of_row w c 0 _ 50 (0, 0) h]; rfl, by rw [cell_of_row w c 1 _ 50 (0, 0) h]; rfl⟩
set_option maxHeartbeats 1000000 in
theorem repl_map (n : Int) (v : Value) (φ : Int → Int) (bs : List (Nat × Obj)) (hB : BecV n v φ bs) (b c : Nat) (lv : Value) (xs : List Int) (w : World) (hf : famB n xs = true) (hb : w.heap[b]? = some (.cells #[v] 76 (0, 0)))
    (hc : w.heap[c]? = some (.cells #[lv, (Value.func (.func 73) #[] #[])] 50 (0, 0))) (hx : SRow w w.heap.size lv xs) (hbs : Has w bs) :
    MapV 82 #[] #[.pointer (some ⟨b, 0, none⟩), .pointer (some ⟨c, 0, none⟩)] (rpI φ xs) xs w := fun W x hm hbel => by
  obtain ⟨g, cs, rfl, eg, hcall⟩ := hB
  have eg1 : ∀ args w, (callFunc g args).run Tryz.prog w = .ok (.enter g args) w := eg
  have hxs := (famB_all hf).2.2 x hm
  have h1 := hcall W x hxs (hbs.below hbel)
  have hblt := (Array.getElem?_eq_some_iff.1 hb).1
  have hclt := (Array.getElem?_eq_some_iff.1 hc).1
  have cb := one_cell_at ((hbel.block b hblt).trans hb)
  obtain ⟨cc0, cc1⟩ := fam_cells ((hbel.block c hclt).trans hc)
  have hxW := hx.below hbel (Nat.le_refl _)
  have hA := famB_asc hf
  have hl := fam_len hf
  have hsz := hbel.size
  obtain ⟨la, lc, rfl, _⟩ := id hx
  obtain ⟨r, hr⟩ : ∃ r, φ x = r := ⟨_, rfl⟩
  rw [hr] at h1
  replace h1 := Lib.hid h1
  replace hxW := Lib.hid hxW
  replace hA := Lib.hid hA
  have hrp : rpI φ xs x = if memB r xs then x else r := by unfold rpI; rw [hr]
  obtain ⟨y, hy⟩ : ∃ y, rpI φ xs x = y := ⟨_, rfl⟩
  show Calls Tryz.prog 82 #[.int .u64 x, .pointer (some ⟨b, 0, none⟩), .pointer (some ⟨c, 0, none⟩)] W fun e w' => e = .returned (.int .u64 (rpI φ xs x)) ∧ Below W.heap.size W w'
  rw [hy] at hrp ⊢
  replace hy := Lib.hid hy
  replace hr := Lib.hid hr
  replace hm := Lib.hid hm
  replace hxs := Lib.hid hxs
  replace hf := Lib.hid hf
  clear hbel hx hb hc hbs hcall
  rcases (by cases memB r xs <;> simp : memB r xs = true ∨ memB r xs = false) with hmb | hmb
  · rw [hmb, if_pos rfl] at hrp
    subst hrp
    replace hmb := Lib.hid hmb
    go_enter Tryz.func82, Tryz.ntmps82
    go_wp2_with fail
    refine h1.out.mono ?_
    rintro e w1 ⟨rfl, hb1⟩
    obtain ⟨d0, d1⟩ : w1.cell? ⟨c, 0, none⟩ = some (.slice la xs.length lc) ∧ w1.cell? ⟨c, 1, none⟩ = some (Value.func (.func 73) #[] #[]) := ⟨(hb1.cell (p := ⟨c, 0, none⟩) (by show c < W.heap.size; omega)).trans cc0, (hb1.cell (p := ⟨c, 1, none⟩) (by show c < W.heap.size; omega)).trans cc1⟩
    have hh := Lib.hid (has_any (.slice la xs.length lc) xs r w1.heap.size w1 ((hxW.out.below hb1 (by omega)).mono (by have := hb1.size; omega)) hA.out hl (Nat.le_refl _))
    rw [hmb.out] at hh
    replace hb1 := Lib.hid hb1
    go_wp2_with fail
    refine hh.out.mono ?_
    rintro e w2 ⟨rfl, hb2⟩
    replace hb2 := Lib.hid (hb1.out.trans (hb2.mono hb1.out.size))
    go_wp2_with fail
    go_ret
    exact ⟨rfl, hb2.out⟩
  · rw [hmb, if_neg (by simp)] at hrp
    subst hrp
    replace hmb := Lib.hid hmb
    go_enter Tryz.func82, Tryz.ntmps82
    go_wp2_with fail
    refine h1.out.mono ?_
    rintro e w1 ⟨rfl, hb1⟩
    obtain ⟨d0, d1⟩ : w1.cell? ⟨c, 0, none⟩ = some (.slice la xs.length lc) ∧ w1.cell? ⟨c, 1, none⟩ = some (Value.func (.func 73) #[] #[]) := ⟨(hb1.cell (p := ⟨c, 0, none⟩) (by show c < W.heap.size; omega)).trans cc0, (hb1.cell (p := ⟨c, 1, none⟩) (by show c < W.heap.size; omega)).trans cc1⟩
    have hh := Lib.hid (has_any (.slice la xs.length lc) xs y w1.heap.size w1 ((hxW.out.below hb1 (by omega)).mono (by have := hb1.size; omega)) hA.out hl (Nat.le_refl _))
    rw [hmb.out] at hh
    replace hb1 := Lib.hid hb1
    go_wp2_with fail
    refine hh.out.mono ?_
    rintro e w2 ⟨rfl, hb2⟩
    replace hb2 := Lib.hid (hb1.out.trans (hb2.mono hb1.out.size))
    go_wp2_with fail
    go_ret
    exact ⟨rfl, hb2.out⟩
set_option maxHeartbeats 1000000 in
theorem repl_turn (n : Int) (v : Value) (φ : Int → Int) (bs : List (Nat × Obj)) (hB : BecV n v φ bs) (hs : SetT n φ) (b : Nat) :
    TurnV n (.func (.func 80) #[] #[.pointer (some ⟨b, 0, none⟩)]) φ ((b, .cells #[v] 76 (0, 0)) :: bs) := by
  refine ⟨_, _, rfl, enters_of Tryz.func80 (by kernel_rfl) rfl, fun W lv xs hf hW hx => ?_⟩
  have hmf := mkfunc
  obtain ⟨a, cap, rfl, _⟩ := id hx
  have hbw := ((Below.refl W.heap.size W).alloc (Nat.le_refl _) (.cells #[.slice a xs.length cap, (Value.func (.func 73) #[] #[])] 50)).alloc (by simp) (.cells #[.slice none 0 0, .nilFunc] 50)
  have hW2 := hW.below hbw
  have hnew := new_cell2 W #[.slice a xs.length cap, (Value.func (.func 73) #[] #[])] 50 (.cells #[.slice none 0 0, .nilFunc] 50)
  have hk := Lib.hid (changed_any 82 (enters_of Tryz.func82 (by kernel_rfl) rfl) #[] #[.pointer (some ⟨b, 0, none⟩), .pointer (some ⟨W.heap.size, 0, none⟩)] (rpI φ xs) _ xs _ _ (hx.below hbw (Nat.le_refl _)) (by simp; omega) (fam_len hf)
    (fun z hz => setB_lt (rp_set hs ((famB_all hf).2.2 z hz)))
    (repl_map n v φ bs hB b W.heap.size (.slice a xs.length cap) xs _ hf hW2.head hnew ((hx.below hbw (Nat.le_refl _)).mono (by simp; omega)) hW2.tail))
  obtain ⟨l0, l1⟩ := fam_cells hnew
  replace hbw := Lib.hid hbw
  replace hf := Lib.hid hf
  clear hx hW hW2 hnew
  show Calls Tryz.prog 80 #[.agg #[.slice a xs.length cap, (Value.func (.func 73) #[] #[])], .pointer (some ⟨b, 0, none⟩)] W (FamR W (sortL (xs.map (rpI φ xs))))
  obtain ⟨ys, hys⟩ : ∃ ys, sortL (xs.map (rpI φ xs)) = ys := ⟨_, rfl⟩
  rw [hys] at hk ⊢
  replace hys := Lib.hid hys
  go_enter Tryz.func80, Tryz.ntmps80
  go_wp2_with fail
  refine hk.out.mono ?_
  rintro e w2 ⟨v, rfl, hS2, hb2⟩
  obtain ⟨a', c', rfl⟩ := hS2.form
  rw [World.size_alloc, World.size_alloc] at hS2 hb2
  obtain ⟨d0, d1, df0, df1⟩ := res_cells (new_cell1 W _ _ _) hb2
  have rr := two_cells (.slice a' ys.length c') (Value.func (.func 73) #[] #[]) d0 d1
  have hff := Lib.hid (fam_fin hS2 (hbw.out.trans (hb2.mono (by omega))) (by omega))
  clear hS2 hb2 hk
  go_wp2_with fail
  exact bodyPost_ret (v := .agg #[.slice a' ys.length c', (Value.func (.func 73) #[] #[])]) (by simp [results, Tryz.results80, go_sem, rr.1, rr.2]) rfl ⟨_, rfl, hff.out.1.row, hff.out.2⟩

/-- what a function that makes a turn leaves. -/
def MadeT (n : Int) (φ : Int → Int) (w : World) (e : Ending) (w' : World) : Prop := ∃ v bs, e = .returned v ∧ TurnV n v φ bs ∧ Has w' bs ∧ NoT bs ∧ Below w.heap.size w w'
theorem not_turn {t : TypeId} {cs : Array Value} {f0 : Nat × Nat} (h : t ≠ 43) (cur : Array Value) (fz : Nat × Nat) : Obj.cells cs t f0 ≠ .cells cur 43 fz := fun e => h (by cases e; rfl)
theorem shift_at (n i k : Int) (hi : ptB n i = true) (hk : ptB n k = true) (w : World) : Calls Tryz.prog 25 #[.int .i64 i, .int .i64 k] w (MadeT n (fun x => movedI x i k) w) := by
  have hT := Lib.hid (repl_turn n _ _ _ (shift_bec n i k hi hk w.heap.size (w.heap.size + 1)) (mv_set hi hk) (w.heap.size + 1 + 1))
  have hmf := mkfunc
  replace hi := Lib.hid hi
  replace hk := Lib.hid hk
  have hH := Lib.hid (Has.cons (w := ((w.alloc (.cells #[.int .i64 i] 3)).alloc (.cells #[.int .i64 k] 3)).alloc (.cells #[.func (.func 52) #[] #[.pointer (some ⟨w.heap.size, 0, none⟩), .pointer (some ⟨w.heap.size + 1, 0, none⟩)]] 76)) (b := w.heap.size + 1 + 1) (new_cell3c w _ _ _ _)
    (Has.cons (b := w.heap.size) (new_cell3a w _ _ _ _) (Has.cons (b := w.heap.size + 1) (new_cell3b w _ _ _ _) (Has.nil _))))
  have hbw := Lib.hid ((((Below.refl w.heap.size w).alloc (Nat.le_refl _) (.cells #[.int .i64 i] 3)).alloc (by simp) (.cells #[.int .i64 k] 3)).alloc (by simp; omega) (.cells #[.func (.func 52) #[] #[.pointer (some ⟨w.heap.size, 0, none⟩), .pointer (some ⟨w.heap.size + 1, 0, none⟩)]] 76))
  go_enter Tryz.func25, Tryz.ntmps25
  go_wp2_with (first | (go_at_call 51; go_in) | fail)
  go_ret
  refine ⟨_, _, rfl, hT.out, hH.out, ?_, hbw.out⟩
  intro p hp
  simp at hp
  rcases hp with rfl | rfl | rfl
  · exact not_turn (by decide)
  · exact not_turn (by decide)
  · exact not_turn (by decide)
end
section
/- Lists of turns; whether a turn changes a family. -/
open Go.ChangeShapes Go.WideShapes Go.ChangeAt Go.RowKit Go.Proofs

theorem SRow.drew {w : World} {S : Nat} {v : Value} {xs : List Int} (h : SRow w S v xs) : SRow w.drew S v xs := h
theorem fld0 (x y : Value) (w : World) : (Instr.field 50 (.agg #[x, y]) 0).run Tryz.prog w = .ok x w := by kernel_rfl
end
section
/- Lists of turns: made by append, read. -/
open Go.ChangeShapes Go.WideShapes Go.ChangeAt Go.RowKit Go.Proofs

theorem Tryz.turnInfo : (Tryz.prog.info? 43).map (fun i => (i.zero, i.size, i.bytes)) = some (some .nilFunc, 1, 8) := by kernel_rfl
/-- the values of a list are turns. -/
def TurnsV (n : Int) (w : World) (vs : List Value) (φs : List (Int → Int)) : Prop := vs.length = φs.length ∧ ∀ (j : Nat) (v : Value) (φ : Int → Int), vs[j]? = some v → φs[j]? = some φ → ∃ bs, TurnV n v φ bs ∧ Has w bs ∧ NoT bs
theorem TurnsV.nil (n : Int) (w : World) : TurnsV n w [] [] := ⟨rfl, fun j v φ h => by simp at h⟩
theorem TurnsV.snoc {n : Int} {w : World} {vs : List Value} {φs : List (Int → Int)} {v : Value} {φ : Int → Int} {bs : List (Nat × Obj)} (h : TurnsV n w vs φs) (hv : TurnV n v φ bs) (hb : Has w bs) (hn : NoT bs) : TurnsV n w (vs ++ [v]) (φs ++ [φ]) := by
  refine ⟨by simp [h.1], fun j u ψ h1 h2 => ?_⟩
  by_cases hj : j < vs.length
  · rw [List.getElem?_append_left hj] at h1
    rw [List.getElem?_append_left (by rw [← h.1]; exact hj)] at h2
    exact h.2 j u ψ h1 h2
  · rw [List.getElem?_append_right (by omega)] at h1
    rw [List.getElem?_append_right (by rw [← h.1]; omega), ← h.1] at h2
    cases hd : j - vs.length with
    | zero =>
      rw [hd] at h1 h2
      simp at h1 h2
      subst h1 h2
      exact ⟨bs, hv, hb, hn⟩
    | succ d => rw [hd] at h1; simp at h1
theorem TurnsV.below {n : Int} {w W : World} {vs : List Value} {φs : List (Int → Int)} (h : TurnsV n w vs φs) (hb : Below w.heap.size w W) : TurnsV n W vs φs :=
  ⟨h.1, fun j v φ h1 h2 => by obtain ⟨bs, a, b, c⟩ := h.2 j v φ h1 h2; exact ⟨bs, a, b.below hb, c⟩⟩
theorem Has.grown {w W : World} {bs : List (Nat × Obj)} {B m : Nat} {v : Value} {us : List Value} (h : Has w bs) (hn : NoT bs) (hO : w.ownsRow B 43 1 v m us) (hg : w.grownBy W v.ownBlock) : Has W bs := fun p hp => by
  rw [hg.block p.1 (h.lt hp) ?_]
  · exact h p hp
  · intro e
    rcases hO.2 with ⟨rfl, _⟩ | ⟨g, cap, cur, rfl, _, hgc, _⟩
    · simp [Value.ownBlock] at e
    · simp [Value.ownBlock] at e
      subst e
      exact hn p hp cur (0, 0) (Option.some.inj ((h p hp).symm.trans hgc))
theorem TurnsV.grown {n : Int} {w W : World} {vs : List Value} {φs : List (Int → Int)} {B m : Nat} {v : Value} {us : List Value} (h : TurnsV n w vs φs) (hO : w.ownsRow B 43 1 v m us) (hg : w.grownBy W v.ownBlock) : TurnsV n W vs φs :=
  ⟨h.1, fun j v φ h1 h2 => by obtain ⟨bs, a, b, c⟩ := h.2 j v φ h1 h2; exact ⟨bs, a, b.grown c hO hg, c⟩⟩
/-- v is the call's own list of turns. -/
def TurnL (n : Int) (w : World) (B : Nat) (v : Value) (φs : List (Int → Int)) : Prop := ∃ vs, w.ownsRow B 43 1 v vs.length vs ∧ TurnsV n w vs φs
theorem TurnL.form {n : Int} {w : World} {B : Nat} {v : Value} {φs : List (Int → Int)} (h : TurnL n w B v φs) : ∃ a c, v = .slice a φs.length c := by
  obtain ⟨vs, hO, hT⟩ := h
  rcases hO.2 with ⟨rfl, h0⟩ | ⟨g, cap, cur, rfl, _⟩
  · exact ⟨none, 0, by rw [← hT.1, h0]⟩
  · exact ⟨_, cap, by rw [← hT.1]⟩
theorem TurnL.below {n : Int} {w W : World} {B : Nat} {v : Value} {φs : List (Int → Int)} (h : TurnL n w B v φs) (hb : Below w.heap.size w W) : TurnL n W B v φs := by
  obtain ⟨vs, hO, hT⟩ := h
  refine ⟨vs, ⟨hO.1, ?_⟩, hT.below hb⟩
  rcases hO.2 with hn | ⟨g, cap, cur, rfl, hB, hg, rest⟩
  · exact .inl hn
  · refine .inr ⟨g, cap, cur, rfl, hB, ?_, rest⟩
    rw [hb.block g (Array.getElem?_eq_some_iff.1 hg).1]
    exact hg
theorem TurnL.lit (n : Int) (w : World) {B : Nat} (h : B ≤ w.heap.size) : TurnL n (w.alloc (.cells #[] 43)) B (.slice (some ⟨w.heap.size, 0, none⟩) 0 0) [] :=
  ⟨[], World.ownsRow_made w #[] 0 h (by unfold maxLen; omega) rfl, TurnsV.nil n _⟩
/-- v reads as a list of turns; its cells lie below block S. -/
def TRow (n : Int) (w : World) (S : Nat) (lv : Value) (φs : List (Int → Int)) : Prop :=
  ∃ a cap, lv = .slice a φs.length cap ∧ (0 < φs.length → ∃ b off, a = some ⟨b, off, none⟩ ∧ b < S ∧ ∀ j φ, φs[j]? = some φ → ∃ v bs, w.cell? ⟨b, off + j, none⟩ = some v ∧ TurnV n v φ bs ∧ Has w bs)
theorem TRow.below {n : Int} {w W : World} {S : Nat} {lv : Value} {φs : List (Int → Int)} (h : TRow n w S lv φs) (hb : Below w.heap.size w W) (hS : S ≤ w.heap.size) : TRow n W S lv φs := by
  obtain ⟨a, cap, rfl, h⟩ := h
  refine ⟨a, cap, rfl, fun hp => ?_⟩
  obtain ⟨b, off, rfl, hs, hc⟩ := h hp
  refine ⟨b, off, rfl, hs, fun j φ hj => ?_⟩
  obtain ⟨v, bs, h1, h2, h3⟩ := hc j φ hj
  exact ⟨v, bs, (hb.cell (p := ⟨b, off + j, none⟩) (show b < w.heap.size by omega)).trans h1, h2, h3.below hb⟩
theorem TRow.mono {n : Int} {w : World} {S S' : Nat} {lv : Value} {φs : List (Int → Int)} (h : TRow n w S lv φs) (hS : S ≤ S') : TRow n w S' lv φs := by
  obtain ⟨a, cap, rfl, h⟩ := h
  refine ⟨a, cap, rfl, fun hp => ?_⟩
  obtain ⟨b, off, rfl, hs, hc⟩ := h hp
  exact ⟨b, off, rfl, by omega, hc⟩
theorem TurnL.row {n : Int} {w : World} {B : Nat} {v : Value} {φs : List (Int → Int)} (h : TurnL n w B v φs) : TRow n w w.heap.size v φs := by
  obtain ⟨vs, hO, hT⟩ := h
  have hlt := World.ownsRow.lt hO
  have hce := @World.ownsRow.cells _ _ _ _ _ _ _ hO
  rcases hO.2 with ⟨rfl, h0⟩ | ⟨g, cap, cur, rfl, _⟩
  · exact ⟨none, 0, by rw [← hT.1, h0], fun hp => by have := hT.1; omega⟩
  · refine ⟨some ⟨g, 0, none⟩, cap, by rw [← hT.1], fun hp => ⟨g, 0, rfl, (hlt g rfl).2, fun j φ hj => ?_⟩⟩
    have hjl : j < vs.length := by rw [hT.1]; exact (List.getElem?_eq_some_iff.1 hj).1
    obtain ⟨bs, h1, h2, _⟩ := hT.2 j _ φ (List.getElem?_eq_getElem hjl) hj
    have := hce (g := g) rfl j _ (List.getElem?_eq_getElem hjl)
    have hadd : (⟨g, 0, none⟩ : Addr).add j = ⟨g, 0 + j, none⟩ := by rw [Nat.zero_add]; unfold Addr.add; split <;> simp_all
    rw [hadd] at this
    exact ⟨_, bs, this, h1, h2⟩
/-- what a function that makes a list of turns leaves. -/
def TurnsPost (n : Int) (φs : List (Int → Int)) (w : World) (e : Ending) (w' : World) : Prop := ∃ v, e = .returned v ∧ TRow n w' w'.heap.size v φs ∧ Below w.heap.size w w'
theorem prTo_len (k : Nat) : (prTo k).length = k := by unfold prTo; rw [List.length_map, upI_len]
theorem shTo_len (i : Nat) : ∀ k, (shTo i k).length = (shTo i 0).length + k
  | 0 => rfl
  | k + 1 => by rw [shTo_k, List.length_append, shTo_len i k]; simp; omega
theorem shTo_le : ∀ i, i ≤ 8 → (shTo i 0).length ≤ i * 8
  | 0, _ => by simp [shTo_len0]
  | i + 1, h => by rw [shTo_i, shTo_len]; have := shTo_le i (by omega); omega

end
section
/- Turns one behind the other, and rounds until nothing changes any more. -/
open Go.ChangeShapes Go.WideShapes Go.ChangeAt Go.RowKit Go.Proofs

theorem fam_frozen {w : World} {c : Nat} {lv u : Value} (h : w.heap[c]? = some (.cells #[lv, u] 50 (0, 0))) : w.frozen? ⟨c, 0, none⟩ = false ∧ w.frozen? ⟨c, 1, none⟩ = false := ⟨frozen_of h 0, frozen_of h 1⟩
theorem fam_stored {w : World} {c : Nat} {p q : Value} (h : w.heap[c]? = some (.cells #[p, q] 50 (0, 0))) (X Y : Value) : ((w.setCell ⟨c, 0, none⟩ X).setCell ⟨c, 1, none⟩ Y).heap[c]? = some (.cells #[X, Y] 50 (0, 0)) := by
  have h1 := heap_setCell_same w c 0 _ 50 X h
  have h2 := heap_setCell_same _ c 1 _ 50 Y h1
  rw [h2]; rfl
/-- a store into a box that holds a family leaves a list of sets. -/
theorem SRow.stored {w : World} {S c n k : Nat} {v q : Value} {a : Option Addr} {xs : List Int} (h : SRow w S v xs) (hc : w.heap[c]? = some (.cells #[.slice a n k, q] 50 (0, 0))) (hq : ∀ x, q ≠ .int .u64 x) (X Y : Value) :
    SRow ((w.setCell ⟨c, 0, none⟩ X).setCell ⟨c, 1, none⟩ Y) S v xs := by
  obtain ⟨a, cap, rfl, h⟩ := h
  refine ⟨a, cap, rfl, fun hl => ?_⟩
  obtain ⟨b, off, rfl, hs, hx⟩ := h hl
  have hne : c ≠ b := by
    intro e
    subst e
    have h0 := hx 0 hl
    rw [cell_of_row w c (off + 0) _ 50 (0, 0) hc] at h0
    match off, h0 with
    | 0, h0 => cases h0
    | 1, h0 => exact hq _ (Option.some.inj h0)
    | off + 2, h0 => simp at h0
  refine ⟨b, off, rfl, hs, fun i hi => ?_⟩
  rw [World.cell?_setCell_far _ _ _ _ hne, World.cell?_setCell_far _ _ _ _ hne]
  exact hx i hi
theorem rd_take {φs : List (Int → Int)} {k : Nat} {φ : Int → Int} (h : φs[k]? = some φ) (xs : List Int) : rdL (φs.take (k + 1)) xs = tnL φ (rdL (φs.take k) xs) := by
  rw [List.take_add_one, h]
  exact rd_snoc φ _ xs
theorem rd_fam_take {n : Int} {φs : List (Int → Int)} {xs : List Int} (h : ∀ φ ∈ φs, SetT n φ) (hf : famB n xs = true) (k : Nat) : famB n (rdL (φs.take k) xs) = true := rd_fam (fun φ hφ => h φ (List.mem_of_mem_take hφ)) hf

end
section
/- Rounds until nothing changes any more: a labelled loop. What is made of a family to be read. -/
open Go.ChangeShapes Go.WideShapes Go.ChangeAt Go.RowKit Go.Proofs

theorem same_of {xs ys : List Int} (h : sameB xs ys = true) : xs = ys := of_decide_eq_true h
theorem take_all {φs : List (Int → Int)} {k : Nat} {φ : Int → Int} {ys : List Int} (hk : φs[k]? = some φ) (h : ∀ ψ ∈ φs.take k, tnL ψ ys = ys) (h2 : tnL φ ys = ys) : ∀ ψ ∈ φs.take (k + 1), tnL ψ ys = ys := by
  intro ψ hψ
  rw [List.take_add_one, hk] at hψ
  rcases List.mem_append.1 hψ with h3 | h3
  · exact h ψ h3
  · simp at h3; subst h3; exact h2
end
section
/- The program's shifts and pressings. -/
open Go.ChangeShapes Go.WideShapes Go.ChangeAt Go.RowKit Go.Proofs

set_option maxHeartbeats 2000000 in
theorem made_read (g : Nat) (eg : EntersG g) (cs : Array Value) (n : Int) (lv : Value) (xs ys : List Int) (S : Nat) (w : World) (hx : Row w S lv xs) (hS : S ≤ w.heap.size) (hl : xs.length ≤ 100000000)
    (hF : famB n xs = true → (∀ (W : World) (lv : Value), Below w.heap.size w W → SRow W W.heap.size lv xs → Calls Tryz.prog g (#[.agg #[lv, (Value.func (.func 73) #[] #[])]] ++ cs) W (FamR W ys)) ∧ (∀ z ∈ ys, 0 ≤ z ∧ z < 256) ∧ ys.length ≤ 1000) :
    Calls Tryz.prog 24 #[.int .i64 n, lv, .func (.func g) #[] cs] w (ListPost (ifL (famB n xs) ys) (famB n xs) w) := by
  have eg1 : ∀ args w, (callFunc g args).run Tryz.prog w = .ok (.enter g args) w := eg
  have hr := Lib.hid (read_any n lv xs S w hx hS hl)
  obtain ⟨la, lc, rfl, _⟩ := id hx
  replace hF := Lib.hid hF
  clear hx
  go_enter Tryz.func24, Tryz.ntmps24
  go_wp2_with fail
  refine hr.out.mono ?_
  rintro e w1 (⟨hf, v, rfl, hS1, hb1⟩ | ⟨hf, rfl, hb1⟩)
  · obtain ⟨a', c', rfl⟩ := hS1.form
    have hz1 := hb1.size
    obtain ⟨hM, hzz, hlen⟩ := hF.out hf
    have hb2 := hb1.alloc hz1 (.cells #[.slice a' xs.length c', (Value.func (.func 73) #[] #[])] 50)
    have hS2 := hS1.alloc (.cells #[.slice a' xs.length c', (Value.func (.func 73) #[] #[])] 50)
    have hm := Lib.hid (hM _ _ hb2 hS2.row)
    have hL := Lib.hid (show ys = ifL (famB n xs) ys by unfold ifL; rw [if_pos hf])
    replace hf := Lib.hid hf.symm
    replace hb2 := Lib.hid hb2
    replace hzz := Lib.hid hzz
    clear hr hS1 hb1 hS2 hM hF
    go_wp2_with fail
    refine hm.out.mono ?_
    rintro e w2 ⟨u, rfl, hS3, hb3⟩
    obtain ⟨a3, c3, rfl, _⟩ := id hS3
    have hnum := Lib.hid (numbers_at _ _ _ _ hS3 (Nat.le_refl _) (by omega) hzz.out)
    rw [World.size_alloc] at hb3
    have hz3 := hb3.size
    rw [World.size_alloc] at hz3
    replace hb3 := Lib.hid (hb2.out.trans (hb3.mono (by omega)))
    clear hS3
    go_wp2_with fail
    refine hnum.out.mono ?_
    rintro e w3 ⟨t, rfl, hO, hb4⟩
    obtain ⟨ua, uc, rfl, _⟩ := id hO
    replace hb4 := Lib.hid (hb3.out.trans (hb4.mono (by omega)))
    replace hO := Lib.hid (hO.mono (show w.heap.size ≤ w2.heap.size by omega) (Nat.le_refl _))
    go_wp2_with fail
    go_ret2
    exact ⟨_, ret_vb hf.out, hL.out ▸ hO.out, hb4.out⟩
  · have hz1 := hb1.size
    have hL := Lib.hid (show [] = ifL (famB n xs) ys by unfold ifL; rw [hf]; rfl)
    replace hf := Lib.hid hf.symm
    replace hb1 := Lib.hid hb1
    clear hr hF
    go_wp2_with fail
    go_ret2
    exact ⟨_, ret_vb hf.out, hL.out ▸ own_empty _ _ _ _ _, (hb1.out.alloc hz1 _).alloc (by simp; omega) _⟩
theorem fam_bounds {n : Int} {ys : List Int} (h : famB n ys = true) : (∀ z ∈ ys, 0 ≤ z ∧ z < 256) ∧ ys.length ≤ 1000 := ⟨famB_lt h, by have := famB_len h; omega⟩
theorem made_turn (n : Int) (u lv : Value) (φ : Int → Int) (bs : List (Nat × Obj)) (hu : TurnV n u φ bs) (hs : SetT n φ) (xs : List Int) (S : Nat) (w : World) (hbs : Has w bs) (hx : Row w S lv xs) (hS : S ≤ w.heap.size) (hl : xs.length ≤ 100000000) :
    Calls Tryz.prog 24 #[.int .i64 n, lv, u] w (ListPost (ifL (famB n xs) (tnL φ xs)) (famB n xs) w) := by
  obtain ⟨g, cs, rfl, eg, hcall⟩ := hu
  exact made_read g eg cs n lv xs (tnL φ xs) S w hx hS hl (fun hf => ⟨fun W lv hb hr => hcall W lv xs hf (hbs.below hb) hr, fam_bounds (tn_fam hs hf)⟩)

set_option maxRecDepth 100000 in
set_option maxHeartbeats 2000000 in
theorem im_ShiftOf (n : Int) (lv : Value) (xs : List Int) (i k : Int) (S : Nat) (w : World) (hx : Row w S lv xs) (hS : S ≤ w.heap.size) (hl : xs.length ≤ 100000000) :
    Calls Tryz.prog 7 #[.int .i64 n, lv, .int .i64 i, .int .i64 k] w (ListPost (ifL (famB n xs && (ptB n i && ptB n k)) (tnL (fun x => movedI x i k) xs)) (famB n xs && (ptB n i && ptB n k)) w) := by
  have hpi := pt_in n i
  have hpk := pt_in n k
  obtain ⟨la, lc, rfl, _⟩ := id hx
  rcases ptB_cases n i with hi | hi
  · rcases ptB_cases n k with hk | hk
    · have hsh := Lib.hid (shift_at n i k hi hk w)
      rw [hi] at hpi ⊢
      rw [hk] at hpk ⊢
      rw [Bool.true_and, Bool.and_true]
      replace hpi := Lib.hid hpi
      replace hpk := Lib.hid hpk
      replace hx := Lib.hid hx
      have hset := Lib.hid (mv_set hi hk)
      replace hi := Lib.hid hi
      replace hk := Lib.hid hk
      go_enter Tryz.func7, Tryz.ntmps7
      go_wp2_with (go_at_call 23; first | ((with_reducible refine (hpi.out _).mono ?_); rintro e w' ⟨rfl, rfl⟩) | ((with_reducible refine (hpk.out _).mono ?_); rintro e w' ⟨rfl, rfl⟩))
      refine hsh.out.mono ?_
      rintro e w1 ⟨u, bs, rfl, hu, hH, hno, hb1⟩
      have hm := Lib.hid (made_turn n u (.slice la xs.length lc) _ bs hu hset.out xs S w1 hH (hx.out.below hb1 hS) (by have := hb1.size; omega) hl)
      replace hb1 := Lib.hid hb1
      obtain ⟨g, cs, rfl, _⟩ := hu
      go_wp2_with fail
      refine hm.out.mono ?_
      rintro e w2 ⟨v, rfl, hO, hb2⟩
      obtain ⟨ua, uc, rfl, _⟩ := id hO
      replace hO := Lib.hid (hO.mono hb1.out.size (Nat.le_refl _))
      replace hb2 := Lib.hid (hb1.out.trans (hb2.mono hb1.out.size))
      go_wp2_with fail
      go_ret2
      exact ⟨_, rfl, hO.out, hb2.out⟩
    · rw [hi] at hpi ⊢
      rw [hk] at hpk ⊢
      rw [Bool.and_false, Bool.and_false]
      replace hpi := Lib.hid hpi
      replace hpk := Lib.hid hpk
      replace hi := Lib.hid hi
      replace hk := Lib.hid hk
      clear hx
      go_enter Tryz.func7, Tryz.ntmps7
      go_wp2_with (go_at_call 23; first | ((with_reducible refine (hpi.out _).mono ?_); rintro e w' ⟨rfl, rfl⟩) | ((with_reducible refine (hpk.out _).mono ?_); rintro e w' ⟨rfl, rfl⟩))
      go_ret2
      exact ⟨_, rfl, own_empty _ _ _ _ _, (Below.refl _ _).alloc (Nat.le_refl _) _⟩
  · rw [hi] at hpi ⊢
    rw [Bool.false_and, Bool.and_false]
    replace hpi := Lib.hid hpi
    replace hi := Lib.hid hi
    clear hx hpk
    go_enter Tryz.func7, Tryz.ntmps7
    go_wp2_with (go_at_call 23; ((with_reducible refine (hpi.out _).mono ?_); rintro e w' ⟨rfl, rfl⟩))
    go_ret2
    exact ⟨_, rfl, own_empty _ _ _ _ _, (Below.refl _ _).alloc (Nat.le_refl _) _⟩
theorem shL_len {n : Int} (n1 : 1 ≤ n) (n2 : n ≤ 8) : (shL n).length ≤ 1000 := by
  have := shTo_le n.toNat (by omega)
  unfold shL; omega
theorem prL_len {n : Int} (n1 : 1 ≤ n) (n2 : n ≤ 8) : (prL n).length ≤ 1000 := by
  unfold prL; rw [prTo_len]; omega
end
section
/- The program: whether a family stays as it is. -/
open Go.ChangeShapes Go.WideShapes Go.ChangeAt Go.RowKit Go.Proofs

theorem anyT_take {φs : List (Int → Int)} {k : Nat} {φ : Int → Int} (h : φs[k]? = some φ) (p : (Int → Int) → Bool) : (φs.take (k + 1)).any p = ((φs.take k).any p || p φ) := by rw [List.take_add_one, h, List.any_append]; simp
/-- what a search leaves. -/
def IdxT (b : Bool) (w : World) (e : Ending) (w' : World) : Prop := ∃ r : Int, e = .returned (.int .i64 r) ∧ decide (0 ≤ r) = b ∧ -1 ≤ r ∧ r ≤ 1000000 ∧ Below w.heap.size w w'
/-- the function value answers p of each turn of the list. -/
def AsksT (n : Int) (g : Nat) (cs : Array Value) (p : (Int → Int) → Bool) (φs : List (Int → Int)) (w : World) : Prop :=
  ∀ (W : World) (u : Value) (φ : Int → Int) (bs : List (Nat × Obj)), φ ∈ φs → TurnV n u φ bs → Has W bs → Below w.heap.size w W → Calls Tryz.prog g (#[u] ++ cs) W fun e w' => e = .returned (.bool (p φ)) ∧ Below W.heap.size W w'
/-- no turn changes the family. -/
def staysB (n : Int) (φs : List (Int → Int)) (xs : List Int) : Bool := famB n xs && !φs.any (fun φ => !sameB (tnL φ xs) xs)
end
end Go.Proofs.YtgkbaenjniapiaaGreatDoor
