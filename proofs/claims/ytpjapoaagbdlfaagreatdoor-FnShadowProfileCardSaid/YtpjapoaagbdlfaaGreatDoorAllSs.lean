/- Texts merged: XShm6 XShSp XShSp2 XShSp3. -/
import Derived.Test.YtpjapoaagbdlfaaGreatDoorAllShm
import Derived.Test.YtpjapoaagbdlfaaGreatDoorAllSp
namespace Go.Proofs.YtpjapoaagbdlfaaGreatDoor
section
/- Shadows taken in turn: ShadowTimes, the program. -/
open Go.ChangeShapes Go.WideShapes Go.ChangeAt Go.RowKit Go.Proofs Go.Shelf Go.Maps

/-- the shadow taken k times. -/
def itL (xs : List Int) : Nat → List Int
  | 0 => xs
  | k + 1 => sortL (dnL (itL xs k))
theorem itL_in {xs : List Int} (h : ∀ x ∈ xs, 0 ≤ x ∧ x < 256) : ∀ k, ∀ z ∈ itL xs k, 0 ≤ z ∧ z < 256
  | 0 => h
  | k + 1 => fun z hz => dnL_in (itL_in h k) z (mem_sortL.1 hz)
theorem itL_asc {xs : List Int} (h : Asc xs) : ∀ k, Asc (itL xs k)
  | 0 => h
  | _ + 1 => asc_sortL _
theorem itL_len {xs : List Int} (h : Asc xs) (hx : ∀ x ∈ xs, 0 ≤ x ∧ x < 256) (k : Nat) : (itL xs k).length ≤ 256 := asc_len256 (itL_asc h k) (itL_in hx k)
theorem SRow.store2 {w : World} {S c : Nat} {v u0 u1 : Value} {xs : List Int} (hx : SRow w S v xs) (hc : w.heap[c]? = some (.cells #[u0, u1] 44 (0, 0))) (h0 : ∀ x, u0 ≠ .int .u64 x) (h1 : ∀ x, u1 ≠ .int .u64 x) (X Y : Value) :
    SRow ((w.setCell ⟨c, 0, none⟩ X).setCell ⟨c, 1, none⟩ Y) S v xs := by
  obtain ⟨a, cap, rfl, ha⟩ := hx
  refine ⟨a, cap, rfl, fun hp => ?_⟩
  obtain ⟨b1, o1, rfl, s1, c1⟩ := ha hp
  refine ⟨b1, o1, rfl, s1, fun i hi => ?_⟩
  have hne : b1 ≠ c := by
    rintro rfl
    have := c1 i hi
    rw [cell_of_row w b1 _ _ 44 (0, 0) hc] at this
    rcases Nat.lt_or_ge (o1 + i) 2 with h2 | h2
    · rcases (by omega : o1 + i = 0 ∨ o1 + i = 1) with e | e
      · rw [e] at this; exact h0 _ (by simpa using this)
      · rw [e] at this; exact h1 _ (by simpa using this)
    · rw [Array.getElem?_eq_none (by simpa using h2)] at this; cases this
  have e1 := c1 i hi
  simp only [World.cell?] at e1 ⊢
  rw [Below.heap_setCell _ _ _ _ hne, Below.heap_setCell _ _ _ _ hne]
  exact e1
/-- between two shadows. -/
def TmS (W : World) (xs : List Int) (k : Nat) (wr : World) : Prop := Below W.heap.size W wr ∧ (∃ a c, wr.heap[W.heap.size]? = some (.cells #[.slice a (itL xs k).length c, (Value.func (.func 57) #[] #[])] 44 (0, 0)) ∧ SRow wr wr.heap.size (.slice a (itL xs k).length c) (itL xs k)) ∧
  wr.heap[W.heap.size + 1]? = some (.cells #[.slice none 0 0, .nilFunc] 44 (0, 0)) ∧ ∃ nn l, MapS wr (W.heap.size + 1 + 1) nn l
theorem TmS.step {W wr w2 : World} {xs ys : List Int} {k : Nat} {v : Value} (h : TmS W xs k wr) (hy : itL xs (k + 1) = ys) (hS : SetL w2 wr.heap.size v ys) (hg : wr.grownBy w2 (some (W.heap.size + 1 + 1))) (hm : ∃ nn l, MapS w2 (W.heap.size + 1 + 1) nn l) :
    TmS W xs (k + 1) ((w2.setCell ⟨W.heap.size, 0, none⟩ v).setCell ⟨W.heap.size, 1, none⟩ (Value.func (.func 57) #[] #[])) := by
  obtain ⟨hb, ⟨a, c, h0, _⟩, h1, _⟩ := h
  subst hy
  have l0 := (Array.getElem?_eq_some_iff.1 h0).1
  have l1 := (Array.getElem?_eq_some_iff.1 h1).1
  have g0 : w2.heap[W.heap.size]? = some (.cells #[.slice a (itL xs k).length c, (Value.func (.func 57) #[] #[])] 44 (0, 0)) := by rw [hg.block _ l0 (by simp; omega)]; exact h0
  have g1 : w2.heap[W.heap.size + 1]? = some (.cells #[.slice none 0 0, .nilFunc] 44 (0, 0)) := by rw [hg.block _ l1 (by simp)]; exact h1
  obtain ⟨a2, c2, rfl⟩ := hS.form
  have s1 := heap_setCell_same w2 W.heap.size 0 _ 44 (.slice a2 (itL xs (k + 1)).length c2) g0
  have s2 := heap_setCell_same _ W.heap.size 1 _ 44 (Value.func (.func 57) #[] #[]) s1
  refine ⟨below_setCell (below_setCell (hb.grown hg hb.size (fun j e => by cases e; omega)) (Nat.le_refl _) _) (Nat.le_refl _) _, ⟨a2, c2, s2, ?_⟩, ?_, ?_⟩
  · have := ((hS.store ⟨W.heap.size, 0, none⟩ (.slice a2 (itL xs (k + 1)).length c2) (by intro e; have := hS.lt _ e; dsimp only at this; omega)).store ⟨W.heap.size, 1, none⟩ (Value.func (.func 57) #[] #[]) (by intro e; have := hS.lt _ e; dsimp only at this; omega)).row
    exact this
  · rw [Below.heap_setCell _ _ _ _ (show W.heap.size + 1 ≠ W.heap.size by omega), Below.heap_setCell _ _ _ _ (show W.heap.size + 1 ≠ W.heap.size by omega)]; exact g1
  · obtain ⟨nn, l, D, ⟨es, clock, hb', Ft, hs, hD⟩, hx⟩ := hm
    refine ⟨nn, l, D, ⟨es, clock, ?_, Ft, hs, hD⟩, hx⟩
    rw [Below.heap_setCell _ _ _ _ (show W.heap.size + 1 + 1 ≠ W.heap.size by omega), Below.heap_setCell _ _ _ _ (show W.heap.size + 1 + 1 ≠ W.heap.size by omega)]; exact hb'
/-- how often a shadow may be taken. -/
def tmB (n t : Int) : Bool := decide (0 ≤ t) && decide (t ≤ n)
end
section
/- Shadows: the model. -/
open Go.ChangeShapes Go.WideShapes Go.ChangeAt Go.RowKit Go.Proofs

theorem xor_less {s p : Int} (h1 : 0 ≤ s) (h2 : s < 256) (h3 : 0 ≤ p) (h4 : p ≤ 7) : hasB s p = true → bits .xor .i64 s (wrap64 (2 ^ p.toNat)) = lessI s p :=
  all256_8 (P := fun s p => hasB s p = true → bits .xor .i64 s (wrap64 (2 ^ p.toNat)) = lessI s p) (by decide +kernel) h1 h2 h3 h4
theorem xor_with {s p : Int} (h1 : 0 ≤ s) (h2 : s < 256) (h3 : 0 ≤ p) (h4 : p ≤ 7) : hasB s p = false → bits .xor .i64 s (wrap64 (2 ^ p.toNat)) = withI s p :=
  all256_8 (P := fun s p => hasB s p = false → bits .xor .i64 s (wrap64 (2 ^ p.toNat)) = withI s p) (by decide +kernel) h1 h2 h3 h4
/-- one point the other way. -/
def pickI (u : Bool) (x p : Int) : Int := if u then withI x p else lessI x p
theorem xor_pick {u : Bool} {s p : Int} (h1 : 0 ≤ s) (h2 : s < 256) (h3 : 0 ≤ p) (h4 : p ≤ 7) (h : (hasB s p != u) = true) : bits .xor .i64 s (wrap64 (2 ^ p.toNat)) = pickI u s p := by
  cases u with
  | true => exact xor_with h1 h2 h3 h4 (by simpa using h)
  | false => exact xor_less h1 h2 h3 h4 (by simpa using h)
/-- what the model marks of one set, points below m. -/
def onL (u : Bool) (x : Int) (m : Nat) : List Int := ((upI m).filter fun p => hasB x p != u).map fun p => pickI u x p
theorem onL_succ (u : Bool) (x : Int) (m : Nat) : onL u x (m + 1) = onL u x m ++ (if (hasB x (m : Nat) != u) = true then [pickI u x (m : Nat)] else []) := by
  unfold onL; rw [upI_succ, filter_snoc, List.map_append]
  by_cases h : (hasB x (m : Nat) != u) = true
  · rw [if_pos h, if_pos h]; rfl
  · rw [if_neg h, if_neg h]; rfl
/-- what the model marks. -/
def spL (u : Bool) (n : Int) (xs : List Int) : List Int := xs.flatMap fun x => onL u x n.toNat
theorem spL_step {u : Bool} {n : Int} {xs : List Int} {k : Nat} (hk : k < xs.length) {x : Int} (hx : xs.getD k 0 = x) : spL u n (xs.take (k + 1)) = spL u n (xs.take k) ++ onL u x n.toNat := by
  unfold spL; rw [take_snoc hk, hx, List.flatMap_append]; simp
theorem pick_set {u : Bool} {n x p : Int} (hx : setB n x = true) (h0 : 0 ≤ p) (h1 : p < n) : setB n (pickI u x p) = true := by
  obtain ⟨n1, n8, x0, x1⟩ := setB_yes hx
  obtain ⟨N, rfl⟩ : ∃ N : Nat, n = N := ⟨n.toNat, by omega⟩
  obtain ⟨X, rfl⟩ : ∃ X : Nat, x = X := ⟨x.toNat, by omega⟩
  obtain ⟨q, rfl⟩ : ∃ q : Nat, p = q := ⟨p.toNat, by omega⟩
  rw [Int.toNat_natCast] at x1
  have x2 : X < 2 ^ N := by exact_mod_cast x1
  have hp : 2 ^ q < 2 ^ N := Nat.pow_lt_pow_right (by omega) (by omega)
  cases u with
  | true =>
    refine setB_mk ⟨n1, n8, by unfold pickI withI; simp, ?_⟩
    show ((X ||| 2 ^ q : Nat) : Int) < _
    rw [Int.toNat_natCast]
    exact_mod_cast Nat.or_lt_two_pow x2 hp
  | false =>
    show setB N (lessI X q) = true
    exact less_set hx h0 (by omega)
theorem spL_all {u : Bool} {n : Int} {xs : List Int} (h : ∀ x ∈ xs, setB n x = true) : allB n (spL u n xs) = true := List.all_eq_true.2 fun z hz => by
  obtain ⟨x, hx, hz⟩ := List.mem_flatMap.1 hz
  obtain ⟨p, hp, rfl⟩ := List.mem_map.1 hz
  obtain ⟨hp, _⟩ := List.mem_filter.1 hp
  have hp := mem_upI.1 hp
  have := setB_yes (h x hx)
  exact pick_set (h x hx) hp.1 (by omega)
theorem dn_one : ∀ n : Fin 9, ∀ x : Fin 256, x.val < 2 ^ n.val → (upI n.val).filter (fun p => hasB x.val p != false) = ptsI x.val := by decide +kernel
theorem up_one : ∀ n : Fin 9, ∀ x : Fin 256, x.val < 2 ^ n.val → (upI n.val).filter (fun p => hasB x.val p != true) = ptsI (2 ^ n.val - 1 - ((x.val : Nat) : Int)) := by decide +kernel
theorem onL_dn {n x : Int} (h : setB n x = true) : onL false x n.toNat = (ptsI x).map fun p => lessI x p := by
  obtain ⟨n1, n8, x0, x1⟩ := setB_yes h
  obtain ⟨_, x2⟩ := setB_lt h
  have e : ((x.toNat : Nat) : Int) = x := Int.toNat_of_nonneg x0
  have hd := dn_one ⟨n.toNat, by omega⟩ ⟨x.toNat, by omega⟩ (by
    have : ((x.toNat : Nat) : Int) < ((2 ^ n.toNat : Nat) : Int) := by rw [e]; simpa using x1
    simpa using Int.ofNat_lt.1 this)
  simp only [e] at hd
  unfold onL
  rw [hd]
  rfl
theorem onL_up {n x : Int} (h : setB n x = true) : onL true x n.toNat = (ptsI (otherI n x)).map fun p => withI x p := by
  obtain ⟨n1, n8, x0, x1⟩ := setB_yes h
  obtain ⟨_, x2⟩ := setB_lt h
  have e : ((x.toNat : Nat) : Int) = x := Int.toNat_of_nonneg x0
  have hd := up_one ⟨n.toNat, by omega⟩ ⟨x.toNat, by omega⟩ (by
    have : ((x.toNat : Nat) : Int) < ((2 ^ n.toNat : Nat) : Int) := by rw [e]; simpa using x1
    simpa using Int.ofNat_lt.1 this)
  simp only [e] at hd
  unfold onL otherI
  rw [hd]
  rfl
theorem spL_dn {n : Int} {xs : List Int} (h : ∀ x ∈ xs, setB n x = true) : spL false n xs = dnL xs := by
  induction xs with
  | nil => rfl
  | cons x xs ih =>
    have := ih (fun y hy => h y (List.mem_cons_of_mem _ hy))
    unfold spL dnL at this ⊢
    rw [List.flatMap_cons, List.flatMap_cons, this, onL_dn (h x (List.mem_cons_self ..))]
theorem spL_up {n : Int} {xs : List Int} (h : ∀ x ∈ xs, setB n x = true) : spL true n xs = upL n xs := by
  induction xs with
  | nil => rfl
  | cons x xs ih =>
    have := ih (fun y hy => h y (List.mem_cons_of_mem _ hy))
    unfold spL upL at this ⊢
    rw [List.flatMap_cons, List.flatMap_cons, this, onL_up (h x (List.mem_cons_self ..))]

end
section
/- Shadows: the model, its walk. -/
open Go.ChangeShapes Go.WideShapes Go.ChangeAt Go.RowKit Go.Proofs

end
section
/- Shadows: the model's functions. -/
open Go.ChangeShapes Go.WideShapes Go.ChangeAt Go.RowKit Go.Proofs

theorem dnL_set {n : Int} {xs : List Int} (h : ∀ x ∈ xs, setB n x = true) : ∀ z ∈ dnL xs, setB n z = true := by
  intro z hz
  obtain ⟨x, hx, hz⟩ := List.mem_flatMap.1 hz
  obtain ⟨p, hp, rfl⟩ := List.mem_map.1 hz
  obtain ⟨x1, x2⟩ := setB_lt (h x hx)
  obtain ⟨p1, p2, _⟩ := mem_pts x1 x2 hp
  exact less_set (h x hx) p1 p2
theorem itL_set {n : Int} {xs : List Int} (h : ∀ x ∈ xs, setB n x = true) : ∀ k, ∀ z ∈ itL xs k, setB n z = true
  | 0 => h
  | k + 1 => fun z hz => dnL_set (itL_set h k) z (mem_sortL.1 hz)
end
end Go.Proofs.YtpjapoaagbdlfaaGreatDoor
