/- Texts merged: XShm6 XShSp XShSp2 XShSp3. -/
import Derived.Test.YtpjapoaagbdlfaaDoorAllShm
import Derived.Test.YtpjapoaagbdlfaaDoorAllSp
namespace Go.Proofs.YtpjapoaagbdlfaaDoor
section
/- Shadows taken in turn: ShadowTimes, the program. -/
open Go.ChangeShapes Go.WideShapes Go.ChangeAt Go.RowKit Go.Proofs Go.Shelf Go.Maps

/-- the shadow taken k times. -/
def itL (xs : List Int) : Nat → List Int
  | 0 => xs
  | k + 1 => sortL (dnL (itL xs k))
theorem itL_in {xs : List Int} (h : ∀ x ∈ xs, 0 ≤ x ∧ x < 256) : ∀ k, ∀ z ∈ itL xs k, 0 ≤ z ∧ z < 256
  | 0 => h
  | k + 1 => fun z hz => dnL_in (itL_in h k) z (mem_sortL.1 hz)
theorem itL_asc {xs : List Int} (h : Asc xs) : ∀ k, Asc (itL xs k)
  | 0 => h
  | _ + 1 => asc_sortL _
theorem itL_len {xs : List Int} (h : Asc xs) (hx : ∀ x ∈ xs, 0 ≤ x ∧ x < 256) (k : Nat) : (itL xs k).length ≤ 256 := asc_len256 (itL_asc h k) (itL_in hx k)
theorem SRow.store2 {w : World} {S c : Nat} {v u0 u1 : Value} {xs : List Int} (hx : SRow w S v xs) (hc : w.heap[c]? = some (.cells #[u0, u1] 42 (0, 0))) (h0 : ∀ x, u0 ≠ .int .u64 x) (h1 : ∀ x, u1 ≠ .int .u64 x) (X Y : Value) :
    SRow ((w.setCell ⟨c, 0, none⟩ X).setCell ⟨c, 1, none⟩ Y) S v xs := by
  obtain ⟨a, cap, rfl, ha⟩ := hx
  refine ⟨a, cap, rfl, fun hp => ?_⟩
  obtain ⟨b1, o1, rfl, s1, c1⟩ := ha hp
  refine ⟨b1, o1, rfl, s1, fun i hi => ?_⟩
  have hne : b1 ≠ c := by
    rintro rfl
    have := c1 i hi
    rw [cell_of_row w b1 _ _ 42 (0, 0) hc] at this
    rcases Nat.lt_or_ge (o1 + i) 2 with h2 | h2
    · rcases (by omega : o1 + i = 0 ∨ o1 + i = 1) with e | e
      · rw [e] at this; exact h0 _ (by simpa using this)
      · rw [e] at this; exact h1 _ (by simpa using this)
    · rw [Array.getElem?_eq_none (by simpa using h2)] at this; cases this
  have e1 := c1 i hi
  simp only [World.cell?] at e1 ⊢
  rw [Below.heap_setCell _ _ _ _ hne, Below.heap_setCell _ _ _ _ hne]
  exact e1
/-- between two shadows. -/
def TmS (W : World) (xs : List Int) (k : Nat) (wr : World) : Prop := Below W.heap.size W wr ∧ (∃ a c, wr.heap[W.heap.size]? = some (.cells #[.slice a (itL xs k).length c, (Value.func (.func 61) #[] #[])] 42 (0, 0)) ∧ SRow wr wr.heap.size (.slice a (itL xs k).length c) (itL xs k)) ∧
  wr.heap[W.heap.size + 1]? = some (.cells #[.slice none 0 0, .nilFunc] 42 (0, 0)) ∧ ∃ nn l, MapS wr (W.heap.size + 1 + 1) nn l
theorem TmS.step {W wr w2 : World} {xs ys : List Int} {k : Nat} {v : Value} (h : TmS W xs k wr) (hy : itL xs (k + 1) = ys) (hS : SetL w2 wr.heap.size v ys) (hg : wr.grownBy w2 (some (W.heap.size + 1 + 1))) (hm : ∃ nn l, MapS w2 (W.heap.size + 1 + 1) nn l) :
    TmS W xs (k + 1) ((w2.setCell ⟨W.heap.size, 0, none⟩ v).setCell ⟨W.heap.size, 1, none⟩ (Value.func (.func 61) #[] #[])) := by
  obtain ⟨hb, ⟨a, c, h0, _⟩, h1, _⟩ := h
  subst hy
  have l0 := (Array.getElem?_eq_some_iff.1 h0).1
  have l1 := (Array.getElem?_eq_some_iff.1 h1).1
  have g0 : w2.heap[W.heap.size]? = some (.cells #[.slice a (itL xs k).length c, (Value.func (.func 61) #[] #[])] 42 (0, 0)) := by rw [hg.block _ l0 (by simp; omega)]; exact h0
  have g1 : w2.heap[W.heap.size + 1]? = some (.cells #[.slice none 0 0, .nilFunc] 42 (0, 0)) := by rw [hg.block _ l1 (by simp)]; exact h1
  obtain ⟨a2, c2, rfl⟩ := hS.form
  have s1 := heap_setCell_same w2 W.heap.size 0 _ 42 (.slice a2 (itL xs (k + 1)).length c2) g0
  have s2 := heap_setCell_same _ W.heap.size 1 _ 42 (Value.func (.func 61) #[] #[]) s1
  refine ⟨below_setCell (below_setCell (hb.grown hg hb.size (fun j e => by cases e; omega)) (Nat.le_refl _) _) (Nat.le_refl _) _, ⟨a2, c2, s2, ?_⟩, ?_, ?_⟩
  · have := ((hS.store ⟨W.heap.size, 0, none⟩ (.slice a2 (itL xs (k + 1)).length c2) (by intro e; have := hS.lt _ e; dsimp only at this; omega)).store ⟨W.heap.size, 1, none⟩ (Value.func (.func 61) #[] #[]) (by intro e; have := hS.lt _ e; dsimp only at this; omega)).row
    exact this
  · rw [Below.heap_setCell _ _ _ _ (show W.heap.size + 1 ≠ W.heap.size by omega), Below.heap_setCell _ _ _ _ (show W.heap.size + 1 ≠ W.heap.size by omega)]; exact g1
  · obtain ⟨nn, l, D, ⟨es, clock, hb', Ft, hs, hD⟩, hx⟩ := hm
    refine ⟨nn, l, D, ⟨es, clock, ?_, Ft, hs, hD⟩, hx⟩
    rw [Below.heap_setCell _ _ _ _ (show W.heap.size + 1 + 1 ≠ W.heap.size by omega), Below.heap_setCell _ _ _ _ (show W.heap.size + 1 + 1 ≠ W.heap.size by omega)]; exact hb'
/-- how often a shadow may be taken. -/
def tmB (n t : Int) : Bool := decide (0 ≤ t) && decide (t ≤ n)
end
section
/- Shadows: the model. -/
open Go.ChangeShapes Go.WideShapes Go.ChangeAt Go.RowKit Go.Proofs

theorem xor_less {s p : Int} (h1 : 0 ≤ s) (h2 : s < 256) (h3 : 0 ≤ p) (h4 : p ≤ 7) : hasB s p = true → bits .xor .i64 s (wrap64 (2 ^ p.toNat)) = lessI s p :=
  all256_8 (P := fun s p => hasB s p = true → bits .xor .i64 s (wrap64 (2 ^ p.toNat)) = lessI s p) (by decide +kernel) h1 h2 h3 h4
theorem xor_with {s p : Int} (h1 : 0 ≤ s) (h2 : s < 256) (h3 : 0 ≤ p) (h4 : p ≤ 7) : hasB s p = false → bits .xor .i64 s (wrap64 (2 ^ p.toNat)) = withI s p :=
  all256_8 (P := fun s p => hasB s p = false → bits .xor .i64 s (wrap64 (2 ^ p.toNat)) = withI s p) (by decide +kernel) h1 h2 h3 h4
/-- one point the other way. -/
def pickI (u : Bool) (x p : Int) : Int := if u then withI x p else lessI x p
theorem xor_pick {u : Bool} {s p : Int} (h1 : 0 ≤ s) (h2 : s < 256) (h3 : 0 ≤ p) (h4 : p ≤ 7) (h : (hasB s p != u) = true) : bits .xor .i64 s (wrap64 (2 ^ p.toNat)) = pickI u s p := by
  cases u with
  | true => exact xor_with h1 h2 h3 h4 (by simpa using h)
  | false => exact xor_less h1 h2 h3 h4 (by simpa using h)
/-- what the model marks of one set, points below m. -/
def onL (u : Bool) (x : Int) (m : Nat) : List Int := ((upI m).filter fun p => hasB x p != u).map fun p => pickI u x p
theorem onL_succ (u : Bool) (x : Int) (m : Nat) : onL u x (m + 1) = onL u x m ++ (if (hasB x (m : Nat) != u) = true then [pickI u x (m : Nat)] else []) := by
  unfold onL; rw [upI_succ, filter_snoc, List.map_append]
  by_cases h : (hasB x (m : Nat) != u) = true
  · rw [if_pos h, if_pos h]; rfl
  · rw [if_neg h, if_neg h]; rfl
/-- what the model marks. -/
def spL (u : Bool) (n : Int) (xs : List Int) : List Int := xs.flatMap fun x => onL u x n.toNat
theorem spL_step {u : Bool} {n : Int} {xs : List Int} {k : Nat} (hk : k < xs.length) {x : Int} (hx : xs.getD k 0 = x) : spL u n (xs.take (k + 1)) = spL u n (xs.take k) ++ onL u x n.toNat := by
  unfold spL; rw [take_snoc hk, hx, List.flatMap_append]; simp
theorem pick_set {u : Bool} {n x p : Int} (hx : setB n x = true) (h0 : 0 ≤ p) (h1 : p < n) : setB n (pickI u x p) = true := by
  obtain ⟨n1, n8, x0, x1⟩ := setB_yes hx
  obtain ⟨N, rfl⟩ : ∃ N : Nat, n = N := ⟨n.toNat, by omega⟩
  obtain ⟨X, rfl⟩ : ∃ X : Nat, x = X := ⟨x.toNat, by omega⟩
  obtain ⟨q, rfl⟩ : ∃ q : Nat, p = q := ⟨p.toNat, by omega⟩
  rw [Int.toNat_natCast] at x1
  have x2 : X < 2 ^ N := by exact_mod_cast x1
  have hp : 2 ^ q < 2 ^ N := Nat.pow_lt_pow_right (by omega) (by omega)
  cases u with
  | true =>
    refine setB_mk ⟨n1, n8, by unfold pickI withI; simp, ?_⟩
    show ((X ||| 2 ^ q : Nat) : Int) < _
    rw [Int.toNat_natCast]
    exact_mod_cast Nat.or_lt_two_pow x2 hp
  | false =>
    show setB N (lessI X q) = true
    exact less_set hx h0 (by omega)
theorem spL_all {u : Bool} {n : Int} {xs : List Int} (h : ∀ x ∈ xs, setB n x = true) : allB n (spL u n xs) = true := List.all_eq_true.2 fun z hz => by
  obtain ⟨x, hx, hz⟩ := List.mem_flatMap.1 hz
  obtain ⟨p, hp, rfl⟩ := List.mem_map.1 hz
  obtain ⟨hp, _⟩ := List.mem_filter.1 hp
  have hp := mem_upI.1 hp
  have := setB_yes (h x hx)
  exact pick_set (h x hx) hp.1 (by omega)
theorem dn_one : ∀ n : Fin 9, ∀ x : Fin 256, x.val < 2 ^ n.val → (upI n.val).filter (fun p => hasB x.val p != false) = ptsI x.val := by decide +kernel
theorem up_one : ∀ n : Fin 9, ∀ x : Fin 256, x.val < 2 ^ n.val → (upI n.val).filter (fun p => hasB x.val p != true) = ptsI (2 ^ n.val - 1 - ((x.val : Nat) : Int)) := by decide +kernel
theorem onL_dn {n x : Int} (h : setB n x = true) : onL false x n.toNat = (ptsI x).map fun p => lessI x p := by
  obtain ⟨n1, n8, x0, x1⟩ := setB_yes h
  obtain ⟨_, x2⟩ := setB_lt h
  have e : ((x.toNat : Nat) : Int) = x := Int.toNat_of_nonneg x0
  have hd := dn_one ⟨n.toNat, by omega⟩ ⟨x.toNat, by omega⟩ (by
    have : ((x.toNat : Nat) : Int) < ((2 ^ n.toNat : Nat) : Int) := by rw [e]; simpa using x1
    simpa using Int.ofNat_lt.1 this)
  simp only [e] at hd
  unfold onL
  rw [hd]
  rfl
theorem onL_up {n x : Int} (h : setB n x = true) : onL true x n.toNat = (ptsI (otherI n x)).map fun p => withI x p := by
  obtain ⟨n1, n8, x0, x1⟩ := setB_yes h
  obtain ⟨_, x2⟩ := setB_lt h
  have e : ((x.toNat : Nat) : Int) = x := Int.toNat_of_nonneg x0
  have hd := up_one ⟨n.toNat, by omega⟩ ⟨x.toNat, by omega⟩ (by
    have : ((x.toNat : Nat) : Int) < ((2 ^ n.toNat : Nat) : Int) := by rw [e]; simpa using x1
    simpa using Int.ofNat_lt.1 this)
  simp only [e] at hd
  unfold onL otherI
  rw [hd]
  rfl
theorem spL_dn {n : Int} {xs : List Int} (h : ∀ x ∈ xs, setB n x = true) : spL false n xs = dnL xs := by
  induction xs with
  | nil => rfl
  | cons x xs ih =>
    have := ih (fun y hy => h y (List.mem_cons_of_mem _ hy))
    unfold spL dnL at this ⊢
    rw [List.flatMap_cons, List.flatMap_cons, this, onL_dn (h x (List.mem_cons_self ..))]
theorem spL_up {n : Int} {xs : List Int} (h : ∀ x ∈ xs, setB n x = true) : spL true n xs = upL n xs := by
  induction xs with
  | nil => rfl
  | cons x xs ih =>
    have := ih (fun y hy => h y (List.mem_cons_of_mem _ hy))
    unfold spL upL at this ⊢
    rw [List.flatMap_cons, List.flatMap_cons, this, onL_up (h x (List.mem_cons_self ..))]

end
section
/- Shadows: the model, its walk. -/
open Go.ChangeShapes Go.WideShapes Go.ChangeAt Go.RowKit Go.Proofs

set_option maxRecDepth 100000 in
set_option maxHeartbeats 4000000 in
theorem l3_at (u : Bool) (n : Int) (lv : Value) (xs : List Int) (S : Nat) (w : World) (hx : Row w S lv xs) (hS : S ≤ w.heap.size) (hl : xs.length ≤ 100000) (n1 : 1 ≤ n) (n2 : n ≤ 8) (hall : ∀ x ∈ xs, setB n x = true) :
    Calls Tryd.prog 16 #[.int .i64 n, lv, .bool u] w (IntsPost (sortL (spL u n xs)) w) := by
  obtain ⟨a, cap, rfl, ha⟩ := id hx
  have hset : ∀ x, setB n x = true → ∃ t : Nat, x = t ∧ t < 2 ^ n.toNat := fun x h => set_nat h
  obtain ⟨p1, p2, p3⟩ := pow_nat n1 n2
  have hmks := mkL_sort (spL_all (u := u) hall)
  obtain ⟨N, hN⟩ : ∃ N : Nat, 2 ^ n.toNat = N := ⟨_, rfl⟩
  have hNi : (2 : Int) ^ n.toNat = (N : Nat) := by rw [← hN]; simp
  rw [hN] at p1 p2 p3 hset hmks
  have hmk := fun W => run_make_row' (P := Tryd.prog) 65 4 (.bool false) 1 Tryd.underlying65 Tryd.boolInfo rfl .i64 .i64 N (by omega) (by omega) W
  replace hN := Lib.hid hN
  replace hNi := Lib.hid hNi
  replace hset := Lib.hid hset
  replace hmks := Lib.hid hmks
  replace hx := Lib.hid hx
  replace ha := Lib.hid ha
  replace hall := Lib.hid hall
  have hn0 : (0 : Int) ≤ n := by omega
  have hn64 : n < 64 := by omega
  go_enter Tryd.func16, Tryd.ntmps16
  go_wp2_with fail
  replace p3 := Lib.hid p3
  replace hmk := Lib.hid hmk
  go_loopw [8] (fun s wr => ∃ k : Nat, k ≤ xs.length ∧ s = .int .i64 k ∧ Hid (Below w.heap.size w wr) ∧ Hid (MarkRow wr w.heap.size N (fun j => memB (j : Nat) (spL u n (xs.take k))))) (fun s _ => xs.length - (intOf s).toNat)
  case atStart =>
    refine ⟨0, by omega, rfl, Lib.hid ((Below.refl _ _).alloc (Nat.le_refl _) _), Lib.hid ?_⟩
    exact (World.rowIs_made w (.bool false) N 4).congr (fun i _ => by simp [memB, spL])
  case round =>
    obtain ⟨k, hk, rfl, hbel, hrow⟩ := hrel
    by_cases hlt : k < xs.length
    · obtain ⟨b1, o1, rfl, s1, c1⟩ := ha.out (by omega)
      have k1 : (0 : Int) ≤ (k : Int) := by omega
      have k2 : (k : Int) < (xs.length : Nat) := by omega
      obtain ⟨x, hx0⟩ : ∃ x, xs.getD k 0 = x := ⟨_, rfl⟩
      have hmx := Lib.hid (show x ∈ xs by rw [← hx0]; exact getD_mem hlt)
      have hps := Lib.hid (spL_step (u := u) (n := n) hlt hx0)
      replace hx0 := Lib.hid hx0
      replace c1 := Lib.hid c1
      go_wp2_with fail
      go_loopw [9] (fun s wq => ∃ j : Nat, (j : Int) ≤ n ∧ s = .int .i64 j ∧ Hid (Below w.heap.size w wq) ∧ Hid (MarkRow wq w.heap.size N (fun j' => memB (j' : Nat) (spL u n (xs.take k) ++ onL u x j)))) (fun s _ => (n - intOf s).toNat)
      case atStart => exact ⟨0, by omega, rfl, hbel, Lib.hid (by rw [show onL u x 0 = [] from rfl, List.append_nil]; exact hrow.out)⟩
      case round =>
        obtain ⟨j, hj, rfl, hbel2, hrow2⟩ := hrel
        have e1 : wr.cell? ⟨b1, o1 + k, none⟩ = some (.int .i64 (xs.getD k 0)) := (hbel2.out.cell (p := ⟨b1, o1 + k, none⟩) (show b1 < w.heap.size by omega)).trans (c1.out k hlt)
        rw [hx0.out] at e1
        have hsx := hall.out x hmx.out
        obtain ⟨x1, x2⟩ := setB_lt hsx
        by_cases hlj : (j : Int) < n
        · have j0 : (0 : Int) ≤ (j : Int) := by omega
          have j7 : (j : Int) ≤ 7 := by omega
          have hh := Lib.hid (fun W => l1has x (j : Int) x1 x2 j0 j7 W)
          obtain ⟨bh, hbh⟩ : ∃ bh, hasB x (j : Int) = bh := ⟨_, rfl⟩
          rw [hbh] at hh
          have hsu := onL_succ u x j
          rw [hbh] at hsu
          rcases (by cases (bh != u) <;> simp : (bh != u) = true ∨ (bh != u) = false) with hq | hq
          · have hq2 : (!(bh == u)) = true := by cases bh <;> cases u <;> simp_all
            rw [if_pos hq] at hsu
            obtain ⟨t, hte, ht⟩ := hset.out _ (pick_set (u := u) hsx j0 hlj)
            have ho := xor_pick (u := u) x1 x2 j0 j7 (by rw [hbh]; exact hq)
            rw [hte] at ho hsu
            rw [Int.toNat_natCast] at ho
            have t1 : (0 : Int) ≤ (t : Int) := by omega
            have t2 : (t : Int) < (N : Nat) := by omega
            have e3 := World.rowIs.cell hrow2.out ht
            have e4 := World.rowIs.frozen hrow2.out t
            have hrow' := Lib.hid (MarkRow.put (w := wr.drew) hrow2.out (p' := fun j' => memB (j' : Nat) (spL u n (xs.take k) ++ onL u x (j + 1))) t (fun j' hj' => by
              rw [hsu, ← List.append_assoc, mem_snoc]
              by_cases e : j' = t
              · subst e; simp
              · rw [if_neg e, if_neg (by omega)]))
            have hbel' := Lib.hid (below_setCell hbel2.out.drew (p := ⟨w.heap.size, t, none⟩) (Nat.le_refl _) (.bool true))
            replace hte := Lib.hid hte
            replace hsu := Lib.hid hsu
            replace hbh := Lib.hid hbh
            replace hsx := Lib.hid hsx
            have j64 : (j : Int) < 64 := by omega
            clear hrow2 hbel2
            go_wp2_with (go_at_call 34; refine (hh.out _).mono ?_; rintro e w' ⟨rfl, rfl⟩)
            go_region
            all_goals
              go_wp2_with fail
              go_roundw
              case rel => exact ⟨j + 1, by omega, by go_num, hbel', hrow'⟩
              case measure => simp [intOf]; omega
          · have hq2 : (!(bh == u)) = false := by cases bh <;> cases u <;> simp_all
            rw [if_neg (by simp [hq]), List.append_nil] at hsu
            have hr2 := hrow2.out
            rw [← hsu] at hr2
            replace hr2 := Lib.hid hr2
            replace hsu := Lib.hid hsu
            replace hbh := Lib.hid hbh
            replace hsx := Lib.hid hsx
            clear hrow2
            go_wp2_with (go_at_call 34; refine (hh.out _).mono ?_; rintro e w' ⟨rfl, rfl⟩)
            go_roundw
            case rel => exact ⟨j + 1, by omega, by go_num, hbel2, hr2⟩
            case measure => simp [intOf]; omega
        · have hjn : j = n.toNat := by omega
          have hr2 := hrow2.out
          rw [hjn, ← hps.out] at hr2
          replace hr2 := Lib.hid hr2
          clear hrow2
          replace hjn := Lib.hid hjn
          replace hsx := Lib.hid hsx
          go_wp2_with fail
          go_roundw
          case rel => exact ⟨k + 1, by omega, by go_num, hbel2, hr2⟩
          case measure => simp [intOf]; omega
    · obtain rfl : k = xs.length := by omega
      have hr2 := hrow.out
      rw [List.take_length] at hr2
      have hli := list_at w.heap.size N _ wr hr2 p1
      rw [hmks.out] at hli
      replace hli := Lib.hid hli
      have hz := hbel.out.size
      clear hrow hr2
      go_wp2_with fail
      refine hli.out.mono ?_
      rintro e w3 ⟨v, rfl, hO, hb3⟩
      obtain ⟨a', c', rfl⟩ := hO.form
      replace hb3 := Lib.hid (hbel.out.trans (hb3.mono hz))
      replace hO := Lib.hid (hO.mono hz)
      go_wp2_with fail
      go_ret
      exact ⟨_, rfl, hO.out, hb3.out⟩

end
section
/- Shadows: the model's functions. -/
open Go.ChangeShapes Go.WideShapes Go.ChangeAt Go.RowKit Go.Proofs

set_option maxHeartbeats 2000000 in
theorem sp_ShadowOf (n : Int) (lv : Value) (xs : List Int) (S : Nat) (w : World) (hx : Row w S lv xs) (hS : S ≤ w.heap.size) (hl : xs.length ≤ 100000000) :
    Calls Tryd.prog 6 #[.int .i64 n, lv] w (ListPost (ifL (famB n xs) (sortL (dnL xs))) (famB n xs) w) := by
  have h1 := sp_FamilyIn n lv xs S w hx (by omega)
  obtain ⟨a, cap, rfl, _⟩ := id hx
  rcases (by cases famB n xs <;> simp : famB n xs = true ∨ famB n xs = false) with f1 | f1
  · rw [f1] at h1 ⊢
    obtain ⟨n1, n2, hset⟩ := famB_all f1
    have l1 := famB_len f1
    have htr := Lib.hid (fun q => l3_at false n _ xs S (w.drewN q) (hx.drewN q) hS (by omega) n1 n2 hset)
    rw [spL_dn hset] at htr
    replace h1 := Lib.hid h1
    replace f1 := Lib.hid f1
    replace hset := Lib.hid hset
    clear hx
    show Calls Tryd.prog 6 #[.int .i64 n, .slice a xs.length cap] w (ListPost (sortL (dnL xs)) true w)
    go_enter Tryd.func6, Tryd.ntmps6
    go_wp2_with fail
    refine h1.out.mono ?_
    rintro e w1 ⟨rfl, q, rfl⟩
    go_wp2_with fail
    refine (htr.out q).mono ?_
    rintro e w3 ⟨v, rfl, hO, hb3⟩
    obtain ⟨a', c', rfl⟩ := hO.form
    replace hb3 := Lib.hid ((below_drewN (Below.refl w.heap.size w) q).trans hb3)
    replace hO := Lib.hid (own_lift hO)
    go_wp2_with fail
    go_ret2
    exact ⟨_, rfl, hO.out, hb3.out⟩
  · rw [f1] at h1 ⊢
    replace h1 := Lib.hid h1
    replace f1 := Lib.hid f1
    clear hx
    go_enter Tryd.func6, Tryd.ntmps6
    go_wp2_with fail
    refine h1.out.mono ?_
    rintro e w1 ⟨rfl, q, rfl⟩
    go_wp2_with fail
    go_ret2
    exact ⟨_, rfl, own_empty0 _ _ _ _ _, ((below_drewN (Below.refl _ w) q).alloc (Nat.le_refl _) _)⟩
theorem dnL_set {n : Int} {xs : List Int} (h : ∀ x ∈ xs, setB n x = true) : ∀ z ∈ dnL xs, setB n z = true := by
  intro z hz
  obtain ⟨x, hx, hz⟩ := List.mem_flatMap.1 hz
  obtain ⟨p, hp, rfl⟩ := List.mem_map.1 hz
  obtain ⟨x1, x2⟩ := setB_lt (h x hx)
  obtain ⟨p1, p2, _⟩ := mem_pts x1 x2 hp
  exact less_set (h x hx) p1 p2
theorem itL_set {n : Int} {xs : List Int} (h : ∀ x ∈ xs, setB n x = true) : ∀ k, ∀ z ∈ itL xs k, setB n z = true
  | 0 => h
  | k + 1 => fun z hz => dnL_set (itL_set h k) z (mem_sortL.1 hz)
end
end Go.Proofs.YtpjapoaagbdlfaaDoor
