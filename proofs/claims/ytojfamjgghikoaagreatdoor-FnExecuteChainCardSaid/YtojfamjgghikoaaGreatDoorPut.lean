/- A family in a variable: a set is looked up and put in. -/
import Derived.Test.YtojfamjgghikoaaGreatDoorIns
namespace Go.Proofs.YtojfamjgghikoaaGreatDoor
open Go.ChangeShapes Go.WideShapes Go.ChangeAt Go.RowKit Go.Lib Go.Proofs

/-- the cells of a list of sets. -/
def sv (xs : List Int) : List Value := xs.map (Value.int .u64)
theorem sv_get {xs : List Int} {j : Nat} {u : Value} (h : (sv xs)[j]? = some u) : j < xs.length ∧ u = .int .u64 (xs.getD j 0) := by
  unfold sv at h
  rw [List.getElem?_map] at h
  cases hx : xs[j]? with
  | none => rw [hx] at h; cases h
  | some x =>
    rw [hx] at h
    have hj := (List.getElem?_eq_some_iff.1 hx).1
    refine ⟨hj, ?_⟩
    rw [List.getD_eq_getElem?_getD, hx]
    simp at h
    exact h.symm
theorem sv_at {xs : List Int} {j : Nat} (h : j < xs.length) : (sv xs)[j]? = some (.int .u64 (xs.getD j 0)) := by
  unfold sv; rw [List.getElem?_map, List.getD_eq_getElem?_getD, List.getElem?_eq_getElem h]; rfl
theorem sv_len (xs : List Int) : (sv xs).length = xs.length := by simp [sv]
theorem sv_one (xs : List Int) : ∀ v ∈ sv xs, v.oneCell' = true := by
  intro v hv
  obtain ⟨x, _, rfl⟩ := List.mem_map.1 hv
  rfl
/-- v is the call's own list xs of sets, from block B on. -/
def SetL (w : World) (B : Nat) (v : Value) (xs : List Int) : Prop := w.ownsRow B 72 1 v xs.length (sv xs)
theorem SetL.nil (w : World) (B : Nat) : SetL w B (.slice none 0 0) [] := World.ownsRow_nil w B _ 1
theorem SetL.mk {w : World} {B g cap : Nat} {cur : Array Value} {xs : List Int} (hB : B ≤ g) (hg : w.heap[g]? = some (.cells cur 72 (0, 0))) (hn : xs.length ≤ cap) (hm : cap ≤ maxLen) (hs : cur.size = cap)
    (hc : ∀ j, j < xs.length → w.cell? ⟨g, j, none⟩ = some (.int .u64 (xs.getD j 0))) : SetL w B (.slice (some ⟨g, 0, none⟩) xs.length cap) xs := by
  refine ⟨by rw [sv_len, Nat.mul_one], .inr ⟨g, cap, cur, rfl, hB, hg, hn, hm, by rw [hs, Nat.mul_one], ?_⟩⟩
  rw [Nat.mul_one]
  apply List.ext_getElem?
  intro j
  by_cases hj : j < xs.length
  · rw [sv_at hj, ← hc j hj, cell_of_row w g j cur 72 (0, 0) hg, List.getElem?_take, if_pos hj]; simp
  · rw [List.getElem?_eq_none (by rw [List.length_take]; omega), List.getElem?_eq_none (by rw [sv_len]; omega)]
theorem SetL.out {w : World} {B : Nat} {v : Value} {xs : List Int} (h : SetL w B v xs) : (v = .slice none 0 0 ∧ xs = []) ∨
    ∃ g cap cur, v = .slice (some ⟨g, 0, none⟩) xs.length cap ∧ B ≤ g ∧ w.heap[g]? = some (.cells cur 72 (0, 0)) ∧ xs.length ≤ cap ∧ cap ≤ maxLen ∧ cur.size = cap ∧ ∀ j, j < xs.length → w.cell? ⟨g, j, none⟩ = some (.int .u64 (xs.getD j 0)) := by
  have hce := @World.ownsRow.cells _ _ _ _ _ _ _ h
  rcases h.2 with ⟨rfl, hn⟩ | ⟨g, cap, cur, rfl, hB, hg, hn, hm, hs, ht⟩
  · exact .inl ⟨rfl, List.length_eq_zero_iff.1 hn⟩
  · refine .inr ⟨g, cap, cur, rfl, hB, hg, hn, hm, by rw [hs, Nat.mul_one], fun j hj => ?_⟩
    have := hce (g := g) rfl j _ (sv_at hj)
    have hadd : (⟨g, 0, none⟩ : Addr).add j = ⟨g, j, none⟩ := by unfold Addr.add; split <;> simp_all
    rw [hadd] at this
    exact this
theorem SetL.form {w : World} {B : Nat} {v : Value} {xs : List Int} (h : SetL w B v xs) : ∃ a cap, v = .slice a xs.length cap := by
  rcases h.out with ⟨rfl, rfl⟩ | ⟨g, cap, cur, rfl, _⟩
  · exact ⟨none, 0, rfl⟩
  · exact ⟨_, cap, rfl⟩
theorem SetL.row {w : World} {B : Nat} {v : Value} {xs : List Int} (h : SetL w B v xs) : SRow w w.heap.size v xs := by
  rcases h.out with ⟨rfl, rfl⟩ | ⟨g, cap, cur, rfl, hB, hg, hn, hm, hs, hc⟩
  · exact SRow.nil w _
  · exact ⟨_, cap, rfl, fun hp => ⟨g, 0, rfl, (Array.getElem?_eq_some_iff.1 hg).1, fun i hi => by rw [Nat.zero_add]; exact hc i hi⟩⟩
theorem SetL.below {w w' : World} {B C : Nat} {v : Value} {xs : List Int} (h : SetL w B v xs) (hb : Below C w w') (hC : w.heap.size ≤ C) : SetL w' B v xs := by
  refine ⟨h.1, ?_⟩
  rcases h.2 with hn | ⟨g, cap, cur, rfl, hB, hg, rest⟩
  · exact .inl hn
  · refine .inr ⟨g, cap, cur, rfl, hB, ?_, rest⟩
    rw [hb.block g (by have := (Array.getElem?_eq_some_iff.1 hg).1; omega)]
    exact hg
theorem SetL.alloc {w : World} {B : Nat} {v : Value} {xs : List Int} (h : SetL w B v xs) (o : Obj) : SetL (w.alloc o) B v xs := World.ownsRow.alloc h o
theorem SetL.drewN {w : World} {B : Nat} {v : Value} {xs : List Int} (h : SetL w B v xs) (n : Nat) : SetL (w.drewN n) B v xs := h
theorem SetL.lt {w : World} {B : Nat} {v : Value} {xs : List Int} (h : SetL w B v xs) : ∀ g, v.ownBlock = some g → B ≤ g ∧ g < w.heap.size := World.ownsRow.lt h
/-- a store into another block leaves the list. -/
theorem SetL.store {w : World} {B : Nat} {v : Value} {xs : List Int} (h : SetL w B v xs) (p : Addr) (u : Value) (hp : v.ownBlock ≠ some p.block) : SetL (w.setCell p u) B v xs := by
  refine ⟨h.1, ?_⟩
  rcases h.2 with hn | ⟨g, cap, cur, rfl, hB, hg, rest⟩
  · exact .inl hn
  · refine .inr ⟨g, cap, cur, rfl, hB, ?_, rest⟩
    rw [Below.heap_setCell _ _ _ _ (by intro e; exact hp (by simp [Value.ownBlock, e]))]
    exact hg
theorem SetL.mono {w : World} {B B' : Nat} {v : Value} {xs : List Int} (h : SetL w B v xs) (hB : B' ≤ B) : SetL w B' v xs := by
  refine ⟨h.1, ?_⟩
  rcases h.2 with hn | ⟨g, cap, cur, rfl, hb, rest⟩
  · exact .inl hn
  · exact .inr ⟨g, cap, cur, rfl, by omega, rest⟩

theorem heap_setCells_same (g : Nat) (t : TypeId) : ∀ (vs : List Value) (o : Nat) (w : World) (cur : Array Value), w.heap[g]? = some (.cells cur t (0, 0)) → ∃ cur', (w.setCells g o vs).heap[g]? = some (.cells cur' t (0, 0)) ∧ cur'.size = cur.size
  | [], _, _, cur, h => ⟨cur, h, rfl⟩
  | v :: vs, o, w, cur, h => by
    obtain ⟨cur', h1, h2⟩ := heap_setCells_same g t vs (o + 1) (w.setCell ⟨g, o, none⟩ v) (cur.setIfInBounds o v) (heap_setCell_same w g o cur t v h)
    exact ⟨cur', h1, by rw [h2]; simp⟩
theorem below_setCells {B g : Nat} {a : World} (hB : B ≤ g) : ∀ (vs : List Value) (o : Nat) (w : World), Below B a w → Below B a (w.setCells g o vs)
  | [], _, _, h => h
  | v :: vs, o, _, h => below_setCells hB vs (o + 1) _ (h.setCell (p := ⟨g, o, none⟩) hB v)
theorem shape_of {w : World} {g : Nat} {cur : Array Value} {t : TypeId} {fz : Nat × Nat} (h : w.heap[g]? = some (.cells cur t fz)) : w.shape? g = some (t, cur.size) := by simp [World.shape?, h]
theorem frozen_of {w : World} {g : Nat} {cur : Array Value} {t : TypeId} (h : w.heap[g]? = some (.cells cur t (0, 0))) (o : Nat) : w.frozen? ⟨g, o, none⟩ = false := by simp [World.frozen?, h]

/-- xs with x at the place i. -/
def putAt (i : Nat) (x : Int) (xs : List Int) : List Int := xs.take i ++ x :: xs.drop i
theorem putAt_len {i : Nat} {x : Int} {xs : List Int} (h : i ≤ xs.length) : (putAt i x xs).length = xs.length + 1 := by
  unfold putAt; simp [List.length_take, List.length_drop]; omega
theorem putAt_lo {i j : Nat} {x : Int} {xs : List Int} (h : j < i) (hi : i ≤ xs.length) : (putAt i x xs).getD j 0 = xs.getD j 0 := by
  unfold putAt
  rw [List.getD_eq_getElem?_getD, List.getElem?_append_left (by rw [List.length_take]; omega), List.getElem?_take, if_pos h, List.getD_eq_getElem?_getD]
theorem putAt_mid {i : Nat} {x : Int} {xs : List Int} (hi : i ≤ xs.length) : (putAt i x xs).getD i 0 = x := by
  unfold putAt
  rw [List.getD_eq_getElem?_getD, List.getElem?_append_right (by rw [List.length_take]; omega), List.length_take, Nat.min_eq_left hi, Nat.sub_self]; rfl
theorem putAt_hi {i j : Nat} {x : Int} {xs : List Int} (h : i < j) (hi : i ≤ xs.length) : (putAt i x xs).getD j 0 = xs.getD (j - 1) 0 := by
  unfold putAt
  rw [List.getD_eq_getElem?_getD, List.getElem?_append_right (by rw [List.length_take]; omega), List.length_take, Nat.min_eq_left hi, List.getD_eq_getElem?_getD]
  obtain ⟨d, rfl⟩ : ∃ d, j = i + d + 1 := ⟨j - i - 1, by omega⟩
  rw [show i + d + 1 - i = d + 1 by omega, List.getElem?_cons_succ, List.getElem?_drop, show i + d + 1 - 1 = i + d by omega]

/-- what slices.Insert leaves. -/
def InsPost (B : Nat) (v : Value) (w : World) (ys : List Int) (e : Ending) (w' : World) : Prop := ∃ v', e = .returned v' ∧ SetL w' B v' ys ∧ w.grownBy w' v.ownBlock
theorem cells_putAt {w : World} {g i : Nat} {x : Int} {xs : List Int} (hi : i ≤ xs.length) (vs1 vs2 : List Value) (h1 : vs1 = sv (xs.drop i)) (h2 : vs2 = sv [x]) (hsome : ∀ j, j < xs.length + 1 → (w.cell? ⟨g, j, none⟩).isSome = true)
    (hlo : ∀ j, j < i → w.cell? ⟨g, j, none⟩ = some (.int .u64 (xs.getD j 0))) : ∀ j, j < xs.length + 1 → ((w.setCells g (i + 1) vs1).setCells g i vs2).cell? ⟨g, j, none⟩ = some (.int .u64 ((putAt i x xs).getD j 0)) := by
  subst h1 h2
  intro j hj
  have hd : (sv (xs.drop i)).length = xs.length - i := by rw [sv_len, List.length_drop]
  have hs1 : ∀ t, t < (sv (xs.drop i)).length → (w.cell? ⟨g, i + 1 + t, none⟩).isSome = true := fun t ht => hsome _ (by omega)
  rcases Nat.lt_trichotomy j i with h | h | h
  · rw [putAt_lo h hi, World.cell?_setCells_out _ _ _ _ _ (fun _ _ => .inl h), World.cell?_setCells_out _ _ _ _ _ (fun _ _ => .inl (by show j < i + 1; omega))]
    exact hlo j h
  · subst h
    rw [putAt_mid hi]
    have := World.cell?_setCells_in g (sv [x]) j (w.setCells g (j + 1) (sv (xs.drop j))) (fun t ht => by
      have ht : t = 0 := by simp [sv] at ht; exact ht
      subst ht
      rw [Nat.add_zero]
      exact isSome_setCells g _ _ _ hs1 _ (hsome _ (by omega))) 0 (by simp [sv])
    have e : (⟨g, j + 0, none⟩ : Addr) = ⟨g, j, none⟩ := rfl
    rw [e] at this
    rw [this]; rfl
  · rw [putAt_hi h hi, World.cell?_setCells_out _ _ _ _ _ (fun _ _ => .inr (by show i + (sv [x]).length ≤ j; simp [sv]; omega))]
    have := World.cell?_setCells_in g (sv (xs.drop i)) (i + 1) w hs1 (j - (i + 1)) (by omega)
    rw [show i + 1 + (j - (i + 1)) = j by omega] at this
    rw [this]
    have e := sv_at (xs := xs.drop i) (j := j - (i + 1)) (by rw [List.length_drop]; omega)
    rw [List.getElem?_eq_getElem (by omega)] at e
    rw [e, List.getD_eq_getElem?_getD, List.getElem?_drop, List.getD_eq_getElem?_getD, show i + (j - (i + 1)) = j - 1 by omega]
theorem cells_putAt2 {w : World} {g i : Nat} {x : Int} {xs : List Int} (hi : i ≤ xs.length) (hsome : ∀ j, j < xs.length + 1 → (w.cell? ⟨g, j, none⟩).isSome = true)
    (hlo : ∀ j, j < i → w.cell? ⟨g, j, none⟩ = some (.int .u64 (xs.getD j 0))) : ∀ j, j < xs.length + 1 → ((w.setCells g i (sv [x])).setCells g (i + 1) (sv (xs.drop i))).cell? ⟨g, j, none⟩ = some (.int .u64 ((putAt i x xs).getD j 0)) := by
  intro j hj
  have hd : (sv (xs.drop i)).length = xs.length - i := by rw [sv_len, List.length_drop]
  have hs0 : ∀ t, t < (sv [x]).length → (w.cell? ⟨g, i + t, none⟩).isSome = true := fun t ht => hsome _ (by simp [sv] at ht; omega)
  have hs1 : ∀ t, t < (sv (xs.drop i)).length → ((w.setCells g i (sv [x])).cell? ⟨g, i + 1 + t, none⟩).isSome = true := fun t ht => isSome_setCells g _ _ _ hs0 _ (hsome _ (by omega))
  rcases Nat.lt_trichotomy j i with h | h | h
  · rw [putAt_lo h hi, World.cell?_setCells_out _ _ _ _ _ (fun _ _ => .inl (by show j < i + 1; omega)), World.cell?_setCells_out _ _ _ _ _ (fun _ _ => .inl h)]
    exact hlo j h
  · subst h
    rw [putAt_mid hi, World.cell?_setCells_out _ _ _ _ _ (fun _ _ => .inl (by show j < j + 1; omega))]
    have := World.cell?_setCells_in g (sv [x]) j w hs0 0 (by simp [sv])
    have e : (⟨g, j + 0, none⟩ : Addr) = ⟨g, j, none⟩ := rfl
    rw [e] at this
    rw [this]; rfl
  · rw [putAt_hi h hi]
    have := World.cell?_setCells_in g (sv (xs.drop i)) (i + 1) _ hs1 (j - (i + 1)) (by omega)
    rw [show i + 1 + (j - (i + 1)) = j by omega] at this
    rw [this]
    have e := sv_at (xs := xs.drop i) (j := j - (i + 1)) (by rw [List.length_drop]; omega)
    rw [List.getElem?_eq_getElem (by omega)] at e
    rw [e, List.getD_eq_getElem?_getD, List.getElem?_drop, List.getD_eq_getElem?_getD, show i + (j - (i + 1)) = j - 1 by omega]
theorem grown_setCells {a : World} {r : Option Nat} {g : Nat} (hg : r = some g ∨ a.heap.size ≤ g) : ∀ (vs : List Value) (o : Nat) (w : World), a.grownBy w r → a.grownBy (w.setCells g o vs) r
  | [], _, _, h => h
  | v :: vs, o, w, h => grown_setCells hg vs (o + 1) _ ⟨h.os, h.tape, h.output, by simpa [World.setCell] using h.size, fun k hk hne => by
    rw [Below.heap_setCell _ _ _ _ (show k ≠ g by rcases hg with hg | hg; (intro e; exact hne (by rw [hg, e])); omega)]
    exact h.block k hk hne⟩
theorem grown_refl (w : World) (r : Option Nat) : w.grownBy w r := ⟨rfl, rfl, rfl, Nat.le_refl _, fun _ _ _ => rfl⟩
theorem grown_drew {a w : World} {r : Option Nat} (h : a.grownBy w r) : a.grownBy w.drew r := ⟨h.os, h.tape, h.output, h.size, h.block⟩
theorem sv_append (xs ys : List Int) : sv (xs ++ ys) = sv xs ++ sv ys := by simp [sv]
theorem own_snoc {w : World} {B n : Nat} {v : Value} {xs : List Int} {x : Int} (hn : xs.length = n) (h : w.ownsRow B 72 1 v (n + 1) (sv xs ++ [.int .u64 x])) : SetL w B v (xs ++ [x]) := by
  subst hn
  unfold SetL
  rw [sv_append, List.length_append]
  exact h
theorem one_cell {w : World} {vb : Nat} {x : Int} (hv : w.cell? ⟨vb, 0, none⟩ = some (.int .u64 x)) : ∀ j u, ([.int .u64 x] : List Value)[j]? = some u → w.cell? ((⟨vb, 0, none⟩ : Addr).add j) = some u := by
  intro j u hu
  cases j with
  | zero => simp at hu; subst hu; simpa [Addr.add] using hv
  | succ j => simp at hu
set_option maxHeartbeats 1000000 in
theorem ins_end0 (B vb : Nat) (x : Int) (w : World) (hB : B ≤ w.heap.size) (hv : w.cell? ⟨vb, 0, none⟩ = some (.int .u64 x)) :
    Calls Tryz.prog 190 #[.slice none 0 0, .int .i64 0, .slice (some ⟨vb, 0, none⟩) 1 1] w (InsPost B (.slice none 0 0) w [x]) := by
  obtain ⟨i0, hi0, hz0, hz1, hz2⟩ := info_parts Tryz.setInfo
  have hS := Lib.hid (SetL.nil w B)
  have hone := Lib.hid (one_cell hv)
  clear hv
  go_enter Tryz.func190, Tryz.ntmps190
  go_wp2_with (at_builtin; refine wpList_append_own _ rfl _ _ 61 rfl B 72 i0 (.int .u64 0) 1 8 Tryz.underlying61 hi0 hz0 hz1 hz2 rfl (by decide) _ 0 [] rfl hS.out ⟨vb, 0, none⟩ 1 1 [.int .u64 x] rfl rfl hone.out (by simp [Value.oneCell']) (by unfold maxLen; omega) (by omega) hB ?_; intro v' w' hown hg _)
  go_ret
  exact ⟨_, rfl, own_snoc (xs := []) rfl hown, hg⟩
set_option maxRecDepth 100000 in
set_option maxHeartbeats 1000000 in
theorem ins_end1 (g cap : Nat) (xs : List Int) (B vb : Nat) (x : Int) (w : World) (hS : SetL w B (.slice (some ⟨g, 0, none⟩) xs.length cap) xs) (hl : xs.length ≤ 100000) (_hcap : xs.length ≤ cap) (_hcm : cap ≤ 9223372036854775807) (hB : B ≤ w.heap.size) (hv : w.cell? ⟨vb, 0, none⟩ = some (.int .u64 x)) :
    Calls Tryz.prog 190 #[.slice (some ⟨g, 0, none⟩) xs.length cap, .int .i64 (xs.length : Nat), .slice (some ⟨vb, 0, none⟩) 1 1] w (InsPost B (.slice (some ⟨g, 0, none⟩) xs.length cap) w (xs ++ [x])) := by
  obtain ⟨i0, hi0, hz0, hz1, hz2⟩ := info_parts Tryz.setInfo
  replace hS := Lib.hid hS
  have hone := Lib.hid (one_cell hv)
  obtain ⟨n, hn⟩ : ∃ n, xs.length = n := ⟨_, rfl⟩
  rw [hn] at hS hl _hcap ⊢
  replace hn := Lib.hid hn
  clear hv
  go_enter Tryz.func190, Tryz.ntmps190
  go_wp2_with (at_builtin; refine wpList_append_own _ rfl _ _ 61 rfl B 72 i0 (.int .u64 0) 1 8 Tryz.underlying61 hi0 hz0 hz1 hz2 rfl (by decide) _ n (sv xs) rfl (hn.out ▸ hS.out) ⟨vb, 0, none⟩ 1 1 [.int .u64 x] rfl rfl hone.out (by simp [Value.oneCell']) (by unfold maxLen; omega) (by omega) hB ?_; intro v' w' hown hg _)
  all_goals
    go_ret
    exact ⟨_, rfl, own_snoc hn.out hown, hg⟩
theorem ins_set (v : Value) (xs : List Int) (i B vb : Nat) (x : Int) (w : World) (hS : SetL w B v xs) (hi : i ≤ xs.length) (hl : xs.length ≤ 100000) (hB : B ≤ w.heap.size) (hv : w.heap[vb]? = some (.cells #[.int .u64 x] 72 (0, 0))) (hne : v.ownBlock ≠ some vb) :
    Calls Tryz.prog 190 #[v, .int .i64 (i : Nat), .slice (some ⟨vb, 0, none⟩) 1 1] w (InsPost B v w (putAt i x xs)) := by
  have hvc : w.cell? ⟨vb, 0, none⟩ = some (.int .u64 x) := by rw [cell_of_row w vb 0 _ 72 (0, 0) hv]; rfl
  have hvs : ∀ j v, (sv [x])[j]? = some v → w.cell? ⟨vb, 0 + j, none⟩ = some v := fun j u hj => by
    obtain ⟨h1, rfl⟩ := sv_get hj
    have : j = 0 := by simpa using h1
    subst this
    exact hvc
  rcases hS.out with ⟨rfl, rfl⟩ | ⟨g, cap, cur, rfl, hg, hh, hn, hm, hs, hc⟩
  · obtain rfl : i = 0 := by simpa using hi
    exact ins_end0 B vb x w hB hvc
  · have hcm : cap ≤ 9223372036854775807 := by unfold maxLen at hm; omega
    by_cases he : i = xs.length
    · subst he
      have e : putAt xs.length x xs = xs ++ [x] := by unfold putAt; rw [List.take_length, List.drop_length]
      rw [e]
      exact ins_end1 g cap xs B vb x w hS hl hn hcm hB hvc
    · have hcs : ∀ j v, (sv xs)[j]? = some v → w.cell? ⟨g, 0 + j, none⟩ = some v := fun j u hj => by
        obtain ⟨h1, rfl⟩ := sv_get hj
        rw [Nat.zero_add]; exact hc j h1
      have hvg : vb ≠ g := fun e => hne (by rw [e]; rfl)
      by_cases hroom : xs.length + 1 ≤ cap
      · have hsome : ∀ j, j < xs.length + 1 → (w.cell? ⟨g, j, none⟩).isSome = true := fun j hj => by
          rw [cell_of_row w g j cur 72 (0, 0) hh, Array.getElem?_eq_getElem (by omega)]; rfl
        refine (ins_shift g 0 xs.length cap i vb 0 1 1 (sv xs) (sv [x]) w (by omega) (by omega) hroom hcm hvg (sv_len xs) rfl hcs (fun j hj => by rw [Nat.zero_add]; exact hsome j hj) (fun j hj => frozen_of hh _) hvs (sv_one xs) (sv_one [x]) 72 72 1 cap (shape_of hv) (by rw [shape_of hh, hs]) (by omega) (frozen_of hv _) (frozen_of hv _)).mono ?_
        rintro e w' ⟨rfl, rfl⟩
        rw [Nat.zero_add, Nat.zero_add]
        have hd : (sv xs).drop i = sv (xs.drop i) := by unfold sv; rw [List.map_drop]
        rw [hd]
        obtain ⟨c1, h1, z1⟩ := heap_setCells_same g 72 (sv (xs.drop i)) (i + 1) w.drew cur hh
        obtain ⟨c2, h2, z2⟩ := heap_setCells_same g 72 (sv [x]) i _ c1 h1
        have hcell := cells_putAt (w := w.drew) (g := g) (x := x) hi _ _ rfl rfl hsome (fun j hj => hc j (by omega))
        have hlen := putAt_len (x := x) hi
        refine ⟨_, rfl, ?_, ?_⟩
        · rw [← hlen]
          exact SetL.mk hg h2 (by omega) hm (by omega) (fun j hj => hcell j (by omega))
        · exact grown_setCells (.inl rfl) _ _ _ (grown_setCells (.inl rfl) _ _ _ (grown_drew (grown_refl w _)))
      · have hd : (sv xs).drop i = sv (xs.drop i) := by unfold sv; rw [List.map_drop]
        refine (ins_grow g 0 xs.length cap i vb 0 1 1 (sv xs) (sv [x]) w (by omega) (by omega) hn (by omega) (by omega) (sv_len xs) rfl hcs hvs (sv_one xs) (sv_one [x])).mono ?_
        rintro e w' ⟨rfl, rfl⟩
        rw [hd]
        have hG1 := grownCap_ge w (xs.length + 1) cap 72
        have hG2 := grownCap_le_maxLen w (xs.length + 1) cap 72 (by unfold maxLen; omega)
        have hlen := putAt_len (x := x) hi
        obtain ⟨G, hG⟩ : ∃ G, grownCap w (xs.length + 1) cap 72 = G := ⟨_, rfl⟩
        rw [hG] at hG1 hG2 ⊢
        obtain ⟨ROW, hR⟩ : ∃ ROW : Array Value, ((sv xs).take i).toArray ++ Builtin.zeroCells (Value.int .u64 0).cells (xs.length + 1 - i) ++ Builtin.zeroCells (Value.int .u64 0).cells (G - (xs.length + 1)) = ROW := ⟨_, rfl⟩
        have hRs : ROW.size = G := by
          rw [← hR]
          simp [Builtin.zeroCells, Value.cells, List.length_take, sv_len]
          omega
        have hRlo : ∀ j, j < i → ROW[j]? = some (.int .u64 (xs.getD j 0)) := fun j hj => by
          rw [← hR, Array.append_assoc, Array.getElem?_append_left (by simp [List.length_take, sv_len]; omega), List.getElem?_toArray, List.getElem?_take, if_pos hj]
          exact sv_at (by omega)
        rw [hR, drew_setCells]
        have hn0 : (w.alloc (.cells ROW 72)).drew.drew.heap[w.heap.size]? = some (.cells ROW 72 (0, 0)) := heap_alloc_new w _
        obtain ⟨c1, h1, z1⟩ := heap_setCells_same w.heap.size 72 (sv [x]) i (w.alloc (.cells ROW 72)).drew.drew ROW hn0
        obtain ⟨c2, h2, z2⟩ := heap_setCells_same w.heap.size 72 (sv (xs.drop i)) (i + 1) _ c1 h1
        have hcell := cells_putAt2 (w := (w.alloc (.cells ROW 72)).drew.drew) (g := w.heap.size) (x := x) hi (fun j hj => by
          rw [cell_of_row _ w.heap.size j ROW 72 (0, 0) hn0, Array.getElem?_eq_getElem (by omega)]; rfl) (fun j hj => by
          rw [cell_of_row _ w.heap.size j ROW 72 (0, 0) hn0]; exact hRlo j hj)
        refine ⟨_, rfl, ?_, ?_⟩
        · rw [← hlen]
          exact SetL.mk hB h2 (by omega) hG2 (by omega) (fun j hj => hcell j (by omega))
        · exact grown_setCells (.inr (Nat.le_refl _)) _ _ _ (grown_setCells (.inr (Nat.le_refl _)) _ _ _ (grown_drew (grown_drew (World.grownBy_alloc w _ _))))

/-- bx holds a family: the list xs, owned from block B on, and its comparison. -/
def FBox (w : World) (B bx : Nat) (xs : List Int) : Prop := B ≤ bx ∧ ∃ v, w.heap[bx]? = some (.cells #[v, (Value.func (.func 188) #[] #[])] 64 (0, 0)) ∧ SetL w B v xs
theorem FBox.lt {w : World} {B bx : Nat} {xs : List Int} (h : FBox w B bx xs) : bx < w.heap.size := by
  obtain ⟨_, v, hv, _⟩ := h
  exact (Array.getElem?_eq_some_iff.1 hv).1
theorem FBox.apart {w : World} {B bx : Nat} {v : Value} {xs : List Int} (hv : w.heap[bx]? = some (.cells #[v, (Value.func (.func 188) #[] #[])] 64 (0, 0))) (h : SetL w B v xs) : v.ownBlock ≠ some bx := by
  intro e
  rcases h.out with ⟨rfl, _⟩ | ⟨g, cap, cur, rfl, _, hg, _⟩
  · cases e
  · cases e
    rw [hv] at hg
    injection hg with hg
    injection hg with _ h2
    exact absurd h2 (by decide)
theorem FBox.below {w w' : World} {B C bx : Nat} {xs : List Int} (h : FBox w B bx xs) (hb : Below C w w') (hC : w.heap.size ≤ C) : FBox w' B bx xs := by
  have hlt := h.lt
  obtain ⟨h0, v, hv, hS⟩ := h
  exact ⟨h0, v, by rw [hb.block bx (by omega)]; exact hv, hS.below hb hC⟩
theorem FBox.drewN {w : World} {B bx : Nat} {xs : List Int} (h : FBox w B bx xs) (n : Nat) : FBox (w.drewN n) B bx xs := h

theorem place_any (lv : Value) (xs : List Int) (x : Int) (S : Nat) (w : World) (hx : SRow w S lv xs) (hA : Asc xs) (hl : xs.length ≤ 100000) (hS : S ≤ w.heap.size) :
    Calls Tryz.prog 189 #[.agg #[lv, (Value.func (.func 188) #[] #[])], .int .u64 x] w fun e w' => e = .returned (.tuple #[.int .i64 (plN x xs : Nat), .bool (memB x xs)]) ∧ w' = w.alloc (.cells #[lv, (Value.func (.func 188) #[] #[])] 64) := by
  have hx' := hx.below ((Below.refl w.heap.size w).alloc (Nat.le_refl _) (.cells #[lv, (Value.func (.func 188) #[] #[])] 64)) hS
  have hb := Lib.hid (bs_set lv xs x S _ hx' hA hl)
  obtain ⟨a, cap, rfl, _⟩ := id hx
  clear hx hx'
  go_enter Tryz.func189, Tryz.ntmps189
  go_wp2_with (go_at_call 244; refine hb.out.mono ?_; rintro e w' ⟨rfl, rfl⟩)
  go_ret2
  exact ⟨rfl, rfl⟩
theorem has_any (lv : Value) (xs : List Int) (x : Int) (S : Nat) (w : World) (hx : SRow w S lv xs) (hA : Asc xs) (hl : xs.length ≤ 100000) (hS : S ≤ w.heap.size) :
    Calls Tryz.prog 276 #[.agg #[lv, (Value.func (.func 188) #[] #[])], .int .u64 x] w fun e w' => e = .returned (.bool (memB x xs)) ∧ Below w.heap.size w w' := by
  have hx' := hx.below ((Below.refl w.heap.size w).alloc (Nat.le_refl _) (.cells #[lv, (Value.func (.func 188) #[] #[])] 64)) hS
  have hb := Lib.hid (place_any lv xs x S _ hx' hA hl (by simp; omega))
  obtain ⟨a, cap, rfl, _⟩ := id hx
  clear hx hx'
  go_enter Tryz.func276, Tryz.ntmps276
  go_wp2_with (go_at_call 189; refine hb.out.mono ?_; rintro e w' ⟨rfl, rfl⟩)
  go_ret
  exact ⟨rfl, ((Below.refl _ _).alloc (Nat.le_refl _) _).alloc (by simp) _⟩
end Go.Proofs.YtojfamjgghikoaaGreatDoor
