/- The longest chain from each set of a family. -/
import Derived.Test.YtgkbaenjniapiaaCl3
import Derived.Test.YtgkbaenjniapiaaFams13
namespace Go.Proofs.Ytgkbaenjniapiaa
open Go.ChangeShapes Go.WideShapes Go.ChangeAt Go.RowKit Go.Shelf
attribute [local go_sem] Oper.semAt_some

theorem Try.plinkInfo : (Try.prog.info? 69).map (fun i => (i.zero, i.size, i.bytes)) = some (some (.pointer none), 1, 8) := by kernel_rfl
/-- the chains that start at the sets of a list that comes from the last one to the first. -/
def ChOK (W : World) (ss : List Int) (n : Nat) (V : Nat → Value) (C : Nat → List Int) : Prop :=
  ∀ j, j < n → LinkV W (C j) (V j) ∧ (C j).length ≤ 1000 ∧ (∃ x T, C j = x :: T ∧ 0 ≤ x ∧ x < 256) ∧ (C j).headD 0 = ss.getD j 0 ∧ (C j).length = 1 + upM partB (ss.getD j 0) (ss.take j).reverse
theorem lgst_up {W : World} {ss : List Int} {n : Nat} {V : Nat → Value} {C : Nat → List Int} (h : ChOK W ss n V C) (hn : n ≤ ss.length) (s : Int) : ∀ j, j ≤ n → lgst s C j = upM partB s (ss.take j).reverse
  | 0, _ => rfl
  | j + 1, hj => by
    obtain ⟨_, _, _, h4, h5⟩ := h j (by omega)
    have ih := lgst_up h hn s j (by omega)
    rw [take_snoc (by omega), List.reverse_append, List.reverse_singleton, List.singleton_append]
    unfold lgst upM
    rw [ih, h4, h5]
theorem ChOK.kept {W W' : World} {ss : List Int} {n : Nat} {V : Nat → Value} {C : Nat → List Int} (h : ChOK W ss n V C) (hk : ∀ (b : Nat) (cs : Array Value), W.heap[b]? = some (.cells cs 95 (0, 0)) → W'.heap[b]? = some (.cells cs 95 (0, 0))) : ChOK W' ss n V C := fun j hj => by
  obtain ⟨h1, h2, h3, h4, h5⟩ := h j hj
  exact ⟨h1.kept hk, h2, h3, h4, h5⟩
/-- one chain more. -/
def setAt {α : Type} (f : Nat → α) (n : Nat) (y : α) : Nat → α := fun j => if j = n then y else f j
theorem ChOK.snoc {W : World} {ss : List Int} {V : Nat → Value} {C : Nat → List Int} (h : ChOK W ss ss.length V C) {x : Int} {L : List Int} {p : Value} (hp : LinkV W (x :: L) p) (x1 : 0 ≤ x) (x2 : x < 256) (hL : L.length = lgst x C ss.length) (hs : ss.length ≤ 900) :
    ChOK W (ss ++ [x]) (ss.length + 1) (setAt V ss.length p) (setAt C ss.length (x :: L)) := fun j hj => by
  have hu := lgst_up h (Nat.le_refl _) x ss.length (Nat.le_refl _)
  rw [List.take_length] at hu
  by_cases e : j = ss.length
  · subst e
    unfold setAt
    rw [if_pos rfl, if_pos rfl]
    have hul := upM_len partB ss.reverse x
    rw [List.length_reverse] at hul
    have hg : (ss ++ [x]).getD ss.length 0 = x := by rw [List.getD_eq_getElem?_getD, List.getElem?_append_right (Nat.le_refl _)]; simp
    refine ⟨hp, by rw [List.length_cons]; omega, ⟨x, L, rfl, x1, x2⟩, by rw [hg]; rfl, ?_⟩
    rw [hg, List.take_left' rfl, List.length_cons, hL, hu]
    omega
  · have hj2 : j < ss.length := by omega
    obtain ⟨h1, h2, h3, h4, h5⟩ := h j hj2
    unfold setAt
    rw [if_neg e, if_neg e]
    have hg : (ss ++ [x]).getD j 0 = ss.getD j 0 := by rw [List.getD_eq_getElem?_getD, List.getD_eq_getElem?_getD, List.getElem?_append_left hj2]
    rw [hg, List.take_append_of_le_length (by omega)]
    exact ⟨h1, h2, h3, h4, h5⟩
theorem range_snoc {α : Type} (V : Nat → α) (n : Nat) (p : α) : (List.range (n + 1)).map (setAt V n p) = (List.range n).map V ++ [p] := by
  rw [List.range_succ, List.map_append]
  congr 1
  · refine List.map_congr_left fun j hj => ?_
    have := List.mem_range.1 hj
    unfold setAt
    rw [if_neg (by omega)]
  · simp [setAt]
/-- what the loop keeps. -/
def Inv (B : Nat) (w : World) (bv : Value) (pre : List IS) (W : World) : Prop :=
  ∃ v V C, Boxed W (B + 1 + 1) 71 v ∧ W.ownsRow B 69 1 v pre.length ((List.range pre.length).map V) ∧ ChOK W (isets pre) pre.length V C ∧ Boxed W (B + 1 + 1 + 1) 40 bv ∧ Below B w W
theorem Inv.own {B : Nat} {w : World} {bv : Value} {D : Nat} (hB : B ≤ w.heap.size) (hD : B ≤ D) : OwnFrom D (Inv B w bv) := by
  rintro s X Y row ⟨v, V, C, h1, h2, h3, h4, h5⟩ hg hrow
  have hne : ∀ (b : Nat) (cs : Array Value) (t : TypeId) (z : Nat × Nat), X.heap[b]? = some (.cells cs t z) → some b ≠ row := fun b cs t z hb e => by
    obtain ⟨_, o, ho, hc⟩ := hrow b e.symm
    rw [hb] at ho
    cases ho
    cases hc
  refine ⟨v, V, C, h1.kept hg (hne _ _ _ _ h1), h2.kept hg ?_, h3.kept (fun b cs hb => (hg.block b (Array.getElem?_eq_some_iff.1 hb).1 (hne _ _ _ _ hb)).trans hb), h4.kept hg (hne _ _ _ _ h4), h5.grown hg (Nat.le_trans hB h5.size) (fun k e => Nat.le_trans hD (hrow k e).1)⟩
  rcases h2.2 with ⟨rfl, _⟩ | ⟨g, cap, cur, rfl, _, hgb, _⟩
  · exact .inl rfl
  · exact .inr (hne _ _ _ _ hgb)
/-- a round: one chain more. -/
theorem Inv.step {B D : Nat} {w W w3 : World} {bv v v' p : Value} {V : Nat → Value} {C : Nat → List Int} {pre : List IS} {x : IS} {L : List Int}
    (h1 : Boxed W (B + 1 + 1) 71 v) (h2 : W.ownsRow B 69 1 v pre.length ((List.range pre.length).map V)) (h3 : ChOK W (isets pre) pre.length V C) (h4 : Boxed W (B + 1 + 1 + 1) 40 bv) (h5 : Below B w W) (hB : B ≤ w.heap.size)
    (hL : LinkV W L p) (hLl : L.length = lgst x.1.2 C pre.length) (hn : pre.length ≤ 900)
    (hown : w3.ownsRow B 69 1 v' (pre.length + 1) ((List.range pre.length).map V ++ [.pointer (some ⟨W.heap.size, 0, none⟩)]))
    (hg : ((W.alloc (.cells #[.int .u64 x.1.2, p] 95)).alloc (.cells #[.pointer (some ⟨W.heap.size, 0, none⟩)] 69)).grownBy w3 v.ownBlock) :
    KeepsFrom D W (w3.setCell ⟨B + 1 + 1, 0, none⟩ v') ∧ KB B (B + 1 + 1 + 1) W (w3.setCell ⟨B + 1 + 1, 0, none⟩ v') ∧ Inv B w bv (pre ++ [x]) (w3.setCell ⟨B + 1 + 1, 0, none⟩ v') := by
  have hBW := Nat.le_trans hB h5.size
  obtain ⟨W1, hW1⟩ : ∃ W1, W.alloc (.cells #[.int .u64 x.1.2, p] 95) = W1 := ⟨_, rfl⟩
  have hs1 : W1.heap.size = W.heap.size + 1 := by rw [← hW1]; simp
  have n1 := heap_alloc_new W (.cells #[.int .u64 x.1.2, p] 95 (0, 0))
  have b1 := h1.alloc (.cells #[.int .u64 x.1.2, p] 95)
  have b2 := h2.alloc (.cells #[.int .u64 x.1.2, p] 95)
  have b4 := h4.alloc (.cells #[.int .u64 x.1.2, p] 95)
  have bb := (Below.refl B W).alloc hBW (.cells #[.int .u64 x.1.2, p] 95)
  have ko := KeepsOthers.alloc W (.cells #[.int .u64 x.1.2, p] 95)
  have kl : ∀ (b : Nat) (cs : Array Value), W.heap[b]? = some (.cells cs 95 (0, 0)) → (W.alloc (.cells #[.int .u64 x.1.2, p] 95)).heap[b]? = some (.cells cs 95 (0, 0)) := fun b cs h => by
    rw [Below.heap_alloc _ _ _ (Array.getElem?_eq_some_iff.1 h).1]; exact h
  rw [hW1] at n1 b1 b2 b4 bb ko kl hg
  obtain ⟨c1, c2, c3, c4, c5⟩ := b1.appended (by decide) b2 (by omega) (by omega) hown hg
  have d4 : Boxed w3 (B + 1 + 1 + 1) 40 bv := (b4.alloc (.cells #[.pointer (some ⟨W.heap.size, 0, none⟩)] 69)).kept hg (b4.not_row (by decide) b2)
  have e4 := d4.other (B' := B + 1 + 1) (by omega) v'
  have k2 : ∀ (b : Nat) (cs : Array Value), W1.heap[b]? = some (.cells cs 95 (0, 0)) → (w3.setCell ⟨B + 1 + 1, 0, none⟩ v').heap[b]? = some (.cells cs 95 (0, 0)) := fun b cs h => by
    have hlt := (Array.getElem?_eq_some_iff.1 h).1
    have hn1 : b ≠ B + 1 + 1 := fun e => by
      subst e
      have h9 : W1.heap[B + 1 + 1]? = some (.cells #[v] 71 (0, 0)) := b1
      rw [h] at h9
      injection h9 with h9
      injection h9 with _ h9
      exact absurd h9 (by decide)
    have hn2 : some b ≠ v.ownBlock := fun e => by
      rcases b2.2 with ⟨rfl, _⟩ | ⟨g, cap, cur, rfl, _, hgb, _⟩
      · cases e
      · have e2 : b = g := by simpa [Value.ownBlock] using e
        subst e2
        rw [h] at hgb
        injection hgb with h9
        injection h9 with _ h9
        exact absurd h9 (by decide)
    rw [Below.heap_setCell _ _ _ _ hn1, hg.block b (by rw [World.size_alloc]; omega) hn2, Below.heap_alloc _ _ _ hlt]
    exact h
  have kk := fun b cs h => k2 b cs (kl b cs h)
  have hlen : (isets pre).length = pre.length := isets_len pre
  have hch : ChOK (w3.setCell ⟨B + 1 + 1, 0, none⟩ v') (isets (pre ++ [x])) (pre.length + 1) (setAt V pre.length (.pointer (some ⟨W.heap.size, 0, none⟩))) (setAt C pre.length (x.1.2 :: L)) := by
    have h3' := h3.kept kk
    rw [isets_snoc]
    have hs := ChOK.snoc (x := x.1.2) (L := L) (p := .pointer (some ⟨W.heap.size, 0, none⟩)) (by rw [hlen]; exact h3') ⟨W.heap.size, p, rfl, k2 _ _ n1, hL.kept kk⟩ x.2.1 x.2.2 (by rw [hlen]; exact hLl) (by omega)
    rw [hlen] at hs
    exact hs
  refine ⟨(ko.trans c4).from D, ⟨bb.trans c5, fun z hz => ?_⟩, v', setAt V pre.length (.pointer (some ⟨W.heap.size, 0, none⟩)), setAt C pre.length (x.1.2 :: L), c2, ?_, ?_, e4, h5.trans (bb.trans c5)⟩
  · have : z = bv := by have h9 := h4.cell; rw [hz] at h9; injection h9
    rw [this]
    exact e4.cell
  · rw [List.length_append, List.length_singleton, range_snoc]; exact c3
  · rw [List.length_append, List.length_singleton]; exact hch
end Go.Proofs.Ytgkbaenjniapiaa
