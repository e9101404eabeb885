/- Families: how often each point is in a set; the program. -/
import Derived.Test.YtbfdgkeiokeehaaDoorDeg
namespace Go.Proofs.YtbfdgkeiokeehaaDoor
open Go.ChangeShapes Go.WideShapes Go.ChangeAt Go.RowKit Go.Shelf
attribute [local go_sem] Oper.semAt_some

theorem own_empty (w : World) (B S g c : Nat) : Own w B S (.slice (some ⟨g, 0, none⟩) 0 c) [] := ⟨_, c, rfl, fun h => by simp at h⟩
theorem row_own {β : Type} (b : Nat) (t : TypeId) (N : Nat) (f : β → Nat → Value) : _root_.Go.Own (fun s (W : World) => W.rowIs b t N (f s)) := fun s X Y row hs hg hrow =>
  hs.of_block (hg.block b hs.lt (fun e => by
    obtain ⟨o, ho, hc⟩ := hrow b e.symm
    obtain ⟨c, hc1, _⟩ := hs
    rw [hc1] at ho
    cases ho
    cases hc))
theorem ptsTo_len (s : Int) : ∀ k, (ptsTo s k).length ≤ k := by
  intro k
  induction k with
  | zero => simp [ptsTo]
  | succ k ih => unfold ptsTo; rw [List.length_append]; split <;> simp <;> omega
/-- the marks of the loops that have ended, each still open, the latest first. -/
def DefsOK (B : Nat) : List Deferred → Nat → World → Prop
  | [], _, _ => True
  | d :: ds, T, W => ∃ D, d = { target := .collected D, args := #[] } ∧ B ≤ D ∧ D < T ∧ W.heap[D]? = some (.deferred (some [])) ∧ DefsOK B ds D W
theorem DefsOK.mono {B : Nat} {ds : List Deferred} {T T' : Nat} {W : World} (h : DefsOK B ds T W) (hT : T ≤ T') : DefsOK B ds T' W := by
  cases ds with
  | nil => trivial
  | cons d ds => obtain ⟨D, h1, h2, h3, h4, h5⟩ := h; exact ⟨D, h1, h2, by omega, h4, h5⟩
theorem DefsOK.keep {B : Nat} {W W' : World} : ∀ {ds : List Deferred} {T : Nat}, DefsOK B ds T W → (∀ D, D < T → W.heap[D]? = some (.deferred (some [])) → W'.heap[D]? = some (.deferred (some []))) → DefsOK B ds T W' := by
  intro ds
  induction ds with
  | nil => intro T _ _; trivial
  | cons d ds ih =>
    intro T h hk
    obtain ⟨D, h1, h2, h3, h4, h5⟩ := h
    exact ⟨D, h1, h2, h3, hk D h3 h4, ih h5 (fun D' hD' => hk D' (by omega))⟩
theorem DefsOK.alloc {B : Nat} {ds : List Deferred} {T : Nat} {W : World} (h : DefsOK B ds T W) (o : Obj) : DefsOK B ds T (W.alloc o) := h.keep fun D _ e => by
  have := (Array.getElem?_eq_some_iff.1 e).1
  exact ((World.grownBy_alloc W o none).block D this (by simp)).trans e
theorem DefsOK.setCell {B : Nat} {ds : List Deferred} {T : Nat} {W : World} {b N : Nat} {t : TypeId} {f : Nat → Value} (h : DefsOK B ds T W) (hr : W.rowIs b t N f) (i : Nat) (v : Value) : DefsOK B ds T (W.setCell ⟨b, i, none⟩ v) := h.keep fun D _ e => by
  by_cases hb : D = b
  · subst hb
    obtain ⟨c, hc, _⟩ := hr
    rw [hc] at e
    cases e
  · rw [Below.heap_setCell _ _ _ _ hb]; exact e
theorem defs_own {β : Type} (B : Nat) (ds : List Deferred) (T B' : Nat) (hT : T ≤ B') : OwnFrom B' (fun (_ : β) W => DefsOK B ds T W) := fun _ W W' row hs hg hr => hs.keep fun D hD e =>
  (hg.block D (Array.getElem?_eq_some_iff.1 e).1 (fun x => by have := (hr D x.symm).1; omega)).trans e
theorem leaves_all {F : Fence} {n : Nat} {P : Program} {fn : Func} {tmps : Array Value} {R : Ending → World → Prop} {B : Nat} (C : World → Prop) (hC : ∀ W D, C W → B ≤ D → W.heap[D]? = some (.deferred (some [])) → C (W.putObj D (.deferred none)))
    (hend : ∀ W, C W → LeavesInM F n P fn tmps R [] .returning W) : ∀ (ds : List Deferred) (T : Nat) (W : World), DefsOK B ds T W → C W → LeavesInM F n P fn tmps R ds .returning W := by
  intro ds
  induction ds with
  | nil => intro T W _ h; exact hend W h
  | cons d ds ih =>
    intro T W h hc
    obtain ⟨D, rfl, h2, h3, h4, h5⟩ := h
    refine ⟨by simp, .inl ⟨D, _, rfl, run_takeDeferred h4, ih D _ (h5.keep fun D' hD' e => ?_) (hC W D hc h2 h4)⟩⟩
    rw [World.putObj_heap_other (by omega)]; exact e
theorem cnt_snoc (l : List Int) (x : Int) (j : Nat) : (((l ++ [x]).count ((j : Nat) : Int) : Nat) : Int) = ((l.count ((j : Nat) : Int) : Nat) : Int) + (if x = ((j : Nat) : Int) then 1 else 0) := by
  rw [List.count_append]
  by_cases e : x = ((j : Nat) : Int)
  · subst e; simp
  · rw [if_neg e, List.count_cons_of_ne e]; simp
theorem pt_fit : ∀ n : Fin 9, ∀ s : Fin 256, ∀ p : Fin 8, s.val < 2 ^ n.val → hasB s.val p.val = true → p.val < n.val := by decide +kernel
theorem pt_lt {n s p : Int} (h : setB n s = true) (h0 : 0 ≤ p) (h7 : p ≤ 7) (hp : hasB s p = true) : p < n := by
  obtain ⟨n1, n2, h1, h2⟩ := setB_yes h
  have q := pow_le256 n1 n2
  have e2 : ((s.toNat : Nat) : Int) = s := Int.toNat_of_nonneg h1
  have e3 : ((p.toNat : Nat) : Int) = p := Int.toNat_of_nonneg h0
  have h := pt_fit ⟨n.toNat, by omega⟩ ⟨s.toNat, by omega⟩ ⟨p.toNat, by omega⟩ (by
    have : ((s.toNat : Nat) : Int) < ((2 ^ n.toNat : Nat) : Int) := by rw [e2]; simpa using h2
    simpa using Int.ofNat_lt.1 this)
  simp only [e2, e3] at h
  have := h hp
  omega
end Go.Proofs.YtbfdgkeiokeehaaDoor
