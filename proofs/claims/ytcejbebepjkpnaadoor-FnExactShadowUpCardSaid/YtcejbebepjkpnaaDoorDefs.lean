/- The marks that ended ranges over a function leave among the deferred calls (as in XDeg2; for seats without the degrees). -/
import Derived.Test.YtcejbebepjkpnaaDoorIter
import Derived.Test.YtcejbebepjkpnaaDoorFams3
namespace Go.Proofs.YtcejbebepjkpnaaDoor
open Go.ChangeShapes Go.WideShapes Go.ChangeAt Go.RowKit Go.Shelf
attribute [local go_sem] Oper.semAt_some

theorem ptsTo_len (s : Int) : ∀ k, (ptsTo s k).length ≤ k := by
  intro k
  induction k with
  | zero => simp [ptsTo]
  | succ k ih => unfold ptsTo; rw [List.length_append]; split <;> simp <;> omega
/-- the marks of the loops that have ended, each still open, the latest first. -/
def DefsOK (B : Nat) : List Deferred → Nat → World → Prop
  | [], _, _ => True
  | d :: ds, T, W => ∃ D, d = { target := .collected D, args := #[] } ∧ B ≤ D ∧ D < T ∧ W.heap[D]? = some (.deferred (some [])) ∧ DefsOK B ds D W
theorem DefsOK.mono {B : Nat} {ds : List Deferred} {T T' : Nat} {W : World} (h : DefsOK B ds T W) (hT : T ≤ T') : DefsOK B ds T' W := by
  cases ds with
  | nil => trivial
  | cons d ds => obtain ⟨D, h1, h2, h3, h4, h5⟩ := h; exact ⟨D, h1, h2, by omega, h4, h5⟩
theorem DefsOK.keep {B : Nat} {W W' : World} : ∀ {ds : List Deferred} {T : Nat}, DefsOK B ds T W → (∀ D, D < T → W.heap[D]? = some (.deferred (some [])) → W'.heap[D]? = some (.deferred (some []))) → DefsOK B ds T W' := by
  intro ds
  induction ds with
  | nil => intro T _ _; trivial
  | cons d ds ih =>
    intro T h hk
    obtain ⟨D, h1, h2, h3, h4, h5⟩ := h
    exact ⟨D, h1, h2, h3, hk D h3 h4, ih h5 (fun D' hD' => hk D' (by omega))⟩
theorem DefsOK.alloc {B : Nat} {ds : List Deferred} {T : Nat} {W : World} (h : DefsOK B ds T W) (o : Obj) : DefsOK B ds T (W.alloc o) := h.keep fun D _ e => by
  have := (Array.getElem?_eq_some_iff.1 e).1
  exact ((World.grownBy_alloc W o none).block D this (by simp)).trans e
theorem DefsOK.setCell {B : Nat} {ds : List Deferred} {T : Nat} {W : World} {b N : Nat} {t : TypeId} {f : Nat → Value} (h : DefsOK B ds T W) (hr : W.rowIs b t N f) (i : Nat) (v : Value) : DefsOK B ds T (W.setCell ⟨b, i, none⟩ v) := h.keep fun D _ e => by
  by_cases hb : D = b
  · subst hb
    obtain ⟨c, hc, _⟩ := hr
    rw [hc] at e
    cases e
  · rw [Below.heap_setCell _ _ _ _ hb]; exact e
theorem defs_own {β : Type} (B : Nat) (ds : List Deferred) (T B' : Nat) (hT : T ≤ B') : OwnFrom B' (fun (_ : β) W => DefsOK B ds T W) := fun _ W W' row hs hg hr => hs.keep fun D hD e =>
  (hg.block D (Array.getElem?_eq_some_iff.1 e).1 (fun x => by have := (hr D x.symm).1; omega)).trans e
theorem leaves_all {F : Fence} {n : Nat} {P : Program} {fn : Func} {tmps : Array Value} {R : Ending → World → Prop} {B : Nat} (C : World → Prop) (hC : ∀ W D, C W → B ≤ D → W.heap[D]? = some (.deferred (some [])) → C (W.putObj D (.deferred none)))
    (hend : ∀ W, C W → LeavesInM F n P fn tmps R [] .returning W) : ∀ (ds : List Deferred) (T : Nat) (W : World), DefsOK B ds T W → C W → LeavesInM F n P fn tmps R ds .returning W := by
  intro ds
  induction ds with
  | nil => intro T W _ h; exact hend W h
  | cons d ds ih =>
    intro T W h hc
    obtain ⟨D, rfl, h2, h3, h4, h5⟩ := h
    refine ⟨by simp, .inl ⟨D, _, rfl, run_takeDeferred h4, ih D _ (h5.keep fun D' hD' e => ?_) (hC W D hc h2 h4)⟩⟩
    rw [World.putObj_heap_other (by omega)]; exact e
end Go.Proofs.YtcejbebepjkpnaaDoor
