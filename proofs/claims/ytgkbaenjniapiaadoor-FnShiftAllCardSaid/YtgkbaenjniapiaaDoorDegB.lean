/- Families: how often each point is in a set, the model and the program (as in XDeg, XDeg2; for seats that have links too). -/
import Derived.Test.YtgkbaenjniapiaaDoorAllSp
import Derived.Test.YtgkbaenjniapiaaDoorIter
import Derived.RegionTactic
namespace Go.Proofs.YtgkbaenjniapiaaDoor
open Go.ChangeShapes Go.WideShapes Go.ChangeAt Go.RowKit Go.Proofs Go.Shelf


/-- how many sets of the list have the point j. -/
def dgP (xs : List Int) (j : Nat) : Int := ((xs.filter (fun x => hasB x ((j : Nat) : Int))).length : Nat)
/-- 1 if s has the point j. -/
def hb1 (s : Int) (j : Nat) : Int := if hasB s ((j : Nat) : Int) then 1 else 0
theorem hb1_bd (s : Int) (j : Nat) : 0 ≤ hb1 s j ∧ hb1 s j ≤ 1 := by unfold hb1; split <;> omega
theorem dgP_bd (xs : List Int) (j : Nat) : 0 ≤ dgP xs j ∧ dgP xs j ≤ xs.length := by
  unfold dgP
  have := List.length_filter_le (fun x => hasB x ((j : Nat) : Int)) xs
  omega
theorem dgP_step {xs : List Int} {k : Nat} {x : Int} (hk : k < xs.length) (hx : xs.getD k 0 = x) (j : Nat) : dgP (xs.take (k + 1)) j = dgP (xs.take k) j + hb1 x j := by
  unfold dgP hb1
  rcases (by cases hasB x ((j : Nat) : Int) <;> simp : hasB x ((j : Nat) : Int) = true ∨ hasB x ((j : Nat) : Int) = false) with h | h
  · rw [filt_yes hk hx _ h, List.length_append, h]; rfl
  · rw [filt_no hk hx _ h, h]; simp
/-- how often each point is there. -/
def degL (N : Nat) (xs : List Int) : List Int := (List.range N).map (fun j => dgP xs j)
theorem degL_len (N : Nat) (xs : List Int) : (degL N xs).length = N := by simp [degL]
theorem own_rowD {w : World} {b N B S : Nat} {f : Nat → Int} (h : w.rowIs b 3 N (fun j => .int .i64 (f j))) (hB : B ≤ b) (hS : b < S) : Own w B S (.slice (some ⟨b, 0, none⟩) N N) ((List.range N).map f) := by
  have hl : ((List.range N).map f).length = N := by simp
  refine ⟨_, _, by rw [hl], fun _ => ⟨b, 0, rfl, hB, hS, fun i hi => ?_, fun i _ => ?_⟩⟩
  · rw [hl] at hi
    rw [Nat.zero_add, World.rowIs.cell h hi]
    rw [List.getD_eq_getElem?_getD, List.getElem?_map, List.getElem?_range hi]; rfl
  · exact World.rowIs.frozen h _
theorem cnt_dec : ∀ s : Fin 256, ∀ j : Fin 8, (((ptsI s.val).count ((j.val : Nat) : Int) : Nat) : Int) = hb1 s.val j.val := by decide +kernel
theorem cnt_pts {s : Int} (h1 : 0 ≤ s) (h2 : s < 256) {j : Nat} (hj : j < 8) : (((ptsI s).count ((j : Nat) : Int) : Nat) : Int) = hb1 s j := by
  have h := cnt_dec ⟨s.toNat, by omega⟩ ⟨j, hj⟩
  have e : ((s.toNat : Nat) : Int) = s := Int.toNat_of_nonneg h1
  simpa only [e] using h

/-- what a function that makes a row of numbers leaves. -/
def RowPost (L : List Int) (w : World) (e : Ending) (w' : World) : Prop := ∃ v, e = .returned v ∧ Own w' w.heap.size w'.heap.size v L ∧ Below w.heap.size w w'
attribute [local go_sem] Oper.semAt_some
theorem row_own {β : Type} (b : Nat) (t : TypeId) (N : Nat) (f : β → Nat → Value) : _root_.Go.Own (fun s (W : World) => W.rowIs b t N (f s)) := fun s X Y row hs hg hrow =>
  hs.of_block (hg.block b hs.lt (fun e => by
    obtain ⟨o, ho, hc⟩ := hrow b e.symm
    obtain ⟨c, hc1, _⟩ := hs
    rw [hc1] at ho
    cases ho
    cases hc))
theorem ptsTo_len (s : Int) : ∀ k, (ptsTo s k).length ≤ k := by
  intro k
  induction k with
  | zero => simp [ptsTo]
  | succ k ih => unfold ptsTo; rw [List.length_append]; split <;> simp <;> omega
/-- the marks of the loops that have ended, each still open, the latest first. -/
def DefsOK (B : Nat) : List Deferred → Nat → World → Prop
  | [], _, _ => True
  | d :: ds, T, W => ∃ D, d = { target := .collected D, args := #[] } ∧ B ≤ D ∧ D < T ∧ W.heap[D]? = some (.deferred (some [])) ∧ DefsOK B ds D W
theorem DefsOK.mono {B : Nat} {ds : List Deferred} {T T' : Nat} {W : World} (h : DefsOK B ds T W) (hT : T ≤ T') : DefsOK B ds T' W := by
  cases ds with
  | nil => trivial
  | cons d ds => obtain ⟨D, h1, h2, h3, h4, h5⟩ := h; exact ⟨D, h1, h2, by omega, h4, h5⟩
theorem DefsOK.keep {B : Nat} {W W' : World} : ∀ {ds : List Deferred} {T : Nat}, DefsOK B ds T W → (∀ D, D < T → W.heap[D]? = some (.deferred (some [])) → W'.heap[D]? = some (.deferred (some []))) → DefsOK B ds T W' := by
  intro ds
  induction ds with
  | nil => intro T _ _; trivial
  | cons d ds ih =>
    intro T h hk
    obtain ⟨D, h1, h2, h3, h4, h5⟩ := h
    exact ⟨D, h1, h2, h3, hk D h3 h4, ih h5 (fun D' hD' => hk D' (by omega))⟩
theorem DefsOK.alloc {B : Nat} {ds : List Deferred} {T : Nat} {W : World} (h : DefsOK B ds T W) (o : Obj) : DefsOK B ds T (W.alloc o) := h.keep fun D _ e => by
  have := (Array.getElem?_eq_some_iff.1 e).1
  exact ((World.grownBy_alloc W o none).block D this (by simp)).trans e
theorem DefsOK.setCell {B : Nat} {ds : List Deferred} {T : Nat} {W : World} {b N : Nat} {t : TypeId} {f : Nat → Value} (h : DefsOK B ds T W) (hr : W.rowIs b t N f) (i : Nat) (v : Value) : DefsOK B ds T (W.setCell ⟨b, i, none⟩ v) := h.keep fun D _ e => by
  by_cases hb : D = b
  · subst hb
    obtain ⟨c, hc, _⟩ := hr
    rw [hc] at e
    cases e
  · rw [Below.heap_setCell _ _ _ _ hb]; exact e
theorem defs_own {β : Type} (B : Nat) (ds : List Deferred) (T B' : Nat) (hT : T ≤ B') : OwnFrom B' (fun (_ : β) W => DefsOK B ds T W) := fun _ W W' row hs hg hr => hs.keep fun D hD e =>
  (hg.block D (Array.getElem?_eq_some_iff.1 e).1 (fun x => by have := (hr D x.symm).1; omega)).trans e
theorem leaves_all {F : Fence} {n : Nat} {P : Program} {fn : Func} {tmps : Array Value} {R : Ending → World → Prop} {B : Nat} (C : World → Prop) (hC : ∀ W D, C W → B ≤ D → W.heap[D]? = some (.deferred (some [])) → C (W.putObj D (.deferred none)))
    (hend : ∀ W, C W → LeavesInM F n P fn tmps R [] .returning W) : ∀ (ds : List Deferred) (T : Nat) (W : World), DefsOK B ds T W → C W → LeavesInM F n P fn tmps R ds .returning W := by
  intro ds
  induction ds with
  | nil => intro T W _ h; exact hend W h
  | cons d ds ih =>
    intro T W h hc
    obtain ⟨D, rfl, h2, h3, h4, h5⟩ := h
    refine ⟨by simp, .inl ⟨D, _, rfl, run_takeDeferred h4, ih D _ (h5.keep fun D' hD' e => ?_) (hC W D hc h2 h4)⟩⟩
    rw [World.putObj_heap_other (by omega)]; exact e
theorem cnt_snoc (l : List Int) (x : Int) (j : Nat) : (((l ++ [x]).count ((j : Nat) : Int) : Nat) : Int) = ((l.count ((j : Nat) : Int) : Nat) : Int) + (if x = ((j : Nat) : Int) then 1 else 0) := by
  rw [List.count_append]
  by_cases e : x = ((j : Nat) : Int)
  · subst e; simp
  · rw [if_neg e, List.count_cons_of_ne e]; simp
theorem pt_fit : ∀ n : Fin 9, ∀ s : Fin 256, ∀ p : Fin 8, s.val < 2 ^ n.val → hasB s.val p.val = true → p.val < n.val := by decide +kernel
theorem pt_lt {n s p : Int} (h : setB n s = true) (h0 : 0 ≤ p) (h7 : p ≤ 7) (hp : hasB s p = true) : p < n := by
  obtain ⟨n1, n2, h1, h2⟩ := setB_yes h
  have q := pow_le256 n1 n2
  have e2 : ((s.toNat : Nat) : Int) = s := Int.toNat_of_nonneg h1
  have e3 : ((p.toNat : Nat) : Int) = p := Int.toNat_of_nonneg h0
  have h := pt_fit ⟨n.toNat, by omega⟩ ⟨s.toNat, by omega⟩ ⟨p.toNat, by omega⟩ (by
    have : ((s.toNat : Nat) : Int) < ((2 ^ n.toNat : Nat) : Int) := by rw [e2]; simpa using h2
    simpa using Int.ofNat_lt.1 this)
  simp only [e2, e3] at h
  have := h hp
  omega
end Go.Proofs.YtgkbaenjniapiaaDoor
