/- IntersectGrow: the program. -/
import Derived.Test.YtcadlfljlobjjaaIs2
import Derived.Test.YtcadlfljlobjjaaFams11
import Derived.Test.YtcadlfljlobjjaaFams12
import Derived.Deep.RegionHeld
namespace Go.Proofs.Ytcadlfljlobjjaa
open Go.ChangeShapes Go.WideShapes Go.ChangeAt Go.RowKit Go.Proofs

theorem fam_frozen6 {w : World} {c : Nat} {lv u : Value} (h : w.heap[c]? = some (.cells #[lv, u] 36 (0, 0))) : w.frozen? ⟨c, 0, none⟩ = false ∧ w.frozen? ⟨c, 1, none⟩ = false := ⟨frozen_of h 0, frozen_of h 1⟩
theorem fam_cells6 {w : World} {c : Nat} {lv u : Value} (h : w.heap[c]? = some (.cells #[lv, u] 36 (0, 0))) : w.cell? ⟨c, 0, none⟩ = some lv ∧ w.cell? ⟨c, 1, none⟩ = some u :=
  ⟨by rw [cell_of_row w c 0 _ 36 (0, 0) h]; rfl, by rw [cell_of_row w c 1 _ 36 (0, 0) h]; rfl⟩
theorem fam_stored6 {w : World} {c : Nat} {p q : Value} (h : w.heap[c]? = some (.cells #[p, q] 36 (0, 0))) (X Y : Value) : ((w.setCell ⟨c, 0, none⟩ X).setCell ⟨c, 1, none⟩ Y).heap[c]? = some (.cells #[X, Y] 36 (0, 0)) := by
  have h1 := heap_setCell_same w c 0 _ 36 X h
  have h2 := heap_setCell_same _ c 1 _ 36 Y h1
  rw [h2]; rfl
/-- a store into a box that holds a family leaves a list of sets. -/
theorem SRow.stored6 {w : World} {S c n k : Nat} {v q : Value} {a : Option Addr} {xs : List Int} (h : SRow w S v xs) (hc : w.heap[c]? = some (.cells #[.slice a n k, q] 36 (0, 0))) (hq : ∀ x, q ≠ .int .u64 x) (X Y : Value) :
    SRow ((w.setCell ⟨c, 0, none⟩ X).setCell ⟨c, 1, none⟩ Y) S v xs := by
  obtain ⟨a, cap, rfl, h⟩ := h
  refine ⟨a, cap, rfl, fun hl => ?_⟩
  obtain ⟨b, off, rfl, hs, hx⟩ := h hl
  have hne : c ≠ b := by
    intro e
    subst e
    have h0 := hx 0 hl
    rw [cell_of_row w c (off + 0) _ 36 (0, 0) hc] at h0
    match off, h0 with
    | 0, h0 => cases h0
    | 1, h0 => exact hq _ (Option.some.inj h0)
    | off + 2, h0 => simp at h0
  refine ⟨b, off, rfl, hs, fun i hi => ?_⟩
  rw [World.cell?_setCell_far _ _ _ _ hne, World.cell?_setCell_far _ _ _ _ hne]
  exact hx i hi
/-- the function value g, bound to cs, makes ys of the family xs, as a list to be read. -/
def RowMap (g : Nat) (cs : Array Value) (xs ys : List Int) (w : World) : Prop :=
  ∀ (W : World) (lv : Value), Below w.heap.size w W → SRow W W.heap.size lv xs → Calls Try.prog g (#[.agg #[lv, (Value.func (.func 68) #[] #[])]] ++ cs) W (FirstPost W ys)
/-- a set comes in if it meets itself and all others. -/
def grS (L : List Int) (s : Int) : List Int := if !(s == 0) && L.all (meetB s) then insI s L else L
def grL (xs : List Int) : Nat → List Int
  | 0 => xs
  | k + 1 => grS (grL xs k) (k : Nat)
theorem grS_yes {L : List Int} {s : Int} (h0 : s ≠ 0) (h : L.all (meetB s) = true) : grS L s = insI s L := by
  unfold grS
  rw [h, show (s == 0) = false by simp [h0]]; rfl
theorem grS_no0 (L : List Int) : grS L 0 = L := rfl
theorem grS_no {L : List Int} {s : Int} (h : L.all (meetB s) = false) : grS L s = L := by
  unfold grS
  rw [h, Bool.and_false]; rfl
theorem gr_asc {xs : List Int} (hA : Asc xs) : ∀ k, Asc (grL xs k)
  | 0 => hA
  | k + 1 => by
    have ih := gr_asc hA k
    show Asc (grS (grL xs k) (k : Nat))
    unfold grS
    split
    · exact asc_insI ih
    · exact ih
theorem gr_mem {xs : List Int} {z : Int} : ∀ k, z ∈ grL xs k → z ∈ xs ∨ (0 ≤ z ∧ z < k)
  | 0, h => .inl h
  | k + 1, h => by
    have h : z ∈ grS (grL xs k) (k : Nat) := h
    unfold grS at h
    split at h
    · rcases mem_insI.1 h with h | h
      · exact .inr (by omega)
      · rcases gr_mem k h with h | h
        · exact .inl h
        · exact .inr (by omega)
    · rcases gr_mem k h with h | h
      · exact .inl h
      · exact .inr (by omega)
theorem gr_lt {xs : List Int} (hz : ∀ z ∈ xs, 0 ≤ z ∧ z < 256) {k : Nat} (hk : k ≤ 256) : ∀ z ∈ grL xs k, 0 ≤ z ∧ z < 256 := fun z h => by
  rcases gr_mem k h with h | h
  · exact hz z h
  · omega
theorem gr_len {xs : List Int} (hA : Asc xs) (hz : ∀ z ∈ xs, 0 ≤ z ∧ z < 256) {k : Nat} (hk : k ≤ 256) : (grL xs k).length ≤ 256 := asc_len256 (gr_asc hA k) (gr_lt hz hk)
theorem up_get {N k : Nat} (h : k < N) : (upI N).getD k 0 = (k : Int) := by
  unfold upI
  simp [List.getD, h]
theorem sort_one (x : Int) : sortL [x] = [x] := sortL_asc (by unfold Asc; simp)
theorem sort_put {L : List Int} (h : Asc L) (x : Int) : sortL (L ++ [x]) = insI x L := by rw [sortL_snoc, sortL_asc h]
theorem fldS0 (x y : Value) (w : World) : (Instr.field 36 (.agg #[x, y]) 0).run Try.prog w = .ok x w := by kernel_rfl
theorem one_row (w : World) (x : Int) : SRow (w.alloc (.cells #[.int .u64 x] 44)) (w.alloc (.cells #[.int .u64 x] 44)).heap.size (.slice (some ⟨w.heap.size, 0, none⟩) 1 1) [x] := by
  refine ⟨_, 1, rfl, fun _ => ⟨w.heap.size, 0, rfl, by simp, fun i hi => ?_⟩⟩
  simp at hi
  subst hi
  exact cell_new _ _ _
end Go.Proofs.Ytcadlfljlobjjaa
