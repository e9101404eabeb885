/- Lists of integers in memory: what is read, what is owned; the law package's own helpers. -/
import Derived.Test.YtojfamjgghikoaaGreatDoorSets2
import Derived.Deep.OwnRows
import Derived.Deep.RegionLaw
import Derived.OwnWalk
import Derived.WalkSpells
namespace Go.Proofs.YtojfamjgghikoaaGreatDoor
open Go.ChangeShapes Go.WideShapes Go.ChangeAt Go.RowKit

/-- the cells at b, off + i hold xs. -/
def CellsAt (w : World) (b off : Nat) (xs : List Int) : Prop := ∀ i, i < xs.length → w.cell? ⟨b, off + i, none⟩ = some (.int .i64 (xs.getD i 0))
/-- v reads as xs; its cells lie below block S. -/
def Row (w : World) (S : Nat) (v : Value) (xs : List Int) : Prop :=
  ∃ a cap, v = .slice a xs.length cap ∧ (0 < xs.length → ∃ b off, a = some ⟨b, off, none⟩ ∧ b < S ∧ CellsAt w b off xs)
/-- v reads as xs; its cells lie from block B on and below block S, and can be written. -/
def Own (w : World) (B S : Nat) (v : Value) (xs : List Int) : Prop :=
  ∃ a cap, v = .slice a xs.length cap ∧ (0 < xs.length → ∃ b off, a = some ⟨b, off, none⟩ ∧ B ≤ b ∧ b < S ∧ CellsAt w b off xs ∧ ∀ i, i < xs.length → w.frozen? ⟨b, off + i, none⟩ = false)
theorem Own.row {w : World} {B S : Nat} {v : Value} {xs : List Int} (h : Own w B S v xs) : Row w S v xs := by
  obtain ⟨a, cap, rfl, h⟩ := h
  refine ⟨a, cap, rfl, fun hl => ?_⟩
  obtain ⟨b, off, rfl, _, hs, hc, _⟩ := h hl
  exact ⟨b, off, rfl, hs, hc⟩
theorem Row.below {w w' : World} {S B : Nat} {v : Value} {xs : List Int} (h : Row w S v xs) (hb : Below B w w') (hS : S ≤ B) : Row w' S v xs := by
  obtain ⟨a, cap, rfl, h⟩ := h
  refine ⟨a, cap, rfl, fun hl => ?_⟩
  obtain ⟨b, off, rfl, hs, hc⟩ := h hl
  exact ⟨b, off, rfl, hs, fun i hi => (hb.cell (p := ⟨b, off + i, none⟩) (show b < B by omega)).trans (hc i hi)⟩
theorem Row.mono {w : World} {S S' : Nat} {v : Value} {xs : List Int} (h : Row w S v xs) (hS : S ≤ S') : Row w S' v xs := by
  obtain ⟨a, cap, rfl, h⟩ := h
  refine ⟨a, cap, rfl, fun hl => ?_⟩
  obtain ⟨b, off, rfl, hs, hc⟩ := h hl
  exact ⟨b, off, rfl, by omega, hc⟩
theorem Own.below {w w' : World} {C S B : Nat} {v : Value} {xs : List Int} (h : Own w C S v xs) (hb : Below B w w') (hS : S ≤ B) : Own w' C S v xs := by
  obtain ⟨a, cap, rfl, h⟩ := h
  refine ⟨a, cap, rfl, fun hl => ?_⟩
  obtain ⟨b, off, rfl, hB, hs, hc, hf⟩ := h hl
  exact ⟨b, off, rfl, hB, hs, fun i hi => (hb.cell (p := ⟨b, off + i, none⟩) (show b < B by omega)).trans (hc i hi), fun i hi => (hb.frozen (p := ⟨b, off + i, none⟩) (show b < B by omega)).trans (hf i hi)⟩
theorem Own.mono {w : World} {B B' S S' : Nat} {v : Value} {xs : List Int} (h : Own w B S v xs) (hB : B' ≤ B) (hS : S ≤ S') : Own w B' S' v xs := by
  obtain ⟨a, cap, rfl, h⟩ := h
  refine ⟨a, cap, rfl, fun hl => ?_⟩
  obtain ⟨b, off, rfl, hB, hs, hc, hf⟩ := h hl
  exact ⟨b, off, rfl, by omega, by omega, hc, hf⟩
theorem below_drewN {B : Nat} {a w : World} (h : Below B a w) (n : Nat) : Below B a (w.drewN n) := ⟨h.os, h.tape, h.output, h.size, h.block⟩
theorem Row.drewN {w : World} {S : Nat} {v : Value} {xs : List Int} (h : Row w S v xs) (n : Nat) : Row (w.drewN n) S v xs := h
theorem Own.drewN {w : World} {B S : Nat} {v : Value} {xs : List Int} (h : Own w B S v xs) (n : Nat) : Own (w.drewN n) B S v xs := h

theorem drewN_add (w : World) (a b : Nat) : (w.drewN a).drewN b = w.drewN (a + b) := World.drewN_drewN w a b

/-- the numbers k, k + 1 and so on. -/
def marks (k : Int) : Nat → List Int
  | 0 => []
  | n + 1 => k :: marks (k + 1) n
theorem marks_len (k : Int) (n : Nat) : (marks k n).length = n := by
  induction n generalizing k with
  | zero => rfl
  | succ n ih => simp [marks, ih]
theorem marks_get (k : Int) (n i : Nat) (h : i < n) : (marks k n).getD i 0 = k + i := by
  induction n generalizing k i with
  | zero => omega
  | succ n ih =>
    cases i with
    | zero => simp [marks]
    | succ i => simp only [marks, List.getD_cons_succ]; rw [ih _ _ (by omega)]; omega

/-- the two lists are one. -/
def sameB (xs ys : List Int) : Bool := decide (xs = ys)
theorem same_step {xs ys : List Int} (hl : xs.length = ys.length) (h : ∀ i, i < xs.length → xs.getD i 0 = ys.getD i 0) : sameB xs ys = true := by
  refine decide_eq_true (List.ext_getElem hl fun i h1 h2 => ?_)
  have := h i h1
  simpa [List.getD_eq_getElem?_getD, h1, h2] using this
/-- what heldIntS says. -/
def heldV (xs : List Int) (m : Int) : Int := if xs = marks m xs.length then m + xs.length else -1
theorem heldV_marks (m : Int) (n : Nat) : heldV (marks m n) m = m + n := by unfold heldV; rw [marks_len, if_pos rfl]
theorem below_setCell {B : Nat} {a w : World} (h : Below B a w) {p : Addr} (hp : B ≤ p.block) (u : Value) : Below B a (w.setCell p u) := h.setCell hp u
theorem Tryz.intInfo : (Tryz.prog.info? 3).map (fun i => (i.zero, i.size, i.bytes)) = some (some (.int .i64 0), 1, 8) := by kernel_rfl
/-- the list of cells while it is filled. -/
def filled (xs : List Int) (k : Nat) (j : Nat) : Value := .int .i64 (if j < k then xs.getD j 0 else 0)
theorem cell_lt {w : World} {a : Addr} {v : Value} (h : w.cell? a = some v) : a.block < w.heap.size := by
  by_cases hb : a.block < w.heap.size
  · exact hb
  · have : w.heap[a.block]? = none := Array.getElem?_eq_none (by omega)
    simp [World.cell?, this] at h
/-- what a frame knows of a list that came in, in this text's words. -/
theorem row_of {w : World} {a : Option Addr} {len cap : Nat} {zs : List Int}
    (h : (a = none ∧ len = 0 ∧ cap = 0 ∧ zs = []) ∨ ∃ x, a = some x ∧ len ≤ cap ∧ cap ≤ maxLen ∧ zs.length = cap ∧ (∀ i, i < zs.length → w.cell? (x.add i) = some (.int .i64 (zs.getD i 0))) ∧ ∀ n ∈ zs, (Lit.int .i64 n).wf = true) :
    Row w w.heap.size (.slice a len cap) (zs.take len) ∧ (zs.take len).length ≤ 9223372036854775807 ∧ ∀ n ∈ zs.take len, (Lit.int .i64 n).wf = true := by
  rcases h with ⟨rfl, rfl, rfl, rfl⟩ | ⟨x, rfl, hl, hm, hz, hc, hw⟩
  · exact ⟨⟨none, 0, rfl, fun h => by simp at h⟩, by simp, by simp⟩
  · have hlen : (zs.take len).length = len := by rw [List.length_take]; omega
    refine ⟨⟨some x, cap, by rw [hlen], fun hp => ?_⟩, by unfold maxLen at hm; omega, fun n hn => hw n (List.mem_of_mem_take hn)⟩
    rw [hlen] at hp
    have h0 := hc 0 (by omega)
    obtain ⟨b, off, spot⟩ := x
    have hspot : spot = none := by simpa [Addr.add] using World.cell?_spot h0
    subst hspot
    have hadd : ∀ i, (⟨b, off, none⟩ : Addr).add i = ⟨b, off + i, none⟩ := fun i => by simp [Addr.add]
    refine ⟨b, off, rfl, ?_, fun i hi => ?_⟩
    · have := cell_lt h0
      rw [hadd] at this
      exact this
    · rw [hlen] at hi
      rw [← hadd, hc i (by omega)]
      congr 2
      simp [List.getD_eq_getElem?_getD, hi]
end Go.Proofs.YtojfamjgghikoaaGreatDoor
