/- Lists of lists of integers in memory: the law package's own helpers. -/
import Derived.Test.YtoglcinfnhhkhabDoorSlices
import Derived.Test.YtoglcinfnhhkhabDoorAppend
import Derived.BigQuiet
namespace Go.Proofs.YtoglcinfnhhkhabDoor
open Go.ChangeShapes Go.WideShapes Go.ChangeAt Go.RowKit

/-- the n places at a hold V. -/
def Tbl (w : World) (S : Nat) (a : Option Addr) (n : Nat) (V : Nat → Value) : Prop := 0 < n → ∃ b off, a = some ⟨b, off, none⟩ ∧ b < S ∧ ∀ i, i < n → w.cell? ⟨b, off + i, none⟩ = some (V i)
/-- each of them reads as its list. -/
def RowsR (w : World) (S : Nat) (V : Nat → Value) (Ls : List (List Int)) : Prop := ∀ i, i < Ls.length → Row w S (V i) (Ls.getD i [])
theorem Tbl.below {w w' : World} {S B : Nat} {a : Option Addr} {n : Nat} {V : Nat → Value} (h : Tbl w S a n V) (hb : Below B w w') (hS : S ≤ B) : Tbl w' S a n V := fun hn => by
  obtain ⟨b, off, e, hs, hc⟩ := h hn
  exact ⟨b, off, e, hs, fun i hi => (hb.cell (p := ⟨b, off + i, none⟩) (show b < B by omega)).trans (hc i hi)⟩
theorem Tbl.mono {w : World} {S S' : Nat} {a : Option Addr} {n : Nat} {V : Nat → Value} (h : Tbl w S a n V) (hS : S ≤ S') : Tbl w S' a n V := fun hn => by
  obtain ⟨b, off, e, hs, hc⟩ := h hn
  exact ⟨b, off, e, by omega, hc⟩
theorem Tbl.drewN {w : World} {S : Nat} {a : Option Addr} {n : Nat} {V : Nat → Value} (h : Tbl w S a n V) (q : Nat) : Tbl (w.drewN q) S a n V := h
theorem RowsR.below {w w' : World} {S B : Nat} {V : Nat → Value} {Ls : List (List Int)} (h : RowsR w S V Ls) (hb : Below B w w') (hS : S ≤ B) : RowsR w' S V Ls := fun i hi => (h i hi).below hb hS
theorem RowsR.mono {w : World} {S S' : Nat} {V : Nat → Value} {Ls : List (List Int)} (h : RowsR w S V Ls) (hS : S ≤ S') : RowsR w S' V Ls := fun i hi => (h i hi).mono hS
theorem RowsR.drewN {w : World} {S : Nat} {V : Nat → Value} {Ls : List (List Int)} (h : RowsR w S V Ls) (q : Nat) : RowsR (w.drewN q) S V Ls := h
/-- no list is too long. -/
def Short (Ls : List (List Int)) : Prop := Ls.length ≤ 1000 ∧ ∀ i, i < Ls.length → (Ls.getD i []).length ≤ 1000
/-- how many numbers lie ahead of a list. -/
def ofsI (m : Int) (Ls : List (List Int)) : Nat → Int
  | 0 => m
  | i + 1 => ofsI m Ls i + (Ls.getD i []).length
theorem ofs_bd (m : Int) (Ls : List (List Int)) (hl : Short Ls) : ∀ i, i ≤ Ls.length → m ≤ ofsI m Ls i ∧ ofsI m Ls i ≤ m + 1000 * i
  | 0, _ => by unfold ofsI; omega
  | i + 1, h => by
    have h1 := ofs_bd m Ls hl i (by omega)
    have h2 := hl.2 i (by omega)
    unfold ofsI
    omega
/-- the lists filled with numbers from m on. -/
def MarkR (w : World) (S : Nat) (V : Nat → Value) (m : Int) (Ls : List (List Int)) : Prop := ∀ i, i < Ls.length → Row w S (V i) (marks (ofsI m Ls i) (Ls.getD i []).length)
theorem MarkR.below {w w' : World} {S B : Nat} {V : Nat → Value} {m : Int} {Ls : List (List Int)} (h : MarkR w S V m Ls) (hb : Below B w w') (hS : S ≤ B) : MarkR w' S V m Ls := fun i hi => (h i hi).below hb hS
theorem MarkR.drewN {w : World} {S : Nat} {V : Nat → Value} {m : Int} {Ls : List (List Int)} (h : MarkR w S V m Ls) (q : Nat) : MarkR (w.drewN q) S V m Ls := h
end Go.Proofs.YtoglcinfnhhkhabDoor
