/- Scripts: the text is split into its lines; the builder beside the workbench; the scripts of one size. -/
import Derived.Test.YtojfamjgghikoaaGreatDoorEx7
namespace Go.Proofs.YtojfamjgghikoaaGreatDoor
open Go.ChangeShapes Go.WideShapes Go.ChangeAt Go.RowKit Go.Proofs Go.Shelf

set_option maxHeartbeats 2000000 in
theorem split_nl (s : ByteArray) (hs : s.size < 1000000) (w : World) : Calls Tryz.prog 28 #[.string s, .string ⟨#[10]⟩] w fun e w' =>
    e = .returned (.slice (some ⟨w.heap.size, 0, none⟩) (Lib.splitB ⟨#[10]⟩ 0 (Lib.countB s ⟨#[10]⟩) s).length (Lib.countB s ⟨#[10]⟩ + 1)) ∧ w' = w.alloc (.cells (Lib.cellsOf (Lib.splitB ⟨#[10]⟩ 0 (Lib.countB s ⟨#[10]⟩) s) (Lib.countB s ⟨#[10]⟩ + 1)) 9) := by
  have h1 : 1 ≤ (⟨#[10]⟩ : ByteArray).size := Nat.le_refl _
  have hle := Lib.countB_le ⟨#[10]⟩ h1 s.size s (Nat.le_refl _)
  have c := Any.strings_genSplit_core { Tryz.lays146 with } Tryz.strInfo s ⟨#[10]⟩ 0 (-1) (Lib.countB s ⟨#[10]⟩ + 1) w (by omega) h1 (Nat.zero_le _)
    (fun x cs _ => by
      have := Any.strings_Index_one Tryz.lays143 x 10 (w.alloc (.cells cs 9))
      rw [← Lib.index_one] at this
      exact this)
    (by
      refine (Any.strings_Count_one Tryz.lays138 s 10 w).mono fun e w' ⟨he, hw⟩ => ⟨?_, hw⟩
      rw [he]
      show _ = Ending.returned (Value.int .i64 ((Lib.count s.data.toList [10] : Nat) : Int))
      rw [Lib.count_one]
      rfl) (by decide) (by decide) (by rw [if_pos (by decide)]; omega)
  rw [Nat.add_sub_cancel] at c
  obtain ⟨L, hL⟩ : ∃ L, Lib.splitB ⟨#[10]⟩ 0 (Lib.countB s ⟨#[10]⟩) s = L := ⟨_, rfl⟩
  obtain ⟨N, hN⟩ : ∃ N, Lib.countB s ⟨#[10]⟩ + 1 = N := ⟨_, rfl⟩
  rw [hL, hN] at c
  rw [hL, hN]
  replace c := Lib.hid (show Calls Tryz.prog 50 #[.string s, .string ⟨#[10]⟩, .int .i64 (0 : Nat), .int .i64 (-1)] w fun e w' => e = .returned (.slice (some ⟨w.heap.size, 0, none⟩) L.length N) ∧ w' = w.alloc (.cells (Lib.cellsOf L N) 9) from c)
  replace hL := Lib.hid hL
  replace hN := Lib.hid hN
  clear hle h1
  go_enter Tryz.func28, Tryz.ntmps28
  go_wp2_with fail
  refine c.out.mono ?_
  rintro e w' ⟨rfl, rfl⟩
  go_wp2_with fail
  go_ret
  exact ⟨rfl, rfl⟩
/-- the builder that stands in block b has written l. -/
def Wrote (w : World) (b : Nat) (l : List UInt8) : Prop := Lib.IsBuilderF 46 5 b b (Lib.byteCells l) w
theorem Wrote.only {w w' : World} {b c : Nat} {l : List UInt8} {n : Int} {v : Value} (h : Wrote w b l) (ho : Only c w w') (hb : Bench w c n v) (hbc : c ≠ b) : Wrote w' b l := by
  have key : ∀ p, Lib.BuilderAtF 46 5 b b p (Lib.byteCells l) w → Lib.BuilderAtF 46 5 b b p (Lib.byteCells l) w' := fun p ⟨h1, u, h2, h3, h4⟩ =>
    ⟨h1, u, (ho.block b (Array.getElem?_eq_some_iff.1 h2).1 (by intro e; injection e with e; exact hbc e.symm)).trans h2, h3.kept ho (.inr (Lib.ownBlock_neF h3 hb (by decide))), h4⟩
  exact h.elim (fun x => .inl (key _ x)) (fun x => .inr (key _ x))
theorem write_at (b : Nat) (l : List UInt8) (s : ByteArray) (w : World) (h : Wrote w b l) (hl : l.length + s.size ≤ 100000) (hb : b ≤ w.heap.size) :
    Calls Tryz.prog 29 #[.pointer (some ⟨b, 0, none⟩), .string s] w fun e w' => e = .returned (.tuple #[.int .i64 s.size, .nilIface]) ∧ Wrote w' b (l ++ s.data.toList) ∧ Below b w w' ∧ Lib.OthersKept 5 (some b) w w' := by
  refine (Any.Builder_WriteString_k laysWS Tryz.Builder_Extra_156 b b (Lib.byteCells l) s w h (by rw [Lib.byteCells_length]; omega) hb).mono ?_
  rintro e w' ⟨rfl, h1, h2, h3⟩
  refine ⟨rfl, ?_, h2, h3⟩
  have : Lib.byteCells (l ++ s.data.toList) = Lib.byteCells l ++ Lib.strCells s := by rw [Lib.byteCells_append]; rfl
  unfold Wrote
  rw [this]
  exact .inr h1
/-- a script of three lines. -/
def scL (d k : Nat) : ByteArray := ⟨#[112, 111, 105, 110, 116, 115, 32, dgB d, 10, 108, 101, 118, 101, 108, 32, dgB k, 10, 115, 104, 111, 119, 10]⟩
theorem split_dec : ∀ d k : Fin 10, Lib.countB (scL d.val k.val) ⟨#[10]⟩ = 3 ∧ Lib.splitB ⟨#[10]⟩ 0 3 (scL d.val k.val) = [lnP d.val, lnL k.val, lnS, ⟨#[]⟩] := by decide +kernel
end Go.Proofs.YtojfamjgghikoaaGreatDoor
