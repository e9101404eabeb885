/- Scripts: the library's functions as chapter 10 calls them; numbers; what does not fail; points. -/
import Derived.Test.YtojfamjgghikoaaGreatDoorLay
import Derived.Test.YtojfamjgghikoaaGreatDoorAppend
import Derived.Test.YtojfamjgghikoaaGreatDoorAllD
namespace Go.Proofs.YtojfamjgghikoaaGreatDoor
open Go.ChangeShapes Go.WideShapes Go.ChangeAt Go.RowKit Go.Proofs Go.Shelf

theorem laysWS : Lays.n166 Tryz.prog Tryz.lays156_ren := { Tryz.lays156 with }
theorem itoa_small (i : Nat) (hi : i < 100) (w : World) : Calls Tryz.prog 58 #[.int .i64 (i : Nat)] w fun e w' => e = .returned (.string ⟨(Lib.decDigits i).toArray⟩) ∧ w' = w := Any.strconv_Itoa_small Tryz.lays171 i hi w
theorem bytes_below (s : ByteArray) (w : World) : Below w.heap.size w (Lib.bytesWorld w 5 s) := by
  exact ⟨rfl, rfl, rfl, by rw [Lib.bytesWorld_size]; omega, fun i hi => Lib.bytesWorld_at_old w _ s i hi⟩
theorem number_ok (s : ByteArray) (u : Nat) (h : Lib.parseUintB 64 s.data.toList = .ok u) (h3 : s.size ≤ 3) (hu : u < 1000) (w : World) :
    Calls Tryz.prog 141 #[.string s] w fun e w' => e = .returned (.int .i64 (u : Nat)) ∧ Below w.heap.size w w' := by
  have hp := Lib.hid (Any.strconv_ParseUint_10_at0_ok Tryz.laysPu14 s (by omega) u h w)
  have hs : ¬ (3 : Int) < (s.size : Nat) := by omega
  have hw64 : IntKind.i64.wrap (u : Nat) = (u : Nat) := by rw [IntKind.wrap_i64]; omega
  replace h := Lib.hid h
  go_enter Tryz.func141, Tryz.ntmps141
  go_wp2_with fail
  refine hp.out.mono ?_
  rintro e w1 ⟨rfl, hw⟩
  have hb : Below w.heap.size w w1 := by
    rcases hw with rfl | rfl
    · exact Below.refl _ _
    · exact bytes_below s w
  replace hb := Lib.hid hb
  clear hw
  go_wp2_with fail
  go_ret
  exact ⟨rfl, hb.out⟩
theorem must_int (n : Int) (w : World) : Calls Tryz.prog 142 #[.int .i64 n, .bool true] w fun e w' => e = .returned (.int .i64 n) ∧ w = w' := by
  go_enter Tryz.func142, Tryz.ntmps142
  go_wp2_with fail
  go_ret
  exact ⟨rfl, rfl⟩
theorem must_list (a : Option Addr) (l c : Nat) (w : World) : Calls Tryz.prog 149 #[.slice a l c, .bool true] w fun e w' => e = .returned (.slice a l c) ∧ w = w' := by
  go_enter Tryz.func149, Tryz.ntmps149
  go_wp2_with fail
  go_ret
  exact ⟨rfl, rfl⟩
/-- the workbench: a box of the number of points and the list. -/
def Bench (w : World) (b : Nat) (n : Int) (v : Value) : Prop := w.heap[b]? = some (.cells #[.int .i64 n, v] 43 (0, 0))
theorem Bench.cells {w : World} {b : Nat} {n : Int} {v : Value} (h : Bench w b n v) : w.cell? ⟨b, 0, none⟩ = some (.int .i64 n) ∧ w.cell? ⟨b, 1, none⟩ = some v ∧ w.frozen? ⟨b, 0, none⟩ = false ∧ w.frozen? ⟨b, 1, none⟩ = false :=
  ⟨by rw [cell_of_row w b 0 _ 43 (0, 0) h]; rfl, by rw [cell_of_row w b 1 _ 43 (0, 0) h]; rfl, frozen_of h _, frozen_of h _⟩
theorem Bench.lt {w : World} {b : Nat} {n : Int} {v : Value} (h : Bench w b n v) : b < w.heap.size := (Array.getElem?_eq_some_iff.1 h).1
theorem Bench.below {w w' : World} {b B : Nat} {n : Int} {v : Value} (h : Bench w b n v) (hb : Below B w w') (hB : b < B) : Bench w' b n v := (hb.block b hB).trans h
theorem Bench.set0 {w : World} {b : Nat} {n : Int} {v : Value} (h : Bench w b n v) (n' : Int) : Bench (w.setCell ⟨b, 0, none⟩ (.int .i64 n')) b n' v := by
  have := heap_setCell_same w b 0 _ 43 (.int .i64 n') h
  exact this
theorem Bench.set1 {w : World} {b : Nat} {n : Int} {v : Value} (h : Bench w b n v) (v' : Value) : Bench (w.setCell ⟨b, 1, none⟩ v') b n v' := by
  have := heap_setCell_same w b 1 _ 43 v' h
  exact this
theorem only_cellB {b o : Nat} {w W : World} (h : Only b w W) (v : Value) : Only b w (W.setCell ⟨b, o, none⟩ v) :=
  ⟨h.os, h.tape, h.output, by rw [World.size_setCell]; exact h.size, fun i hi hne => (Below.heap_setCell _ _ _ _ (by show i ≠ b; intro e; exact hne (by rw [e]))).trans (h.block i hi hne)⟩
theorem wb_points (b : Nat) (n0 : Int) (v0 : Value) (s : ByteArray) (u : Nat) (w : World) (hB : Bench w b n0 v0) (h : Lib.parseUintB 64 s.data.toList = .ok u) (h3 : s.size ≤ 3) (h1 : 1 ≤ u) (h8 : u ≤ 8) :
    Calls Tryz.prog 84 #[.pointer (some ⟨b, 0, none⟩), .string s] w fun e w' => e = .returned (.string ⟨#[111, 107]⟩) ∧ Bench w' b (u : Nat) (.slice none 0 0) ∧ Only b w w' := by
  have hn := Lib.hid (number_ok s u h h3 (by omega) w)
  have hpt := fun W => pts_in (u : Nat) W
  rw [ptsB_mk (by omega) (by omega)] at hpt
  have hm := fun W => must_int (u : Nat) W
  have hlt := hB.lt
  replace hpt := Lib.hid hpt
  replace hm := Lib.hid hm
  replace h := Lib.hid h
  replace hB := Lib.hid hB
  go_enter Tryz.func84, Tryz.ntmps84
  go_wp2_with fail
  refine hn.out.mono ?_
  rintro e w1 ⟨rfl, hb⟩
  have hB1 := hB.out.below hb hlt
  obtain ⟨c0, c1, f0, f1⟩ := hB1.cells
  have hO := Lib.hid (only_cellB (o := 1) (only_cellB (o := 0) (Only.of_below (r := b) hb (Nat.le_refl _)) (.int .i64 (u : Nat))) (.slice none 0 0))
  have hB2 := Lib.hid ((hB1.set0 (u : Nat)).set1 (.slice none 0 0))
  replace hB1 := Lib.hid hB1
  clear hb
  go_wp2_with (first | (go_at_call 63; (with_reducible refine (hpt.out _).mono ?_); rintro e w' ⟨rfl, rfl⟩) | (go_at_call 142; (with_reducible refine (hm.out _).mono ?_); rintro e w' ⟨rfl, rfl⟩))
  go_ret
  exact ⟨rfl, hB2.out, hO.out⟩
end Go.Proofs.YtojfamjgghikoaaGreatDoor
