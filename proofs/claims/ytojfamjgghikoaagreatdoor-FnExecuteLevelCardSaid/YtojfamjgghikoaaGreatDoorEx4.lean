/- Scripts: what is told of the family. -/
import Derived.Test.YtojfamjgghikoaaGreatDoorEx3
namespace Go.Proofs.YtojfamjgghikoaaGreatDoor
open Go.ChangeShapes Go.WideShapes Go.ChangeAt Go.RowKit Go.Proofs Go.Shelf

theorem wb_show (b : Nat) (n : Int) (v : Value) (xs : List Int) (w : World) (hB : Bench w b n v) (hx : Row w w.heap.size v xs) (hl : xs.length ≤ 1000) (h : ∀ x ∈ xs, 0 ≤ x ∧ x < 100) :
    Calls Tryz.prog 97 #[.pointer (some ⟨b, 0, none⟩)] w fun e w' => e = .returned (.string ⟨(spB xs).toArray⟩) ∧ Below w.heap.size w w' := by
  obtain ⟨c0, c1, f0, f1⟩ := hB.cells
  have hls := Lib.hid (listed_at v xs w.heap.size w hx (Nat.le_refl _) hl h)
  obtain ⟨a, c, rfl, _⟩ := id hx
  replace hB := Lib.hid hB
  replace hx := Lib.hid hx
  replace h := Lib.hid h
  go_enter Tryz.func97, Tryz.ntmps97
  go_wp2_with fail
  refine hls.out.mono ?_
  rintro e w1 ⟨rfl, hb⟩
  replace hb := Lib.hid hb
  go_wp2_with fail
  go_ret
  exact ⟨rfl, hb.out⟩
theorem wb_count (b : Nat) (n : Int) (a : Option Addr) (l c : Nat) (w : World) (hB : Bench w b n (.slice a l c)) (hl : l < 100) :
    Calls Tryz.prog 31 #[.pointer (some ⟨b, 0, none⟩)] w fun e w' => e = .returned (.string ⟨(Lib.decDigits l).toArray⟩) ∧ w' = w := by
  obtain ⟨c0, c1, f0, f1⟩ := hB.cells
  have hi := Lib.hid (fun W => itoa_small l hl W)
  replace hB := Lib.hid hB
  go_enter Tryz.func31, Tryz.ntmps31
  go_wp2_with (go_at_call 58; (with_reducible refine (hi.out _).mono ?_); rintro e w' ⟨rfl, rfl⟩)
  go_ret
  exact ⟨rfl, rfl⟩
end Go.Proofs.YtojfamjgghikoaaGreatDoor
