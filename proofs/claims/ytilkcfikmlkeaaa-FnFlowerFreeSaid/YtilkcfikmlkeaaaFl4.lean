/- firstFlower, readFlower, FlowerOf, FlowerFree: the program. -/
import Derived.Test.YtilkcfikmlkeaaaFl3
namespace Go.Proofs.Ytilkcfikmlkeaaa
open Go.ChangeShapes Go.WideShapes Go.ChangeAt Go.RowKit Go.Proofs

theorem fam_cells7 {w : World} {c : Nat} {lv u : Value} (h : w.heap[c]? = some (.cells #[lv, u] 38 (0, 0))) : w.cell? ⟨c, 0, none⟩ = some lv ∧ w.cell? ⟨c, 1, none⟩ = some u :=
  ⟨by rw [cell_of_row w c 0 _ 38 (0, 0) h]; rfl, by rw [cell_of_row w c 1 _ 38 (0, 0) h]; rfl⟩
/-- what firstFlower leaves. -/
def LeavesPost (R : List Int) (w : World) (e : Ending) (w' : World) : Prop := ∃ v, e = .returned v ∧ SetL w' w.heap.size v R ∧ Below w.heap.size w w'
theorem RRow.alloc {w : World} {S : Nat} {v : Value} {xs : List Int} (h : RRow w S v xs) (hS : S ≤ w.heap.size) (o : Obj) : RRow (w.alloc o) S v xs := h.below ((Below.refl w.heap.size w).alloc (Nat.le_refl _) o) hS
set_option maxRecDepth 20000 in
set_option maxHeartbeats 4000000 in
theorem first_at (lv : Value) (xs : List Int) (kk S : Nat) (w : World) (hx : RRow w S lv xs) (hS : S ≤ w.heap.size) (hkk : kk ≤ 4) (hl : xs.length ≤ 256) (hz : ∀ z ∈ xs, 0 ≤ z ∧ z < 256) :
    Calls Try.prog 21 #[.agg #[lv, (Value.func (.func 45) #[] #[])], .int .i64 (kk : Nat)] w (LeavesPost ((srch pkB kk xs []).getD []) w) := by
  have hmf := mkfunc
  obtain ⟨a, cap, rfl, _⟩ := id hx
  obtain ⟨W0, hW0⟩ : ∃ W0, w.alloc (.cells #[.slice a xs.length cap, (Value.func (.func 45) #[] #[])] 38) = W0 := ⟨_, rfl⟩
  have s0 : W0.heap.size = w.heap.size + 1 := by rw [← hW0]; simp
  have b0 : Below w.heap.size w W0 := by rw [← hW0]; exact (Below.refl w.heap.size w).alloc (Nat.le_refl _) _
  have n0 : W0.heap[w.heap.size]? = some (.cells #[.slice a xs.length cap, (Value.func (.func 45) #[] #[])] 38 (0, 0)) := by rw [← hW0]; exact new_cell w _ _
  obtain ⟨W1, hW1⟩ : ∃ W1, W0.alloc (.cells #[.int .i64 (kk : Nat)] 3) = W1 := ⟨_, rfl⟩
  have s1 : W1.heap.size = w.heap.size + 1 + 1 := by rw [← hW1, World.size_alloc]; omega
  have b1 : Below W0.heap.size W0 W1 := by rw [← hW1]; exact (Below.refl W0.heap.size W0).alloc (Nat.le_refl _) _
  have n1 : W1.heap[w.heap.size + 1]? = some (.cells #[.int .i64 (kk : Nat)] 3 (0, 0)) := by rw [← hW1, ← s0]; exact new_cell W0 _ _
  obtain ⟨W2, hW2⟩ : ∃ W2, W1.alloc (.cells #[] 42) = W2 := ⟨_, rfl⟩
  have s2 : W2.heap.size = w.heap.size + 1 + 1 + 1 := by rw [← hW2, World.size_alloc]; omega
  have b2 : Below W1.heap.size W1 W2 := by rw [← hW2]; exact (Below.refl W1.heap.size W1).alloc (Nat.le_refl _) _
  have n2 : W2.heap[w.heap.size + 1 + 1]? = some (.cells #[] 42 (0, 0)) := by rw [← hW2, ← s1]; exact new_cell W1 _ _
  obtain ⟨W3, hW3⟩ : ∃ W3, W2.alloc (.cells #[.slice (some ⟨w.heap.size + 1 + 1, 0, none⟩) 0 0] 30) = W3 := ⟨_, rfl⟩
  have s3 : W3.heap.size = w.heap.size + 1 + 1 + 1 + 1 := by rw [← hW3, World.size_alloc]; omega
  have b3 : Below W2.heap.size W2 W3 := by rw [← hW3]; exact (Below.refl W2.heap.size W2).alloc (Nat.le_refl _) _
  have n3 : W3.heap[w.heap.size + 1 + 1 + 1]? = some (.cells #[.slice (some ⟨w.heap.size + 1 + 1, 0, none⟩) 0 0] 30 (0, 0)) := by rw [← hW3, ← s2]; exact new_cell W2 _ _
  obtain ⟨W4, hW4⟩ : ∃ W4, W3.alloc (.cells #[.func (.func 31) #[] #[.pointer (some ⟨w.heap.size + 1 + 1 + 1, 0, none⟩), .pointer (some ⟨w.heap.size + 1, 0, none⟩), .pointer (some ⟨w.heap.size + 1 + 1 + 1 + 1, 0, none⟩)]] 61) = W4 := ⟨_, rfl⟩
  have s4 : W4.heap.size = w.heap.size + 1 + 1 + 1 + 1 + 1 := by rw [← hW4, World.size_alloc]; omega
  have b4 : Below W3.heap.size W3 W4 := by rw [← hW4]; exact (Below.refl W3.heap.size W3).alloc (Nat.le_refl _) _
  have n4 : W4.heap[w.heap.size + 1 + 1 + 1 + 1]? = some (.cells #[fcV (w.heap.size + 1 + 1 + 1) (w.heap.size + 1) (w.heap.size + 1 + 1 + 1 + 1)] 61 (0, 0)) := by rw [← hW4, ← s3]; exact new_cell W3 _ _
  have b5 : Below w.heap.size w W4 := (((b0.trans (b1.mono (by omega))).trans (b2.mono (by omega))).trans (b3.mono (by omega))).trans (b4.mono (by omega))
  have e1 : W4.heap[w.heap.size + 1]? = _ := (b4.block _ (by omega)).trans ((b3.block _ (by omega)).trans ((b2.block _ (by omega)).trans n1))
  have e2 : W4.heap[w.heap.size + 1 + 1]? = _ := (b4.block _ (by omega)).trans ((b3.block _ (by omega)).trans n2)
  have e3 : W4.heap[w.heap.size + 1 + 1 + 1]? = _ := (b4.block _ (by omega)).trans n3
  have e0 : W4.heap[w.heap.size]? = _ := (b4.block _ (by omega)).trans ((b3.block _ (by omega)).trans ((b2.block _ (by omega)).trans ((b1.block _ (by omega)).trans n0)))
  have hV : FlV W4 w.heap.size (w.heap.size + 1 + 1 + 1) (w.heap.size + 1) (w.heap.size + 1 + 1 + 1 + 1) kk (.slice (some ⟨w.heap.size + 1 + 1, 0, none⟩) 0 0) [] :=
    ⟨by omega, by omega, e1, n4, e3, SetL.mk (xs := []) (by omega) e2 (by simp) (by simp) (by simp) (fun j hj => by simp at hj)⟩
  have hco := compl_at w.heap.size (w.heap.size + 1 + 1 + 1) (w.heap.size + 1) (w.heap.size + 1 + 1 + 1 + 1) kk hkk kk xs [] (.slice a xs.length cap) S W4 (by simp) ⟨_, hV⟩ (hx.below b5 hS) hS hl hz (by simp)
  obtain ⟨o, ho⟩ : ∃ o, srch pkB kk xs [] = o := ⟨_, rfl⟩
  rw [ho] at hco ⊢
  obtain ⟨l5, q5, c5, f5⟩ := hV.cells
  obtain ⟨p0, p1⟩ := fam_cells7 e0
  replace c5 : W4.cell? ⟨w.heap.size + 1 + 1 + 1 + 1, 0, none⟩ = some (.func (.func 31) #[] #[.pointer (some ⟨w.heap.size + 1 + 1 + 1, 0, none⟩), .pointer (some ⟨w.heap.size + 1, 0, none⟩), .pointer (some ⟨w.heap.size + 1 + 1 + 1 + 1, 0, none⟩)]) := c5
  rw [← hW3, ← hW2, ← hW1, ← hW0] at hW4
  replace ho := Lib.hid ho
  replace hco := Lib.hid hco
  replace hV := Lib.hid hV
  replace hW4 := Lib.hid hW4
  replace b5 := Lib.hid b5
  clear hW0 hW1 hW2 hW3 b0 b1 b2 b3 b4 n0 n1 n2 n3 n4 e0 e1 e2 e3 s0 s1 s2 s3 s4 hx hz
  go_enter Try.func21, Try.ntmps21
  go_wp2_with fail
  rw [hW4.out]
  refine hco.out.mono ?_
  rintro e w6 ⟨rfl, ⟨v6, hV6⟩, hb6⟩
  obtain ⟨a6, c6, rfl⟩ := hV6.own.form
  obtain ⟨l6, q6, c6', f6⟩ := hV6.cells
  have hown := Lib.hid hV6.own
  replace hb6 := Lib.hid (b5.out.trans hb6)
  replace hV6 := Lib.hid hV6
  go_wp2_with fail
  go_ret
  exact ⟨_, rfl, hown.out, hb6.out⟩
end Go.Proofs.Ytilkcfikmlkeaaa
