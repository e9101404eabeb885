/- Linked sets: what a pointer leads to, their number. -/
import Derived.Test.YtoglcinfnhhkhabDoorCp1
namespace Go.Proofs.YtoglcinfnhhkhabDoor
open Go.ChangeShapes Go.WideShapes Go.ChangeAt Go.RowKit Go.Proofs

/-- v leads to links with the sets L. -/
def LinkV (w : World) : List Int → Value → Prop
  | [], v => v = .pointer none
  | s :: L, v => ∃ (b : Nat) (nx : Value), v = .pointer (some ⟨b, 0, none⟩) ∧ w.heap[b]? = some (.cells #[.int .u64 s, nx] 46 (0, 0)) ∧ LinkV w L nx
theorem LinkV.kept {w w' : World} (hk : ∀ (b : Nat) (cs : Array Value), w.heap[b]? = some (.cells cs 46 (0, 0)) → w'.heap[b]? = some (.cells cs 46 (0, 0))) : ∀ {L : List Int} {v : Value}, LinkV w L v → LinkV w' L v
  | [], _, h => h
  | _ :: _, _, ⟨b, nx, h1, h2, h3⟩ => ⟨b, nx, h1, hk b _ h2, LinkV.kept hk h3⟩
theorem LinkV.below {w w' : World} {L : List Int} {v : Value} (h : LinkV w L v) (hb : Below w.heap.size w w') : LinkV w' L v :=
  LinkV.kept (fun b _ hc => by rw [hb.block b (by have := (Array.getElem?_eq_some_iff.1 hc).1; omega)]; exact hc) h
theorem LinkV.alloc {w : World} {L : List Int} {v : Value} (h : LinkV w L v) (o : Obj) : LinkV (w.alloc o) L v := h.below ((Below.refl _ w).alloc (Nat.le_refl _) o)
theorem link_cells {w : World} {b : Nat} {s nx : Value} (h : w.heap[b]? = some (.cells #[s, nx] 46 (0, 0))) : w.cell? ⟨b, 0, none⟩ = some s ∧ w.cell? ⟨b, 1, none⟩ = some nx :=
  ⟨by rw [cell_of_row w b 0 _ 46 (0, 0) h]; rfl, by rw [cell_of_row w b 1 _ 46 (0, 0) h]; rfl⟩
theorem length_at (L : List Int) (v : Value) (w : World) (h : LinkV w L v) (hl : L.length ≤ 1000) : Calls Tryd.prog 27 #[v] w fun e w' => e = .returned (.int .i64 (L.length : Nat)) ∧ w = w' := by
  obtain ⟨N, hN⟩ : ∃ N, L.length = N := ⟨_, rfl⟩
  rw [hN] at hl ⊢
  have h0 := Lib.hid (show ∃ L' : List Int, LinkV w L' v ∧ 0 + L'.length = N from ⟨L, h, by omega⟩)
  clear h hN
  go_enter Tryd.func27, Tryd.ntmps27
  go_wp2_with fail
  go_loop [0, 3] (fun p c => ∃ k : Nat, k ≤ N ∧ c = .int .i64 (k : Nat) ∧ Hid (∃ L' : List Int, LinkV w L' p ∧ k + L'.length = N)) (fun _ c => N - (intOf c).toNat)
  case atStart => exact ⟨0, by omega, rfl, h0⟩
  case round =>
    obtain ⟨k, hk, rfl, hL⟩ := hrel
    obtain ⟨L', h1, h2⟩ := hL.out
    rcases L' with _ | ⟨s, T⟩
    · have hp : u0 = .pointer none := h1
      subst hp
      obtain rfl : k = N := by simpa using h2
      clear hL h1 h2
      go_wp2_with fail
      go_ret
      exact ⟨rfl, rfl⟩
    · obtain ⟨b, nx, rfl, hc, hT⟩ := h1
      obtain ⟨c0, c1⟩ := link_cells hc
      rw [List.length_cons] at h2
      have hn := Lib.hid (show ∃ L' : List Int, LinkV w L' nx ∧ (k + 1) + L'.length = N from ⟨T, hT, by omega⟩)
      have hkl : k < N := by omega
      clear hL hc hT h2
      go_wp2_with fail
      go_round
      case rel => exact ⟨k + 1, by omega, by first | rfl | go_num, hn⟩
      case measure => simp [intOf]; omega
end Go.Proofs.YtoglcinfnhhkhabDoor
