/- The exact laws of functions of lists. -/
import Derived.Test.YthljimmhgpbmbaaFams13
import Derived.Test.YthljimmhgpbmbaaAllSp
namespace Go.Proofs.Ythljimmhgpbmbaa
open Go.ChangeShapes Go.WideShapes Go.ChangeAt Go.RowKit Go.Proofs

/-- the blocks from S on are as they were. -/
def KeepUp (S : Nat) (w w' : World) : Prop := ∀ j, S ≤ j → w'.heap[j]? = w.heap[j]?
theorem Own.up {w w' : World} {C S T : Nat} {v : Value} {xs : List Int} (h : Own w C S v xs) (hk : KeepUp T w w') (hT : T ≤ C) : Own w' C S v xs := by
  obtain ⟨a, cap, rfl, h⟩ := h
  refine ⟨a, cap, rfl, fun hl => ?_⟩
  obtain ⟨b, off, rfl, hB, hs, hc, hf⟩ := h hl
  exact ⟨b, off, rfl, hB, hs, fun i hi => (World.cell?_of_block (a := ⟨b, off + i, none⟩) (hk b (by omega))).trans (hc i hi), fun i hi => (World.frozen?_of_block (a := ⟨b, off + i, none⟩) (hk b (by omega))).trans (hf i hi)⟩
set_option maxHeartbeats 1000000 in
theorem mark_up (v : Value) (xs : List Int) (m : Int) (B S : Nat) (w : World) (hx : Own w B S v xs) (hl : xs.length ≤ 1073741824) (hm0 : 0 ≤ m) (hm : m ≤ 1073741824) :
    Calls Try.prog 27 #[v, .int .i64 m] w fun e w' => e = .returned (.int .i64 (m + xs.length)) ∧ Own w' B S v (marks m xs.length) ∧ Below B w w' ∧ KeepUp S w w' := by
  obtain ⟨a, cap, rfl, ha⟩ := hx
  replace ha := Lib.hid ha
  go_enter Try.func27, Try.ntmps27
  go_wp2
  go_loopw [1, 5] (fun q i wr => ∃ k : Nat, k ≤ xs.length ∧ i = .int .i64 k ∧ q = .int .i64 (m + k) ∧ Hid (Below B w wr) ∧ Hid (KeepUp S w wr) ∧ Hid (∀ b off, a = some ⟨b, off, none⟩ → (∀ j, j < xs.length → wr.frozen? ⟨b, off + j, none⟩ = false ∧ (wr.cell? ⟨b, off + j, none⟩).isSome = true) ∧ ∀ j, j < k → wr.cell? ⟨b, off + j, none⟩ = some (.int .i64 (m + j)))) (fun _ i _ => xs.length - (intOf i).toNat)
  case atStart =>
    refine ⟨0, Nat.zero_le _, rfl, by go_num, Lib.hid (Below.refl _ _), Lib.hid (fun _ _ => rfl), Lib.hid (fun b off e => ⟨fun j hj => ?_, fun j hj => by omega⟩)⟩
    obtain ⟨b', off', e', _, _, hc, hf⟩ := ha.out (by omega)
    rw [e'] at e
    cases e
    exact ⟨hf j hj, by rw [hc j hj]; rfl⟩
  case round =>
    obtain ⟨k, hk, rfl, rfl, hbel, hup, hsame⟩ := hrel
    by_cases hlt : k < xs.length
    · obtain ⟨b1, o1, rfl, s0, s1, c1, f1⟩ := ha.out (by omega)
      obtain ⟨g1, g2⟩ := hsame.out b1 o1 rfl
      have k1 : (0 : Int) ≤ (k : Int) := by omega
      have k2 : (k : Int) < (xs.length : Nat) := by omega
      have e1 := (g1 k hlt).1
      obtain ⟨u, e2⟩ := Option.isSome_iff_exists.1 (g1 k hlt).2
      have hn := Lib.hid (show ∀ b off, some (⟨b1, o1, none⟩ : Addr) = some ⟨b, off, none⟩ → (∀ j, j < xs.length → (wr.setCell ⟨b1, o1 + k, none⟩ (.int .i64 (m + k))).frozen? ⟨b, off + j, none⟩ = false ∧ ((wr.setCell ⟨b1, o1 + k, none⟩ (.int .i64 (m + k))).cell? ⟨b, off + j, none⟩).isSome = true) ∧ ∀ j, j < k + 1 → (wr.setCell ⟨b1, o1 + k, none⟩ (.int .i64 (m + k))).cell? ⟨b, off + j, none⟩ = some (.int .i64 (m + j)) by
        intro b off e
        cases e
        refine ⟨fun j hj => ⟨?_, ?_⟩, fun j hj => ?_⟩
        · rw [World.frozen?_setCell]; exact (g1 j hj).1
        · by_cases e : j = k
          · subst e; rw [World.cell?_setCell_same _ _ _ e2]; rfl
          · rw [World.cell?_setCell_other _ _ _ _ (by intro x; injection x; omega)]; exact (g1 j hj).2
        · by_cases e : j = k
          · subst e; exact World.cell?_setCell_same _ _ _ e2
          · rw [World.cell?_setCell_other _ _ _ _ (by intro x; injection x; omega)]; exact g2 j (by omega))
      have hbel' := Lib.hid (below_setCell hbel.out (p := ⟨b1, o1 + k, none⟩) s0 (.int .i64 (m + k)))
      have hup' := Lib.hid (show KeepUp S w (wr.setCell ⟨b1, o1 + k, none⟩ (.int .i64 (m + k))) from fun j hj => by rw [Below.heap_setCell _ _ _ _ (show j ≠ b1 by omega)]; exact hup.out j hj)
      clear hsame g1 g2 c1 f1
      go_wp2
      go_roundw
      case rel => exact ⟨k + 1, by omega, by go_num, by go_num, hbel', hup', hn⟩
      case measure => simp [intOf]; omega
    · obtain rfl : k = xs.length := by omega
      have hO := Lib.hid (show Own wr B S (.slice a xs.length cap) (marks m xs.length) by
        refine ⟨a, cap, by rw [marks_len], fun hp => ?_⟩
        rw [marks_len] at hp
        obtain ⟨b1, o1, rfl, s0, s1, c1, f1⟩ := ha.out hp
        obtain ⟨g1, g2⟩ := hsame.out b1 o1 rfl
        refine ⟨b1, o1, rfl, s0, s1, fun i hi => ?_, fun i hi => ?_⟩
        · rw [marks_len] at hi; rw [g2 i hi, marks_get m _ i hi]
        · rw [marks_len] at hi; exact (g1 i hi).1)
      clear hsame ha
      go_wp2
      go_ret
      exact ⟨rfl, hO.out, hbel.out, hup.out⟩
theorem same_self (L : List Int) : sameB L L = true := decide_eq_true rfl

theorem ifL_len {b : Bool} {ys : List Int} (h : b = true → ys.length ≤ 1000000) : (ifL b ys).length ≤ 1000000 := by
  unfold ifL
  cases b with
  | false => simp
  | true => exact h rfl
theorem sort_len {ys : List Int} (h : ∀ z ∈ ys, 0 ≤ z ∧ z < 256) : (sortL ys).length ≤ 1000000 := by have := len_small h; omega
end Go.Proofs.Ythljimmhgpbmbaa
