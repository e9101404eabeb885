/- The exact laws of functions of lists. -/
import Derived.Test.YtcejbebepjkpnaaFams13
import Derived.Test.YtcejbebepjkpnaaSpec7
namespace Go.Proofs.Ytcejbebepjkpnaa
open Go.ChangeShapes Go.WideShapes Go.ChangeAt Go.RowKit Go.Proofs

/-- the blocks from S on are as they were. -/
def KeepUp (S : Nat) (w w' : World) : Prop := ∀ j, S ≤ j → w'.heap[j]? = w.heap[j]?
theorem Own.up {w w' : World} {C S T : Nat} {v : Value} {xs : List Int} (h : Own w C S v xs) (hk : KeepUp T w w') (hT : T ≤ C) : Own w' C S v xs := by
  obtain ⟨a, cap, rfl, h⟩ := h
  refine ⟨a, cap, rfl, fun hl => ?_⟩
  obtain ⟨b, off, rfl, hB, hs, hc, hf⟩ := h hl
  exact ⟨b, off, rfl, hB, hs, fun i hi => (World.cell?_of_block (a := ⟨b, off + i, none⟩) (hk b (by omega))).trans (hc i hi), fun i hi => (World.frozen?_of_block (a := ⟨b, off + i, none⟩) (hk b (by omega))).trans (hf i hi)⟩
set_option maxHeartbeats 1000000 in
theorem mark_up (v : Value) (xs : List Int) (m : Int) (B S : Nat) (w : World) (hx : Own w B S v xs) (hl : xs.length ≤ 1073741824) (hm0 : 0 ≤ m) (hm : m ≤ 1073741824) :
    Calls Try.prog 19 #[v, .int .i64 m] w fun e w' => e = .returned (.int .i64 (m + xs.length)) ∧ Own w' B S v (marks m xs.length) ∧ Below B w w' ∧ KeepUp S w w' := by
  obtain ⟨a, cap, rfl, ha⟩ := hx
  replace ha := Lib.hid ha
  go_enter Try.func19, Try.ntmps19
  go_wp2
  go_loopw [1, 5] (fun q i wr => ∃ k : Nat, k ≤ xs.length ∧ i = .int .i64 k ∧ q = .int .i64 (m + k) ∧ Hid (Below B w wr) ∧ Hid (KeepUp S w wr) ∧ Hid (∀ b off, a = some ⟨b, off, none⟩ → (∀ j, j < xs.length → wr.frozen? ⟨b, off + j, none⟩ = false ∧ (wr.cell? ⟨b, off + j, none⟩).isSome = true) ∧ ∀ j, j < k → wr.cell? ⟨b, off + j, none⟩ = some (.int .i64 (m + j)))) (fun _ i _ => xs.length - (intOf i).toNat)
  case atStart =>
    refine ⟨0, Nat.zero_le _, rfl, by go_num, Lib.hid (Below.refl _ _), Lib.hid (fun _ _ => rfl), Lib.hid (fun b off e => ⟨fun j hj => ?_, fun j hj => by omega⟩)⟩
    obtain ⟨b', off', e', _, _, hc, hf⟩ := ha.out (by omega)
    rw [e'] at e
    cases e
    exact ⟨hf j hj, by rw [hc j hj]; rfl⟩
  case round =>
    obtain ⟨k, hk, rfl, rfl, hbel, hup, hsame⟩ := hrel
    by_cases hlt : k < xs.length
    · obtain ⟨b1, o1, rfl, s0, s1, c1, f1⟩ := ha.out (by omega)
      obtain ⟨g1, g2⟩ := hsame.out b1 o1 rfl
      have k1 : (0 : Int) ≤ (k : Int) := by omega
      have k2 : (k : Int) < (xs.length : Nat) := by omega
      have e1 := (g1 k hlt).1
      obtain ⟨u, e2⟩ := Option.isSome_iff_exists.1 (g1 k hlt).2
      have hn := Lib.hid (show ∀ b off, some (⟨b1, o1, none⟩ : Addr) = some ⟨b, off, none⟩ → (∀ j, j < xs.length → (wr.setCell ⟨b1, o1 + k, none⟩ (.int .i64 (m + k))).frozen? ⟨b, off + j, none⟩ = false ∧ ((wr.setCell ⟨b1, o1 + k, none⟩ (.int .i64 (m + k))).cell? ⟨b, off + j, none⟩).isSome = true) ∧ ∀ j, j < k + 1 → (wr.setCell ⟨b1, o1 + k, none⟩ (.int .i64 (m + k))).cell? ⟨b, off + j, none⟩ = some (.int .i64 (m + j)) by
        intro b off e
        cases e
        refine ⟨fun j hj => ⟨?_, ?_⟩, fun j hj => ?_⟩
        · rw [World.frozen?_setCell]; exact (g1 j hj).1
        · by_cases e : j = k
          · subst e; rw [World.cell?_setCell_same _ _ _ e2]; rfl
          · rw [World.cell?_setCell_other _ _ _ _ (by intro x; injection x; omega)]; exact (g1 j hj).2
        · by_cases e : j = k
          · subst e; exact World.cell?_setCell_same _ _ _ e2
          · rw [World.cell?_setCell_other _ _ _ _ (by intro x; injection x; omega)]; exact g2 j (by omega))
      have hbel' := Lib.hid (below_setCell hbel.out (p := ⟨b1, o1 + k, none⟩) s0 (.int .i64 (m + k)))
      have hup' := Lib.hid (show KeepUp S w (wr.setCell ⟨b1, o1 + k, none⟩ (.int .i64 (m + k))) from fun j hj => by rw [Below.heap_setCell _ _ _ _ (show j ≠ b1 by omega)]; exact hup.out j hj)
      clear hsame g1 g2 c1 f1
      go_wp2
      go_roundw
      case rel => exact ⟨k + 1, by omega, by go_num, by go_num, hbel', hup', hn⟩
      case measure => simp [intOf]; omega
    · obtain rfl : k = xs.length := by omega
      have hO := Lib.hid (show Own wr B S (.slice a xs.length cap) (marks m xs.length) by
        refine ⟨a, cap, by rw [marks_len], fun hp => ?_⟩
        rw [marks_len] at hp
        obtain ⟨b1, o1, rfl, s0, s1, c1, f1⟩ := ha.out hp
        obtain ⟨g1, g2⟩ := hsame.out b1 o1 rfl
        refine ⟨b1, o1, rfl, s0, s1, fun i hi => ?_, fun i hi => ?_⟩
        · rw [marks_len] at hi; rw [g2 i hi, marks_get m _ i hi]
        · rw [marks_len] at hi; exact (g1 i hi).1)
      clear hsame ha
      go_wp2
      go_ret
      exact ⟨rfl, hO.out, hbel.out, hup.out⟩
theorem same_self (L : List Int) : sameB L L = true := decide_eq_true rfl

theorem ifL_len {b : Bool} {ys : List Int} (h : b = true → ys.length ≤ 1000000) : (ifL b ys).length ≤ 1000000 := by
  unfold ifL
  cases b with
  | false => simp
  | true => exact h rfl
theorem sort_len {ys : List Int} (h : ∀ z ∈ ys, 0 ≤ z ∧ z < 256) : (sortL ys).length ≤ 1000000 := by have := len_small h; omega
theorem law_FamilyLevel_at (n k : Int) (L : List Int) (b : Bool) (hL : L.length ≤ 1000000) (P0 : World → Prop) (hP : ∀ W W', P0 W → Below W.heap.size W W' → P0 W')
    (hi : ∀ W, P0 W → Calls Try.prog 17 #[.int .i64 n, .int .i64 k] W fun e w' => ∃ v, e = .returned (.tuple #[v, .bool b]) ∧ Own w' W.heap.size w'.heap.size v L ∧ Below W.heap.size W w')
    (hs : ∀ W, P0 W → Calls Try.prog 16 #[.int .i64 n, .int .i64 k] W fun e w' => ∃ v, e = .returned (.tuple #[v, .bool b]) ∧ Own w' W.heap.size w'.heap.size v L ∧ Below W.heap.size W w')
    (w : World) (h0 : P0 w) : Calls Try.prog 5 #[.int .i64 n, .int .i64 k] w fun e w' => e = .returned (.bool true) ∧ Below w.heap.size w w' := by
  have hi := Lib.hid hi
  have hs := Lib.hid hs
  have h0 := Lib.hid h0
  have hP := Lib.hid hP
  have hsame : sameB L L = true := decide_eq_true rfl
  have hbb : (b != b) = false := by simp
  go_enter Try.func5, Try.ntmps5
  go_wp2_with fail
  refine (hs.out _ h0.out).mono ?_
  rintro e w1 ⟨v0, rfl, hO0, hb1⟩
  obtain ⟨a0, c0, rfl, _⟩ := id hO0
  have hO0 := Lib.hid hO0
  have h1 := Lib.hid (hP.out _ _ h0.out hb1)
  go_wp2_with fail
  refine (hi.out _ h1.out).mono ?_
  rintro e w2 ⟨v1, rfl, hO1, hb2⟩
  obtain ⟨a1, c1, rfl, _⟩ := id hO1
  have hO1 := Lib.hid hO1
  have hR0 := Lib.hid ((hO0.out.row.below hb2 (Nat.le_refl _)).mono hb2.size)
  go_wp2_with fail
  refine (eq_ints _ _ L L _ _ hO1.out.row hR0.out (by omega) (by omega)).mono ?_
  rintro e w' ⟨rfl, n1, rfl⟩
  go_wp2_with fail
  refine (mark_ints _ L 1 _ _ _ (hO1.out.drewN n1) (by omega) (by omega) (by omega)).mono ?_
  rintro e w3 ⟨rfl, hO3, hb3⟩
  have hO3 := Lib.hid hO3
  go_wp2_with fail
  have hlen : (marks 1 L.length).length ≤ 1000000 := by rw [marks_len]; exact hL
  refine (held_ints _ (marks 1 L.length) 1 _ _ (by have := hO3.out.row; exact this) (by omega) (by omega) (by omega)).mono ?_
  rintro e w' ⟨rfl, rfl⟩
  rw [heldV_marks]
  have hq : (0 : Int) ≤ 1 + (L.length : Nat) := by omega
  have hqq : ((1 : Int) + (L.length : Nat) != 1 + (L.length : Nat)) = false := by simp
  have s1 := hb1.size
  have s2 := hb2.size
  have s3 : w2.heap.size ≤ w3.heap.size := hb3.size
  have hb123 := Lib.hid ((hb1.trans (hb2.mono s1)).trans ((below_drewN (Below.refl _ w2) n1).trans (hb3.mono s1)))
  have h3 := Lib.hid (hP.out _ _ h0.out hb123.out)
  go_wp2_with fail
  refine (hi.out _ h3.out).mono ?_
  rintro e w4 ⟨v4, rfl, hO4, hb4⟩
  obtain ⟨a4, c4, rfl, _⟩ := id hO4
  have hO4 := Lib.hid hO4
  have s4 := hb4.size
  have hR4 := Lib.hid ((((hO0.out.row.below hb2 (Nat.le_refl _)).drewN n1).below hb3 (Nat.le_refl _)).below hb4 (by omega))
  have hO5 := Lib.hid (hO3.out.below hb4 s3)
  go_wp2_with fail
  refine (eq_ints _ _ L L w4.heap.size _ hO4.out.row (hR4.out.mono (by omega)) (by omega) (by omega)).mono ?_
  rintro e w' ⟨rfl, n5, rfl⟩
  go_wp2_with fail
  refine (held_ints _ (marks 1 L.length) 1 _ _ ((hO5.out.drewN n5).row) (by omega) (by omega) (by omega)).mono ?_
  rintro e w' ⟨rfl, rfl⟩
  rw [heldV_marks]
  go_wp2_with fail
  go_ret
  exact ⟨rfl, below_drewN (hb123.out.trans (hb4.mono (by omega))) n5⟩
end Go.Proofs.Ytcejbebepjkpnaa
