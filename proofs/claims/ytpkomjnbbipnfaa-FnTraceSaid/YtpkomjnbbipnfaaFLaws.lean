/- The exact laws of functions of lists. -/
import Derived.Test.YtpkomjnbbipnfaaFams13
import Derived.Test.YtpkomjnbbipnfaaSpec7
namespace Go.Proofs.Ytpkomjnbbipnfaa
open Go.ChangeShapes Go.WideShapes Go.ChangeAt Go.RowKit Go.Proofs

/-- the blocks from S on are as they were. -/
def KeepUp (S : Nat) (w w' : World) : Prop := ∀ j, S ≤ j → w'.heap[j]? = w.heap[j]?
theorem Own.up {w w' : World} {C S T : Nat} {v : Value} {xs : List Int} (h : Own w C S v xs) (hk : KeepUp T w w') (hT : T ≤ C) : Own w' C S v xs := by
  obtain ⟨a, cap, rfl, h⟩ := h
  refine ⟨a, cap, rfl, fun hl => ?_⟩
  obtain ⟨b, off, rfl, hB, hs, hc, hf⟩ := h hl
  exact ⟨b, off, rfl, hB, hs, fun i hi => (World.cell?_of_block (a := ⟨b, off + i, none⟩) (hk b (by omega))).trans (hc i hi), fun i hi => (World.frozen?_of_block (a := ⟨b, off + i, none⟩) (hk b (by omega))).trans (hf i hi)⟩
set_option maxHeartbeats 1000000 in
theorem mark_up (v : Value) (xs : List Int) (m : Int) (B S : Nat) (w : World) (hx : Own w B S v xs) (hl : xs.length ≤ 1073741824) (hm0 : 0 ≤ m) (hm : m ≤ 1073741824) :
    Calls Try.prog 29 #[v, .int .i64 m] w fun e w' => e = .returned (.int .i64 (m + xs.length)) ∧ Own w' B S v (marks m xs.length) ∧ Below B w w' ∧ KeepUp S w w' := by
  obtain ⟨a, cap, rfl, ha⟩ := hx
  replace ha := Lib.hid ha
  go_enter Try.func29, Try.ntmps29
  go_wp2
  go_loopw [1, 5] (fun q i wr => ∃ k : Nat, k ≤ xs.length ∧ i = .int .i64 k ∧ q = .int .i64 (m + k) ∧ Hid (Below B w wr) ∧ Hid (KeepUp S w wr) ∧ Hid (∀ b off, a = some ⟨b, off, none⟩ → (∀ j, j < xs.length → wr.frozen? ⟨b, off + j, none⟩ = false ∧ (wr.cell? ⟨b, off + j, none⟩).isSome = true) ∧ ∀ j, j < k → wr.cell? ⟨b, off + j, none⟩ = some (.int .i64 (m + j)))) (fun _ i _ => xs.length - (intOf i).toNat)
  case atStart =>
    refine ⟨0, Nat.zero_le _, rfl, by go_num, Lib.hid (Below.refl _ _), Lib.hid (fun _ _ => rfl), Lib.hid (fun b off e => ⟨fun j hj => ?_, fun j hj => by omega⟩)⟩
    obtain ⟨b', off', e', _, _, hc, hf⟩ := ha.out (by omega)
    rw [e'] at e
    cases e
    exact ⟨hf j hj, by rw [hc j hj]; rfl⟩
  case round =>
    obtain ⟨k, hk, rfl, rfl, hbel, hup, hsame⟩ := hrel
    by_cases hlt : k < xs.length
    · obtain ⟨b1, o1, rfl, s0, s1, c1, f1⟩ := ha.out (by omega)
      obtain ⟨g1, g2⟩ := hsame.out b1 o1 rfl
      have k1 : (0 : Int) ≤ (k : Int) := by omega
      have k2 : (k : Int) < (xs.length : Nat) := by omega
      have e1 := (g1 k hlt).1
      obtain ⟨u, e2⟩ := Option.isSome_iff_exists.1 (g1 k hlt).2
      have hn := Lib.hid (show ∀ b off, some (⟨b1, o1, none⟩ : Addr) = some ⟨b, off, none⟩ → (∀ j, j < xs.length → (wr.setCell ⟨b1, o1 + k, none⟩ (.int .i64 (m + k))).frozen? ⟨b, off + j, none⟩ = false ∧ ((wr.setCell ⟨b1, o1 + k, none⟩ (.int .i64 (m + k))).cell? ⟨b, off + j, none⟩).isSome = true) ∧ ∀ j, j < k + 1 → (wr.setCell ⟨b1, o1 + k, none⟩ (.int .i64 (m + k))).cell? ⟨b, off + j, none⟩ = some (.int .i64 (m + j)) by
        intro b off e
        cases e
        refine ⟨fun j hj => ⟨?_, ?_⟩, fun j hj => ?_⟩
        · rw [World.frozen?_setCell]; exact (g1 j hj).1
        · by_cases e : j = k
          · subst e; rw [World.cell?_setCell_same _ _ _ e2]; rfl
          · rw [World.cell?_setCell_other _ _ _ _ (by intro x; injection x; omega)]; exact (g1 j hj).2
        · by_cases e : j = k
          · subst e; exact World.cell?_setCell_same _ _ _ e2
          · rw [World.cell?_setCell_other _ _ _ _ (by intro x; injection x; omega)]; exact g2 j (by omega))
      have hbel' := Lib.hid (below_setCell hbel.out (p := ⟨b1, o1 + k, none⟩) s0 (.int .i64 (m + k)))
      have hup' := Lib.hid (show KeepUp S w (wr.setCell ⟨b1, o1 + k, none⟩ (.int .i64 (m + k))) from fun j hj => by rw [Below.heap_setCell _ _ _ _ (show j ≠ b1 by omega)]; exact hup.out j hj)
      clear hsame g1 g2 c1 f1
      go_wp2
      go_roundw
      case rel => exact ⟨k + 1, by omega, by go_num, by go_num, hbel', hup', hn⟩
      case measure => simp [intOf]; omega
    · obtain rfl : k = xs.length := by omega
      have hO := Lib.hid (show Own wr B S (.slice a xs.length cap) (marks m xs.length) by
        refine ⟨a, cap, by rw [marks_len], fun hp => ?_⟩
        rw [marks_len] at hp
        obtain ⟨b1, o1, rfl, s0, s1, c1, f1⟩ := ha.out hp
        obtain ⟨g1, g2⟩ := hsame.out b1 o1 rfl
        refine ⟨b1, o1, rfl, s0, s1, fun i hi => ?_, fun i hi => ?_⟩
        · rw [marks_len] at hi; rw [g2 i hi, marks_get m _ i hi]
        · rw [marks_len] at hi; exact (g1 i hi).1)
      clear hsame ha
      go_wp2
      go_ret
      exact ⟨rfl, hO.out, hbel.out, hup.out⟩
theorem same_self (L : List Int) : sameB L L = true := decide_eq_true rfl

set_option maxHeartbeats 4000000 in
theorem law_FamilyOf (n : Int) (v : Value) (xs : List Int) (w : World) (hx : Row w w.heap.size v xs) (hl : xs.length ≤ 9223372036854775807) (L : List Int) (b : Bool) (hL : xs.length ≤ 1048576 → L.length ≤ 1000000)
    (hi : ∀ (W : World) (u : Value) (S : Nat), Row W S u xs → S ≤ W.heap.size → xs.length ≤ 100000000 → Calls Try.prog 28 #[.int .i64 n, u] W (ListPost L b W))
    (hs : ∀ (W : World) (u : Value) (S : Nat), Row W S u xs → S ≤ W.heap.size → xs.length ≤ 100000000 → Calls Try.prog 27 #[.int .i64 n, u] W (ListPost L b W)) :
    Calls Try.prog 5 #[.int .i64 n, v] w fun e w' => e = .returned (.bool true) ∧ Below w.heap.size w w' := by
  have hx' := hx
  obtain ⟨a, cap, rfl, _⟩ := hx'
  by_cases hbig : 1048576 < xs.length
  · go_enter Try.func5, Try.ntmps5
    go_wp2_with fail
    go_ret
    exact ⟨rfl, Below.refl _ _⟩
  · have hl2 : xs.length ≤ 1048576 := by omega
    have hLL := hL hl2
    have hl3 : xs.length ≤ 100000000 := by omega
    have hR := Lib.hid hx
    replace hi := Lib.hid (fun W u S h1 h2 => hi W u S h1 h2 hl3)
    replace hs := Lib.hid (fun W u S h1 h2 => hs W u S h1 h2 hl3)
    have hbb : (b != b) = false := by simp
    have hsame := Lib.hid (same_self L)
    have hsamx := Lib.hid (same_self xs)
    clear hx hbig hL
    go_enter Try.func5, Try.ntmps5
    go_wp2_with fail
    refine (to_ints _ xs _ _ hR.out (by omega) (Nat.le_refl _)).mono ?_
    rintro e w1 ⟨u, rfl, hu, hb1⟩
    obtain ⟨ua, uc, rfl, _⟩ := id hu
    have z1 := hb1.size
    have c2 := Lib.hid (hs.out _ _ _ hu.row (Nat.le_refl _))
    have hR1 := Lib.hid (hR.out.below hb1 (Nat.le_refl _))
    replace hb1 := Lib.hid hb1
    clear hu hs
    go_wp2_with fail
    refine c2.out.mono ?_
    rintro e w2 ⟨v0, rfl, hO0, hb2⟩
    obtain ⟨a0, c0, rfl, _⟩ := id hO0
    have z2 := hb2.size
    have hR2 := Lib.hid (hR1.out.below hb2 z1)
    replace hO0 := Lib.hid hO0
    replace hb2 := Lib.hid (hb1.out.trans (hb2.mono z1))
    clear c2
    go_wp2_with fail
    refine (to_ints _ xs _ _ hR2.out (by omega) (by omega)).mono ?_
    rintro e w3 ⟨x1, rfl, hX3, hb3⟩
    obtain ⟨xa, xc, rfl, _⟩ := id hX3
    have z3 := hb3.size
    have c4 := Lib.hid (hi.out _ _ _ hX3.row (Nat.le_refl _))
    have hR3 := Lib.hid (hR2.out.below hb3 (by omega))
    have hO3 := Lib.hid (hO0.out.below hb3 (Nat.le_refl _))
    replace hX3 := Lib.hid hX3
    replace hb3 := Lib.hid (hb2.out.trans (hb3.mono (by omega)))
    clear hO0
    go_wp2_with fail
    refine c4.out.mono ?_
    rintro e w4 ⟨g0, rfl, hG4, hb4⟩
    obtain ⟨ga, gc, rfl, _⟩ := id hG4
    have z4 := hb4.size
    have hR4 := Lib.hid (hR3.out.below hb4 (by omega))
    have hO4 := Lib.hid (hO3.out.below hb4 (by omega))
    have hX4 := Lib.hid (hX3.out.below hb4 (Nat.le_refl _))
    replace hG4 := Lib.hid hG4
    replace hb4 := Lib.hid (hb3.out.trans (hb4.mono (by omega)))
    clear c4 hO3 hX3 hR1 hR2 hR3
    go_wp2_with fail
    refine (eq_ints _ _ L L w4.heap.size _ (hG4.out.row.mono (Nat.le_refl _)) (hO4.out.row.mono (by omega)) (by omega) (by omega)).mono ?_
    rintro e w' ⟨rfl, n5, rfl⟩
    rw [hsame.out]
    go_wp2_with fail
    refine (to_ints _ xs _ _ (hR4.out.drewN n5) (by omega) (show w.heap.size ≤ w4.heap.size by omega)).mono ?_
    rintro e w6 ⟨t, rfl, hT6, hb6⟩
    obtain ⟨ta, tc, rfl, _⟩ := id hT6
    have z6 : w4.heap.size ≤ w6.heap.size := hb6.size
    have hb6' : Below w4.heap.size w4 w6 := (below_drewN (Below.refl w4.heap.size w4) n5).trans hb6
    have hR6 := Lib.hid (hR4.out.below hb6' (by omega))
    have hO6 := Lib.hid (hO4.out.below hb6' (by omega))
    have hX6 := Lib.hid (hX4.out.below hb6' (by omega))
    have hG6 := Lib.hid (hG4.out.below hb6' (Nat.le_refl _))
    have hT6' := Lib.hid hT6.row
    replace hb6 := Lib.hid (hb4.out.trans (hb6'.mono (by omega)))
    clear hT6 hb6' hO4 hX4 hG4 hR4
    go_wp2_with fail
    refine (eq_ints _ _ xs xs w6.heap.size _ (hX6.out.row.mono (by omega)) hT6'.out (by omega) (by omega)).mono ?_
    rintro e w' ⟨rfl, n7, rfl⟩
    rw [hsamx.out]
    go_wp2_with fail
    refine (mark_up _ xs 1 w2.heap.size w3.heap.size _ (hX6.out.drewN n7) (by omega) (by omega) (by omega)).mono ?_
    rintro e w8 ⟨rfl, _, hb8, hk8⟩
    have z8 : w6.heap.size ≤ w8.heap.size := hb8.size
    have hR8 := Lib.hid ((hR6.out.drewN n7).below hb8 (by omega))
    have hO8 := Lib.hid ((hO6.out.drewN n7).below hb8 (Nat.le_refl _))
    have hG8 := Lib.hid ((hG6.out.drewN n7).up hk8 (Nat.le_refl _))
    replace hb8 := Lib.hid ((below_drewN hb6.out n7).trans (hb8.mono (by omega)))
    have hq1 : (0 : Int) ≤ 1 + (xs.length : Nat) := by omega
    clear hk8 hO6 hG6 hX6 hR6 hT6'
    go_wp2_with fail
    refine (eq_ints _ _ L L w8.heap.size _ (hG8.out.row.mono (by omega)) (hO8.out.row.mono (by omega)) (by omega) (by omega)).mono ?_
    rintro e w' ⟨rfl, n9, rfl⟩
    rw [hsame.out]
    go_wp2_with fail
    refine (mark_ints _ L 1 _ _ _ (hG8.out.drewN n9) (by omega) (by omega) (by omega)).mono ?_
    rintro e w10 ⟨rfl, hG10, hb10⟩
    have z10 : w8.heap.size ≤ w10.heap.size := hb10.size
    have hlen : (marks 1 L.length).length ≤ 1000000 := by rw [marks_len]; exact hLL
    have hR10 := Lib.hid ((hR8.out.drewN n9).below hb10 (by omega))
    have hO10 := Lib.hid ((hO8.out.drewN n9).below hb10 (by omega))
    replace hG10 := Lib.hid hG10
    replace hb10 := Lib.hid ((below_drewN hb8.out n9).trans (hb10.mono (by omega)))
    clear hG8 hO8 hR8
    go_wp2_with fail
    refine (held_ints _ (marks 1 L.length) 1 _ _ (by have := hG10.out.row; exact this) (by omega) (by omega) (by omega)).mono ?_
    rintro e w' ⟨rfl, rfl⟩
    rw [heldV_marks]
    have hq : (0 : Int) ≤ 1 + (L.length : Nat) := by omega
    have hqq : ((1 : Int) + (L.length : Nat) != 1 + (L.length : Nat)) = false := by simp
    go_wp2_with fail
    refine (to_ints _ xs _ _ hR10.out (by omega) (by omega)).mono ?_
    rintro e w11 ⟨x2, rfl, hX11, hb11⟩
    obtain ⟨ya, yc, rfl, _⟩ := id hX11
    have z11 := hb11.size
    have c12 := Lib.hid (hi.out _ _ _ hX11.row (Nat.le_refl _))
    have hO11 := Lib.hid (hO10.out.below hb11 (by omega))
    have hG11 := Lib.hid (hG10.out.below hb11 (by omega))
    replace hb11 := Lib.hid (hb10.out.trans (hb11.mono (by omega)))
    clear hX11 hO10 hG10 hR10 hi
    go_wp2_with fail
    refine c12.out.mono ?_
    rintro e w12 ⟨h0, rfl, hH12, hb12⟩
    obtain ⟨ha, hc, rfl, _⟩ := id hH12
    have z12 := hb12.size
    have hO12 := Lib.hid (hO11.out.below hb12 (by omega))
    have hG12 := Lib.hid (hG11.out.below hb12 (by omega))
    replace hH12 := Lib.hid hH12
    replace hb12 := Lib.hid (hb11.out.trans (hb12.mono (by omega)))
    clear c12 hO11 hG11
    go_wp2_with fail
    refine (eq_ints _ _ L L w12.heap.size _ (hH12.out.row.mono (Nat.le_refl _)) (hO12.out.row.mono (by omega)) (by omega) (by omega)).mono ?_
    rintro e w' ⟨rfl, n13, rfl⟩
    rw [hsame.out]
    go_wp2_with fail
    refine (held_ints _ (marks 1 L.length) 1 _ _ ((hG12.out.drewN n13).row) (by omega) (by omega) (by omega)).mono ?_
    rintro e w' ⟨rfl, rfl⟩
    rw [heldV_marks]
    go_wp2_with fail
    go_ret
    exact ⟨rfl, below_drewN hb12.out n13⟩

set_option maxHeartbeats 4000000 in
theorem law_FamilyOther (n : Int) (v : Value) (xs : List Int) (w : World) (hx : Row w w.heap.size v xs) (hl : xs.length ≤ 9223372036854775807) (L : List Int) (b : Bool) (hL : xs.length ≤ 1048576 → L.length ≤ 1000000)
    (hi : ∀ (W : World) (u : Value) (S : Nat), Row W S u xs → S ≤ W.heap.size → xs.length ≤ 100000000 → Calls Try.prog 40 #[.int .i64 n, u] W (ListPost L b W))
    (hs : ∀ (W : World) (u : Value) (S : Nat), Row W S u xs → S ≤ W.heap.size → xs.length ≤ 100000000 → Calls Try.prog 39 #[.int .i64 n, u] W (ListPost L b W)) :
    Calls Try.prog 10 #[.int .i64 n, v] w fun e w' => e = .returned (.bool true) ∧ Below w.heap.size w w' := by
  have hx' := hx
  obtain ⟨a, cap, rfl, _⟩ := hx'
  by_cases hbig : 1048576 < xs.length
  · go_enter Try.func10, Try.ntmps10
    go_wp2_with fail
    go_ret
    exact ⟨rfl, Below.refl _ _⟩
  · have hl2 : xs.length ≤ 1048576 := by omega
    have hLL := hL hl2
    have hl3 : xs.length ≤ 100000000 := by omega
    have hR := Lib.hid hx
    replace hi := Lib.hid (fun W u S h1 h2 => hi W u S h1 h2 hl3)
    replace hs := Lib.hid (fun W u S h1 h2 => hs W u S h1 h2 hl3)
    have hbb : (b != b) = false := by simp
    have hsame := Lib.hid (same_self L)
    have hsamx := Lib.hid (same_self xs)
    clear hx hbig hL
    go_enter Try.func10, Try.ntmps10
    go_wp2_with fail
    refine (to_ints _ xs _ _ hR.out (by omega) (Nat.le_refl _)).mono ?_
    rintro e w1 ⟨u, rfl, hu, hb1⟩
    obtain ⟨ua, uc, rfl, _⟩ := id hu
    have z1 := hb1.size
    have c2 := Lib.hid (hs.out _ _ _ hu.row (Nat.le_refl _))
    have hR1 := Lib.hid (hR.out.below hb1 (Nat.le_refl _))
    replace hb1 := Lib.hid hb1
    clear hu hs
    go_wp2_with fail
    refine c2.out.mono ?_
    rintro e w2 ⟨v0, rfl, hO0, hb2⟩
    obtain ⟨a0, c0, rfl, _⟩ := id hO0
    have z2 := hb2.size
    have hR2 := Lib.hid (hR1.out.below hb2 z1)
    replace hO0 := Lib.hid hO0
    replace hb2 := Lib.hid (hb1.out.trans (hb2.mono z1))
    clear c2
    go_wp2_with fail
    refine (to_ints _ xs _ _ hR2.out (by omega) (by omega)).mono ?_
    rintro e w3 ⟨x1, rfl, hX3, hb3⟩
    obtain ⟨xa, xc, rfl, _⟩ := id hX3
    have z3 := hb3.size
    have c4 := Lib.hid (hi.out _ _ _ hX3.row (Nat.le_refl _))
    have hR3 := Lib.hid (hR2.out.below hb3 (by omega))
    have hO3 := Lib.hid (hO0.out.below hb3 (Nat.le_refl _))
    replace hX3 := Lib.hid hX3
    replace hb3 := Lib.hid (hb2.out.trans (hb3.mono (by omega)))
    clear hO0
    go_wp2_with fail
    refine c4.out.mono ?_
    rintro e w4 ⟨g0, rfl, hG4, hb4⟩
    obtain ⟨ga, gc, rfl, _⟩ := id hG4
    have z4 := hb4.size
    have hR4 := Lib.hid (hR3.out.below hb4 (by omega))
    have hO4 := Lib.hid (hO3.out.below hb4 (by omega))
    have hX4 := Lib.hid (hX3.out.below hb4 (Nat.le_refl _))
    replace hG4 := Lib.hid hG4
    replace hb4 := Lib.hid (hb3.out.trans (hb4.mono (by omega)))
    clear c4 hO3 hX3 hR1 hR2 hR3
    go_wp2_with fail
    refine (eq_ints _ _ L L w4.heap.size _ (hG4.out.row.mono (Nat.le_refl _)) (hO4.out.row.mono (by omega)) (by omega) (by omega)).mono ?_
    rintro e w' ⟨rfl, n5, rfl⟩
    rw [hsame.out]
    go_wp2_with fail
    refine (to_ints _ xs _ _ (hR4.out.drewN n5) (by omega) (show w.heap.size ≤ w4.heap.size by omega)).mono ?_
    rintro e w6 ⟨t, rfl, hT6, hb6⟩
    obtain ⟨ta, tc, rfl, _⟩ := id hT6
    have z6 : w4.heap.size ≤ w6.heap.size := hb6.size
    have hb6' : Below w4.heap.size w4 w6 := (below_drewN (Below.refl w4.heap.size w4) n5).trans hb6
    have hR6 := Lib.hid (hR4.out.below hb6' (by omega))
    have hO6 := Lib.hid (hO4.out.below hb6' (by omega))
    have hX6 := Lib.hid (hX4.out.below hb6' (by omega))
    have hG6 := Lib.hid (hG4.out.below hb6' (Nat.le_refl _))
    have hT6' := Lib.hid hT6.row
    replace hb6 := Lib.hid (hb4.out.trans (hb6'.mono (by omega)))
    clear hT6 hb6' hO4 hX4 hG4 hR4
    go_wp2_with fail
    refine (eq_ints _ _ xs xs w6.heap.size _ (hX6.out.row.mono (by omega)) hT6'.out (by omega) (by omega)).mono ?_
    rintro e w' ⟨rfl, n7, rfl⟩
    rw [hsamx.out]
    go_wp2_with fail
    refine (mark_up _ xs 1 w2.heap.size w3.heap.size _ (hX6.out.drewN n7) (by omega) (by omega) (by omega)).mono ?_
    rintro e w8 ⟨rfl, _, hb8, hk8⟩
    have z8 : w6.heap.size ≤ w8.heap.size := hb8.size
    have hR8 := Lib.hid ((hR6.out.drewN n7).below hb8 (by omega))
    have hO8 := Lib.hid ((hO6.out.drewN n7).below hb8 (Nat.le_refl _))
    have hG8 := Lib.hid ((hG6.out.drewN n7).up hk8 (Nat.le_refl _))
    replace hb8 := Lib.hid ((below_drewN hb6.out n7).trans (hb8.mono (by omega)))
    have hq1 : (0 : Int) ≤ 1 + (xs.length : Nat) := by omega
    clear hk8 hO6 hG6 hX6 hR6 hT6'
    go_wp2_with fail
    refine (eq_ints _ _ L L w8.heap.size _ (hG8.out.row.mono (by omega)) (hO8.out.row.mono (by omega)) (by omega) (by omega)).mono ?_
    rintro e w' ⟨rfl, n9, rfl⟩
    rw [hsame.out]
    go_wp2_with fail
    refine (mark_ints _ L 1 _ _ _ (hG8.out.drewN n9) (by omega) (by omega) (by omega)).mono ?_
    rintro e w10 ⟨rfl, hG10, hb10⟩
    have z10 : w8.heap.size ≤ w10.heap.size := hb10.size
    have hlen : (marks 1 L.length).length ≤ 1000000 := by rw [marks_len]; exact hLL
    have hR10 := Lib.hid ((hR8.out.drewN n9).below hb10 (by omega))
    have hO10 := Lib.hid ((hO8.out.drewN n9).below hb10 (by omega))
    replace hG10 := Lib.hid hG10
    replace hb10 := Lib.hid ((below_drewN hb8.out n9).trans (hb10.mono (by omega)))
    clear hG8 hO8 hR8
    go_wp2_with fail
    refine (held_ints _ (marks 1 L.length) 1 _ _ (by have := hG10.out.row; exact this) (by omega) (by omega) (by omega)).mono ?_
    rintro e w' ⟨rfl, rfl⟩
    rw [heldV_marks]
    have hq : (0 : Int) ≤ 1 + (L.length : Nat) := by omega
    have hqq : ((1 : Int) + (L.length : Nat) != 1 + (L.length : Nat)) = false := by simp
    go_wp2_with fail
    refine (to_ints _ xs _ _ hR10.out (by omega) (by omega)).mono ?_
    rintro e w11 ⟨x2, rfl, hX11, hb11⟩
    obtain ⟨ya, yc, rfl, _⟩ := id hX11
    have z11 := hb11.size
    have c12 := Lib.hid (hi.out _ _ _ hX11.row (Nat.le_refl _))
    have hO11 := Lib.hid (hO10.out.below hb11 (by omega))
    have hG11 := Lib.hid (hG10.out.below hb11 (by omega))
    replace hb11 := Lib.hid (hb10.out.trans (hb11.mono (by omega)))
    clear hX11 hO10 hG10 hR10 hi
    go_wp2_with fail
    refine c12.out.mono ?_
    rintro e w12 ⟨h0, rfl, hH12, hb12⟩
    obtain ⟨ha, hc, rfl, _⟩ := id hH12
    have z12 := hb12.size
    have hO12 := Lib.hid (hO11.out.below hb12 (by omega))
    have hG12 := Lib.hid (hG11.out.below hb12 (by omega))
    replace hH12 := Lib.hid hH12
    replace hb12 := Lib.hid (hb11.out.trans (hb12.mono (by omega)))
    clear c12 hO11 hG11
    go_wp2_with fail
    refine (eq_ints _ _ L L w12.heap.size _ (hH12.out.row.mono (Nat.le_refl _)) (hO12.out.row.mono (by omega)) (by omega) (by omega)).mono ?_
    rintro e w' ⟨rfl, n13, rfl⟩
    rw [hsame.out]
    go_wp2_with fail
    refine (held_ints _ (marks 1 L.length) 1 _ _ ((hG12.out.drewN n13).row) (by omega) (by omega) (by omega)).mono ?_
    rintro e w' ⟨rfl, rfl⟩
    rw [heldV_marks]
    go_wp2_with fail
    go_ret
    exact ⟨rfl, below_drewN hb12.out n13⟩

set_option maxHeartbeats 4000000 in
theorem law_FamilyRest (n : Int) (v : Value) (xs : List Int) (w : World) (hx : Row w w.heap.size v xs) (hl : xs.length ≤ 9223372036854775807) (L : List Int) (b : Bool) (hL : xs.length ≤ 1048576 → L.length ≤ 1000000)
    (hi : ∀ (W : World) (u : Value) (S : Nat), Row W S u xs → S ≤ W.heap.size → xs.length ≤ 100000000 → Calls Try.prog 42 #[.int .i64 n, u] W (ListPost L b W))
    (hs : ∀ (W : World) (u : Value) (S : Nat), Row W S u xs → S ≤ W.heap.size → xs.length ≤ 100000000 → Calls Try.prog 41 #[.int .i64 n, u] W (ListPost L b W)) :
    Calls Try.prog 11 #[.int .i64 n, v] w fun e w' => e = .returned (.bool true) ∧ Below w.heap.size w w' := by
  have hx' := hx
  obtain ⟨a, cap, rfl, _⟩ := hx'
  by_cases hbig : 1048576 < xs.length
  · go_enter Try.func11, Try.ntmps11
    go_wp2_with fail
    go_ret
    exact ⟨rfl, Below.refl _ _⟩
  · have hl2 : xs.length ≤ 1048576 := by omega
    have hLL := hL hl2
    have hl3 : xs.length ≤ 100000000 := by omega
    have hR := Lib.hid hx
    replace hi := Lib.hid (fun W u S h1 h2 => hi W u S h1 h2 hl3)
    replace hs := Lib.hid (fun W u S h1 h2 => hs W u S h1 h2 hl3)
    have hbb : (b != b) = false := by simp
    have hsame := Lib.hid (same_self L)
    have hsamx := Lib.hid (same_self xs)
    clear hx hbig hL
    go_enter Try.func11, Try.ntmps11
    go_wp2_with fail
    refine (to_ints _ xs _ _ hR.out (by omega) (Nat.le_refl _)).mono ?_
    rintro e w1 ⟨u, rfl, hu, hb1⟩
    obtain ⟨ua, uc, rfl, _⟩ := id hu
    have z1 := hb1.size
    have c2 := Lib.hid (hs.out _ _ _ hu.row (Nat.le_refl _))
    have hR1 := Lib.hid (hR.out.below hb1 (Nat.le_refl _))
    replace hb1 := Lib.hid hb1
    clear hu hs
    go_wp2_with fail
    refine c2.out.mono ?_
    rintro e w2 ⟨v0, rfl, hO0, hb2⟩
    obtain ⟨a0, c0, rfl, _⟩ := id hO0
    have z2 := hb2.size
    have hR2 := Lib.hid (hR1.out.below hb2 z1)
    replace hO0 := Lib.hid hO0
    replace hb2 := Lib.hid (hb1.out.trans (hb2.mono z1))
    clear c2
    go_wp2_with fail
    refine (to_ints _ xs _ _ hR2.out (by omega) (by omega)).mono ?_
    rintro e w3 ⟨x1, rfl, hX3, hb3⟩
    obtain ⟨xa, xc, rfl, _⟩ := id hX3
    have z3 := hb3.size
    have c4 := Lib.hid (hi.out _ _ _ hX3.row (Nat.le_refl _))
    have hR3 := Lib.hid (hR2.out.below hb3 (by omega))
    have hO3 := Lib.hid (hO0.out.below hb3 (Nat.le_refl _))
    replace hX3 := Lib.hid hX3
    replace hb3 := Lib.hid (hb2.out.trans (hb3.mono (by omega)))
    clear hO0
    go_wp2_with fail
    refine c4.out.mono ?_
    rintro e w4 ⟨g0, rfl, hG4, hb4⟩
    obtain ⟨ga, gc, rfl, _⟩ := id hG4
    have z4 := hb4.size
    have hR4 := Lib.hid (hR3.out.below hb4 (by omega))
    have hO4 := Lib.hid (hO3.out.below hb4 (by omega))
    have hX4 := Lib.hid (hX3.out.below hb4 (Nat.le_refl _))
    replace hG4 := Lib.hid hG4
    replace hb4 := Lib.hid (hb3.out.trans (hb4.mono (by omega)))
    clear c4 hO3 hX3 hR1 hR2 hR3
    go_wp2_with fail
    refine (eq_ints _ _ L L w4.heap.size _ (hG4.out.row.mono (Nat.le_refl _)) (hO4.out.row.mono (by omega)) (by omega) (by omega)).mono ?_
    rintro e w' ⟨rfl, n5, rfl⟩
    rw [hsame.out]
    go_wp2_with fail
    refine (to_ints _ xs _ _ (hR4.out.drewN n5) (by omega) (show w.heap.size ≤ w4.heap.size by omega)).mono ?_
    rintro e w6 ⟨t, rfl, hT6, hb6⟩
    obtain ⟨ta, tc, rfl, _⟩ := id hT6
    have z6 : w4.heap.size ≤ w6.heap.size := hb6.size
    have hb6' : Below w4.heap.size w4 w6 := (below_drewN (Below.refl w4.heap.size w4) n5).trans hb6
    have hR6 := Lib.hid (hR4.out.below hb6' (by omega))
    have hO6 := Lib.hid (hO4.out.below hb6' (by omega))
    have hX6 := Lib.hid (hX4.out.below hb6' (by omega))
    have hG6 := Lib.hid (hG4.out.below hb6' (Nat.le_refl _))
    have hT6' := Lib.hid hT6.row
    replace hb6 := Lib.hid (hb4.out.trans (hb6'.mono (by omega)))
    clear hT6 hb6' hO4 hX4 hG4 hR4
    go_wp2_with fail
    refine (eq_ints _ _ xs xs w6.heap.size _ (hX6.out.row.mono (by omega)) hT6'.out (by omega) (by omega)).mono ?_
    rintro e w' ⟨rfl, n7, rfl⟩
    rw [hsamx.out]
    go_wp2_with fail
    refine (mark_up _ xs 1 w2.heap.size w3.heap.size _ (hX6.out.drewN n7) (by omega) (by omega) (by omega)).mono ?_
    rintro e w8 ⟨rfl, _, hb8, hk8⟩
    have z8 : w6.heap.size ≤ w8.heap.size := hb8.size
    have hR8 := Lib.hid ((hR6.out.drewN n7).below hb8 (by omega))
    have hO8 := Lib.hid ((hO6.out.drewN n7).below hb8 (Nat.le_refl _))
    have hG8 := Lib.hid ((hG6.out.drewN n7).up hk8 (Nat.le_refl _))
    replace hb8 := Lib.hid ((below_drewN hb6.out n7).trans (hb8.mono (by omega)))
    have hq1 : (0 : Int) ≤ 1 + (xs.length : Nat) := by omega
    clear hk8 hO6 hG6 hX6 hR6 hT6'
    go_wp2_with fail
    refine (eq_ints _ _ L L w8.heap.size _ (hG8.out.row.mono (by omega)) (hO8.out.row.mono (by omega)) (by omega) (by omega)).mono ?_
    rintro e w' ⟨rfl, n9, rfl⟩
    rw [hsame.out]
    go_wp2_with fail
    refine (mark_ints _ L 1 _ _ _ (hG8.out.drewN n9) (by omega) (by omega) (by omega)).mono ?_
    rintro e w10 ⟨rfl, hG10, hb10⟩
    have z10 : w8.heap.size ≤ w10.heap.size := hb10.size
    have hlen : (marks 1 L.length).length ≤ 1000000 := by rw [marks_len]; exact hLL
    have hR10 := Lib.hid ((hR8.out.drewN n9).below hb10 (by omega))
    have hO10 := Lib.hid ((hO8.out.drewN n9).below hb10 (by omega))
    replace hG10 := Lib.hid hG10
    replace hb10 := Lib.hid ((below_drewN hb8.out n9).trans (hb10.mono (by omega)))
    clear hG8 hO8 hR8
    go_wp2_with fail
    refine (held_ints _ (marks 1 L.length) 1 _ _ (by have := hG10.out.row; exact this) (by omega) (by omega) (by omega)).mono ?_
    rintro e w' ⟨rfl, rfl⟩
    rw [heldV_marks]
    have hq : (0 : Int) ≤ 1 + (L.length : Nat) := by omega
    have hqq : ((1 : Int) + (L.length : Nat) != 1 + (L.length : Nat)) = false := by simp
    go_wp2_with fail
    refine (to_ints _ xs _ _ hR10.out (by omega) (by omega)).mono ?_
    rintro e w11 ⟨x2, rfl, hX11, hb11⟩
    obtain ⟨ya, yc, rfl, _⟩ := id hX11
    have z11 := hb11.size
    have c12 := Lib.hid (hi.out _ _ _ hX11.row (Nat.le_refl _))
    have hO11 := Lib.hid (hO10.out.below hb11 (by omega))
    have hG11 := Lib.hid (hG10.out.below hb11 (by omega))
    replace hb11 := Lib.hid (hb10.out.trans (hb11.mono (by omega)))
    clear hX11 hO10 hG10 hR10 hi
    go_wp2_with fail
    refine c12.out.mono ?_
    rintro e w12 ⟨h0, rfl, hH12, hb12⟩
    obtain ⟨ha, hc, rfl, _⟩ := id hH12
    have z12 := hb12.size
    have hO12 := Lib.hid (hO11.out.below hb12 (by omega))
    have hG12 := Lib.hid (hG11.out.below hb12 (by omega))
    replace hH12 := Lib.hid hH12
    replace hb12 := Lib.hid (hb11.out.trans (hb12.mono (by omega)))
    clear c12 hO11 hG11
    go_wp2_with fail
    refine (eq_ints _ _ L L w12.heap.size _ (hH12.out.row.mono (Nat.le_refl _)) (hO12.out.row.mono (by omega)) (by omega) (by omega)).mono ?_
    rintro e w' ⟨rfl, n13, rfl⟩
    rw [hsame.out]
    go_wp2_with fail
    refine (held_ints _ (marks 1 L.length) 1 _ _ ((hG12.out.drewN n13).row) (by omega) (by omega) (by omega)).mono ?_
    rintro e w' ⟨rfl, rfl⟩
    rw [heldV_marks]
    go_wp2_with fail
    go_ret
    exact ⟨rfl, below_drewN hb12.out n13⟩

set_option maxHeartbeats 4000000 in
theorem law_FamilyProfile (n : Int) (v : Value) (xs : List Int) (w : World) (hx : Row w w.heap.size v xs) (hl : xs.length ≤ 9223372036854775807) (L : List Int) (b : Bool) (hL : xs.length ≤ 1048576 → L.length ≤ 1000000)
    (hi : ∀ (W : World) (u : Value) (S : Nat), Row W S u xs → S ≤ W.heap.size → xs.length ≤ 100000000 → Calls Try.prog 44 #[.int .i64 n, u] W (ListPost L b W))
    (hs : ∀ (W : World) (u : Value) (S : Nat), Row W S u xs → S ≤ W.heap.size → xs.length ≤ 100000000 → Calls Try.prog 43 #[.int .i64 n, u] W (ListPost L b W)) :
    Calls Try.prog 12 #[.int .i64 n, v] w fun e w' => e = .returned (.bool true) ∧ Below w.heap.size w w' := by
  have hx' := hx
  obtain ⟨a, cap, rfl, _⟩ := hx'
  by_cases hbig : 1048576 < xs.length
  · go_enter Try.func12, Try.ntmps12
    go_wp2_with fail
    go_ret
    exact ⟨rfl, Below.refl _ _⟩
  · have hl2 : xs.length ≤ 1048576 := by omega
    have hLL := hL hl2
    have hl3 : xs.length ≤ 100000000 := by omega
    have hR := Lib.hid hx
    replace hi := Lib.hid (fun W u S h1 h2 => hi W u S h1 h2 hl3)
    replace hs := Lib.hid (fun W u S h1 h2 => hs W u S h1 h2 hl3)
    have hbb : (b != b) = false := by simp
    have hsame := Lib.hid (same_self L)
    have hsamx := Lib.hid (same_self xs)
    clear hx hbig hL
    go_enter Try.func12, Try.ntmps12
    go_wp2_with fail
    refine (to_ints _ xs _ _ hR.out (by omega) (Nat.le_refl _)).mono ?_
    rintro e w1 ⟨u, rfl, hu, hb1⟩
    obtain ⟨ua, uc, rfl, _⟩ := id hu
    have z1 := hb1.size
    have c2 := Lib.hid (hs.out _ _ _ hu.row (Nat.le_refl _))
    have hR1 := Lib.hid (hR.out.below hb1 (Nat.le_refl _))
    replace hb1 := Lib.hid hb1
    clear hu hs
    go_wp2_with fail
    refine c2.out.mono ?_
    rintro e w2 ⟨v0, rfl, hO0, hb2⟩
    obtain ⟨a0, c0, rfl, _⟩ := id hO0
    have z2 := hb2.size
    have hR2 := Lib.hid (hR1.out.below hb2 z1)
    replace hO0 := Lib.hid hO0
    replace hb2 := Lib.hid (hb1.out.trans (hb2.mono z1))
    clear c2
    go_wp2_with fail
    refine (to_ints _ xs _ _ hR2.out (by omega) (by omega)).mono ?_
    rintro e w3 ⟨x1, rfl, hX3, hb3⟩
    obtain ⟨xa, xc, rfl, _⟩ := id hX3
    have z3 := hb3.size
    have c4 := Lib.hid (hi.out _ _ _ hX3.row (Nat.le_refl _))
    have hR3 := Lib.hid (hR2.out.below hb3 (by omega))
    have hO3 := Lib.hid (hO0.out.below hb3 (Nat.le_refl _))
    replace hX3 := Lib.hid hX3
    replace hb3 := Lib.hid (hb2.out.trans (hb3.mono (by omega)))
    clear hO0
    go_wp2_with fail
    refine c4.out.mono ?_
    rintro e w4 ⟨g0, rfl, hG4, hb4⟩
    obtain ⟨ga, gc, rfl, _⟩ := id hG4
    have z4 := hb4.size
    have hR4 := Lib.hid (hR3.out.below hb4 (by omega))
    have hO4 := Lib.hid (hO3.out.below hb4 (by omega))
    have hX4 := Lib.hid (hX3.out.below hb4 (Nat.le_refl _))
    replace hG4 := Lib.hid hG4
    replace hb4 := Lib.hid (hb3.out.trans (hb4.mono (by omega)))
    clear c4 hO3 hX3 hR1 hR2 hR3
    go_wp2_with fail
    refine (eq_ints _ _ L L w4.heap.size _ (hG4.out.row.mono (Nat.le_refl _)) (hO4.out.row.mono (by omega)) (by omega) (by omega)).mono ?_
    rintro e w' ⟨rfl, n5, rfl⟩
    rw [hsame.out]
    go_wp2_with fail
    refine (to_ints _ xs _ _ (hR4.out.drewN n5) (by omega) (show w.heap.size ≤ w4.heap.size by omega)).mono ?_
    rintro e w6 ⟨t, rfl, hT6, hb6⟩
    obtain ⟨ta, tc, rfl, _⟩ := id hT6
    have z6 : w4.heap.size ≤ w6.heap.size := hb6.size
    have hb6' : Below w4.heap.size w4 w6 := (below_drewN (Below.refl w4.heap.size w4) n5).trans hb6
    have hR6 := Lib.hid (hR4.out.below hb6' (by omega))
    have hO6 := Lib.hid (hO4.out.below hb6' (by omega))
    have hX6 := Lib.hid (hX4.out.below hb6' (by omega))
    have hG6 := Lib.hid (hG4.out.below hb6' (Nat.le_refl _))
    have hT6' := Lib.hid hT6.row
    replace hb6 := Lib.hid (hb4.out.trans (hb6'.mono (by omega)))
    clear hT6 hb6' hO4 hX4 hG4 hR4
    go_wp2_with fail
    refine (eq_ints _ _ xs xs w6.heap.size _ (hX6.out.row.mono (by omega)) hT6'.out (by omega) (by omega)).mono ?_
    rintro e w' ⟨rfl, n7, rfl⟩
    rw [hsamx.out]
    go_wp2_with fail
    refine (mark_up _ xs 1 w2.heap.size w3.heap.size _ (hX6.out.drewN n7) (by omega) (by omega) (by omega)).mono ?_
    rintro e w8 ⟨rfl, _, hb8, hk8⟩
    have z8 : w6.heap.size ≤ w8.heap.size := hb8.size
    have hR8 := Lib.hid ((hR6.out.drewN n7).below hb8 (by omega))
    have hO8 := Lib.hid ((hO6.out.drewN n7).below hb8 (Nat.le_refl _))
    have hG8 := Lib.hid ((hG6.out.drewN n7).up hk8 (Nat.le_refl _))
    replace hb8 := Lib.hid ((below_drewN hb6.out n7).trans (hb8.mono (by omega)))
    have hq1 : (0 : Int) ≤ 1 + (xs.length : Nat) := by omega
    clear hk8 hO6 hG6 hX6 hR6 hT6'
    go_wp2_with fail
    refine (eq_ints _ _ L L w8.heap.size _ (hG8.out.row.mono (by omega)) (hO8.out.row.mono (by omega)) (by omega) (by omega)).mono ?_
    rintro e w' ⟨rfl, n9, rfl⟩
    rw [hsame.out]
    go_wp2_with fail
    refine (mark_ints _ L 1 _ _ _ (hG8.out.drewN n9) (by omega) (by omega) (by omega)).mono ?_
    rintro e w10 ⟨rfl, hG10, hb10⟩
    have z10 : w8.heap.size ≤ w10.heap.size := hb10.size
    have hlen : (marks 1 L.length).length ≤ 1000000 := by rw [marks_len]; exact hLL
    have hR10 := Lib.hid ((hR8.out.drewN n9).below hb10 (by omega))
    have hO10 := Lib.hid ((hO8.out.drewN n9).below hb10 (by omega))
    replace hG10 := Lib.hid hG10
    replace hb10 := Lib.hid ((below_drewN hb8.out n9).trans (hb10.mono (by omega)))
    clear hG8 hO8 hR8
    go_wp2_with fail
    refine (held_ints _ (marks 1 L.length) 1 _ _ (by have := hG10.out.row; exact this) (by omega) (by omega) (by omega)).mono ?_
    rintro e w' ⟨rfl, rfl⟩
    rw [heldV_marks]
    have hq : (0 : Int) ≤ 1 + (L.length : Nat) := by omega
    have hqq : ((1 : Int) + (L.length : Nat) != 1 + (L.length : Nat)) = false := by simp
    go_wp2_with fail
    refine (to_ints _ xs _ _ hR10.out (by omega) (by omega)).mono ?_
    rintro e w11 ⟨x2, rfl, hX11, hb11⟩
    obtain ⟨ya, yc, rfl, _⟩ := id hX11
    have z11 := hb11.size
    have c12 := Lib.hid (hi.out _ _ _ hX11.row (Nat.le_refl _))
    have hO11 := Lib.hid (hO10.out.below hb11 (by omega))
    have hG11 := Lib.hid (hG10.out.below hb11 (by omega))
    replace hb11 := Lib.hid (hb10.out.trans (hb11.mono (by omega)))
    clear hX11 hO10 hG10 hR10 hi
    go_wp2_with fail
    refine c12.out.mono ?_
    rintro e w12 ⟨h0, rfl, hH12, hb12⟩
    obtain ⟨ha, hc, rfl, _⟩ := id hH12
    have z12 := hb12.size
    have hO12 := Lib.hid (hO11.out.below hb12 (by omega))
    have hG12 := Lib.hid (hG11.out.below hb12 (by omega))
    replace hH12 := Lib.hid hH12
    replace hb12 := Lib.hid (hb11.out.trans (hb12.mono (by omega)))
    clear c12 hO11 hG11
    go_wp2_with fail
    refine (eq_ints _ _ L L w12.heap.size _ (hH12.out.row.mono (Nat.le_refl _)) (hO12.out.row.mono (by omega)) (by omega) (by omega)).mono ?_
    rintro e w' ⟨rfl, n13, rfl⟩
    rw [hsame.out]
    go_wp2_with fail
    refine (held_ints _ (marks 1 L.length) 1 _ _ ((hG12.out.drewN n13).row) (by omega) (by omega) (by omega)).mono ?_
    rintro e w' ⟨rfl, rfl⟩
    rw [heldV_marks]
    go_wp2_with fail
    go_ret
    exact ⟨rfl, below_drewN hb12.out n13⟩

theorem ifL_len {b : Bool} {ys : List Int} (h : b = true → ys.length ≤ 1000000) : (ifL b ys).length ≤ 1000000 := by
  unfold ifL
  cases b with
  | false => simp
  | true => exact h rfl
theorem sort_len {ys : List Int} (h : ∀ z ∈ ys, 0 ≤ z ∧ z < 256) : (sortL ys).length ≤ 1000000 := by have := len_small h; omega
theorem Law_FamilyOf (n : Int) (v : Value) (xs : List Int) (w : World) (hx : Row w w.heap.size v xs) (hl : xs.length ≤ 9223372036854775807) : Calls Try.prog 5 #[.int .i64 n, v] w fun e w' => e = .returned (.bool true) ∧ Below w.heap.size w w' :=
  law_FamilyOf n v xs w hx hl (famOfL n xs) (colB n xs) (fun _ => by
    unfold famOfL
    split
    · rename_i h; have := colB_len h; omega
    · simp) (fun W u S h1 h2 h3 => im_FamilyOf n u xs S W h1 h2 h3) (fun W u S h1 h2 h3 => sp_FamilyOf n u xs S W h1 h2 (by omega))
theorem Law_FamilyOther (n : Int) (v : Value) (xs : List Int) (w : World) (hx : Row w w.heap.size v xs) (hl : xs.length ≤ 9223372036854775807) : Calls Try.prog 10 #[.int .i64 n, v] w fun e w' => e = .returned (.bool true) ∧ Below w.heap.size w w' :=
  law_FamilyOther n v xs w hx hl _ _ (fun _ => ifL_len fun hf => sort_len fun z hz => by obtain ⟨y, hy, rfl⟩ := List.mem_map.1 hz; exact setB_lt (other_set ((famB_all hf).2.2 y hy))) (fun W u S h1 h2 h3 => im_FamilyOther n u xs S W h1 h2 h3) (fun W u S h1 h2 h3 => sp_FamilyOther n u xs S W h1 h2 h3)
theorem Law_FamilyRest (n : Int) (v : Value) (xs : List Int) (w : World) (hx : Row w w.heap.size v xs) (hl : xs.length ≤ 9223372036854775807) : Calls Try.prog 11 #[.int .i64 n, v] w fun e w' => e = .returned (.bool true) ∧ Below w.heap.size w w' :=
  law_FamilyRest n v xs w hx hl _ _ (fun _ => ifL_len fun hf => sort_len fun z hz => by have h := famB_all hf; exact setB_lt (upI_lt h.1 h.2.1 z (List.mem_filter.1 hz).1)) (fun W u S h1 h2 h3 => im_FamilyRest n u xs S W h1 h2 h3) (fun W u S h1 h2 h3 => sp_FamilyRest n u xs S W h1 h2 h3)
set_option maxHeartbeats 1000000 in
theorem Law_FamilyIn (n : Int) (v : Value) (xs : List Int) (w : World) (hx : Row w w.heap.size v xs) (hl : xs.length ≤ 9223372036854775807) : Calls Try.prog 4 #[.int .i64 n, v] w fun e w' => e = .returned (.bool true) ∧ Below w.heap.size w w' := by
  have hx' := hx
  obtain ⟨a, cap, rfl, _⟩ := hx'
  by_cases hbig : 1048576 < xs.length
  · go_enter Try.func4, Try.ntmps4
    go_wp2_with fail
    go_ret
    exact ⟨rfl, Below.refl _ _⟩
  · have hl2 : xs.length ≤ 1048576 := by omega
    have hR := Lib.hid hx
    obtain ⟨b, hb⟩ : ∃ b, famB n xs = b := ⟨_, rfl⟩
    have hi := Lib.hid (fun (W : World) (u : Value) (S : Nat) (h1 : Row W S u xs) (h2 : S ≤ W.heap.size) => im_FamilyIn n u xs S W h1 h2 (by omega))
    have hs := Lib.hid (fun (W : World) (u : Value) (S : Nat) (h1 : Row W S u xs) => sp_FamilyIn n u xs S W h1 (by omega))
    rw [hb] at hi hs
    have hbb : (b != b) = false := by simp
    have hsamx := Lib.hid (same_self xs)
    replace hb := Lib.hid hb
    clear hx hbig
    go_enter Try.func4, Try.ntmps4
    go_wp2_with fail
    refine (to_ints _ xs _ _ hR.out (by omega) (Nat.le_refl _)).mono ?_
    rintro e w1 ⟨u, rfl, hu, hb1⟩
    obtain ⟨ua, uc, rfl, _⟩ := id hu
    have z1 := hb1.size
    have c2 := Lib.hid (hs.out _ _ _ hu.row)
    have hR1 := Lib.hid (hR.out.below hb1 (Nat.le_refl _))
    replace hb1 := Lib.hid hb1
    clear hu hs
    go_wp2_with fail
    refine c2.out.mono ?_
    rintro e w' ⟨rfl, n2, rfl⟩
    clear c2
    go_wp2_with fail
    refine (to_ints _ xs _ _ (hR1.out.drewN n2) (by omega) z1).mono ?_
    rintro e w3 ⟨x1, rfl, hX3, hb3⟩
    obtain ⟨xa, xc, rfl, _⟩ := id hX3
    have z3 : w1.heap.size ≤ w3.heap.size := hb3.size
    have c4 := Lib.hid (hi.out _ _ _ hX3.row (Nat.le_refl _))
    have hR3 := Lib.hid ((hR1.out.drewN n2).below hb3 z1)
    have hX3' := Lib.hid hX3.row
    replace hb3 := Lib.hid ((below_drewN hb1.out n2).trans (hb3.mono z1))
    clear hX3
    go_wp2_with fail
    refine c4.out.mono ?_
    rintro e w4 ⟨rfl, hb4⟩
    have z4 := hb4.size
    have hR4 := Lib.hid (hR3.out.below hb4 (by omega))
    have hX4 := Lib.hid (hX3'.out.below hb4 (Nat.le_refl _))
    replace hb4 := Lib.hid (hb3.out.trans (hb4.mono (by omega)))
    clear c4
    go_wp2_with fail
    refine (to_ints _ xs _ _ hR4.out (by omega) (by omega)).mono ?_
    rintro e w6 ⟨t, rfl, hT6, hb6⟩
    obtain ⟨ta, tc, rfl, _⟩ := id hT6
    have z6 := hb6.size
    have hX6 := Lib.hid (hX4.out.below hb6 (by omega))
    have hT6' := Lib.hid hT6.row
    replace hb6 := Lib.hid (hb4.out.trans (hb6.mono (by omega)))
    clear hT6
    go_wp2_with fail
    refine (eq_ints _ _ xs xs w6.heap.size _ (hX6.out.mono (by omega)) hT6'.out (by omega) (by omega)).mono ?_
    rintro e w' ⟨rfl, n7, rfl⟩
    rw [hsamx.out]
    go_wp2_with fail
    go_ret
    exact ⟨rfl, below_drewN hb6.out n7⟩
theorem law_FamilyLevel_at (n k : Int) (L : List Int) (b : Bool) (hL : L.length ≤ 1000000) (P0 : World → Prop) (hP : ∀ W W', P0 W → Below W.heap.size W W' → P0 W')
    (hi : ∀ W, P0 W → Calls Try.prog 32 #[.int .i64 n, .int .i64 k] W fun e w' => ∃ v, e = .returned (.tuple #[v, .bool b]) ∧ Own w' W.heap.size w'.heap.size v L ∧ Below W.heap.size W w')
    (hs : ∀ W, P0 W → Calls Try.prog 31 #[.int .i64 n, .int .i64 k] W fun e w' => ∃ v, e = .returned (.tuple #[v, .bool b]) ∧ Own w' W.heap.size w'.heap.size v L ∧ Below W.heap.size W w')
    (w : World) (h0 : P0 w) : Calls Try.prog 6 #[.int .i64 n, .int .i64 k] w fun e w' => e = .returned (.bool true) ∧ Below w.heap.size w w' := by
  have hi := Lib.hid hi
  have hs := Lib.hid hs
  have h0 := Lib.hid h0
  have hP := Lib.hid hP
  have hsame : sameB L L = true := decide_eq_true rfl
  have hbb : (b != b) = false := by simp
  go_enter Try.func6, Try.ntmps6
  go_wp2_with fail
  refine (hs.out _ h0.out).mono ?_
  rintro e w1 ⟨v0, rfl, hO0, hb1⟩
  obtain ⟨a0, c0, rfl, _⟩ := id hO0
  have hO0 := Lib.hid hO0
  have h1 := Lib.hid (hP.out _ _ h0.out hb1)
  go_wp2_with fail
  refine (hi.out _ h1.out).mono ?_
  rintro e w2 ⟨v1, rfl, hO1, hb2⟩
  obtain ⟨a1, c1, rfl, _⟩ := id hO1
  have hO1 := Lib.hid hO1
  have hR0 := Lib.hid ((hO0.out.row.below hb2 (Nat.le_refl _)).mono hb2.size)
  go_wp2_with fail
  refine (eq_ints _ _ L L _ _ hO1.out.row hR0.out (by omega) (by omega)).mono ?_
  rintro e w' ⟨rfl, n1, rfl⟩
  go_wp2_with fail
  refine (mark_ints _ L 1 _ _ _ (hO1.out.drewN n1) (by omega) (by omega) (by omega)).mono ?_
  rintro e w3 ⟨rfl, hO3, hb3⟩
  have hO3 := Lib.hid hO3
  go_wp2_with fail
  have hlen : (marks 1 L.length).length ≤ 1000000 := by rw [marks_len]; exact hL
  refine (held_ints _ (marks 1 L.length) 1 _ _ (by have := hO3.out.row; exact this) (by omega) (by omega) (by omega)).mono ?_
  rintro e w' ⟨rfl, rfl⟩
  rw [heldV_marks]
  have hq : (0 : Int) ≤ 1 + (L.length : Nat) := by omega
  have hqq : ((1 : Int) + (L.length : Nat) != 1 + (L.length : Nat)) = false := by simp
  have s1 := hb1.size
  have s2 := hb2.size
  have s3 : w2.heap.size ≤ w3.heap.size := hb3.size
  have hb123 := Lib.hid ((hb1.trans (hb2.mono s1)).trans ((below_drewN (Below.refl _ w2) n1).trans (hb3.mono s1)))
  have h3 := Lib.hid (hP.out _ _ h0.out hb123.out)
  go_wp2_with fail
  refine (hi.out _ h3.out).mono ?_
  rintro e w4 ⟨v4, rfl, hO4, hb4⟩
  obtain ⟨a4, c4, rfl, _⟩ := id hO4
  have hO4 := Lib.hid hO4
  have s4 := hb4.size
  have hR4 := Lib.hid ((((hO0.out.row.below hb2 (Nat.le_refl _)).drewN n1).below hb3 (Nat.le_refl _)).below hb4 (by omega))
  have hO5 := Lib.hid (hO3.out.below hb4 s3)
  go_wp2_with fail
  refine (eq_ints _ _ L L w4.heap.size _ hO4.out.row (hR4.out.mono (by omega)) (by omega) (by omega)).mono ?_
  rintro e w' ⟨rfl, n5, rfl⟩
  go_wp2_with fail
  refine (held_ints _ (marks 1 L.length) 1 _ _ ((hO5.out.drewN n5).row) (by omega) (by omega) (by omega)).mono ?_
  rintro e w' ⟨rfl, rfl⟩
  rw [heldV_marks]
  go_wp2_with fail
  go_ret
  exact ⟨rfl, below_drewN (hb123.out.trans (hb4.mono (by omega))) n5⟩
theorem Law_FamilyLevel (n k : Int) (w : World) : Calls Try.prog 6 #[.int .i64 n, .int .i64 k] w fun e w' => e = .returned (.bool true) ∧ Below w.heap.size w w' :=
  law_FamilyLevel_at n k _ _ (ifL_len fun hb => sort_len fun z hz => by
    have hp : ptsB n = true := by unfold szB at hb; rw [Bool.and_eq_true] at hb; exact hb.1
    obtain ⟨n1, n2⟩ := ptsB_yes hp
    exact setB_lt (upI_lt n1 n2 z (List.mem_filter.1 hz).1)) (fun _ => True) (fun _ _ _ _ => trivial) (fun W _ => im_FamilyLevel n k W) (fun W _ => sp_FamilyLevel n k W) w trivial
end Go.Proofs.Ytpkomjnbbipnfaa
