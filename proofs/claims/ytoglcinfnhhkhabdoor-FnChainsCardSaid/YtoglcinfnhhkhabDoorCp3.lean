/- The program's partners. -/
import Derived.Test.YtoglcinfnhhkhabDoorCp2
namespace Go.Proofs.YtoglcinfnhhkhabDoor
open Go.ChangeShapes Go.WideShapes Go.ChangeAt Go.RowKit Go.Proofs

theorem OwnN.mono {w : World} {B C g N cap : Nat} {xs : List Int} (h : OwnN w C g N cap xs) (hB : B ≤ C) : OwnN w B g N cap xs := by
  refine ⟨h.1, ?_⟩
  rcases h.2 with h2 | ⟨g', cap', cur, e, hg, r⟩
  · exact .inl h2
  · exact .inr ⟨g', cap', cur, e, Nat.le_trans hB hg, r⟩
theorem OwnN.grown {w w' : World} {B g N cap : Nat} {xs : List Int} {row : Option Nat} (h : OwnN w B g N cap xs) (hg : w.grownBy w' row) (hne : row ≠ some g) : OwnN w' B g N cap xs :=
  World.ownsRow.kept h hg (.inr (fun e => hne e.symm))
theorem OwnN.cap {w : World} {B g N cap : Nat} {xs : List Int} (h : OwnN w B g N cap xs) : N ≤ cap ∧ cap ≤ maxLen := by
  rcases h.2 with ⟨h2, _⟩ | ⟨g', cap', cur, e, hg, hh, h3, h4, _⟩
  · cases h2
  · cases e; exact ⟨h3, h4⟩
theorem OwnL.someK {w : World} {B K : Nat} {v : Value} {xs : List Int} (h : OwnL w B v xs) (hl : xs.length = K + 1) : ∃ g cap, v = .slice (some ⟨g, 0, none⟩) (K + 1) cap ∧ OwnN w B g (K + 1) cap xs := by
  obtain ⟨g, cap, e, hN⟩ := h.someN (by intro hx; rw [hx] at hl; simp at hl)
  rw [hl] at e hN
  exact ⟨g, cap, e, hN⟩
set_option maxHeartbeats 8000000 in
theorem partners_at (N : Nat) (s : Int) (w : World) (h1 : 1 ≤ N) (h8 : N ≤ 8) (s1 : 0 ≤ s) (s2 : s < 256) :
    Calls Tryd.prog 23 #[.int .i64 (N : Nat), .int .u64 s] w (IntsPost (pairL s N N) w) := by
  have hrep := Lib.hid (fun b W => repeat_at N b W h1 h8)
  have hw1 := Lib.hid ((Below.refl w.heap.size w).alloc (Nat.le_refl _) (.cells #[.int .i64 (-1)] 3))
  have hc1 := cell_new w (.int .i64 (-1)) 3
  have hz1 : w.heap.size < (w.alloc (.cells #[.int .i64 (-1)] 3)).heap.size := by simp
  have h10 : (1 : Int) ≤ (N : Nat) := by omega
  have h80 : (N : Int) ≤ 8 := by omega
  go_enter Tryd.func23, Tryd.ntmps23
  go_wp2_with (first | (go_at_call 35; refine (hrep.out _ _ hz1 hc1).mono ?_; rintro e w2 ⟨g, rfl, hg0, hN0, hb2⟩))
  have hB2 := Lib.hid (hw1.out.trans (hb2.mono (by simp)))
  have hz2 := hB2.out.size
  have hN1 := Lib.hid ((OwnN.mono hN0 (show w.heap.size ≤ _ by simp)).alloc (.cells #[] 3))
  have hgw := (OwnN.ge hN0).2
  have hWL := Lib.hid (OwnL.lit w2 hz2)
  have hB3 := Lib.hid (hB2.out.alloc hz2 (.cells #[] 3))
  have hgB : w.heap.size ≤ g := by have := (OwnN.ge hN0).1; simp at this; omega
  clear hN0 hb2 hg0
  go_wp2_with fail
  go_loopw [6, 14] (fun o i wr => ∃ k : Nat, k ≤ N ∧ i = .int .i64 k ∧ Hid (OwnN wr w.heap.size g N N (pairL s N k)) ∧ Hid (OwnL wr w.heap.size o (wtL s k)) ∧ Hid (o.ownBlock ≠ some g) ∧ Hid (Below w.heap.size w wr)) (fun _ i _ => N - (intOf i).toNat)
  case atStart => exact ⟨0, by omega, rfl, hN1, hWL, Lib.hid (fun e => by injection e with e; dsimp only at e; omega), hB3⟩
  case round =>
    obtain ⟨k, hk, rfl, hL, hO, hne, hbel⟩ := hrel
    have hsz := hbel.out.size
    by_cases hlt : k < N
    · have k1 : (0 : Int) ≤ (k : Int) := by omega
      have k2 : (k : Int) < (N : Nat) := by omega
      have k7 : (k : Int) ≤ 7 := by omega
      obtain ⟨hb, hhb⟩ : ∃ b, hasB s (k : Nat) = b := ⟨_, rfl⟩
      have hhas := fun W => set_has s (k : Nat) s1 s2 k1 k7 W
      rw [hhb] at hhas
      replace hhas := Lib.hid hhas
      rcases (by cases hb <;> simp : hb = true ∨ hb = false) with rfl | rfl
      · rcases hw : wtL s k with _ | ⟨y, ys⟩
        · have hsp : pairL s N k = pairL s N (k + 1) := (pr_none hw).symm
          have hso : wtL s (k + 1) = [] := by rw [wt_in hhb, hw]; rfl
          rw [hw] at hO
          obtain ⟨a', c', rfl⟩ := hO.out.form
          rw [hsp] at hL
          have hO2 := Lib.hid (show OwnL wr w.heap.size (.slice a' 0 c') (wtL s (k + 1)) from by rw [hso]; exact hO.out)
          replace hhb := Lib.hid hhb
          clear hO hsp hso hw
          go_wp2_with (first | (go_at_call 25; refine (hhas.out _).mono ?_; rintro e w' ⟨rfl, rfl⟩))
          go_roundw
          case rel => exact ⟨k + 1, by omega, by first | rfl | go_num, hL, hO2, hne, hbel⟩
          case measure => simp [intOf]; omega
        · have hl : (wtL s k).length = ys.length + 1 := by rw [hw]; rfl
          have hlen := wt_len s k
          obtain ⟨q, hq⟩ : ∃ q, (wtL s k).getLast? = some q := by rw [hw]; exact ⟨_, List.getLast?_cons⟩
          obtain ⟨t, rfl, ht, hd⟩ := wt_last hq
          obtain ⟨m, hm⟩ : ∃ m, ys.length = m := ⟨_, rfl⟩
          rw [hm] at hl
          obtain ⟨g', c', rfl, hOn⟩ := hO.out.someK hl
          have hcap := hOn.cap.1
          have hgg : g' ≠ g := fun e => hne.out (by rw [e]; rfl)
          have hdl : (wtL s k).dropLast.length = m := by rw [List.length_dropLast, hl]; rfl
          have e1 : wr.cell? ⟨g', m, none⟩ = some (.int .i64 (t : Nat)) := by
            rw [hOn.cell (by omega), hd, List.getD_eq_getElem?_getD, List.getElem?_append_right (by omega), hdl]
            simp
          have e2 := hL.out.cell (i := k) hlt
          have e3 := hL.out.frozen k
          have e4 := hL.out.cell (i := t) (by omega)
          have e5 := hL.out.frozen t
          have hL2 := Lib.hid ((hL.out.put k (t : Nat)).put t (k : Nat))
          have hO2 := Lib.hid (show OwnL ((wr.setCell ⟨g, k, none⟩ (.int .i64 (t : Nat))).setCell ⟨g, t, none⟩ (.int .i64 (k : Nat))) w.heap.size (.slice (some ⟨g', 0, none⟩) m c') (wtL s (k + 1)) from by
            have h0 : OwnL wr w.heap.size (.slice (some ⟨g', 0, none⟩) m c') (wtL s k).dropLast := by
              have h := hOn
              rw [hd, ← hdl] at h
              have h := OwnN.pop h
              rw [hdl] at h
              exact h.toL
            rw [wt_in hhb]
            exact (h0.other (a := ⟨g, k, none⟩) (by simpa [Value.ownBlock] using hgg) _).other (a := ⟨g, t, none⟩) (by simpa [Value.ownBlock] using hgg) _)
          have hpr : ((pairL s N k).set k (t : Nat)).set t (k : Nat) = pairL s N (k + 1) := by rw [pr_in hhb hq]; rfl
          rw [hpr] at hL2
          have hB2 := Lib.hid (below_setCell (p := ⟨g, t, none⟩) (below_setCell (p := ⟨g, k, none⟩) hbel.out hgB (.int .i64 (t : Nat))) hgB (.int .i64 (k : Nat)))
          have hne2 := Lib.hid (show (Value.slice (some ⟨g', 0, none⟩) m c').ownBlock ≠ some g from fun e => hgg (by simpa [Value.ownBlock] using e))
          obtain ⟨u, e7⟩ := cell?_setCell_some (p := ⟨g, k, none⟩) (x := .int .i64 (t : Nat)) e4
          have t1 : (0 : Int) ≤ (t : Int) := by omega
          have t2 : (t : Int) < (N : Nat) := by omega
          have m1 : (0 : Int) ≤ (m : Int) := by omega
          have m2 : (m : Int) < (m + 1 : Nat) := by omega
          have m3 : (m : Int) ≤ (c' : Nat) := by omega
          have m8 : m ≤ 8 := by omega
          have htk := Lib.hid ht
          replace hhb := Lib.hid hhb
          clear hL hO hne hbel hw hl hlen hq hd hOn hcap hdl hpr hm ht
          go_wp2_with (first | (go_at_call 25; refine (hhas.out _).mono ?_; rintro e w' ⟨rfl, rfl⟩))
          go_region
          go_wp2_with fail
          go_roundw
          case rel => exact ⟨k + 1, by omega, by first | rfl | go_num, Lib.hid hL2.out, Lib.hid hO2.out, hne2, Lib.hid hB2.out.drew⟩
          case measure => simp [intOf]; omega
      · have hso := wt_out hhb
        have hsp : pairL s N k = pairL s N (k + 1) := (pr_out hhb).symm
        have hlen : (wtL s k).length ≤ 1073741824 := by have := wt_len s k; omega
        rw [hsp] at hL
        obtain ⟨ys, hys⟩ : ∃ ys, wtL s k = ys := ⟨_, rfl⟩
        rw [hys] at hO hso hlen
        obtain ⟨a', c', rfl⟩ := hO.out.form
        have hB1 : w.heap.size ≤ (wr.alloc (.cells #[.int .i64 (k : Int)] 3)).heap.size := by rw [World.size_alloc]; omega
        replace hhb := Lib.hid hhb
        replace hys := Lib.hid hys
        replace hso := Lib.hid hso
        clear hsp
        go_wp2_with (first | (go_at_call 25; refine (hhas.out _).mono ?_; rintro e w' ⟨rfl, rfl⟩) | (at_builtin; refine app_int_at rfl _ _ rfl w.heap.size _ ys rfl (hO.out.alloc _) (k : Int) wr.heap.size rfl (cell_new _ _ _) hlen hB1 ?_; intro v' w1 hown1 hg1 hat1))
        rw [← hso.out] at hown1
        replace hown1 := Lib.hid hown1
        have hb2 := Lib.hid (below_own (hbel.out.alloc hsz _) hg1 (hO.out.alloc _) hB1)
        have hL2 := Lib.hid ((hL.out.alloc _).grown hg1 hne.out)
        have hv2 := Lib.hid (show v'.ownBlock ≠ some g from fun e => by
          rcases hat1 with h | h
          · exact hne.out (h.symm.trans e)
          · rw [h] at e; injection e with e; rw [World.size_alloc] at e; have := hL.out.ge.2; omega)
        go_roundw
        case rel => exact ⟨k + 1, by omega, by first | rfl | go_num, hL2, hown1, hv2, hb2⟩
        case measure => simp [intOf]; omega
    · obtain rfl : k = N := by omega
      have hOl := Lib.hid hL.out.toL
      clear hL
      go_wp2_with fail
      go_ret
      exact ⟨_, rfl, hOl.out, hbel.out⟩
end Go.Proofs.YtoglcinfnhhkhabDoor
