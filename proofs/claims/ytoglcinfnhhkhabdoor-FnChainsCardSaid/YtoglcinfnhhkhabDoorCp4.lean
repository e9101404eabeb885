/- The model's pairs, and the exact law of ChainPairs. -/
import Derived.Test.YtoglcinfnhhkhabDoorCp3
import Derived.Test.YtoglcinfnhhkhabDoorFLaws2
namespace Go.Proofs.YtoglcinfnhhkhabDoor
open Go.ChangeShapes Go.WideShapes Go.ChangeAt Go.RowKit Go.Proofs

set_option maxHeartbeats 8000000 in
theorem l5pairs_at (N : Nat) (s : Int) (w : World) (h8 : N ≤ 8) (s1 : 0 ≤ s) (s2 : s < 256) :
    Calls Tryd.prog 29 #[.int .i64 (N : Nat), .int .i64 s] w (IntsPost (pairL s N N) w) := by
  have h80 : (N : Int) ≤ 8 := by omega
  have hV0 := Lib.hid ((OwnL.lit w (Nat.le_refl w.heap.size)).alloc (.cells #[] 3))
  have hO0 := OwnL.lit (w.alloc (.cells #[] 3)) (B := w.heap.size) (by simp)
  rw [World.size_alloc] at hO0
  replace hO0 := Lib.hid hO0
  have hne0 := Lib.hid (show (Value.slice (some ⟨w.heap.size, 0, none⟩) 0 0).ownBlock ≠ (Value.slice (some ⟨w.heap.size + 1, 0, none⟩) 0 0).ownBlock from fun e => by simp [Value.ownBlock] at e)
  have hB0 := Lib.hid (((Below.refl w.heap.size w).alloc (Nat.le_refl _) (.cells #[] 3)).alloc (by simp) (.cells #[] 3))
  go_enter Tryd.func29, Tryd.ntmps29
  go_wp2_with fail
  go_loopw [5, 6, 7] (fun v o i wr => ∃ k : Nat, k ≤ N ∧ i = .int .i64 k ∧ Hid (OwnL wr w.heap.size v (pairL s k k)) ∧ Hid (OwnL wr w.heap.size o (wtL s k)) ∧ Hid (v.ownBlock ≠ o.ownBlock) ∧ Hid (Below w.heap.size w wr)) (fun _ _ i _ => N - (intOf i).toNat)
  case atStart => exact ⟨0, by omega, rfl, hV0, hO0, hne0, hB0⟩
  case round =>
    obtain ⟨k, hk, rfl, hV, hO, hne, hbel⟩ := hrel
    have hsz := hbel.out.size
    by_cases hlt : k < N
    · have k1 : (0 : Int) ≤ (k : Int) := by omega
      have k2 : (k : Int) < (N : Nat) := by omega
      have k7 : (k : Int) ≤ 7 := by omega
      obtain ⟨hb, hhb⟩ : ∃ b, hasB s (k : Nat) = b := ⟨_, rfl⟩
      have hhas := fun W => l1has s (k : Nat) s1 s2 k1 k7 W
      rw [hhb] at hhas
      replace hhas := Lib.hid hhas
      have hgr := pr_grow s k k (Nat.le_refl _)
      have hlv : (pairL s k k).length ≤ 1073741824 := by rw [pr_len]; omega
      have hlk := pr_len s (k + 1) k
      obtain ⟨xs, hxs⟩ : ∃ xs, pairL s k k = xs := ⟨_, rfl⟩
      rw [hxs] at hV hgr hlv
      obtain ⟨a', c', rfl⟩ := hV.out.form
      have hB1 : w.heap.size ≤ (wr.alloc (.cells #[.int .i64 (-1)] 3)).heap.size := by rw [World.size_alloc]; omega
      replace hgr := Lib.hid hgr
      replace hlk := Lib.hid hlk
      replace hhb := Lib.hid hhb
      replace hxs := Lib.hid hxs
      go_wp2_with (at_builtin; refine app_int_at rfl _ _ rfl w.heap.size _ xs rfl (hV.out.alloc _) (-1) wr.heap.size rfl (cell_new _ _ _) hlv hB1 ?_; intro v1 w1 hown1 hg1 hat1)
      rw [← hgr.out] at hown1
      have hb1 := Lib.hid (below_own (hbel.out.alloc hsz _) hg1 (hV.out.alloc _) hB1)
      have hO1 := Lib.hid ((hO.out.alloc (.cells #[.int .i64 (-1)] 3)).grown hg1 hne.out.symm)
      have hne1 := Lib.hid (show v1.ownBlock ≠ u6.ownBlock from fun e => by
        rcases hat1 with h | h
        · exact hne.out (h.symm.trans e)
        · rw [h] at e
          have := (World.ownsRow.lt hO.out _ e.symm).2
          rw [World.size_alloc] at this
          omega)
      obtain ⟨g, cp, rfl, hN1⟩ := OwnL.someK hown1 hlk.out
      have hsz1 := hb1.out.size
      replace hN1 := Lib.hid hN1
      clear hown1 hg1 hat1 hV hO hne hbel
      refine (hhas.out _).mono ?_
      rintro e w' ⟨rfl, rfl⟩
      rcases (by cases hb <;> simp : hb = true ∨ hb = false) with rfl | rfl
      · rcases hw : wtL s k with _ | ⟨y, ys⟩
        · have hsp : pairL s (k + 1) k = pairL s (k + 1) (k + 1) := (pr_none hw).symm
          have hso : wtL s (k + 1) = [] := by rw [wt_in hhb.out, hw]; rfl
          rw [hw] at hO1
          obtain ⟨a2, c2, rfl⟩ := hO1.out.form
          rw [hsp] at hN1
          have hO2 := Lib.hid (show OwnL w1 w.heap.size (.slice a2 0 c2) (wtL s (k + 1)) from by rw [hso]; exact hO1.out)
          have hV2 := Lib.hid hN1.out.toL
          clear hO1 hsp hso hw hN1
          go_wp2_with fail
          go_roundw
          case rel => exact ⟨k + 1, by omega, by first | rfl | go_num, hV2, hO2, hne1, hb1⟩
          case measure => simp [intOf]; omega
        · have hl : (wtL s k).length = ys.length + 1 := by rw [hw]; rfl
          have hlen := wt_len s k
          obtain ⟨q, hq⟩ : ∃ q, (wtL s k).getLast? = some q := by rw [hw]; exact ⟨_, List.getLast?_cons⟩
          obtain ⟨t, rfl, ht, hd⟩ := wt_last hq
          obtain ⟨m, hm⟩ : ∃ m, ys.length = m := ⟨_, rfl⟩
          rw [hm] at hl
          obtain ⟨g', c2, rfl, hOn⟩ := hO1.out.someK hl
          have hcap := hOn.cap.1
          have hgg : g' ≠ g := fun e => hne1.out (by rw [e]; rfl)
          have hdl : (wtL s k).dropLast.length = m := by rw [List.length_dropLast, hl]; rfl
          have e1 : w1.cell? ⟨g', m, none⟩ = some (.int .i64 (t : Nat)) := by
            rw [hOn.cell (by omega), hd, List.getD_eq_getElem?_getD, List.getElem?_append_right (by omega), hdl]
            simp
          have e2 := hN1.out.cell (i := k) (by omega)
          have e3 := hN1.out.frozen k
          have hNk := hN1.out.put k (t : Nat)
          have e4 := hNk.cell (i := t) (by omega)
          have e5 := hNk.frozen t
          have hL2 := Lib.hid (hNk.put t (k : Nat)).toL
          have hgB := hN1.out.ge.1
          have hO2 := Lib.hid (show OwnL ((w1.setCell ⟨g, k, none⟩ (.int .i64 (t : Nat))).setCell ⟨g, t, none⟩ (.int .i64 (k : Nat))) w.heap.size (.slice (some ⟨g', 0, none⟩) m c2) (wtL s (k + 1)) from by
            have h0 : OwnL w1 w.heap.size (.slice (some ⟨g', 0, none⟩) m c2) (wtL s k).dropLast := by
              have h := hOn
              rw [hd, ← hdl] at h
              have h := OwnN.pop h
              rw [hdl] at h
              exact h.toL
            rw [wt_in hhb.out]
            exact (h0.other (a := ⟨g, k, none⟩) (by simpa [Value.ownBlock] using hgg) _).other (a := ⟨g, t, none⟩) (by simpa [Value.ownBlock] using hgg) _)
          have hpr : ((pairL s (k + 1) k).set k (t : Nat)).set t (k : Nat) = pairL s (k + 1) (k + 1) := by rw [pr_in hhb.out hq]; rfl
          rw [hpr] at hL2
          have hB2 := Lib.hid (below_setCell (p := ⟨g, t, none⟩) (below_setCell (p := ⟨g, k, none⟩) hb1.out hgB (.int .i64 (t : Nat))) hgB (.int .i64 (k : Nat)))
          have hne2 := Lib.hid (show (Value.slice (some ⟨g, 0, none⟩) (k + 1) cp).ownBlock ≠ (Value.slice (some ⟨g', 0, none⟩) m c2).ownBlock from fun e => hgg (by simpa [Value.ownBlock] using e.symm))
          have t1 : (0 : Int) ≤ (t : Int) := by omega
          have t2 : (t : Int) < (k + 1 : Nat) := by omega
          have k3 : (k : Int) < (k + 1 : Nat) := by omega
          have m1 : (0 : Int) ≤ (m : Int) := by omega
          have m2 : (m : Int) < (m + 1 : Nat) := by omega
          have m3 : (m : Int) ≤ (c2 : Nat) := by omega
          have m8 : m ≤ 8 := by omega
          clear hN1 hO1 hne1 hb1 hw hl hlen hq hd hOn hcap hdl hpr hm hNk
          go_wp2_with fail
          go_roundw
          case rel => exact ⟨k + 1, by omega, by first | rfl | go_num, hL2, hO2, hne2, hB2⟩
          case measure => simp [intOf]; omega
      · have hso := wt_out hhb.out
        have hsp : pairL s (k + 1) k = pairL s (k + 1) (k + 1) := (pr_out hhb.out).symm
        have hlen : (wtL s k).length ≤ 1073741824 := by have := wt_len s k; omega
        rw [hsp] at hN1
        obtain ⟨ys, hys⟩ : ∃ ys, wtL s k = ys := ⟨_, rfl⟩
        rw [hys] at hO1 hso hlen
        obtain ⟨a2, c2, rfl⟩ := hO1.out.form
        have hB2 : w.heap.size ≤ (w1.alloc (.cells #[.int .i64 (k : Int)] 3)).heap.size := by rw [World.size_alloc]; omega
        replace hys := Lib.hid hys
        replace hso := Lib.hid hso
        clear hsp
        go_wp2_with (at_builtin; refine app_int_at rfl _ _ rfl w.heap.size _ ys rfl (hO1.out.alloc _) (k : Int) w1.heap.size rfl (cell_new _ _ _) hlen hB2 ?_; intro o2 w2 hown2 hg2 hat2)
        rw [← hso.out] at hown2
        replace hown2 := Lib.hid hown2
        have hb2 := Lib.hid (below_own (hb1.out.alloc hsz1 _) hg2 (hO1.out.alloc _) hB2)
        have hL2 := Lib.hid ((hN1.out.alloc (.cells #[.int .i64 (k : Int)] 3)).grown hg2 (fun e => hne1.out (Eq.symm e))).toL
        have hv2 := Lib.hid (show (Value.slice (some ⟨g, 0, none⟩) (k + 1) cp).ownBlock ≠ o2.ownBlock from fun e => by
          rcases hat2 with h | h
          · exact hne1.out (e.trans h)
          · rw [h] at e; simp [Value.ownBlock] at e; have := hN1.out.ge.2; omega)
        go_roundw
        case rel => exact ⟨k + 1, by omega, by first | rfl | go_num, hL2, hown2, hv2, hb2⟩
        case measure => simp [intOf]; omega
    · obtain rfl : k = N := by omega
      go_wp2_with fail
      go_ret
      exact ⟨_, rfl, hV.out, hbel.out⟩
/-- a set's points in pairs, or nothing. -/
def pairsI (n s : Int) : List Int := if setB n s then pairL s n.toNat n.toNat else []
theorem pairs_len (n s : Int) : (pairsI n s).length ≤ 1000000 := by
  unfold pairsI
  split
  · rename_i h
    obtain ⟨n1, n2, _⟩ := setB_yes h
    rw [pr_len]; omega
  · simp
end Go.Proofs.YtoglcinfnhhkhabDoor
