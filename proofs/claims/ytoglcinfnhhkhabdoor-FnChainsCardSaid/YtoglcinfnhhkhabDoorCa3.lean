/- ChainAll: the model. -/
import Derived.Test.YtoglcinfnhhkhabDoorCa2
namespace Go.Proofs.YtoglcinfnhhkhabDoor
open Go.ChangeShapes Go.WideShapes Go.ChangeAt Go.RowKit Go.Proofs

set_option maxRecDepth 100000 in
set_option maxHeartbeats 8000000 in
theorem sp_ChainAll (n : Int) (w : World) : Calls Tryd.prog 6 #[.int .i64 n] w (SSP (allC n) (ptsB n) w) := by
  have hpc := l1pts n
  unfold allC
  have hL0 := RW.nil (w := w) (B := w.heap.size) (Nat.le_refl _)
  have hB0 := (Below.refl w.heap.size w).alloc (Nat.le_refl _) (.cells #[] 28)
  rcases (by cases ptsB n <;> simp : ptsB n = true ∨ ptsB n = false) with hp | hp
  · obtain ⟨n1, n2⟩ := ptsB_yes hp
    rw [hp] at hpc
    rw [hp, if_pos rfl]
    obtain ⟨N, rfl⟩ := Int.eq_ofNat_of_zero_le (show 0 ≤ n by omega)
    have hpn := pow_nat (n := (N : Nat)) n1 n2
    rw [Int.toNat_natCast] at hpn ⊢
    obtain ⟨M, hM⟩ : ∃ M, 2 ^ N = M := ⟨_, rfl⟩
    rw [hM] at hpn ⊢
    obtain ⟨hM8, -, hwr⟩ := hpn
    obtain ⟨i0, hi, hz0, hz1, hz2⟩ := info_parts Tryd.intsInfo
    have hn64 : (N : Int) < 64 := by omega
    replace hpc := Lib.hid hpc
    replace hp := Lib.hid hp
    replace hL0 := Lib.hid hL0
    replace hB0 := Lib.hid hB0
    replace hM := Lib.hid hM
    go_enter Tryd.func6, Tryd.ntmps6
    go_wp2_with (go_at_call 15; refine (hpc.out _).mono ?_; rintro e w' ⟨rfl, rfl⟩)
    go_loopw [4, 5] (fun o i wr => ∃ k : Nat, k ≤ M ∧ i = .int .i64 (k : Nat) ∧ Hid (RW wr w.heap.size o (acL N k)) ∧ Hid (Below w.heap.size w wr)) (fun _ i _ => M - (intOf i).toNat)
    case atStart => exact ⟨0, by omega, rfl, hL0, hB0⟩
    case round =>
      obtain ⟨k, hk, rfl, hR, hB⟩ := hrel
      obtain ⟨oa, oc, rfl⟩ := hR.out.form
      have hsz := hB.out.size
      have hst : acL N (k + 1) = if (chnL N (k : Nat)).headD 0 = ((k : Nat) : Int) then acL N k ++ [chnL N (k : Nat)] else acL N k := rfl
      obtain ⟨Ls, hLs⟩ : ∃ Ls, acL N k = Ls := ⟨_, rfl⟩
      have hll := acL_len N k
      rw [hLs] at hst hR hll ⊢
      by_cases hlt : k < M
      · have k0 : (0 : Int) ≤ (k : Int) := by omega
        have k1 : (k : Int) < (M : Nat) := by omega
        have k256 : (k : Int) < 256 := by omega
        have kN : ((k : Nat) : Int) < 2 ^ N := by
          have : ((k : Nat) : Int) < ((2 ^ N : Nat) : Int) := by rw [hM.out]; omega
          simpa using this
        have hch := l5chain_at N (k : Nat) wr (by omega) (by omega) k0 k256 kN
        obtain ⟨x, T, hxT⟩ := chnL_cons N (k : Nat)
        rw [hxT] at hch hst
        rw [List.headD_cons] at hst
        replace hch := Lib.hid hch
        replace hxT := Lib.hid hxT
        replace hLs := Lib.hid hLs
        go_wp2_with fail
        refine hch.out.mono ?_
        rintro e w6 ⟨u, rfl, hO6, hb6⟩
        have hsz6 := hb6.size
        obtain ⟨g, cap, hu, hN⟩ := OwnL.someN hO6 (List.cons_ne_nil _ _)
        subst hu
        have e0 : w6.cell? ⟨g, 0, none⟩ = some (.int .i64 x) := hN.cell (i := 0) (by simp)
        have hB6 := Lib.hid (hB.out.trans (hb6.mono hsz))
        have hR6 := Lib.hid (hR.out.below hb6)
        obtain ⟨lt, hlt'⟩ : ∃ lt, (x :: T).length = lt := ⟨_, rfl⟩
        have hlp : (0 : Int) < (lt : Nat) := by rw [← hlt', List.length_cons]; omega
        clear hN
        by_cases hxk : x = (k : Int)
        · subst hxk
          rw [if_pos rfl] at hst
          obtain ⟨V, K, r1, r2, r3⟩ := hR.out
          have r1' := owns_at r1 (fun g hg => hb6.block g (World.ownsRow.lt r1 g hg).2)
          have hfin := Lib.hid (fun v' w3 (hown : w3.ownsRow w.heap.size 28 1 v' (Ls.length + 1) ((List.range Ls.length).map V ++ [.slice (some ⟨g, 0, none⟩) ((k : Int) :: T).length cap])) (hg : (w6.alloc (.cells #[.slice (some ⟨g, 0, none⟩) ((k : Int) :: T).length cap] 28)).grownBy w3 (Value.slice oa Ls.length oc).ownBlock) =>
            show RW w3 w.heap.size v' (acL N (k + 1)) ∧ Below w.heap.size w w3 from by
              have h := RW.step r1 r2 r3 hsz hO6 (List.cons_ne_nil _ _) hb6 hown hg
              exact ⟨by rw [hst]; exact h.1, hB.out.trans h.2⟩)
          have hBw : w.heap.size ≤ (w6.alloc (.cells #[.slice (some ⟨g, 0, none⟩) ((k : Int) :: T).length cap] 28)).heap.size := by rw [World.size_alloc]; omega
          have hkl : Ls.length ≤ 1000 := by omega
          replace hst := Lib.hid hst
          replace hO6 := Lib.hid hO6
          replace hb6 := Lib.hid hb6
          rw [hlt'] at hfin hBw ⊢
          replace hlt' := Lib.hid hlt'
          go_wp2_with (at_builtin; refine wpList_append_own _ rfl _ _ 24 rfl w.heap.size 28 i0 (.slice none 0 0) 1 24 Tryd.underlying24 hi hz0 hz1 hz2 rfl (by decide) _ _ _ rfl (r1'.alloc _) ⟨w6.heap.size, 0, none⟩ 1 1 [.slice (some ⟨g, 0, none⟩) lt cap] rfl rfl (cell_one_new _ _ _) (by simp [Value.oneCell']) (by unfold maxLen; omega) (by omega) hBw ?_; intro v' w3 hown hg _; obtain ⟨hR7, hB7⟩ := hfin.out v' w3 hown hg; replace hR7 := Lib.hid hR7; replace hB7 := Lib.hid hB7; clear hown hg)
          go_roundw
          case rel => exact ⟨k + 1, by omega, by first | rfl | go_num, hR7, hB7⟩
          case measure => simp [intOf]; omega
        · rw [if_neg hxk] at hst
          have hxb : (x == (k : Int)) = false := by simp [hxk]
          have hR7 := Lib.hid (show RW w6 w.heap.size (.slice oa Ls.length oc) (acL N (k + 1)) by rw [hst]; exact hR6.out)
          replace hst := Lib.hid hst
          rw [hlt']
          replace hlt' := Lib.hid hlt'
          clear hO6
          go_wp2_with fail
          go_roundw
          case rel => exact ⟨k + 1, by omega, by first | rfl | go_num, hR7, hB6⟩
          case measure => simp [intOf]; omega
      · obtain rfl : k = M := by omega
        replace hLs := Lib.hid hLs
        have hR' := Lib.hid (show RW wr w.heap.size (.slice oa Ls.length oc) (acL N k) by rw [hLs.out]; exact hR.out)
        go_wp2_with fail
        go_ret2
        exact ⟨_, rfl, hR'.out, hB.out⟩
  · rw [hp] at hpc
    rw [hp, if_neg (by simp)]
    replace hpc := Lib.hid hpc
    replace hp := Lib.hid hp
    replace hL0 := Lib.hid hL0
    replace hB0 := Lib.hid hB0
    go_enter Tryd.func6, Tryd.ntmps6
    go_wp2_with (go_at_call 15; refine (hpc.out _).mono ?_; rintro e w' ⟨rfl, rfl⟩)
    go_ret2
    exact ⟨_, rfl, hL0.out, hB0.out⟩
end Go.Proofs.YtoglcinfnhhkhabDoor
