/- ChainAll: the program and the model. -/
import Derived.Test.YtoglcinfnhhkhabDoorCa1
namespace Go.Proofs.YtoglcinfnhhkhabDoor
open Go.ChangeShapes Go.WideShapes Go.ChangeAt Go.RowKit Go.Proofs

theorem RW.form {w : World} {B : Nat} {v : Value} {Ls : List (List Int)} (h : RW w B v Ls) : ∃ a c, v = .slice a Ls.length c := by
  obtain ⟨V, K, h1, _⟩ := h
  rcases h1.2 with ⟨rfl, hn⟩ | ⟨g, cap, cur, rfl, _⟩
  · exact ⟨none, 0, by rw [hn]⟩
  · exact ⟨_, _, rfl⟩
def SSP (Ls : List (List Int)) (b : Bool) (w : World) (e : Ending) (w' : World) : Prop := ∃ v, e = .returned (.tuple #[v, .bool b]) ∧ RW w' w.heap.size v Ls ∧ Below w.heap.size w w'
def allC (n : Int) : List (List Int) := if ptsB n then acL n.toNat (2 ^ n.toNat) else []
theorem setl_at {w w' : World} {B : Nat} {v : Value} {xs : List Int} (h : SetL w B v xs) (hk : ∀ (g : Nat) (cur : Array Value), w.heap[g]? = some (.cells cur 42 (0, 0)) → w'.heap[g]? = w.heap[g]?) : SetL w' B v xs := owns_at h (fun g hg => by
  obtain ⟨cur, hc⟩ := owns_blk h hg
  exact hk g cur hc)
theorem upI_get {m k : Nat} (h : k < m) : (upI m).getD k 0 = (k : Nat) := by unfold upI; rw [List.getD_eq_getElem?_getD, List.getElem?_map, List.getElem?_range h]; rfl
theorem chnL_cons (N : Nat) (s : Int) : ∃ x T, chnL N s = x :: T := by
  unfold chnL
  obtain ⟨T, h⟩ := lkI_head (cutI s (pairL s N N) N).1 (ptsI (cutI s (pairL s N N) N).2)
  exact ⟨_, T, h⟩
theorem fldS0 (x y : Value) (w : World) : (Instr.field 39 (.agg #[x, y]) 0).run Tryd.prog w = .ok x w := by kernel_rfl
set_option maxRecDepth 100000 in
set_option maxHeartbeats 8000000 in
theorem im_ChainAll (n : Int) (w : World) (hT : Tab w) : Calls Tryd.prog 5 #[.int .i64 n] w (SSP (allC n) (ptsB n) w) := by
  have hpc := pts_in n
  unfold allC
  have hL0 := RW.nil (w := w) (B := w.heap.size) (Nat.le_refl _)
  have hB0 := (Below.refl w.heap.size w).alloc (Nat.le_refl _) (.cells #[] 28)
  rcases (by cases ptsB n <;> simp : ptsB n = true ∨ ptsB n = false) with hp | hp
  · obtain ⟨n1, n2⟩ := ptsB_yes hp
    rw [hp] at hpc
    rw [hp, if_pos rfl]
    obtain ⟨N, rfl⟩ := Int.eq_ofNat_of_zero_le (show 0 ≤ n by omega)
    have hall := all_sets (N : Nat) n1 n2
    rw [Int.toNat_natCast] at hall ⊢
    rw [sortL_asc (asc_upI _)] at hall
    have hM8 : 2 ^ N ≤ 256 := by have : 2 ^ N ≤ 2 ^ 8 := Nat.pow_le_pow_right (by omega) (show N ≤ 8 by omega); simpa using this
    obtain ⟨M, hM⟩ : ∃ M, 2 ^ N = M := ⟨_, rfl⟩
    rw [hM] at hall hM8 ⊢
    have hul := upI_len M
    have hug := fun k (h : k < M) => upI_get h
    obtain ⟨us, hus⟩ : ∃ us, upI M = us := ⟨_, rfl⟩
    rw [hus] at hall hul hug
    have htl := hT.lt
    obtain ⟨i0, hi, hz0, hz1, hz2⟩ := info_parts Tryd.intsInfo
    replace hpc := Lib.hid hpc
    replace hall := Lib.hid hall
    replace hug := Lib.hid hug
    replace hus := Lib.hid hus
    replace hp := Lib.hid hp
    replace hT := Lib.hid hT
    replace hL0 := Lib.hid hL0
    replace hB0 := Lib.hid hB0
    replace hM := Lib.hid hM
    go_enter Tryd.func5, Tryd.ntmps5
    go_wp2_with (go_at_call 11; refine (hpc.out _).mono ?_; rintro e w' ⟨rfl, rfl⟩)
    refine (hall.out _).mono ?_
    rintro e w2 ⟨v2, rfl, hS2, hb2⟩
    obtain ⟨a2, c2, rfl⟩ := hS2.form
    have hL1 := Lib.hid (hL0.out.below hb2)
    have hB1 := Lib.hid (hB0.out.trans (hb2.mono hB0.out.size))
    replace hS2 := Lib.hid hS2
    rw [hul]
    clear hb2
    have hfl := fldS0
    go_wp2_with fail
    go_loopw [4, 17] (fun o i wr => ∃ k : Nat, k ≤ M ∧ i = .int .i64 (k : Nat) ∧ Hid (RW wr w.heap.size o (acL N k)) ∧ Hid (Below w.heap.size w wr) ∧ Hid (∃ C, SetL wr C (.slice a2 us.length c2) us)) (fun _ i _ => M - (intOf i).toNat)
    case atStart => exact ⟨0, by omega, rfl, hL1, hB1, Lib.hid ⟨_, hS2.out⟩⟩
    case round =>
      obtain ⟨k, hk, rfl, hR, hB, hS⟩ := hrel
      obtain ⟨oa, oc, rfl⟩ := hR.out.form
      have hsz := hB.out.size
      have hst : acL N (k + 1) = if (chnL N (k : Nat)).headD 0 = ((k : Nat) : Int) then acL N k ++ [chnL N (k : Nat)] else acL N k := rfl
      obtain ⟨Ls, hLs⟩ : ∃ Ls, acL N k = Ls := ⟨_, rfl⟩
      have hll := acL_len N k
      rw [hLs] at hst hR hll ⊢
      by_cases hlt : k < M
      · obtain ⟨C, hSl⟩ := hS.out
        obtain ⟨sa, sc, e', hcells⟩ := hSl.row
        cases e'
        obtain ⟨b1, o1, rfl, t1, cc⟩ := hcells (by omega)
        have k0 : (0 : Int) ≤ (k : Int) := by omega
        have k1 : (k : Int) < (M : Nat) := by omega
        have k256 : (k : Int) < 256 := by omega
        have kN : ((k : Nat) : Int) < 2 ^ N := by
          have : ((k : Nat) : Int) < ((2 ^ N : Nat) : Int) := by rw [hM.out]; omega
          simpa using this
        have e1 := cc k (by omega)
        rw [hug.out k hlt] at e1
        have hch := chain_of N (k : Nat) wr (hT.out.below hB.out htl) (by omega) (by omega) k0 k256
        obtain ⟨-, hz, hlen9⟩ := chn_facts (N := N) (s := (k : Nat)) (by omega) k0 kN
        obtain ⟨x, T, hxT⟩ := chnL_cons N (k : Nat)
        rw [hxT] at hch hz hlen9 hst
        rw [List.headD_cons] at hst
        obtain ⟨x1, x2⟩ := hz x (List.mem_cons_self ..)
        have hnum := Lib.hid (fun p W (hl : LinkV W (x :: T) p) => lk_numbers (x :: T) p W hl (by omega) hz)
        replace hch := Lib.hid hch
        replace hxT := Lib.hid hxT
        replace hLs := Lib.hid hLs
        clear cc hz hcells hSl
        go_wp2_with fail
        refine hch.out.mono ?_
        rintro e w5 ⟨p, rfl, hLk, hb5⟩
        have hsz5 := hb5.size
        have hnm := Lib.hid (hnum.out p w5 hLk)
        obtain ⟨bp, nx, rfl, hcp, -⟩ := hLk
        obtain ⟨c0, -⟩ := link_cells hcp
        have hB5 := Lib.hid (hB.out.trans (hb5.mono hsz))
        have hR5 := Lib.hid (hR.out.below hb5)
        have hS5 := Lib.hid (show ∃ C, SetL w5 C (.slice (some ⟨b1, o1, none⟩) us.length c2) us from by
          obtain ⟨C, h⟩ := hS.out
          exact ⟨C, setl_at h (fun g cur hc => hb5.block g (Array.getElem?_eq_some_iff.1 hc).1)⟩)
        clear hcp hnum
        by_cases hxk : x = (k : Int)
        · subst hxk
          rw [if_pos rfl] at hst
          obtain ⟨V, K, r1, r2, r3⟩ := hR.out
          replace hb5 := Lib.hid hb5
          replace hst := Lib.hid hst
          go_wp2_with fail
          refine hnm.out.mono ?_
          rintro e w6 ⟨u, rfl, hO6, hb6⟩
          have hb56 : Below wr.heap.size wr w6 := hb5.out.trans (hb6.mono hsz5)
          have r1' := owns_at r1 (fun g hg => hb56.block g (World.ownsRow.lt r1 g hg).2)
          have hO6' := hO6.mono hsz5
          obtain ⟨g, cap, hu, -⟩ := OwnL.someN hO6 (List.cons_ne_nil _ _)
          subst hu
          have hfin := Lib.hid (fun v' w3 (hown : w3.ownsRow w.heap.size 28 1 v' (Ls.length + 1) ((List.range Ls.length).map V ++ [.slice (some ⟨g, 0, none⟩) ((k : Int) :: T).length cap])) (hg : (w6.alloc (.cells #[.slice (some ⟨g, 0, none⟩) ((k : Int) :: T).length cap] 28)).grownBy w3 (Value.slice oa Ls.length oc).ownBlock) =>
            show RW w3 w.heap.size v' (acL N (k + 1)) ∧ Below w.heap.size w w3 ∧ ∃ C, SetL w3 C (.slice (some ⟨b1, o1, none⟩) us.length c2) us from by
              have h := RW.step r1 r2 r3 hsz hO6' (List.cons_ne_nil _ _) hb56 hown hg
              refine ⟨by rw [hst.out]; exact h.1, hB.out.trans h.2, ?_⟩
              obtain ⟨C, hs⟩ := hS5.out
              refine ⟨C, setl_at hs (fun q cur hc => ?_)⟩
              have hq5 := (Array.getElem?_eq_some_iff.1 hc).1
              have hq6 := (hb6.block q hq5).trans hc
              have hlt6 := (Array.getElem?_eq_some_iff.1 hq6).1
              rw [hg.block q (by rw [World.size_alloc]; omega) (fun e => ?_), Below.heap_alloc _ _ _ hlt6, hq6, hc]
              obtain ⟨cur', hc'⟩ := owns_blk r1' e.symm
              rw [hq6] at hc'
              injection hc' with hc'
              injection hc' with _ hc'
              exact absurd hc' (by decide))
          have hBw : w.heap.size ≤ (w6.alloc (.cells #[.slice (some ⟨g, 0, none⟩) ((k : Int) :: T).length cap] 28)).heap.size := by have := hb56.size; rw [World.size_alloc]; omega
          have hkl : Ls.length ≤ 1000 := by omega
          replace hO6 := Lib.hid hO6
          replace hb6 := Lib.hid hb6
          replace hb56 := Lib.hid hb56
          obtain ⟨lt, hlt'⟩ : ∃ lt, ((k : Int) :: T).length = lt := ⟨_, rfl⟩
          rw [hlt'] at hfin hBw ⊢
          replace hlt' := Lib.hid hlt'
          go_wp2_with (at_builtin; refine wpList_append_own _ rfl _ _ 24 rfl w.heap.size 28 i0 (.slice none 0 0) 1 24 Tryd.underlying24 hi hz0 hz1 hz2 rfl (by decide) _ _ _ rfl (r1'.alloc _) ⟨w6.heap.size, 0, none⟩ 1 1 [.slice (some ⟨g, 0, none⟩) lt cap] rfl rfl (cell_one_new _ _ _) (by simp [Value.oneCell']) (by unfold maxLen; omega) (by omega) hBw ?_; intro v' w3 hown hg _; obtain ⟨hR6, hB6, hS6⟩ := hfin.out v' w3 hown hg; replace hR6 := Lib.hid hR6; replace hB6 := Lib.hid hB6; replace hS6 := Lib.hid hS6; clear hown hg)
          go_roundw
          case rel => exact ⟨k + 1, by omega, by first | rfl | go_num, hR6, hB6, hS6⟩
          case measure => simp [intOf]; omega
        · rw [if_neg hxk] at hst
          have hxb : (x == (k : Int)) = false := by simp [hxk]
          have hR6 := Lib.hid (show RW w5 w.heap.size (.slice oa Ls.length oc) (acL N (k + 1)) by rw [hst]; exact hR5.out)
          replace hst := Lib.hid hst
          go_wp2_with fail
          go_roundw
          case rel => exact ⟨k + 1, by omega, by first | rfl | go_num, hR6, hB5, hS5⟩
          case measure => simp [intOf]; omega
      · obtain rfl : k = M := by omega
        replace hLs := Lib.hid hLs
        have hR' := Lib.hid (show RW wr w.heap.size (.slice oa Ls.length oc) (acL N k) by rw [hLs.out]; exact hR.out)
        go_wp2_with fail
        go_ret2
        exact ⟨_, rfl, hR'.out, hB.out⟩
  · rw [hp] at hpc
    rw [hp, if_neg (by simp)]
    replace hpc := Lib.hid hpc
    replace hp := Lib.hid hp
    replace hL0 := Lib.hid hL0
    replace hB0 := Lib.hid hB0
    clear hT
    go_enter Tryd.func5, Tryd.ntmps5
    go_wp2_with (go_at_call 11; refine (hpc.out _).mono ?_; rintro e w' ⟨rfl, rfl⟩)
    go_ret2
    exact ⟨_, rfl, hL0.out, hB0.out⟩
end Go.Proofs.YtoglcinfnhhkhabDoor
