/- The program's WeightOf. -/
import Derived.Test.YtcadlfljlobjjaaCk5
import Derived.Test.YtcadlfljlobjjaaFLaws
namespace Go.Proofs.Ytcadlfljlobjjaa
open Go.ChangeShapes Go.WideShapes Go.ChangeAt Go.RowKit Go.Proofs

theorem cnt_nat (s : Int) : ∃ k : Nat, cntI s = (k : Nat) := ⟨_, rfl⟩
theorem cnt_set {N : Nat} {x : Int} (h8 : N ≤ 8) (hx : 0 ≤ x) (hx2 : x < 2 ^ N) : ∃ k : Nat, cntI x = (k : Nat) ∧ k ≤ N := by
  obtain ⟨k, hk⟩ := cnt_nat x
  refine ⟨k, hk, ?_⟩
  have hp : (2 : Int) ^ N = ((2 ^ N : Nat) : Int) := by simp
  have h2 : 2 ^ N ≤ 256 := by
    have : 2 ^ N ≤ 2 ^ 8 := Nat.pow_le_pow_right (by omega) h8
    simpa using this
  have := cnt_le_n ⟨N, by omega⟩ ⟨x.toNat, by omega⟩ (by dsimp only; omega)
  simp only [Int.toNat_of_nonneg hx] at this
  omega
/-- the weight of a list, or nothing. -/
def wgtI (n : Int) (xs : List Int) : Int := if famB n xs then ((wS n.toNat xs : Nat) : Int) else 0
def botI (n : Int) (xs : List Int) : Int := if famB n xs then ((cbN n.toNat : Nat) : Int) else 0
def PairPost (c d : Int) (b : Bool) (w : World) (e : Ending) (w' : World) : Prop := e = .returned (.tuple #[.int .i64 c, .int .i64 d, .bool b]) ∧ Below w.heap.size w w'
set_option maxHeartbeats 4000000 in
theorem im_WeightOf (n : Int) (lv : Value) (xs : List Int) (S : Nat) (w : World) (hx : Row w S lv xs) (hS : S ≤ w.heap.size) (hl : xs.length ≤ 100000000) :
    Calls Try.prog 8 #[.int .i64 n, lv] w (PairPost (wgtI n xs) (botI n xs) (famB n xs) w) := by
  have hr := Lib.hid (read_any n lv xs S w hx hS hl)
  obtain ⟨la, lc, rfl, _⟩ := id hx
  clear hx
  unfold wgtI botI
  rcases (by cases famB n xs <;> simp : famB n xs = true ∨ famB n xs = false) with hf | hf
  · rw [hf, if_pos rfl, if_pos rfl]
    obtain ⟨n1, n2, hall⟩ := famB_all hf
    obtain ⟨N, rfl⟩ : ∃ N : Nat, n = (N : Nat) := ⟨n.toNat, by omega⟩
    simp only [Int.toNat_natCast]
    have hfh := Lib.hid hf
    go_enter Try.func8, Try.ntmps8
    go_wp2_with fail
    refine hr.out.mono ?_
    rintro e w1 (⟨_, v, rfl, hS1, hb1⟩ | ⟨hf2, _⟩)
    case inr => rw [hfh.out] at hf2; cases hf2
    obtain ⟨a', c', rfl⟩ := hS1.form
    have hz1 := hb1.size
    have hlen := famB_len hf
    have hset : ∀ z ∈ xs, ∃ k : Nat, cntI z = (k : Nat) ∧ k ≤ N ∧ 0 ≤ z ∧ z < 256 := fun z hz => by
      obtain ⟨_, _, z1, z2⟩ := setB_yes (hall z hz)
      obtain ⟨z3, z4⟩ := setB_lt (hall z hz)
      rw [Int.toNat_natCast] at z2
      obtain ⟨k, h1, h2⟩ := cnt_set (by omega) z1 z2
      exact ⟨k, h1, h2, z3, z4⟩
    obtain ⟨W1, hW1⟩ : ∃ W1, w1.alloc (.cells #[.slice a' xs.length c', (Value.func (.func 68) #[] #[])] 36) = W1 := ⟨_, rfl⟩
    have hbw := hb1.alloc hz1 (.cells #[.slice a' xs.length c', (Value.func (.func 68) #[] #[])] 36)
    have hS2 := hS1.alloc (.cells #[.slice a' xs.length c', (Value.func (.func 68) #[] #[])] 36)
    have hc1 := heap_alloc_new w1 (.cells #[.slice a' xs.length c', (Value.func (.func 68) #[] #[])] 36 (0, 0))
    have hs1 : W1.heap.size = w1.heap.size + 1 := by rw [← hW1]; simp
    rw [hW1] at hbw hS2 hc1
    have hbot := Lib.hid (bottom_at N W1 (by omega) (by omega))
    have hrow := hS2.row
    replace hset := Lib.hid hset
    replace hbw := Lib.hid hbw
    replace hc1 := Lib.hid hc1
    replace hW1 := Lib.hid hW1
    replace hrow := Lib.hid hrow
    replace hf := Lib.hid hf
    replace hall := Lib.hid hall
    clear hS2 hS1 hb1 hr
    go_wp2_with fail
    rw [hW1.out]
    refine hbot.out.mono ?_
    rintro e w2 ⟨rfl, hb2⟩
    have hz2 := hb2.size
    obtain ⟨cb, hcb⟩ : ∃ cb, cbN N = cb := ⟨_, rfl⟩
    have hcb2 := (cb_bd N).2
    rw [hcb] at hcb2 ⊢
    obtain ⟨W3, hW3⟩ : ∃ W3, w2.alloc (.cells #[.int .i64 0, .int .i64 (cb : Nat)] 42) = W3 := ⟨_, rfl⟩
    have hs3 : W3.heap.size = w2.heap.size + 1 := by rw [← hW3]; simp
    have hb3 : Below W1.heap.size W1 W3 := by rw [← hW3]; exact hb2.alloc hz2 _
    have hc3 : W3.heap[w2.heap.size]? = some (.cells #[.int .i64 0, .int .i64 (cb : Nat)] 42 (0, 0)) := by rw [← hW3]; exact heap_alloc_new w2 _
    obtain ⟨q0, q1⟩ := pair_cells hc1.out hb3 (show w1.heap.size < W1.heap.size by omega)
    have q0' : (w2.alloc (.cells #[.int .i64 0, .int .i64 (cb : Nat)] 42)).cell? ⟨w1.heap.size, 0, none⟩ = some (.slice a' xs.length c') := by rw [hW3]; exact q0
    have hw3 := Lib.hid (hbw.out.trans (hb3.mono (show w.heap.size ≤ W1.heap.size by omega)))
    obtain ⟨ra, rc, hre, hrc⟩ := (hrow.out.below hb3 (Nat.le_refl _))
    cases hre
    have hle : w.heap.size ≤ w2.heap.size := by omega
    replace hcb := Lib.hid hcb
    replace hc3 := Lib.hid hc3
    replace hW3 := Lib.hid hW3
    replace hrc := Lib.hid hrc
    replace hb3 := Lib.hid hb3
    clear hb2 hrow hbot
    go_wp2_with fail
    rw [hW3.out]
    go_loopw [26] (fun i wr => ∃ k : Nat, k ≤ xs.length ∧ i = .int .i64 (k : Nat) ∧ Hid (wr.heap[w2.heap.size]? = some (.cells #[.int .i64 (wS N (xs.take k) : Nat), .int .i64 (cb : Nat)] 42 (0, 0))) ∧ Hid (Below w2.heap.size W3 wr)) (fun i _ => xs.length - (intOf i).toNat)
    case atStart => exact ⟨0, by omega, rfl, by simpa [wS] using hc3, Lib.hid (Below.refl _ _)⟩
    case round =>
      obtain ⟨k, hk, rfl, hc, hbel⟩ := hrel
      have hsz := hbel.out.size
      by_cases hlt : k < xs.length
      · obtain ⟨b1, o1, rfl, s1, c1⟩ := hrc.out (by omega)
        have k1 : (0 : Int) ≤ (k : Int) := by omega
        have k2 : (k : Int) < (xs.length : Nat) := by omega
        have e1 : wr.cell? ⟨b1, o1 + k, none⟩ = some (.int .u64 (xs.getD k 0)) := (hbel.out.cell (p := ⟨b1, o1 + k, none⟩) (show b1 < w2.heap.size by omega)).trans (c1 k hlt)
        obtain ⟨x, hx⟩ : ∃ x, xs.getD k 0 = x := ⟨_, rfl⟩
        obtain ⟨c, hcn, hcN, x1, x2⟩ := hset.out x (by rw [← hx]; exact getD_mem hlt)
        rw [hx] at e1
        have hst := wS_take (n := N) hlt hx
        rw [hcn, hcb.out, Int.toNat_natCast] at hst
        have hle1 := wS_le N (xs.take k)
        rw [List.length_take] at hle1
        obtain ⟨t, ht⟩ : ∃ t, wS N (xs.take k) = t := ⟨_, rfl⟩
        rw [ht] at hc hst hle1
        have hsize := fun W => set_size x x1 x2 W
        rw [hcn] at hsize
        have hshare := Lib.hid (fun W => share_at N c W (by omega) hcN)
        have hplus := Lib.hid (fun W => plus_at t cb (chN N c) W (by omega) (by omega) (ch_N (by omega) hcN).2.1)
        obtain ⟨u, hu⟩ : ∃ u, t + cb / chN N c = u := ⟨_, rfl⟩
        rw [hu] at hst hplus
        have hlt2 : w2.heap.size < wr.heap.size := by omega
        have hK := Lib.hid (Below.refl wr.heap.size wr).drew
        obtain ⟨l0, l1, -, -⟩ := frac_cells hc.out (Below.refl wr.heap.size wr) hlt2
        replace hsize := Lib.hid hsize
        replace hst := Lib.hid hst
        replace hu := Lib.hid hu
        replace ht := Lib.hid ht
        replace hcn := Lib.hid hcn
        clear hx c1
        go_wp2_with fail
        go_region_with (first
          | (go_at_call 24; (with_reducible refine (hsize.out _).mono ?_); rintro e w' ⟨rfl, rfl⟩)
          | (go_at_call 23; (with_reducible refine (hshare.out _).mono ?_); rintro e w4 ⟨rfl, hb4⟩; replace hK := Lib.hid (hK.out.trans (hb4.mono hK.out.size)); obtain ⟨l0, l1, -, -⟩ := frac_cells hc.out hK.out hlt2; clear hb4)
          | (go_at_call 22; (with_reducible refine (hplus.out _).mono ?_); rintro e w5 ⟨rfl, hb5⟩; replace hK := Lib.hid (hK.out.trans (hb5.mono hK.out.size)); obtain ⟨d0, d1, df0, df1⟩ := frac_cells hc.out hK.out hlt2; clear hb5))
        all_goals
          have hc5 : w5.heap[w2.heap.size]? = _ := (hK.out.block w2.heap.size hlt2).trans hc.out
          have hn := frac_store hc5 (.int .i64 (u : Nat)) (.int .i64 (cb : Nat))
          rw [← hst.out] at hn
          replace hn := Lib.hid hn
          have hbn := Lib.hid (below_setCell (below_setCell (hbel.out.trans (hK.out.mono (Nat.le_of_lt hlt2))) (p := ⟨w2.heap.size, 0, none⟩) (Nat.le_refl _) (.int .i64 (u : Nat))) (p := ⟨w2.heap.size, 1, none⟩) (Nat.le_refl _) (.int .i64 (cb : Nat)))
          go_wp2_with fail
          go_roundw
          case rel => exact ⟨k + 1, by omega, by first | rfl | go_num, by first | exact hn | (rw [hst.out] at hn ⊢; exact hn), by first | exact hbn | (rw [hst.out] at hbn; exact hbn)⟩
          case measure => simp [intOf]; omega
      · obtain rfl : k = xs.length := by omega
        have hcc := hc.out
        rw [List.take_length] at hcc
        obtain ⟨l0, l1, -, -⟩ := frac_cells hcc (Below.refl wr.heap.size wr) (show w2.heap.size < wr.heap.size by omega)
        have hbf := Lib.hid (hw3.out.trans (hbel.out.mono hle))
        clear hc
        go_wp2_with fail
        go_quiet (fail)
        go_wp2_with fail
        go_ret3
        exact ⟨by rw [hcb.out]; rfl, below_drewN hbf.out _⟩
  · rw [hf, if_neg (by simp), if_neg (by simp)]
    have hfh := Lib.hid hf
    replace hf := Lib.hid hf
    go_enter Try.func8, Try.ntmps8
    go_wp2_with fail
    refine hr.out.mono ?_
    rintro e w1 (⟨hf2, _⟩ | ⟨_, rfl, hb1⟩)
    case inl => rw [hfh.out] at hf2; cases hf2
    replace hb1 := Lib.hid (hb1.alloc hb1.size (.cells #[.slice none 0 0, .nilFunc] 36))
    clear hr
    go_wp2_with fail
    go_ret3
    exact ⟨rfl, hb1.out⟩
end Go.Proofs.Ytcadlfljlobjjaa
