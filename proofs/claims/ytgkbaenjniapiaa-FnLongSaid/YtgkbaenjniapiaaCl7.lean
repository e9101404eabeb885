/- ChainLong: the model, the law. -/
import Derived.Test.YtgkbaenjniapiaaCl6
namespace Go.Proofs.Ytgkbaenjniapiaa
open Go.ChangeShapes Go.WideShapes Go.ChangeAt Go.RowKit Go.Proofs

/-- the longest chain that ends with the set at a place. -/
def loN (xs : List Int) (j : Nat) : Nat := 1 + dnM (xs.getD j 0) (xs.take j).reverse
def loL (xs : List Int) (i : Nat) : List Int := (List.range i).map (fun j => ((loN xs j : Nat) : Int))
theorem loL_len (xs : List Int) (i : Nat) : (loL xs i).length = i := by simp [loL]
theorem loL_snoc (xs : List Int) (i : Nat) : loL xs (i + 1) = loL xs i ++ [((loN xs i : Nat) : Int)] := by simp [loL, List.range_succ]
theorem loL_at {xs : List Int} {i j : Nat} (h : j < i) : (loL xs i).getD j 0 = ((loN xs j : Nat) : Int) := by
  rw [List.getD_eq_getElem?_getD, loL, List.getElem?_map, List.getElem?_range h]; rfl
theorem rev_snoc {xs : List Int} {j : Nat} {y : Int} (h : j < xs.length) (hy : xs.getD j 0 = y) : (xs.take (j + 1)).reverse = y :: (xs.take j).reverse := by
  rw [take_snoc h, hy, List.reverse_append, List.reverse_singleton]; rfl
theorem dn_step {xs : List Int} {j : Nat} {y : Int} (h : j < xs.length) (hy : xs.getD j 0 = y) (t : Int) : dnM t (xs.take (j + 1)).reverse = max (dnM t (xs.take j).reverse) (if partB y t then loN xs j else 0) := by
  rw [rev_snoc h hy, dn_cons, loN, hy]
theorem dn_top {xs : List Int} {j : Nat} (h : j < xs.length) (hz : ∀ z ∈ xs, 0 ≤ z ∧ z < 256) : dnM 255 (xs.take (j + 1)).reverse = max (dnM 255 (xs.take j).reverse) (loN xs j) := by
  rw [dn_step h rfl, if_pos]
  have := hz _ (getD_mem h)
  exact part_top this.1 this.2
theorem lo_le (xs : List Int) (j : Nat) (hj : j ≤ xs.length) : loN xs j ≤ 1 + xs.length := by
  have := dn_len (xs.getD j 0) (xs.take j).reverse
  rw [List.length_reverse, List.length_take, Nat.min_eq_left hj] at this
  unfold loN; omega
set_option maxHeartbeats 8000000 in
theorem sp_ChainLong (n : Int) (lv : Value) (xs : List Int) (S : Nat) (w : World) (hx : Row w S lv xs) (hS : S ≤ w.heap.size) (hl : xs.length ≤ 100000000) :
    Calls Try.prog 23 #[.int .i64 n, lv] w (NumPost (lngI n xs) (famB n xs) w) := by
  have h1 := sp_FamilyIn n lv xs S w hx (by omega)
  obtain ⟨a, cap, rfl, ha⟩ := id hx
  unfold lngI
  rcases (by cases famB n xs <;> simp : famB n xs = true ∨ famB n xs = false) with f1 | f1
  · have hlen := famB_len f1
    have hzz := famB_lt f1
    have hlong := long_down hzz
    rw [f1] at h1
    rw [f1, if_pos rfl]
    replace h1 := Lib.hid h1
    replace f1 := Lib.hid f1
    replace ha := Lib.hid ha
    replace hzz := Lib.hid hzz
    replace hlong := Lib.hid hlong
    clear hx
    go_enter Try.func23, Try.ntmps23
    go_wp2_with fail
    refine h1.out.mono ?_
    rintro e w1 ⟨rfl, q, rfl⟩
    have hB0 := Lib.hid (below_drewN (Below.refl w.heap.size w) q)
    have hsz0 := hB0.out.size
    obtain ⟨w2, hw2⟩ : ∃ w2, w.drewN q = w2 := ⟨_, rfl⟩
    rw [hw2] at hB0 hsz0 ⊢
    have hL0 := Lib.hid (OwnL.lit w2 (B := w.heap.size) hsz0)
    have hB1 := Lib.hid (hB0.out.alloc hsz0 (.cells #[] 3))
    replace hw2 := Lib.hid hw2
    go_wp2_with fail
    go_loopw [6, 7, 8] (fun o v i wr => ∃ m : Nat, m ≤ xs.length ∧ i = .int .i64 (m : Nat) ∧ o = .int .i64 (dnM 255 (xs.take m).reverse : Nat) ∧ Hid (OwnL wr w.heap.size v (loL xs m)) ∧ Hid (Below w.heap.size w wr)) (fun _ _ i _ => xs.length - (intOf i).toNat)
    case atStart => exact ⟨0, by omega, rfl, rfl, hL0, hB1⟩
    case round =>
      obtain ⟨m, hm, rfl, rfl, hown, hbel⟩ := hrel
      obtain ⟨W0, rfl⟩ : ∃ W0, W0 = wr := ⟨_, rfl⟩
      have hsz := hbel.out.size
      obtain ⟨T, hT⟩ : ∃ T, dnM 255 (xs.take m).reverse = T := ⟨_, rfl⟩
      have hTl := dn_len 255 (xs.take m).reverse
      rw [List.length_reverse, List.length_take, hT] at hTl
      rw [hT]
      by_cases hlt : m < xs.length
      · have m1 : (0 : Int) ≤ (m : Int) := by omega
        have m2 : (m : Int) < (xs.length : Nat) := by omega
        obtain ⟨b1, o1, rfl, s1, c1⟩ := ha.out (by omega)
        obtain ⟨x, hx⟩ : ∃ x, xs.getD m 0 = x := ⟨_, rfl⟩
        obtain ⟨x1, x2⟩ := hzz.out x (by rw [← hx]; exact getD_mem hlt)
        have htop := dn_top hlt hzz.out
        rw [hT] at htop
        have hlo : loN xs m = 1 + dnM x (xs.take m).reverse := by rw [← hx]; rfl
        obtain ⟨la, lc, rfl, hrow⟩ := hown.out.own.row
        rw [loL_len] at hrow ⊢
        replace hT := Lib.hid hT
        replace htop := Lib.hid htop
        replace hlo := Lib.hid hlo
        replace hrow := Lib.hid hrow
        replace hx := Lib.hid hx
        have hc1 := Lib.hid c1
        clear c1
        go_wp2_with fail
        go_loopw [9, 10] (fun k j wq => ∃ jj : Nat, jj ≤ m ∧ j = .int .i64 (jj : Nat) ∧ k = .int .i64 (1 + dnM x (xs.take jj).reverse : Nat) ∧ Hid (∃ q, wq = W0.drewN q)) (fun _ j _ => m - (intOf j).toNat)
        case atStart => exact ⟨0, by omega, rfl, rfl, Lib.hid ⟨0, rfl⟩⟩
        case round =>
          obtain ⟨jj, hj, rfl, rfl, hq⟩ := hrel
          obtain ⟨q, hq1⟩ := hq.out
          obtain ⟨D, hD⟩ : ∃ D, dnM x (xs.take jj).reverse = D := ⟨_, rfl⟩
          have hDl := dn_len x (xs.take jj).reverse
          rw [List.length_reverse, List.length_take, hD] at hDl
          rw [hD]
          by_cases hlj : jj < m
          · obtain ⟨g, off, rfl, hg1, hgc⟩ := hrow.out (by omega)
            have j1 : (0 : Int) ≤ (jj : Int) := by omega
            have j2 : (jj : Int) < (m : Nat) := by omega
            have j3 : (jj : Int) < (xs.length : Nat) := by omega
            obtain ⟨y, hy⟩ : ∃ y, xs.getD jj 0 = y := ⟨_, rfl⟩
            obtain ⟨y1, y2⟩ := hzz.out y (by rw [← hy]; exact getD_mem (by omega))
            have hst := dn_step (show jj < xs.length by omega) hy x
            rw [hD] at hst
            have hlo := lo_le xs jj (by omega)
            have e1 : wr.cell? ⟨b1, o1 + jj, none⟩ = some (.int .i64 y) := by
              rw [hq1, ← hy]
              exact (hbel.out.cell (p := ⟨b1, o1 + jj, none⟩) (show b1 < w.heap.size by omega)).trans (hc1.out jj (by omega))
            have e2 : wr.cell? ⟨b1, o1 + m, none⟩ = some (.int .i64 x) := by
              rw [hq1, ← hx.out]
              exact (hbel.out.cell (p := ⟨b1, o1 + m, none⟩) (show b1 < w.heap.size by omega)).trans (hc1.out m hlt)
            obtain ⟨Lo, hLo⟩ : ∃ Lo, loN xs jj = Lo := ⟨_, rfl⟩
            have e3 : wr.cell? ⟨g, off + jj, none⟩ = some (.int .i64 (Lo : Nat)) := by
              have := hgc jj (by rw [loL_len]; exact hlj)
              rw [loL_at hlj, hLo] at this
              rw [hq1]; exact this
            rw [hLo] at hst hlo
            have hp := fun w => l5part y x y1 y2 x1 x2 w
            obtain ⟨b, hb⟩ : ∃ b, partB y x = b := ⟨_, rfl⟩
            rw [hb] at hst hp
            have hqn := fun n => Lib.hid (show ∃ q, wr.drewN n = W0.drewN q from ⟨q + n, by rw [hq1]; exact World.drewN_drewN W0 q n⟩)
            replace hb := Lib.hid hb
            replace hp := Lib.hid hp
            replace hy := Lib.hid hy
            replace hq1 := Lib.hid hq1
            replace hD := Lib.hid hD
            replace hLo := Lib.hid hLo
            replace hqn := Lib.hid hqn
            clear hgc
            cases b
            · rw [if_neg (by simp)] at hst
              have hk := Lib.hid (show ((1 + D : Nat) : Int) = ((1 + dnM x (xs.take (jj + 1)).reverse : Nat) : Int) by rw [hst]; omega)
              replace hst := Lib.hid hst
              go_wp2_with fail
              go_quiet ((go_at_call 55; exact Calls.quiet_of_same (hp.out _)))
              go_wp2_with fail
              go_roundw
              case rel => exact ⟨jj + 1, by omega, by go_num, by rw [hk.out], hqn.out _⟩
              case measure => simp [intOf]; omega
            · rw [if_pos rfl] at hst
              have hk := Lib.hid (show max (1 + (D : Int)) ((Lo : Int) + 1) = ((1 + dnM x (xs.take (jj + 1)).reverse : Nat) : Int) by rw [hst]; omega)
              replace hst := Lib.hid hst
              go_wp2_with fail
              go_quiet ((go_at_call 55; exact Calls.quiet_of_same (hp.out _)))
              go_wp2_with fail
              go_roundw
              case rel => exact ⟨jj + 1, by omega, by go_num, by rw [← hk.out], hqn.out _⟩
              case measure => simp [intOf]; omega
          · obtain rfl : jj = m := by omega
            have hDm : 1 + D = loN xs jj := by rw [hlo.out, ← hD]
            obtain ⟨K, hK⟩ : ∃ K, 1 + D = K := ⟨_, rfl⟩
            have hsn := loL_snoc xs jj
            have htp := htop.out
            rw [← hDm, hK] at hsn htp
            have hKl : K ≤ 300 := by omega
            have hll := loL_len xs jj
            obtain ⟨ys, hys⟩ : ∃ ys, loL xs jj = ys := ⟨_, rfl⟩
            rw [hys] at hown hsn hll
            rw [hq1, hK]
            have hown2 := Lib.hid (show OwnL (W0.drewN q) w.heap.size (.slice la jj lc) ys from by have h := hown.out.drewN q; rw [hll] at h; exact h)
            have hbel2 := Lib.hid (below_drewN hbel.out q)
            obtain ⟨w5, hw5⟩ : ∃ w5, W0.drewN q = w5 := ⟨_, rfl⟩
            rw [hw5] at hown2 hbel2 ⊢
            have hsz5 := hbel2.out.size
            have hlen5 : ys.length ≤ 1073741824 := by omega
            have hB5 : w.heap.size ≤ (w5.alloc (.cells #[.int .i64 (K : Nat)] 3)).heap.size := by rw [World.size_alloc]; omega
            have hk := Lib.hid (show max (T : Int) (K : Nat) = ((dnM 255 (xs.take (jj + 1)).reverse : Nat) : Int) by rw [htp]; omega)
            replace hsn := Lib.hid hsn
            replace htp := Lib.hid htp
            replace hys := Lib.hid hys
            replace hw5 := Lib.hid hw5
            replace hq1 := Lib.hid hq1
            replace hDm := Lib.hid hDm
            replace hK := Lib.hid hK
            clear hown hbel
            go_wp2_with (at_builtin; refine app_int rfl _ _ rfl w.heap.size _ ys rfl (hown2.out.alloc _) (K : Nat) w5.heap.size rfl (cell_new _ _ _) hlen5 hB5 ?_; intro v' w1 hown1 hb1)
            rw [← hsn.out] at hown1
            replace hown1 := Lib.hid hown1
            have hb2 := Lib.hid ((hbel2.out.alloc hsz5 _).trans hb1)
            go_roundw
            case rel => exact ⟨jj + 1, by omega, by go_num, by rw [← hk.out], hown1, hb2⟩
            case measure => simp [intOf]; omega
      · obtain rfl : m = xs.length := by omega
        have hv := Lib.hid (show longI xs = T by rw [hlong.out, ← hT, List.take_length])
        go_wp2_with fail
        go_ret2
        exact ⟨by rw [hv.out]; rfl, hbel.out⟩
  · rw [f1] at h1
    rw [f1, if_neg (by simp)]
    replace h1 := Lib.hid h1
    replace f1 := Lib.hid f1
    clear hx ha
    go_enter Try.func23, Try.ntmps23
    go_wp2_with fail
    refine h1.out.mono ?_
    rintro e w1 ⟨rfl, q, rfl⟩
    go_wp2_with fail
    go_ret2
    exact ⟨rfl, below_drewN (Below.refl _ _) q⟩
end Go.Proofs.Ytgkbaenjniapiaa
