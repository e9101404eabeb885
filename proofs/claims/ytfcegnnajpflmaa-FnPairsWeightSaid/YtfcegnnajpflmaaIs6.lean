/- The model's PairsWeight and the exact law. -/
import Derived.Test.YtfcegnnajpflmaaIs5
namespace Go.Proofs.Ytfcegnnajpflmaa
open Go.ChangeShapes Go.WideShapes Go.ChangeAt Go.RowKit Go.Proofs

set_option maxHeartbeats 4000000 in
theorem sp_PairsWeight (n : Int) (lv lu : Value) (xs zs : List Int) (S : Nat) (w : World) (hx : Row w S lv xs) (hy : Row w S lu zs) (hS : S ≤ w.heap.size) (hl : xs.length ≤ 100000000) (hl2 : zs.length ≤ 100000000) :
    Calls Try.prog 15 #[.int .i64 n, lv, lu] w (PairPost (pwV n xs zs) (pwD n xs zs) (skwB n xs zs) w) := by
  have hr := sp_PairsSkew n lv lu xs zs S w hx hy hS hl hl2
  obtain ⟨a, cap, rfl, ha⟩ := id hx
  obtain ⟨b, cb, rfl, hb0⟩ := id hy
  replace ha := Lib.hid ha
  replace hb0 := Lib.hid hb0
  clear hx hy
  rcases (by cases skwB n xs zs <;> simp : skwB n xs zs = true ∨ skwB n xs zs = false) with hf | hf
  · obtain ⟨n1, n2, hle, hz, hz2, hsk⟩ := skw_parts hf
    have hlen := skew_len hf
    have hV := Lib.hid (show ((pW xs zs xs.length : Nat) : Int) = pwV n xs zs by unfold pwV; rw [hf]; rfl)
    have hD := Lib.hid (show (840 : Int) = pwD n xs zs by unfold pwD; rw [hf]; rfl)
    rw [hf] at hr
    replace hf := Lib.hid hf.symm
    replace hr := Lib.hid hr
    replace hz := Lib.hid hz
    replace hz2 := Lib.hid hz2
    replace hsk := Lib.hid hsk
    have hle' := Lib.hid hle
    clear hle
    go_enter Try.func15, Try.ntmps15
    go_wp2_with fail
    refine hr.out.mono ?_
    rintro e w1 ⟨rfl, q, rfl⟩
    have hbw := Lib.hid (below_drewN (Below.refl w.heap.size w) q)
    clear hr
    go_wp2_with fail
    go_loop [9, 10] (fun o i => ∃ k : Nat, k ≤ xs.length ∧ i = .int .i64 (k : Nat) ∧ o = .int .i64 (pW xs zs k : Nat)) (fun _ i => xs.length - (intOf i).toNat)
    case atStart => exact ⟨0, by omega, rfl, by simp [pW]⟩
    case round =>
      obtain ⟨k, hk, rfl, rfl⟩ := hrel
      by_cases hlt : k < xs.length
      · have hlt2 : k < zs.length := by have := hle'.out; omega
        obtain ⟨b1, o1, rfl, t1, c1⟩ := ha.out (by omega)
        obtain ⟨b2, o2, rfl, t2, c2⟩ := hb0.out (by omega)
        have k1 : (0 : Int) ≤ (k : Int) := by omega
        have k2 : (k : Int) < (xs.length : Nat) := by omega
        have k3 : (k : Int) < (zs.length : Nat) := by omega
        have e1 : (w.drewN q).cell? ⟨b1, o1 + k, none⟩ = some (.int .i64 (xs.getD k 0)) := (hbw.out.cell (p := ⟨b1, o1 + k, none⟩) (show b1 < w.heap.size by omega)).trans (c1 k hlt)
        have e2 : (w.drewN q).cell? ⟨b2, o2 + k, none⟩ = some (.int .i64 (zs.getD k 0)) := (hbw.out.cell (p := ⟨b2, o2 + k, none⟩) (show b2 < w.heap.size by omega)).trans (c2 k hlt2)
        obtain ⟨x, hx⟩ : ∃ x, xs.getD k 0 = x := ⟨_, rfl⟩
        obtain ⟨z, hzz⟩ : ∃ z, zs.getD k 0 = z := ⟨_, rfl⟩
        obtain ⟨x1, x2⟩ := hz.out x (by rw [← hx]; exact getD_mem hlt)
        obtain ⟨z1, z2⟩ := hz2.out z (by rw [← hzz]; exact getD_mem hlt2)
        have h8 := cnt_sum (sk_pair hsk.out hle'.out hlt hx hzz)
        have hst : pW xs zs (k + 1) = pW xs zs k + 840 / chN (cntTo (xs.getD k 0) 8 + cntTo (zs.getD k 0) 8) (cntTo (xs.getD k 0) 8) := rfl
        rw [hx, hzz] at hst
        rw [hx] at e1
        rw [hzz] at e2
        have hle1 := pW_le xs zs k
        have hsize := fun W => l1size x x1 x2 W
        have hsize2 := fun W => l1size z z1 z2 W
        rw [show cntI x = ((cntTo x 8 : Nat) : Int) from rfl] at hsize
        rw [show cntI z = ((cntTo z 8 : Nat) : Int) from rfl] at hsize2
        obtain ⟨c, hcn⟩ : ∃ c, cntTo x 8 = c := ⟨_, rfl⟩
        obtain ⟨d, hdn⟩ : ∃ d, cntTo z 8 = d := ⟨_, rfl⟩
        rw [hcn] at hst h8 hsize
        rw [hdn] at hst h8 hsize2
        have hch := fun W => sp_choose_in ((c : Int) + (d : Int)) (c : Nat) (by omega) (by omega) (by omega) (by omega) W
        obtain ⟨g0, g1, g2⟩ := ch_N (n := c + d) (k := c) h8 (by omega)
        rw [show ((c + d : Nat) : Int) = (c : Int) + (d : Int) by simp] at g0
        rw [g0] at hch
        obtain ⟨C, hC⟩ : ∃ C, chN (c + d) c = C := ⟨_, rfl⟩
        rw [hC] at hst hch g1 g2
        have hq := Nat.div_le_self 840 C
        have hqi : (840 : Int) / (C : Int) = ((840 / C : Nat) : Int) := by simp
        obtain ⟨r, hqq⟩ : ∃ r, 840 / C = r := ⟨_, rfl⟩
        rw [hqq] at hst hq hqi
        obtain ⟨t, ht⟩ : ∃ t, pW xs zs k = t := ⟨_, rfl⟩
        rw [ht] at hst hle1 ⊢
        have d0 : (1 : Int) ≤ (C : Int) := by omega
        replace hsize := Lib.hid hsize
        replace hsize2 := Lib.hid hsize2
        replace hch := Lib.hid hch
        replace hst := Lib.hid hst
        replace ht := Lib.hid ht
        replace hqq := Lib.hid hqq
        replace hcn := Lib.hid hcn
        replace hdn := Lib.hid hdn
        replace hC := Lib.hid hC
        clear hx hzz c1 c2 g0
        go_wp2_with (first | (go_at_call 40; (with_reducible refine (hsize.out _).mono ?_); rintro e w' ⟨rfl, rfl⟩) | (go_at_call 40; (with_reducible refine (hsize2.out _).mono ?_); rintro e w' ⟨rfl, rfl⟩) | (go_at_call 41; (with_reducible refine (hch.out _).mono ?_); rintro e w' ⟨rfl, rfl⟩))
        go_round
        case rel => exact ⟨k + 1, by omega, by first | rfl | go_num, by rw [hst.out]; first | rfl | go_num⟩
        case measure => simp [intOf]; omega
      · obtain rfl : k = xs.length := by omega
        go_wp2_with fail
        go_ret3
        exact ⟨ret_three hV.out hD.out hf.out, hbw.out⟩
  · have hV := Lib.hid (show (0 : Int) = pwV n xs zs by unfold pwV; rw [hf]; rfl)
    have hD := Lib.hid (show (0 : Int) = pwD n xs zs by unfold pwD; rw [hf]; rfl)
    rw [hf] at hr
    replace hf := Lib.hid hf.symm
    replace hr := Lib.hid hr
    go_enter Try.func15, Try.ntmps15
    go_wp2_with fail
    refine hr.out.mono ?_
    rintro e w1 ⟨rfl, q, rfl⟩
    have hbw := Lib.hid (below_drewN (Below.refl w.heap.size w) q)
    clear hr
    go_wp2_with fail
    go_ret3
    exact ⟨ret_three hV.out hD.out hf.out, hbw.out⟩
theorem Law_PairsWeight (n : Int) (v v2 : Value) (xs zs : List Int) (w : World) (hx : Row w w.heap.size v xs) (hy : Row w w.heap.size v2 zs) (hl : xs.length ≤ 9223372036854775807) (hm : zs.length ≤ 9223372036854775807) :
    Calls Try.prog 12 #[.int .i64 n, v, v2] w fun e w' => e = .returned (.bool true) ∧ Below w.heap.size w w' :=
  law_PairsWeight n v v2 xs zs w hx hy hl hm _ _ _ (fun W u u2 S h1 h2 h3 h4 h5 => im_PairsWeight n u u2 xs zs S W h1 h2 h3 h4 h5) (fun W u u2 S h1 h2 h3 h4 h5 => sp_PairsWeight n u u2 xs zs S W h1 h2 h3 h4 h5)
end Go.Proofs.Ytfcegnnajpflmaa
