/- The model of ShadowProfile, and its law. -/
import Derived.Test.YtcejbebepjkpnaaProf
import Derived.Test.YtcejbebepjkpnaaLawBool
import Derived.Deep.RegionWith
import Derived.BigQuiet
namespace Go.Proofs.Ytcejbebepjkpnaa
open Go.ChangeShapes Go.WideShapes Go.ChangeAt Go.RowKit Go.Proofs

theorem l6q {x a b : Int} {c : Bool} (h : inB x a b = c) (w : World) : Calls Try.prog 33 #[.int .i64 x, .int .i64 a, .int .i64 b] w fun e w' => e = .returned (.bool c) ∧ w' = w :=
  (l6in x a b w).mono fun _ _ h2 => ⟨h ▸ h2.1, h2.2.symm⟩
theorem chq {n k c : Int} (h : chI n k = c) (h1 : 0 ≤ n) (h2 : n ≤ 41) (h3 : 0 ≤ k) (h4 : k ≤ 41) (w : World) : Calls Try.prog 51 #[.int .i64 n, .int .i64 k] w fun e w' => e = .returned (.int .i64 c) ∧ w' = w :=
  (sp_choose_in n k h1 h2 h3 h4 w).mono fun _ _ h5 => ⟨h ▸ h5.1, h5.2.symm⟩
set_option maxHeartbeats 2000000 in
theorem sp_ShadowProfile (n : Int) (lv : Value) (xs : List Int) (S : Nat) (w : World) (hx : Row w S lv xs) (hS : S ≤ w.heap.size) (hl : xs.length ≤ 100000000) :
    Calls Try.prog 26 #[.int .i64 n, lv] w fun e w' => e = .returned (.bool (profB n xs)) ∧ Below w.heap.size w w' := by
  have hpp := l1pts n
  obtain ⟨a, cap, rfl, ha⟩ := hx
  replace ha := Lib.hid ha
  rcases (by cases ptsB n <;> simp : ptsB n = true ∨ ptsB n = false) with hp | hp
  · obtain ⟨n1, n2⟩ := ptsB_yes hp
    rw [hp] at hpp
    replace hpp := Lib.hid hpp
    by_cases hlen : ((xs.length : Nat) : Int) = n + 1
    · have hne : (((xs.length : Nat) : Int) != n + 1) = false := by simp [hlen]
      have hb : profB n xs = (cntsTo n xs xs.length && roomTo xs xs.length) := by unfold profB cntsB; rw [hp, decide_eq_true hlen]; rfl
      rw [hb]
      replace hp := Lib.hid hp
      replace hb := Lib.hid hb
      have hlen' := Lib.hid hlen
      clear hlen
      go_enter Try.func26, Try.ntmps26
      go_wp2_with (go_at_call 36; refine (hpp.out _).mono ?_; rintro e w' ⟨rfl, rfl⟩)
      go_loopw [5] (fun i wr => ∃ k : Nat, k ≤ xs.length ∧ i = .int .i64 k ∧ Hid (cntsTo n xs k = true) ∧ Hid (roomTo xs k = true) ∧ Hid (Below w.heap.size w wr)) (fun i _ => xs.length - (intOf i).toNat)
      case atStart => exact ⟨0, Nat.zero_le _, rfl, Lib.hid rfl, Lib.hid rfl, Lib.hid (Below.refl _ _)⟩
      case round =>
        obtain ⟨k, hk, rfl, hall, hroom, hbel⟩ := hrel
        by_cases hlt : k < xs.length
        · obtain ⟨b1, o1, rfl, t1, c1⟩ := ha.out (by omega)
          have hb1w : b1 < w.heap.size := by omega
          have k1 : (0 : Int) ≤ (k : Int) := by omega
          have k2 : (k : Int) < (xs.length : Nat) := by omega
          have k3 : (k : Int) ≤ n := by have := hlen'.out; omega
          have k8 : (k : Int) ≤ 8 := by omega
          have e1 : wr.cell? ⟨b1, o1 + k, none⟩ = some (.int .i64 (xs.getD k 0)) := (hbel.out.cell (p := ⟨b1, o1 + k, none⟩) hb1w).trans (c1 k hlt)
          obtain ⟨x, hx⟩ : ∃ x, xs.getD k 0 = x := ⟨_, rfl⟩
          rw [hx] at e1
          obtain ⟨C, hC⟩ : ∃ C, chI n (k : Nat) = C := ⟨_, rfl⟩
          have hcq := chq hC (by omega) (by omega) k1 (by omega)
          have hcs := cntsTo_s n xs k
          have hcI : cntB n (k : Nat) x = inB x 0 C := by unfold cntB inB; rw [hC]
          rw [hall.out, hx, Bool.true_and] at hcs
          replace hcq := Lib.hid hcq
          rcases (by cases inB x 0 C <;> simp : inB x 0 C = true ∨ inB x 0 C = false) with h | h
          · have hlq := Lib.hid (l6q h)
            rw [h] at hcI
            rw [hcI] at hcs
            by_cases hk0 : k = 0
            · subst hk0
              have hrs := roomTo_s xs 0
              rw [hroom.out] at hrs
              replace hrs := Lib.hid hrs
              replace hcs := Lib.hid hcs
              replace hcI := Lib.hid hcI
              replace h := Lib.hid h
              replace hC := Lib.hid hC
              replace hx := Lib.hid hx
              have e1z : wr.cell? ⟨b1, o1, none⟩ = some (.int .i64 x) := by simpa using e1
              clear c1
              go_wp2_with fail
              go_quiet ((first | (go_at_call 51; exact Calls.quiet_of_same (hcq.out _)) | (go_at_call 33; exact Calls.quiet_of_same (hlq.out _))))
              go_wp2_with fail
              go_quiet (fail)
              go_wp2_with fail
              go_roundw
              case rel => exact ⟨1, by omega, by go_num, hcs, hrs, Lib.hid ⟨hbel.out.os, hbel.out.tape, hbel.out.output, hbel.out.size, hbel.out.block⟩⟩
              case measure => simp [intOf]; omega
            · have hk1 : 1 ≤ k := by omega
              have hok := cnt_lea n2 (by omega) k3 hcI
              have hll := l3least x (k : Nat) hok
              obtain ⟨y, hy⟩ : ∃ y, xs.getD (k - 1) 0 = y := ⟨_, rfl⟩
              have hB : roomB xs k = decide (leaV x (k : Nat) ≤ y) := by unfold roomB; rw [hx, hy]
              have hrs := roomTo_s xs k
              rw [hroom.out, hB] at hrs
              have hno := fun (h : roomB xs k = false) => roomTo_no hlt hk1 h
              rw [hB] at hno
              obtain ⟨L, hL⟩ : ∃ L, leaV x (k : Nat) = L := ⟨_, rfl⟩
              rw [hL] at hll hrs hno
              obtain ⟨J, hJ⟩ : ∃ J, k = J + 1 := ⟨k - 1, by omega⟩
              have k4 : (0 : Int) ≤ (J : Int) := by omega
              have k5 : (J : Int) < (xs.length : Nat) := by omega
              have hk0n : 0 < k := by omega
              have hwk : IntKind.i64.wrap ((k : Int) - 1) = (J : Int) := by rw [IntKind.wrap_i64]; omega
              have hkdn : decide (0 < k) = true := decide_eq_true hk0n
              have e2 : ∀ w2, Below w.heap.size w w2 → w2.cell? ⟨b1, o1 + J, none⟩ = some (.int .i64 y) ∧ w2.cell? ⟨b1, o1 + k, none⟩ = some (.int .i64 x) := fun w2 hb2 => by
                rw [← hy, ← hx, show k - 1 = J by omega]
                exact ⟨(hb2.cell (p := ⟨b1, o1 + J, none⟩) hb1w).trans (c1 J (by omega)), (hb2.cell (p := ⟨b1, o1 + k, none⟩) hb1w).trans (c1 k hlt)⟩
              replace hJ := Lib.hid hJ
              replace e2 := Lib.hid e2
              replace hrs := Lib.hid hrs
              replace hno := Lib.hid hno
              replace hll := Lib.hid hll
              replace hL := Lib.hid hL
              replace hB := Lib.hid hB
              replace hy := Lib.hid hy
              replace hok := Lib.hid hok
              replace hcs := Lib.hid hcs
              replace hcI := Lib.hid hcI
              replace h := Lib.hid h
              replace hC := Lib.hid hC
              replace hx := Lib.hid hx
              clear c1
              go_wp2_with fail
              go_quiet ((first | (go_at_call 51; exact Calls.quiet_of_same (hcq.out _)) | (go_at_call 33; exact Calls.quiet_of_same (hlq.out _))))
              have e1y := (e2.out wr hbel.out).1
              have hsz := hbel.out.size
              go_wp2_with fail
              refine wp_region_quiet (C := fun W => Below w.heap.size w W) (by kernel_rfl) (by kernel_rfl) (by exact ⟨hbel.out.os, hbel.out.tape, hbel.out.output, hbel.out.size, hbel.out.block⟩) ?_
              repeat (
                refine wpQuiet_step (fun K hK => ?_)
                go_simp
                first
                  | (refine ⟨_, fun _ _ => rfl, hK _ ?_⟩; clear hK K)
                  | (refine ⟨.int .i64 x, fun W hW => ?_, hK _ ?_⟩
                     · rw [(e2.out W hW).2]; exact ⟨rfl, rfl⟩
                     clear hK K)
                  | (refine ⟨.int .i64 y, fun W hW => ?_, hK _ ?_⟩
                     · rw [(e2.out W hW).1]; exact ⟨rfl, rfl⟩
                     clear hK K)
                  | (refine ⟨.int .i64 L, fun W hW => ?_, hK _ ?_⟩
                     · exact (hll.out W).mono fun _ _ h => ⟨h.1, hW.trans (h.2.mono hW.size)⟩
                     clear hK K))
              refine wpQuiet_nil ?_
              intro wz hbz
              replace hbz := Lib.hid hbz
              by_cases hle : L ≤ y
              · have hd : decide (y < L) = false := decide_eq_false (by omega)
                have hn := Lib.hid (show roomTo xs (k + 1) = true by rw [hrs.out, decide_eq_true hle]; simp)
                go_wp2_with fail
                go_roundw
                case rel => exact ⟨k + 1, by omega, by go_num, hcs, hn, hbz⟩
                case measure => simp [intOf]; omega
              · have hd : decide (y < L) = true := decide_eq_true (by omega)
                have hf := Lib.hid (show false = (cntsTo n xs xs.length && roomTo xs xs.length) by rw [hno.out (decide_eq_false hle), Bool.and_false])
                go_wp2_with fail
                go_ret
                exact ⟨ret_bool hf.out, hbz.out⟩
          · have hlq := Lib.hid (l6q h)
            rw [h] at hcI
            have hf := Lib.hid (show false = (cntsTo n xs xs.length && roomTo xs xs.length) by rw [cntsTo_no hlt (by rw [hx]; exact hcI), Bool.false_and])
            replace hcs := Lib.hid hcs
            replace hcI := Lib.hid hcI
            replace h := Lib.hid h
            replace hC := Lib.hid hC
            replace hx := Lib.hid hx
            clear c1
            go_wp2_with fail
            go_quiet ((first | (go_at_call 51; exact Calls.quiet_of_same (hcq.out _)) | (go_at_call 33; exact Calls.quiet_of_same (hlq.out _))))
            go_wp2_with fail
            go_ret
            exact ⟨ret_bool hf.out, ⟨hbel.out.os, hbel.out.tape, hbel.out.output, hbel.out.size, hbel.out.block⟩⟩
        · have hkl : k = xs.length := by omega
          have hf := Lib.hid (show true = (cntsTo n xs xs.length && roomTo xs xs.length) by rw [← hkl, hall.out, hroom.out]; rfl)
          have hnk : ¬ (k : Int) ≤ n := by have := hlen'.out; omega
          go_wp2_with fail
          go_ret
          exact ⟨ret_bool hf.out, hbel.out⟩
    · have hne : (((xs.length : Nat) : Int) != n + 1) = true := by simp [hlen]
      have hf := Lib.hid (show false = profB n xs by unfold profB cntsB; rw [decide_eq_false hlen]; simp)
      replace hp := Lib.hid hp
      clear hlen
      go_enter Try.func26, Try.ntmps26
      go_wp2_with (go_at_call 36; refine (hpp.out _).mono ?_; rintro e w' ⟨rfl, rfl⟩)
      go_ret
      exact ⟨ret_bool hf.out, Below.refl _ _⟩
  · have hf := Lib.hid (show false = profB n xs by unfold profB cntsB; rw [hp]; rfl)
    rw [hp] at hpp
    replace hpp := Lib.hid hpp
    replace hp := Lib.hid hp
    go_enter Try.func26, Try.ntmps26
    go_wp2_with (go_at_call 36; refine (hpp.out _).mono ?_; rintro e w' ⟨rfl, rfl⟩)
    go_ret
    exact ⟨ret_bool hf.out, Below.refl _ _⟩
theorem Law_ShadowProfile (n : Int) (v : Value) (xs : List Int) (w : World) (hx : Row w w.heap.size v xs) (hl : xs.length ≤ 9223372036854775807) : Calls Try.prog 9 #[.int .i64 n, v] w fun e w' => e = .returned (.bool true) ∧ Below w.heap.size w w' :=
  law_ShadowProfile n v xs w hx hl _ (fun W u S h1 h2 h3 => im_ShadowProfile n u xs S W h1 h2 h3) (fun W u S h1 h2 h3 => sp_ShadowProfile n u xs S W h1 h2 h3)
end Go.Proofs.Ytcejbebepjkpnaa
