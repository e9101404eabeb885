/- The model's UnionPrimes. -/
import Derived.Test.YthljimmhgpbmbaaPm1
import Derived.Test.YthljimmhgpbmbaaCs2
namespace Go.Proofs.Ythljimmhgpbmbaa
open Go.ChangeShapes Go.WideShapes Go.ChangeAt Go.RowKit Go.Proofs

theorem bel_same {xs : List Int} {k : Nat} {x : Int} (hk : k < xs.length) (hx : xs.getD k 0 = x) : belI x (xs.take (k + 1)) = belI x (xs.take k) := by
  rw [bel_take hk hx]
  have : partO x x = false := by unfold partO; simp
  rw [this]; rfl
theorem bel_other {xs : List Int} {k : Nat} {x z : Int} (hk : k < xs.length) (hz : xs.getD k 0 = z) (hne : z ≠ x) : belI x (xs.take (k + 1)) = if partB z x then orI (belI x (xs.take k)) z else belI x (xs.take k) := by
  rw [bel_take hk hz]
  have : partO z x = partB z x := by
    unfold partO
    have h : (z != x) = true := by simpa using hne
    rw [h, Bool.true_and]
  rw [this]
set_option maxRecDepth 20000 in
set_option maxHeartbeats 4000000 in
theorem sp_UnionPrimes (n : Int) (lv : Value) (xs : List Int) (S : Nat) (w : World) (hx : Row w S lv xs) (hS : S ≤ w.heap.size) (hl : xs.length ≤ 100000000) :
    Calls Try.prog 17 #[.int .i64 n, lv] w (ListPost (ifL (famB n xs && sameB (ucL orI xs) xs) (sortL (primL xs))) (famB n xs && sameB (ucL orI xs) xs) w) := by
  have h1 := fun W hx hS => sp_UnionIn n lv xs S W hx hS hl
  have hxw := hx
  obtain ⟨a, cap, rfl, ha⟩ := hxw
  rcases (by cases (famB n xs && sameB (ucL orI xs) xs) <;> simp : (famB n xs && sameB (ucL orI xs) xs) = true ∨ (famB n xs && sameB (ucL orI xs) xs) = false) with hB | hB
  · rw [hB] at h1 ⊢
    have hf : famB n xs = true := (Bool.and_eq_true _ _ ▸ hB).1
    obtain ⟨n1, n2, hset⟩ := famB_all hf
    have l1 := famB_len hf
    have hA := famB_asc hf
    have hbs := Lib.hid (fun k s => bel_set n1 n2 (set_take hset k) s)
    have hpl : sortL (primL xs) = xs.filter (fun s => belI s xs != s) := sortL_asc (asc_filter hA _)
    rw [hpl, show ifL true (xs.filter (fun s => belI s xs != s)) = xs.filter (fun s => belI s xs != s) from rfl]
    have hbl := (Below.refl w.heap.size w).alloc (Nat.le_refl _) (.cells #[] 3)
    have hb1 := Lib.hid (h1 (w.alloc (.cells #[] 3)) (hx.below hbl hS) (by simp; omega))
    have hlit := Lib.hid (OwnL.lit w (Nat.le_refl w.heap.size))
    replace hbl := Lib.hid hbl
    replace hset := Lib.hid hset
    replace hA := Lib.hid hA
    replace hB := Lib.hid hB
    replace hf := Lib.hid hf
    replace ha := Lib.hid ha
    clear hx h1 hpl
    go_enter Try.func17, Try.ntmps17
    go_wp2_with fail
    refine hb1.out.mono ?_
    rintro e W1 ⟨rfl, hbW⟩
    have hown1 := Lib.hid (hlit.out.below hbW (by simp))
    have hbel1 := Lib.hid (hbl.out.trans (hbW.mono (by simp)))
    clear hb1 hbW hlit
    go_wp2_with fail
    go_loopw [6, 7] (fun v s wr => ∃ k : Nat, k ≤ xs.length ∧ s = .int .i64 k ∧ Hid (OwnL wr w.heap.size v ((xs.take k).filter (fun s => belI s xs != s))) ∧ Hid (Below w.heap.size w wr)) (fun _ s _ => xs.length - (intOf s).toNat)
    case atStart => exact ⟨0, by omega, rfl, hown1, hbel1⟩
    case round =>
      obtain ⟨k, hk, rfl, hown, hbel⟩ := hrel
      have hsz := hbel.out.size
      by_cases hlt : k < xs.length
      · obtain ⟨b1, o1, rfl, t1, c1⟩ := ha.out (by omega)
        have k1 : (0 : Int) ≤ (k : Int) := by omega
        have k2 : (k : Int) < (xs.length : Nat) := by omega
        obtain ⟨x, hx0⟩ : ∃ x, xs.getD k 0 = x := ⟨_, rfl⟩
        have cc : ∀ j, j < xs.length → wr.cell? ⟨b1, o1 + j, none⟩ = some (.int .i64 (xs.getD j 0)) := fun j hj => (hbel.out.cell (p := ⟨b1, o1 + j, none⟩) (show b1 < w.heap.size by omega)).trans (c1 j hj)
        have e1 := cc k hlt
        rw [hx0] at e1
        obtain ⟨z1, z2⟩ := setB_lt (hset.out x (by rw [← hx0]; exact getD_mem hlt))
        have hlen : ((xs.take k).filter (fun s => belI s xs != s)).length ≤ 1073741824 := by have h := List.length_filter_le (fun s => belI s xs != s) (xs.take k); rw [List.length_take] at h; omega
        have hst := filter_take hlt hx0 (fun s => belI s xs != s)
        obtain ⟨ys, hys⟩ : ∃ ys, (xs.take k).filter (fun s => belI s xs != s) = ys := ⟨_, rfl⟩
        rw [hys] at hown hlen hst
        obtain ⟨a', c', rfl⟩ := hown.out.form
        replace cc := Lib.hid cc
        replace hx0 := Lib.hid hx0
        replace hys := Lib.hid hys
        replace hst := Lib.hid hst
        clear c1
        go_wp2_with fail
        obtain ⟨W0, rfl⟩ : ∃ W0, W0 = wr := ⟨_, rfl⟩
        go_loopw [8, 9] (fun o j wq => ∃ m : Nat, m ≤ xs.length ∧ j = .int .i64 m ∧ (∃ c, o = .int .i64 c ∧ Hid (belI x (xs.take m) = c)) ∧ Hid (∃ q, wq = W0.drewN q)) (fun _ j _ => xs.length - (intOf j).toNat)
        case atStart => exact ⟨0, by omega, rfl, ⟨0, rfl, Lib.hid rfl⟩, Lib.hid ⟨0, rfl⟩⟩
        case round =>
          obtain ⟨m, hm, rfl, ⟨c, rfl, hc⟩, hw⟩ := hrel
          have hwd : ∀ p, Hid (∃ q, wr.drewN p = W0.drewN q) := fun p => by
            obtain ⟨q, h⟩ := hw.out
            exact Lib.hid ⟨q + p, by rw [h]; exact World.drewN_drewN _ _ _⟩
          have cc2 : ∀ j, j < xs.length → wr.cell? ⟨b1, o1 + j, none⟩ = some (.int .i64 (xs.getD j 0)) := fun j hj => by
            obtain ⟨q, h⟩ := hw.out
            rw [h]; exact cc.out j hj
          have hsc := hbs.out m x
          rw [hc.out] at hsc
          obtain ⟨r1, r2⟩ := setB_lt hsc
          by_cases hlm : m < xs.length
          · have m1 : (0 : Int) ≤ (m : Int) := by omega
            have m2 : (m : Int) < (xs.length : Nat) := by omega
            have e1 := cc2 k hlt
            rw [hx0.out] at e1
            have e2 := cc2 m hlm
            clear cc2
            obtain ⟨z, hz0⟩ : ∃ z, xs.getD m 0 = z := ⟨_, rfl⟩
            rw [hz0] at e2
            obtain ⟨u1, u2⟩ := setB_lt (hset.out z (by rw [← hz0]; exact getD_mem hlm))
            by_cases hkm : k = m
            · subst hkm
              have hxz : x = z := by rw [← hx0.out, hz0]
              subst hxz
              have hne : ((k : Int) != (k : Int)) = false := by simp
              have hft := bel_same hlt hz0
              rw [hc.out] at hft
              replace hft := Lib.hid hft
              replace hz0 := Lib.hid hz0
              replace hsc := Lib.hid hsc
              go_wp2_with fail
              go_quiet (fail)
              go_wp2_with fail
              go_roundw
              case rel => exact ⟨k + 1, by omega, by go_num, ⟨c, rfl, hft⟩, hwd _⟩
              case measure => simp [intOf]; omega
            · have hxz : z ≠ x := by rw [← hz0, ← hx0.out]; exact asc_at hA.out hlt hlm hkm
              have hne : ((m : Int) != (k : Int)) = true := by simp; omega
              have hne2 : ¬ ((m : Int) = (k : Int)) := by omega
              have hft := bel_other hlm hz0 hxz
              rw [hc.out] at hft
              have hp := fun w => l5part z x u1 u2 z1 z2 w
              have ho := i64_orI r1 r2 u1 u2
              replace hz0 := Lib.hid hz0
              replace hsc := Lib.hid hsc
              rcases (by cases partB z x <;> simp : partB z x = true ∨ partB z x = false) with hb | hb
              · rw [hb] at hft hp
                rw [if_pos rfl] at hft
                obtain ⟨u, hu⟩ : ∃ u, orI c z = u := ⟨_, rfl⟩
                rw [hu] at hft ho
                replace hft := Lib.hid hft
                replace hb := Lib.hid hb
                replace hp := Lib.hid hp
                replace hu := Lib.hid hu
                go_wp2_with fail
                go_quiet ((go_at_call 46; exact Calls.quiet_of_same (hp.out _)))
                go_wp2_with fail
                go_roundw
                case rel => exact ⟨m + 1, by omega, by go_num, ⟨u, rfl, hft⟩, hwd _⟩
                case measure => simp [intOf]; omega
              · rw [hb] at hft hp
                rw [if_neg (by simp)] at hft
                replace hft := Lib.hid hft
                replace hb := Lib.hid hb
                replace hp := Lib.hid hp
                go_wp2_with fail
                go_quiet ((go_at_call 46; exact Calls.quiet_of_same (hp.out _)))
                go_wp2_with fail
                go_roundw
                case rel => exact ⟨m + 1, by omega, by go_num, ⟨c, rfl, hft⟩, hwd _⟩
                case measure => simp [intOf]; omega
          · obtain ⟨q0, rfl⟩ := hw.out
            have e1 := cc2 k hlt
            rw [hx0.out] at e1
            replace hown := Lib.hid (hown.out.drewN q0)
            replace hbel := Lib.hid (below_drewN hbel.out q0)
            have hq := hc.out
            rw [List.take_of_length_le (by omega)] at hq
            have hst2 := hst.out
            rw [hq] at hst2
            clear cc2 hwd hst hc hsc
            replace hq := Lib.hid hq
            rcases (by cases (c != x) <;> simp : (c != x) = true ∨ (c != x) = false) with hcx | hcx
            · rw [hcx, if_pos rfl] at hst2
              have hB1 : w.heap.size ≤ ((W0.drewN q0).alloc (.cells #[.int .i64 x] 3)).heap.size := by rw [World.size_alloc]; exact Nat.le_succ_of_le hsz
              replace hst2 := Lib.hid hst2.symm
              go_wp2_with ((at_builtin; refine app_int rfl _ _ rfl w.heap.size _ ys rfl (hown.out.alloc _) x W0.heap.size rfl (cell_new _ _ _) hlen hB1 ?_; intro v' w1 hown1 hb1))
              rw [hst2.out] at hown1
              replace hown1 := Lib.hid hown1
              have hb2 := Lib.hid ((hbel.out.alloc hsz _).trans hb1)
              go_roundw
              case rel => exact ⟨k + 1, by omega, by go_num, hown1, hb2⟩
              case measure => simp [intOf]; omega
            · rw [hcx, if_neg (by simp), List.append_nil] at hst2
              replace hst2 := Lib.hid hst2
              go_wp2_with fail
              go_roundw
              case rel => exact ⟨k + 1, by omega, by go_num, by rw [hst2.out]; exact hown, hbel⟩
              case measure => simp [intOf]; omega
      · have hO := hown.out
        rw [List.take_of_length_le (by omega)] at hO
        obtain ⟨a', c', rfl⟩ := hown.out.form
        replace hO := Lib.hid hO.own
        go_wp2_with fail
        go_ret2
        exact ⟨_, rfl, hO.out, hbel.out⟩
  · rw [hB] at h1 ⊢
    have hbl := (Below.refl w.heap.size w).alloc (Nat.le_refl _) (.cells #[] 3)
    have hb1 := Lib.hid (h1 (w.alloc (.cells #[] 3)) (hx.below hbl hS) (by simp; omega))
    replace hbl := Lib.hid hbl
    replace hB := Lib.hid hB
    clear hx h1 ha
    go_enter Try.func17, Try.ntmps17
    go_wp2_with fail
    refine hb1.out.mono ?_
    rintro e W1 ⟨rfl, hbW⟩
    have hbel1 := Lib.hid (hbl.out.trans (hbW.mono (by simp)))
    clear hb1 hbW
    go_wp2_with fail
    go_ret2
    exact ⟨_, rfl, own_empty0 _ _ _ _ _, hbel1.out⟩
end Go.Proofs.Ythljimmhgpbmbaa
