/- Shadows: the model's functions. -/
import Derived.Test.YtgkbaenjniapiaaDoorShSp2
namespace Go.Proofs.YtgkbaenjniapiaaDoor
open Go.ChangeShapes Go.WideShapes Go.ChangeAt Go.RowKit Go.Proofs

set_option maxHeartbeats 2000000 in
theorem sp_ShadowUp (n : Int) (lv : Value) (xs : List Int) (S : Nat) (w : World) (hx : Row w S lv xs) (hS : S ≤ w.heap.size) (hl : xs.length ≤ 100000000) :
    Calls Tryd.prog 10 #[.int .i64 n, lv] w (ListPost (ifL (famB n xs) (sortL (upL n xs))) (famB n xs) w) := by
  have h1 := sp_FamilyIn n lv xs S w hx (by omega)
  obtain ⟨a, cap, rfl, _⟩ := id hx
  rcases (by cases famB n xs <;> simp : famB n xs = true ∨ famB n xs = false) with f1 | f1
  · rw [f1] at h1 ⊢
    obtain ⟨n1, n2, hset⟩ := famB_all f1
    have l1 := famB_len f1
    have htr := Lib.hid (fun q => l3_at true n _ xs S (w.drewN q) (hx.drewN q) hS (by omega) n1 n2 hset)
    rw [spL_up hset] at htr
    replace h1 := Lib.hid h1
    replace f1 := Lib.hid f1
    replace hset := Lib.hid hset
    clear hx
    show Calls Tryd.prog 10 #[.int .i64 n, .slice a xs.length cap] w (ListPost (sortL (upL n xs)) true w)
    go_enter Tryd.func10, Tryd.ntmps10
    go_wp2_with fail
    refine h1.out.mono ?_
    rintro e w1 ⟨rfl, q, rfl⟩
    go_wp2_with fail
    refine (htr.out q).mono ?_
    rintro e w3 ⟨v, rfl, hO, hb3⟩
    obtain ⟨a', c', rfl⟩ := hO.form
    replace hb3 := Lib.hid ((below_drewN (Below.refl w.heap.size w) q).trans hb3)
    replace hO := Lib.hid (own_lift hO)
    go_wp2_with fail
    go_ret2
    exact ⟨_, rfl, hO.out, hb3.out⟩
  · rw [f1] at h1 ⊢
    replace h1 := Lib.hid h1
    replace f1 := Lib.hid f1
    clear hx
    go_enter Tryd.func10, Tryd.ntmps10
    go_wp2_with fail
    refine h1.out.mono ?_
    rintro e w1 ⟨rfl, q, rfl⟩
    go_wp2_with fail
    go_ret2
    exact ⟨_, rfl, own_empty0 _ _ _ _ _, ((below_drewN (Below.refl _ w) q).alloc (Nat.le_refl _) _)⟩
theorem dnL_set {n : Int} {xs : List Int} (h : ∀ x ∈ xs, setB n x = true) : ∀ z ∈ dnL xs, setB n z = true := by
  intro z hz
  obtain ⟨x, hx, hz⟩ := List.mem_flatMap.1 hz
  obtain ⟨p, hp, rfl⟩ := List.mem_map.1 hz
  obtain ⟨x1, x2⟩ := setB_lt (h x hx)
  obtain ⟨p1, p2, _⟩ := mem_pts x1 x2 hp
  exact less_set (h x hx) p1 p2
theorem itL_set {n : Int} {xs : List Int} (h : ∀ x ∈ xs, setB n x = true) : ∀ k, ∀ z ∈ itL xs k, setB n z = true
  | 0 => h
  | k + 1 => fun z hz => dnL_set (itL_set h k) z (mem_sortL.1 hz)
set_option maxHeartbeats 2000000 in
theorem sp_ShadowTimes (n : Int) (lv : Value) (xs : List Int) (t : Int) (S : Nat) (w : World) (hx : Row w S lv xs) (hS : S ≤ w.heap.size) (hl : xs.length ≤ 100000000) :
    Calls Tryd.prog 16 #[.int .i64 n, lv, .int .i64 t] w (ListPost (ifL (tmB n t && famB n xs) (itL xs t.toNat)) (tmB n t && famB n xs) w) := by
  have h1 := sp_FamilyIn n lv xs S w hx (by omega)
  obtain ⟨a, cap, rfl, _⟩ := id hx
  rcases (by cases famB n xs <;> simp : famB n xs = true ∨ famB n xs = false) with f1 | f1
  · rw [f1] at h1 ⊢
    rw [Bool.and_true]
    obtain ⟨n1, n2, hset⟩ := famB_all f1
    have l1 := famB_len f1
    have hA := famB_asc f1
    replace h1 := Lib.hid h1
    rcases (by cases tmB n t <;> simp : tmB n t = true ∨ tmB n t = false) with hB | hB
    · rw [hB]
      have hB' := hB
      unfold tmB at hB'
      rw [Bool.and_eq_true, decide_eq_true_eq, decide_eq_true_eq] at hB'
      obtain ⟨t0, tn⟩ := hB'
      obtain ⟨T, rfl⟩ : ∃ T : Nat, t = T := ⟨t.toNat, by omega⟩
      rw [Int.toNat_natCast]
      have hrow := Lib.hid (fun q o => (hx.drewN q).below ((Below.refl (w.drewN q).heap.size (w.drewN q)).alloc (Nat.le_refl _) o) hS)
      have hin : inB (T : Int) 0 n = true := decide_eq_true ⟨t0, tn⟩
      have h6 := fun W => l6in (T : Int) 0 n W
      rw [hin] at h6
      replace h6 := Lib.hid h6
      have hit := Lib.hid (fun k v W (hO : OwnL W w.heap.size v (itL xs k)) => l3_at false n v (itL xs k) W.heap.size W hO.own.row (Nat.le_refl _) (by have := itL_len hA (fun x hx => setB_lt (hset x hx)) k; omega) n1 n2 (itL_set hset k))
      have hdn := Lib.hid (fun k => spL_dn (itL_set hset k))
      have hl1 : xs.length ≤ 1073741824 := by omega
      have h0 : ([] : List Int).length ≤ 1073741824 := by simp
      replace hset := Lib.hid hset
      replace hA := Lib.hid hA
      replace f1 := Lib.hid f1
      replace hB := Lib.hid hB
      replace hin := Lib.hid hin
      clear hx
      show Calls Tryd.prog 16 #[.int .i64 n, .slice a xs.length cap, .int .i64 (T : Nat)] w (ListPost (itL xs T) true w)
      go_enter Tryd.func16, Tryd.ntmps16
      go_wp2_with fail
      refine h1.out.mono ?_
      rintro e w1 ⟨rfl, q, rfl⟩
      have hlit := Lib.hid (OwnL.lit (w.drewN q) (B := w.heap.size) (Nat.le_refl _))
      have hqs : w.heap.size ≤ ((w.drewN q).alloc (.cells #[] 3)).heap.size := by simp
      have hbq := Lib.hid (((below_drewN (Below.refl w.heap.size w) q).alloc (Nat.le_refl _) (.cells #[] 3)))
      go_wp2_with (first | (go_at_call 45; refine (h6.out _).mono ?_; rintro e w' ⟨rfl, rfl⟩) | (at_builtin; refine app_ints rfl _ _ rfl w.heap.size _ [] rfl hlit.out a cap S xs rfl (hrow.out q _) h0 hl1 hqs ?_; intro v1 w1 hO1 hb1; rw [List.nil_append] at hO1; obtain ⟨u1, u2, rfl⟩ := hO1.form; replace hO1 := Lib.hid hO1; replace hb1 := Lib.hid (hbq.out.trans hb1)))
      go_loopw [8, 9] (fun v s wr => ∃ k : Nat, k ≤ T ∧ s = .int .i64 k ∧ Hid (OwnL wr w.heap.size v (itL xs k)) ∧ Hid (Below w.heap.size w wr)) (fun _ s _ => T - (intOf s).toNat)
      case atStart => exact ⟨0, by omega, rfl, hO1, hb1⟩
      case round =>
        obtain ⟨k, hk, rfl, hO, hbr⟩ := hrel
        obtain ⟨a', c', rfl⟩ := hO.out.form
        have hz := hbr.out.size
        by_cases hlt : k < T
        · have k2 : (k : Int) < (T : Nat) := by omega
          have hc := hit.out k _ _ hO.out
          rw [hdn.out k] at hc
          replace hc := Lib.hid hc
          go_wp2_with fail
          refine hc.out.mono ?_
          rintro e w3 ⟨v, rfl, hO3, hb3⟩
          replace hO3 := Lib.hid (show OwnL w3 w.heap.size v (itL xs (k + 1)) from hO3.mono hz)
          replace hb3 := Lib.hid (hbr.out.trans (hb3.mono hz))
          obtain ⟨a3, c3, rfl⟩ := hO3.out.form
          go_wp2_with fail
          go_roundw
          case rel => exact ⟨k + 1, by omega, by go_num, hO3, hb3⟩
          case measure => simp [intOf]; omega
        · obtain rfl : k = T := by omega
          replace hO := Lib.hid hO.out.own
          go_wp2_with fail
          go_ret2
          exact ⟨_, rfl, hO.out, hbr.out⟩
    · rw [hB]
      have hin : inB t 0 n = false := by
        unfold inB; unfold tmB at hB
        rw [← hB, ← Bool.decide_and]
      have h6 := fun W => l6in t 0 n W
      rw [hin] at h6
      replace h6 := Lib.hid h6
      replace hset := Lib.hid hset
      replace hA := Lib.hid hA
      replace f1 := Lib.hid f1
      replace hB := Lib.hid hB
      replace hin := Lib.hid hin
      clear hx
      go_enter Tryd.func16, Tryd.ntmps16
      go_wp2_with fail
      refine h1.out.mono ?_
      rintro e w1 ⟨rfl, q, rfl⟩
      go_wp2_with (go_at_call 45; refine (h6.out _).mono ?_; rintro e w' ⟨rfl, rfl⟩)
      go_ret2
      exact ⟨_, rfl, own_empty0 _ _ _ _ _, ((below_drewN (Below.refl _ w) q).alloc (Nat.le_refl _) _)⟩
  · rw [f1] at h1 ⊢
    rw [Bool.and_false]
    replace h1 := Lib.hid h1
    replace f1 := Lib.hid f1
    clear hx
    go_enter Tryd.func16, Tryd.ntmps16
    go_wp2_with fail
    refine h1.out.mono ?_
    rintro e w1 ⟨rfl, q, rfl⟩
    go_wp2_with fail
    go_ret2
    exact ⟨_, rfl, own_empty0 _ _ _ _ _, ((below_drewN (Below.refl _ w) q).alloc (Nat.le_refl _) _)⟩
end Go.Proofs.YtgkbaenjniapiaaDoor
