/- The model: how many sets of each size; the law. -/
import Derived.Test.YtpjapoaagbdlfaaGreatDoorFams14
import Derived.Test.YtpjapoaagbdlfaaGreatDoorFLaws
namespace Go.Proofs.YtpjapoaagbdlfaaGreatDoor
open Go.ChangeShapes Go.WideShapes Go.ChangeAt Go.RowKit Go.Proofs

/-- what a function that makes a row of numbers leaves. -/
def RowPost (L : List Int) (w : World) (e : Ending) (w' : World) : Prop := ∃ v, e = .returned v ∧ Own w' w.heap.size w'.heap.size v L ∧ Below w.heap.size w w'
set_option maxHeartbeats 4000000 in
theorem profile_at (n : Int) (lv : Value) (xs : List Int) (S : Nat) (w : World) (hx : Row w S lv xs) (hS : S ≤ w.heap.size) (hf : famB n xs = true) :
    Calls Tryz.prog 81 #[.int .i64 n, lv] w (RowPost (profL (n.toNat + 1) xs) w) := by
  obtain ⟨a, cap, rfl, ha⟩ := hx
  obtain ⟨n1, n2, hset⟩ := famB_all hf
  have hl2 := famB_len hf
  have hlt := famB_lt hf
  obtain ⟨N, hN⟩ : ∃ N : Nat, n.toNat + 1 = N := ⟨_, rfl⟩
  have hNn : ((N : Nat) : Int) = n + 1 := by omega
  have hmk := fun W => run_make_row' (P := Tryz.prog) 23 3 (.int .i64 0) 8 Tryz.underlying23 Tryz.intInfo rfl .i64 .i64 N (by omega) (by omega) W
  rw [hNn] at hmk
  rw [hN]
  replace ha := Lib.hid ha
  replace hf := Lib.hid hf
  replace hset := Lib.hid hset
  replace hlt := Lib.hid hlt
  replace hNn := Lib.hid hNn
  replace hN := Lib.hid hN
  go_enter Tryz.func81, Tryz.ntmps81
  go_wp2_with fail
  go_loopw [6] (fun q wr => ∃ k : Nat, k ≤ xs.length ∧ q = .int .i64 k ∧ Hid (Below w.heap.size w wr) ∧ Hid (wr.rowIs w.heap.size 3 N (fun j => .int .i64 (cntP (xs.take k) j)))) (fun q _ => xs.length - (intOf q).toNat)
  case atStart =>
    refine ⟨0, by omega, rfl, Lib.hid ((Below.refl _ _).alloc (Nat.le_refl _) _), Lib.hid ?_⟩
    exact (World.rowIs_made w (.int .i64 0) N 3).congr (fun i _ => by simp [cntP])
  case round =>
    obtain ⟨k, hk, rfl, hbel, hrw⟩ := hrel
    have hz := hbel.out.size
    by_cases hk2 : k < xs.length
    · obtain ⟨b1, o1, rfl, s1, c1⟩ := ha.out (by omega)
      have k1 : (0 : Int) ≤ (k : Int) := by omega
      have k2 : (k : Int) < (xs.length : Nat) := by omega
      have e1 : wr.cell? ⟨b1, o1 + k, none⟩ = some (.int .i64 (xs.getD k 0)) := (hbel.out.cell (p := ⟨b1, o1 + k, none⟩) (show b1 < w.heap.size by omega)).trans (c1 k hk2)
      obtain ⟨x, hx0⟩ : ∃ x, xs.getD k 0 = x := ⟨_, rfl⟩
      have hmx : x ∈ xs := by rw [← hx0]; exact getD_mem hk2
      rw [hx0] at e1
      obtain ⟨x1, x2⟩ := hlt.out x hmx
      obtain ⟨t, ht, htn⟩ := cnt_set (hset.out x hmx)
      have hsz := l1size x x1 x2
      rw [ht] at hsz
      have htN : t < N := by have := hNn.out; omega
      have t1 : (0 : Int) ≤ (t : Int) := by omega
      have t2 : (t : Int) < n + 1 := by omega
      have t3 : (t : Int) < (N : Nat) := by omega
      have e2 := World.rowIs.cell hrw.out htN
      have e3 := World.rowIs.frozen hrw.out t
      obtain ⟨c0, hc0⟩ : ∃ c0, cntP (xs.take k) t = c0 := ⟨_, rfl⟩
      have hcb := cntP_bd (xs.take k) t
      rw [hc0] at hcb
      simp only [hc0] at e2
      have cb1 : 0 ≤ c0 := hcb.1
      have cb2 : c0 ≤ 256 := by have := hcb.2; rw [List.length_take] at this; omega
      have hq : IntKind.i64.wrap (c0 + 1) = c0 + 1 := by rw [IntKind.wrap_i64]; omega
      have hrw' := Lib.hid ((World.rowIs.set hrw.out t (.int .i64 (c0 + 1))).congr (g := fun j => .int .i64 (cntP (xs.take (k + 1)) j)) (fun j hj => by
        simp only [cntP_step hk2 hx0 ht j]
        by_cases e : j = t
        · subst e; rw [if_pos rfl, if_pos rfl, hc0]
        · rw [if_neg e, if_neg e]))
      have hbel' := Lib.hid (below_setCell hbel.out (p := ⟨w.heap.size, t, none⟩) (Nat.le_refl _) (.int .i64 (c0 + 1)))
      replace hsz := Lib.hid hsz
      clear c1 hrw hbel hcb
      replace hx0 := Lib.hid hx0
      replace hmx := Lib.hid hmx
      replace hc0 := Lib.hid hc0
      replace ht := Lib.hid ht
      go_wp2_with (go_at_call 79; refine (hsz.out _).mono ?_; rintro e w' ⟨rfl, rfl⟩)
      go_roundw
      case rel => exact ⟨k + 1, by omega, by go_num, hbel', hrw'⟩
      case measure => simp [intOf]; omega
    · obtain rfl : k = xs.length := by omega
      have hr2 := hrw.out
      rw [List.take_length] at hr2
      have hO := Lib.hid (own_row (B := w.heap.size) (S := wr.heap.size) hr2 (Nat.le_refl _) (World.rowIs.lt hr2))
      clear hrw hr2
      go_wp2_with fail
      go_ret
      exact ⟨_, rfl, hO.out, hbel.out⟩

set_option maxHeartbeats 2000000 in
theorem sp_FamilyProfile (n : Int) (lv : Value) (xs : List Int) (S : Nat) (w : World) (hx : Row w S lv xs) (hS : S ≤ w.heap.size) (hl : xs.length ≤ 100000000) :
    Calls Tryz.prog 49 #[.int .i64 n, lv] w (ListPost (ifL (famB n xs) (profL (n.toNat + 1) xs)) (famB n xs) w) := by
  have h1 := sp_FamilyIn n lv xs S w hx (by omega)
  obtain ⟨a, cap, rfl, ha⟩ := id hx
  rcases (by cases famB n xs <;> simp : famB n xs = true ∨ famB n xs = false) with f1 | f1
  · rw [f1] at h1 ⊢
    obtain ⟨n1, n2, _⟩ := famB_all f1
    have a1 := famB_allB f1
    have l1 := famB_len f1
    have A1 := famB_asc f1
    have hzz := famB_lt f1
    replace h1 := Lib.hid h1
    replace f1 := Lib.hid f1
    replace a1 := Lib.hid a1
    replace A1 := Lib.hid A1
    replace hzz := Lib.hid hzz
    replace hx := Lib.hid hx
    replace ha := Lib.hid ha
    show Calls Tryz.prog 49 #[.int .i64 n, .slice a xs.length cap] w (ListPost (profL (n.toNat + 1) xs) true w)
    go_enter Tryz.func49, Tryz.ntmps49
    go_wp2_with fail
    refine h1.out.mono ?_
    rintro e w1 ⟨rfl, q, rfl⟩
    have hqS : S ≤ (w.drewN q).heap.size := hS
    have hot := profile_at n _ xs S (w.drewN q) (hx.out.drewN q) hqS f1.out
    have hpl := profL_len (n.toNat + 1) xs
    obtain ⟨PL, hPL⟩ : ∃ PL, profL (n.toNat + 1) xs = PL := ⟨_, rfl⟩
    rw [hPL] at hot
    replace hPL := Lib.hid hPL
    replace hot := Lib.hid hot
    clear h1 hpl
    go_wp2_with fail
    refine hot.out.mono ?_
    rintro e w3 ⟨v, rfl, hO, hb3⟩
    obtain ⟨a', c', rfl, _⟩ := id hO
    replace hb3 := Lib.hid ((below_drewN (Below.refl w.heap.size w) q).trans hb3)
    replace hO := Lib.hid (show Own w3 w.heap.size w3.heap.size _ PL from hO)
    go_wp2_with fail
    go_ret2
    exact ⟨_, rfl, by rw [hPL.out]; exact hO.out, hb3.out⟩
  · rw [f1] at h1 ⊢
    replace h1 := Lib.hid h1
    replace f1 := Lib.hid f1
    clear hx ha
    go_enter Tryz.func49, Tryz.ntmps49
    go_wp2_with fail
    refine h1.out.mono ?_
    rintro e w1 ⟨rfl, q, rfl⟩
    go_wp2_with fail
    go_ret2
    exact ⟨_, rfl, own_empty0 _ _ _ _ _, ((below_drewN (Below.refl _ w) q).alloc (Nat.le_refl _) _)⟩

end Go.Proofs.YtpjapoaagbdlfaaGreatDoor
