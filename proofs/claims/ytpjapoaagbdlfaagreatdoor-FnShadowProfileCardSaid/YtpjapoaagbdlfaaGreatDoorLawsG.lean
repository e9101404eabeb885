/- The exact law of cascades. -/
import Derived.Test.YtpjapoaagbdlfaaGreatDoorLawsD
import Derived.Test.YtpjapoaagbdlfaaGreatDoorAppend
namespace Go.Proofs.YtpjapoaagbdlfaaGreatDoor
open Go.ChangeShapes Go.WideShapes Go.ChangeAt Go.RowKit

theorem ch_pascal : ∀ t : Fin 41, ∀ k : Fin 8, chI (t.val + 1) (k.val + 1) = chI t.val (k.val + 1) + chI t.val k.val ∧ chI t.val k.val ≤ chI 41 k.val := by decide +kernel
theorem ch_pascal' {t k : Int} (h1 : 0 ≤ t) (h2 : t ≤ 40) (k1 : 0 ≤ k) (k2 : k ≤ 7) : chI (t + 1) (k + 1) = chI t (k + 1) + chI t k ∧ chI t k ≤ chI 41 k := by
  have h := ch_pascal ⟨t.toNat, by omega⟩ ⟨k.toNat, by omega⟩
  have e1 : ((t.toNat : Nat) : Int) = t := Int.toNat_of_nonneg (by omega)
  have e2 : ((k.toNat : Nat) : Int) = k := Int.toNat_of_nonneg (by omega)
  simpa only [e1, e2] using h
theorem ch_self : ∀ k : Fin 9, 1 ≤ k.val → chI k.val k.val = 1 ∧ chI (k.val - 1) k.val = 0 := by decide +kernel
theorem ch_self' {k : Int} (k1 : 1 ≤ k) (k2 : k ≤ 8) : chI k k = 1 ∧ chI (k - 1) k = 0 := by
  have h := ch_self ⟨k.toNat, by omega⟩ (by simp; omega)
  have e2 : ((k.toNat : Nat) : Int) = k := Int.toNat_of_nonneg (by omega)
  simpa only [e2] using h
theorem top_spec {m k : Int} (hm : m < chI 41 k) : ∀ (f : Nat) (t : Int), chI t k ≤ m → t ≤ 40 → 41 ≤ t + f → t ≤ topI m k t f ∧ topI m k t f ≤ 40 ∧ chI (topI m k t f) k ≤ m ∧ m < chI (topI m k t f + 1) k := by
  intro f
  induction f with
  | zero => intro t h1 h2 h3; exfalso; omega
  | succ f ih =>
    intro t h1 h2 h3
    unfold topI
    by_cases hc : chI (t + 1) k ≤ m
    · rw [if_pos ⟨h2, hc⟩]
      have h4 : t + 1 ≤ 40 := by
        by_cases e : t = 40
        · exfalso; rw [e] at hc; exact absurd hc (by simp; omega)
        · omega
      have := ih (t + 1) hc h4 (by omega)
      exact ⟨by omega, this.2⟩
    · rw [if_neg (fun x => hc x.2)]
      exact ⟨by omega, h2, h1, by omega⟩
theorem topOf_spec {m k : Int} (k1 : 1 ≤ k) (k2 : k ≤ 8) (hm0 : 0 ≤ m) (hm : m < chI 41 k) : k - 1 ≤ topOf m k ∧ topOf m k ≤ 40 ∧ chI (topOf m k) k ≤ m ∧ m < chI (topOf m k + 1) k :=
  top_spec hm 42 (k - 1) (by rw [(ch_self' k1 k2).2]; exact hm0) (by omega) (by omega)
theorem topOf_high {m k : Int} (k1 : 1 ≤ k) (k2 : k ≤ 8) (hm : chI 41 k ≤ m) : topOf m k = 41 := by
  have mono : ∀ t : Int, k - 1 ≤ t → t ≤ 40 → chI (t + 1) k ≤ chI 41 k := by
    intro t t1 t2
    by_cases e : t = 40
    · rw [e]; exact Int.le_refl _
    · have := (ch_pascal' (t := t + 1) (k := k - 1) (by omega) (by omega) (by omega) (by omega))
      have e3 : k - 1 + 1 = k := by omega
      rw [e3] at this
      have mono' : ∀ f : Nat, ∀ t : Int, 0 ≤ t → t + f = 41 → chI t k ≤ chI 41 k := by
        intro f
        induction f with
        | zero => intro t _ h; have : t = 41 := by omega
                  rw [this]; exact Int.le_refl _
        | succ f ih =>
          intro t h0 h
          have p := (ch_pascal' (t := t) (k := k - 1) h0 (by omega) (by omega) (by omega)).1
          have b := (chI_bounds (n := t) (k := k - 1) h0 (by omega) (by omega) (by omega)).1
          have q := ih (t + 1) (by omega) (by omega)
          rw [e3] at p
          omega
      exact mono' (41 - (t + 1)).toNat (t + 1) (by omega) (by omega)
  have go : ∀ f : Nat, ∀ t : Int, k - 1 ≤ t → t ≤ 41 → 41 ≤ t + f → topI m k t f = 41 := by
    intro f
    induction f with
    | zero => intro t _ h1 h2; unfold topI; omega
    | succ f ih =>
      intro t h0 h1 h2
      unfold topI
      by_cases e : t ≤ 40
      · rw [if_pos ⟨e, by have := mono t h0 e; omega⟩]
        exact ih (t + 1) (by omega) (by omega) (by omega)
      · rw [if_neg (fun x => e x.1)]; omega
  exact go 42 (k - 1) (by omega) (by omega) (by omega)

/-- the list of a cascade. -/
def cascL (r : Int) : Nat → List Int
  | 0 => []
  | j + 1 => if r ≤ 0 then [] else topOf r (j + 1 : Nat) :: cascL (r - chI (topOf r (j + 1 : Nat)) (j + 1 : Nat)) j
theorem cascL_0 {r : Int} (h : r ≤ 0) (j : Nat) : cascL r j = [] := by
  cases j with
  | zero => rfl
  | succ j => unfold cascL; rw [if_pos h]
theorem cascL_s {r : Int} (h : 0 < r) (j : Nat) : cascL r (j + 1) = topOf r ((j : Int) + 1) :: cascL (r - chI (topOf r ((j : Int) + 1)) ((j : Int) + 1)) j := by
  show (if r ≤ 0 then _ else _) = _
  rw [if_neg (by omega)]; rfl
theorem cascL_len : ∀ (j : Nat) (r : Int), (cascL r j).length ≤ j := by
  intro j
  induction j with
  | zero => intro r; exact Nat.le_refl _
  | succ j ih =>
    intro r
    by_cases h : r ≤ 0
    · rw [cascL_0 h]; simp
    · rw [cascL_s (by omega)]; simp; exact ih _
/-- what each step keeps. -/
theorem casc_step {r : Int} {j : Nat} (hj : j ≤ 7) (h0 : 0 < r) (h : r < chI 41 ((j : Int) + 1)) :
    (j : Int) ≤ topOf r ((j : Int) + 1) ∧ topOf r ((j : Int) + 1) ≤ 40 ∧ 0 ≤ chI (topOf r ((j : Int) + 1)) ((j : Int) + 1) ∧ 0 ≤ r - chI (topOf r ((j : Int) + 1)) ((j : Int) + 1) ∧ r - chI (topOf r ((j : Int) + 1)) ((j : Int) + 1) < chI 41 j := by
  obtain ⟨a, b, c, d⟩ := topOf_spec (m := r) (k := (j : Int) + 1) (by omega) (by omega) (by omega) h
  have p := ch_pascal' (t := topOf r ((j : Int) + 1)) (k := j) (by omega) b (by omega) (by omega)
  have q := chI_bounds (n := topOf r ((j : Int) + 1)) (k := (j : Int) + 1) (by omega) (by omega) (by omega) (by omega)
  omega
theorem ch41_0 : chI 41 0 = 1 := by decide +kernel

/-- Cascade answers. -/
def cascOk (m k : Int) : Prop := 1 ≤ m ∧ m ≤ 1000000 ∧ 1 ≤ k ∧ k ≤ 8 ∧ m < chI 41 k

theorem im_casc_yes (m k : Int) (h : cascOk m k) (w : World) : Calls Tryz.prog 53 #[.int .i64 m, .int .i64 k] w fun e w' =>
    ∃ v, e = .returned (.tuple #[v, .bool true]) ∧ Own w' w.heap.size w'.heap.size v (cascL m k.toNat) ∧ Below w.heap.size w w' := by
  obtain ⟨m1, m2, k1, k2, hm⟩ := h
  have e2 : ((k.toNat : Nat) : Int) = k := Int.toNat_of_nonneg (by omega)
  go_enter Tryz.func53, Tryz.ntmps53
  go_wp2_with fail
  go_loopw [6, 7, 8] (fun v r z wr => ∃ (j : Nat) (rr : Int) (acc : List Int), j ≤ 8 ∧ z = .int .i64 j ∧ r = .int .i64 rr ∧ 0 ≤ rr ∧ rr ≤ 1000000 ∧ Hid (rr < chI 41 j) ∧ OwnL wr w.heap.size v acc ∧ Hid (acc ++ cascL rr j = cascL m k.toNat) ∧ Below w.heap.size w wr) (fun _ _ z _ => (intOf z).toNat)
  case atStart =>
    exact ⟨k.toNat, m, [], by omega, by rw [e2], rfl, by omega, m2, Lib.hid (by rw [e2]; exact hm), OwnL.lit w (Nat.le_refl _), Lib.hid rfl, (Below.refl _ _).alloc (Nat.le_refl _) _⟩
  case round =>
    obtain ⟨j, rr, acc, hj, rfl, rfl, r0, r1, hlt, hown, hacc, hbel⟩ := hrel
    have hsz := hbel.size
    have hal : acc.length ≤ 8 := by
      have h1 := cascL_len k.toNat m
      rw [← hacc.out, List.length_append] at h1
      omega
    by_cases hr : 0 < rr
    · cases j with
      | zero => exfalso; have := hlt.out; simp only [Int.cast_ofNat_Int, ch41_0] at this; omega
      | succ j =>
        have hlt' := hlt.out
        simp only [Int.natCast_add, Int.cast_ofNat_Int] at hlt'
        obtain ⟨a1, a2, a3, a4, a5⟩ := casc_step (by omega) hr hlt'
        have hacc' := hacc.out
        rw [cascL_s hr] at hacc'
        obtain ⟨T, hT⟩ : ∃ T, topOf rr ((j : Int) + 1) = T := ⟨_, rfl⟩
        have ht := fun W => top_of rr ((j : Int) + 1) (by omega) (by omega) W
        rw [hT] at a1 a2 a3 a4 a5 hacc' ht
        have ht := Lib.hid ht
        have hacc' := Lib.hid (show (acc ++ [T]) ++ cascL (rr - chI T ((j : Int) + 1)) j = cascL m k.toNat by rw [← hacc', List.append_assoc]; rfl)
        have hlt2 := Lib.hid a5
        have hu : Hid (∀ t c, OwnL (wr.alloc (.cells c t)) w.heap.size _ acc) := Lib.hid (fun t c => hown.alloc _)
        clear hT hacc hlt hlt' a5 e2
        go_wp2_with (first | (go_at_call 82; refine (ht.out _).mono ?_; rintro e w' ⟨rfl, rfl⟩) | (go_at_call 54; refine (choose_in _ _ (by omega) (by omega) (by omega) (by omega) _).mono ?_; rintro e w' ⟨rfl, rfl⟩) | (at_builtin; refine app_int rfl _ _ rfl w.heap.size _ acc rfl (hown.alloc _) T wr.heap.size rfl (cell_new _ _ _) (by omega) (by simp; omega) ?_; intro v' w1 hown1 hb1))
        go_roundw
        case rel => exact ⟨j, _, acc ++ [T], by omega, by go_num, rfl, a4, by omega, hlt2, hown1, hacc', (hbel.alloc hsz _).trans hb1⟩
        case measure => simp [intOf]
    · have hr0 : rr = 0 := by omega
      subst hr0
      have hO := Lib.hid (show Own wr w.heap.size wr.heap.size _ (cascL m k.toNat) from by
        have h1 := hacc.out
        rw [cascL_0 (by omega), List.append_nil] at h1
        rw [← h1]
        exact hown.own)
      clear hown hacc hlt
      go_wp2_with fail
      go_ret2
      exact ⟨_, rfl, hO.out, hbel⟩

theorem Own.nil0 {w : World} {B S : Nat} (a : Option Addr) (cap : Nat) : Own w B S (.slice a 0 cap) [] := ⟨a, cap, rfl, fun h => by simp at h⟩
theorem boolc' (b : Bool) : b = true ∨ b = false := by cases b <;> simp
theorem cascOk_no {m k : Int} (h : ¬ cascOk m k) : ¬ 1 ≤ m ∨ (1 ≤ m ∧ ¬ m ≤ 1000000) ∨ (1 ≤ m ∧ m ≤ 1000000 ∧ ¬ 1 ≤ k) ∨ (1 ≤ m ∧ m ≤ 1000000 ∧ 1 ≤ k ∧ ¬ k ≤ 8) ∨ (1 ≤ m ∧ m ≤ 1000000 ∧ 1 ≤ k ∧ k ≤ 8 ∧ chI 41 k ≤ m) := by
  unfold cascOk at h
  omega
theorem im_casc_no (m k : Int) (h : ¬ cascOk m k) (w : World) : Calls Tryz.prog 53 #[.int .i64 m, .int .i64 k] w fun e w' =>
    ∃ v, e = .returned (.tuple #[v, .bool false]) ∧ Own w' w.heap.size w'.heap.size v [] ∧ Below w.heap.size w w' := by
  rcases cascOk_no h with a | ⟨a, b⟩ | ⟨a, b, c⟩ | ⟨a, b, c, d⟩ | ⟨a, b, c, d, hm⟩
  iterate 4
    · clear h
      go_enter Tryz.func53, Tryz.ntmps53
      go_wp2_with fail
      go_ret2
      exact ⟨_, rfl, Own.nil0 _ _, (Below.refl _ _).alloc (Nat.le_refl _) _⟩
  · clear h
    have ht := Lib.hid (fun W => top_of m k c d W)
    have hT : topOf m k = 41 := topOf_high c d hm
    rw [hT] at ht
    clear hT hm
    go_enter Tryz.func53, Tryz.ntmps53
    go_wp2_with fail
    refine wp_loop_rounds 1 ?_
    rw [rounds_succ]
    go_wp2_with (first | (go_at_call 82; refine (ht.out _).mono ?_; rintro e w' ⟨rfl, rfl⟩) | go_in)
    go_ret2
    exact ⟨_, rfl, Own.nil0 _ _, ((Below.refl _ _).alloc (Nat.le_refl _) _).alloc (by simp) _⟩

theorem sp_l1casc (m k : Int) (h : cascOk m k) (w : World) : Calls Tryz.prog 55 #[.int .i64 m, .int .i64 k] w fun e w' =>
    ∃ v, e = .returned v ∧ Own w' w.heap.size w'.heap.size v (cascL m k.toNat) ∧ Below w.heap.size w w' := by
  obtain ⟨m1, m2, k1, k2, hm⟩ := h
  have e2 : ((k.toNat : Nat) : Int) = k := Int.toNat_of_nonneg (by omega)
  go_enter Tryz.func55, Tryz.ntmps55
  go_wp2_with fail
  go_loopw [0, 1, 5, 6] (fun r z v _ wr => ∃ (j : Nat) (rr : Int) (acc : List Int), j ≤ 8 ∧ z = .int .i64 j ∧ r = .int .i64 rr ∧ 0 ≤ rr ∧ rr ≤ 1000000 ∧ Hid (rr < chI 41 j) ∧ OwnL wr w.heap.size v acc ∧ Hid (acc ++ cascL rr j = cascL m k.toNat) ∧ Below w.heap.size w wr) (fun _ z _ _ _ => (intOf z).toNat)
  case atStart =>
    exact ⟨k.toNat, m, [], by omega, by rw [e2], rfl, by omega, m2, Lib.hid (by rw [e2]; exact hm), OwnL.lit w (Nat.le_refl _), Lib.hid rfl, (Below.refl _ _).alloc (Nat.le_refl _) _⟩
  case round =>
    obtain ⟨j, rr, acc, hj, rfl, rfl, r0, r1, hlt, hown, hacc, hbel⟩ := hrel
    have hsz := hbel.size
    have hal : acc.length ≤ 8 := by
      have h1 := cascL_len k.toNat m
      rw [← hacc.out, List.length_append] at h1
      omega
    by_cases hr : 0 < rr
    · cases j with
      | zero => exfalso; have := hlt.out; simp only [Int.cast_ofNat_Int, ch41_0] at this; omega
      | succ j =>
        rw [show ((j + 1 : Nat) : Int) = (j : Int) + 1 by omega]
        have hlt' := hlt.out
        simp only [Int.natCast_add, Int.cast_ofNat_Int] at hlt'
        obtain ⟨a1, a2, a3, a4, a5⟩ := casc_step (by omega) hr hlt'
        have hacc' := hacc.out
        rw [cascL_s hr] at hacc'
        have hT0 : topI rr ((j : Int) + 1) ((j : Int) + 1) 41 = topOf rr ((j : Int) + 1) := by
          unfold topOf
          have e3 : (j : Int) + 1 - 1 + 1 = j + 1 := by omega
          show _ = (if (j : Int) + 1 - 1 ≤ 40 ∧ chI ((j : Int) + 1 - 1 + 1) ((j : Int) + 1) ≤ rr then topI rr ((j : Int) + 1) ((j : Int) + 1 - 1 + 1) 41 else _)
          rw [e3, if_pos ⟨by omega, by rw [(ch_self' (k := (j : Int) + 1) (by omega) (by omega)).1]; omega⟩]
        have hlow : (j : Int) + 1 ≤ topOf rr ((j : Int) + 1) := by
          rw [← hT0]; exact (top_bd rr ((j : Int) + 1) 41 ((j : Int) + 1)).1
        obtain ⟨T, hT⟩ : ∃ T, topOf rr ((j : Int) + 1) = T := ⟨_, rfl⟩
        rw [hT] at a1 a2 a3 a4 a5 hacc' hT0 hlow
        have hacc' := Lib.hid (show (acc ++ [T]) ++ cascL (rr - chI T ((j : Int) + 1)) j = cascL m k.toNat by rw [← hacc', List.append_assoc]; rfl)
        have hlt2 := Lib.hid a5
        have hT0 := Lib.hid hT0
        have hlt3 := Lib.hid hlt'
        clear hT hacc hlt hlt' a5 e2
        obtain ⟨wo, hwo⟩ : ∃ wo : World, wo = wr := ⟨_, rfl⟩
        subst hwo
        go_wp2_with fail
        go_loop [6] (fun t => ∃ (x : Int) (f : Nat), t = .int .i64 x ∧ (j : Int) + 1 ≤ x ∧ x ≤ 40 ∧ x + f = j + 42 ∧ Hid (topI rr ((j : Int) + 1) x f = T)) (fun t => (41 - intOf t).toNat)
        case atStart => exact ⟨_, 41, rfl, by omega, by omega, by omega, hT0⟩
        case round =>
          obtain ⟨x, f, rfl, x1, x2, x3, hx⟩ := hrel
          obtain ⟨g, rfl⟩ : ∃ g, f = g + 1 := ⟨f - 1, by omega⟩
          by_cases hb : chI (x + 1) ((j : Int) + 1) ≤ rr
          · have hx40 : x + 1 ≤ 40 := by
              by_cases e : x = 40
              · exfalso; rw [e] at hb; have := hlt3.out; exact absurd hb (by simp; omega)
              · omega
            have hy := Lib.hid (show topI rr ((j : Int) + 1) (x + 1) g = T by have := hx.out; unfold topI at this; rwa [if_pos ⟨x2, hb⟩] at this)
            clear hx
            go_wp2_with (first | (go_at_call 26; refine (sp_choose_in _ _ (by omega) (by omega) (by omega) (by omega) _).mono ?_; rintro e w' ⟨rfl, rfl⟩) | go_in)
            go_round
            case rel => exact ⟨x + 1, g, rfl, by omega, by omega, by omega, hy⟩
            case measure => simp [intOf]; omega
          · have hy : x = T := by have := hx.out; unfold topI at this; rwa [if_neg (fun c => hb c.2)] at this
            subst hy
            clear hx hT0
            go_wp2_with (first | (go_at_call 26; refine (sp_choose_in _ _ (by omega) (by omega) (by omega) (by omega) _).mono ?_; rintro e w' ⟨rfl, rfl⟩) | (at_builtin; refine app_int rfl _ _ rfl w.heap.size _ acc rfl (hown.alloc _) x wo.heap.size rfl (cell_new _ _ _) (by omega) (by simp; omega) ?_; intro v' w1 hown1 hb1))
            go_roundw
            case rel => exact ⟨j, _, acc ++ [x], by omega, by go_num, rfl, a4, by omega, hlt2, hown1, hacc', (hbel.alloc hsz _).trans hb1⟩
            case measure => simp [intOf]
    · have hr0 : rr = 0 := by omega
      subst hr0
      have hO := Lib.hid (show Own wr w.heap.size wr.heap.size _ (cascL m k.toNat) from by
        have h1 := hacc.out
        rw [cascL_0 (by omega), List.append_nil] at h1
        rw [← h1]
        exact hown.own)
      clear hown hacc hlt
      go_wp2_with fail
      go_ret
      exact ⟨_, rfl, hO.out, hbel⟩

end Go.Proofs.YtpjapoaagbdlfaaGreatDoor
