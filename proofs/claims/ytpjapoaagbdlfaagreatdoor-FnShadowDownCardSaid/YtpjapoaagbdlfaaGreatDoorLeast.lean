/- Least shadows: what a cascade's sum is, the program, the model. -/
import Derived.Test.YtpjapoaagbdlfaaGreatDoorLawsG
namespace Go.Proofs.YtpjapoaagbdlfaaGreatDoor
open Go.ChangeShapes Go.WideShapes Go.ChangeAt Go.RowKit Go.Proofs

/-- the sum of the ways one size lower. -/
def lst : List Int → Int → Int
  | [], _ => 0
  | a :: xs, k => chI a (k - 1) + lst xs (k - 1)
theorem lst_snoc (xs : List Int) (a : Int) : ∀ k, lst (xs ++ [a]) k = lst xs k + chI a (k - xs.length - 1) := by
  induction xs with
  | nil => intro k; simp [lst]
  | cons b xs ih =>
    intro k
    show chI b (k - 1) + lst (xs ++ [a]) (k - 1) = chI b (k - 1) + lst xs (k - 1) + _
    rw [ih, List.length_cons]
    rw [show k - 1 - (xs.length : Nat) - 1 = k - ((xs.length + 1 : Nat) : Int) - 1 by omega]
    omega
theorem casc_bd : ∀ (j : Nat) (r : Int), j ≤ 8 → r < chI 41 j → ∀ x ∈ cascL r j, 0 ≤ x ∧ x ≤ 40 := by
  intro j
  induction j with
  | zero => intro r _ _ x hx; simp [cascL] at hx
  | succ j ih =>
    intro r hj hr x hx
    by_cases h : r ≤ 0
    · rw [cascL_0 h] at hx; simp at hx
    · have hr' : r < chI 41 ((j : Int) + 1) := by simpa using hr
      obtain ⟨a1, a2, a3, a4, a5⟩ := casc_step (j := j) (by omega) (by omega) hr'
      rw [cascL_s (by omega)] at hx
      rcases List.mem_cons.1 hx with e | hx
      · subst e; exact ⟨by omega, a2⟩
      · exact ih _ (by omega) a5 x hx
theorem lst_bd : ∀ (xs : List Int) (k : Int), (∀ x ∈ xs, 0 ≤ x ∧ x ≤ 40) → (xs.length : Int) ≤ k → k ≤ 8 → 0 ≤ lst xs k ∧ lst xs k ≤ 1000000000000 * (xs.length : Nat) := by
  intro xs
  induction xs with
  | nil => intro k _ _ _; simp [lst]
  | cons a xs ih =>
    intro k h hk h8
    rw [List.length_cons] at hk ⊢
    have c := chI_bounds (n := a) (k := k - 1) (h a (List.mem_cons_self ..)).1 (by have := (h a (List.mem_cons_self ..)).2; omega) (by omega) (by omega)
    have i := ih (k - 1) (fun x hx => h x (List.mem_cons_of_mem _ hx)) (by omega) (by omega)
    show 0 ≤ chI a (k - 1) + lst xs (k - 1) ∧ chI a (k - 1) + lst xs (k - 1) ≤ _
    omega

/-- the least shadow, and whether it is told. -/
def leaOk (m k : Int) : Prop := 0 ≤ m ∧ 1 ≤ k ∧ k ≤ 8 ∧ (m = 0 ∨ cascOk m k)
instance (m k : Int) : Decidable (leaOk m k) := by unfold leaOk cascOk; exact inferInstance
def leaB (m k : Int) : Bool := decide (leaOk m k)
def leaV (m k : Int) : Int := if leaB m k then lst (cascL m k.toNat) k else 0
theorem leaB_mk {m k : Int} (h : leaOk m k) : leaB m k = true := decide_eq_true h
theorem leaB_mk0 {m k : Int} (h : ¬ leaOk m k) : leaB m k = false := decide_eq_false h
theorem leaV_mk {m k : Int} (h : leaOk m k) : leaV m k = lst (cascL m k.toNat) k := by unfold leaV; rw [leaB_mk h]; rfl
theorem leaV_mk0 {m k : Int} (h : ¬ leaOk m k) : leaV m k = 0 := by unfold leaV; rw [leaB_mk0 h]; rfl
theorem leaV_0 {m k : Int} (h : m = 0) : leaV m k = 0 := by
  unfold leaV
  split
  · rw [h, cascL_0 (Int.le_refl _)]; rfl
  · rfl
theorem ret_ibc {a b : Int} {c d : Bool} (h : a = b) (h2 : c = d) : Ending.returned (.tuple #[.int .i64 a, .bool c]) = .returned (.tuple #[.int .i64 b, .bool d]) := by rw [h, h2]
/-- what a loop over a cascade needs. -/
structure CascL (xs : List Int) (k : Int) : Prop where
  el : ∀ x ∈ xs, 0 ≤ x ∧ x ≤ 40
  len : (xs.length : Int) ≤ k
  k8 : k ≤ 8
theorem casc_l {m k : Int} (h : cascOk m k) : CascL (cascL m k.toNat) k where
  el := casc_bd _ _ (by have := h.2.2.2.1; omega) (by have := h.2.2.2.2; have := h.2.2.1; rw [Int.toNat_of_nonneg (by omega)]; exact h.2.2.2.2)
  len := by have := cascL_len k.toNat m; have := h.2.2.1; omega
  k8 := h.2.2.2.1
theorem gd_mem {xs : List Int} {i : Nat} (h : i < xs.length) : xs.getD i 0 ∈ xs := by
  rw [List.getD_eq_getElem?_getD, List.getElem?_eq_getElem h]; exact List.getElem_mem h
theorem tk_snoc {xs : List Int} {k : Nat} (h : k < xs.length) : xs.take (k + 1) = xs.take k ++ [xs.getD k 0] := by
  rw [List.take_add_one, List.getElem?_eq_getElem h, List.getD_eq_getElem?_getD, List.getElem?_eq_getElem h]; rfl
theorem CascL.step {xs : List Int} {k : Int} (h : CascL xs k) {i : Nat} (hi : i < xs.length) {x : Int} (hx : xs.getD i 0 = x) :
    0 ≤ x ∧ x ≤ 40 ∧ 0 ≤ k - i - 1 ∧ k - i - 1 ≤ 40 ∧ 0 ≤ lst (xs.take i) k ∧ lst (xs.take i) k ≤ 8000000000000 ∧ lst (xs.take i) k + chI x (k - i - 1) = lst (xs.take (i + 1)) k ∧ 0 ≤ chI x (k - i - 1) ∧ chI x (k - i - 1) ≤ 1000000000000 := by
  have hl := h.len
  have h8 := h.k8
  obtain ⟨x0, x1⟩ := h.el x (hx ▸ gd_mem hi)
  have hb := lst_bd (xs.take i) k (fun z hz => h.el z (List.mem_of_mem_take hz)) (by rw [List.length_take]; omega) h8
  have hlt : (xs.take i).length = i := by rw [List.length_take]; omega
  rw [hlt] at hb
  have hc := chI_bounds (n := x) (k := k - i - 1) x0 (by omega) (by omega) (by omega)
  refine ⟨x0, x1, by omega, by omega, hb.1, by omega, ?_, hc.1, hc.2⟩
  rw [tk_snoc hi, lst_snoc, hlt, hx]

set_option maxHeartbeats 1000000 in
theorem im_ShadowLeast (m k : Int) (w : World) : Calls Tryz.prog 23 #[.int .i64 m, .int .i64 k] w fun e w' => e = .returned (.tuple #[.int .i64 (leaV m k), .bool (leaB m k)]) ∧ Below w.heap.size w w' := by
  by_cases hm : 0 ≤ m
  · by_cases k1 : 1 ≤ k
    · by_cases k2 : k ≤ 8
      · by_cases m0 : m = 0
        · subst m0
          have hf := Lib.hid (show (0 : Int) = leaV 0 k from (leaV_0 rfl).symm)
          have hg := Lib.hid (show true = leaB 0 k from (leaB_mk ⟨by omega, k1, k2, .inl rfl⟩).symm)
          go_enter Tryz.func23, Tryz.ntmps23
          go_wp2_with fail
          go_ret2
          exact ⟨ret_ibc hf.out hg.out, Below.refl _ _⟩
        · by_cases hc : cascOk m k
          · have hok : leaOk m k := ⟨hm, k1, k2, .inr hc⟩
            have hca := Lib.hid (im_casc_yes m k hc w)
            have hf : lst (cascL m k.toNat) k = leaV m k := (leaV_mk hok).symm
            have hg := Lib.hid (show true = leaB m k from (leaB_mk hok).symm)
            have hL := casc_l hc
            obtain ⟨xs, hxs⟩ : ∃ xs, cascL m k.toNat = xs := ⟨_, rfl⟩
            rw [hxs] at hca hf hL
            have hl9 : xs.length ≤ 8 := by have := hL.len; omega
            replace hf := Lib.hid hf
            replace hL := Lib.hid hL
            replace hxs := Lib.hid hxs
            replace hc := Lib.hid hc
            replace hok := Lib.hid hok
            go_enter Tryz.func23, Tryz.ntmps23
            go_wp2_with fail
            refine hca.out.mono ?_
            rintro e w1 ⟨v, rfl, hO, hb⟩
            obtain ⟨a', c', rfl, ha⟩ := hO.row
            replace ha := Lib.hid ha
            replace hb := Lib.hid hb
            clear hO
            go_wp2_with fail
            go_loopw [8, 33] (fun q i wr => ∃ j : Nat, j ≤ xs.length ∧ i = .int .i64 j ∧ q = .int .i64 (lst (xs.take j) k) ∧ Hid (w1 = wr)) (fun _ i _ => xs.length - (intOf i).toNat)
            case atStart => exact ⟨0, Nat.zero_le _, rfl, rfl, Lib.hid rfl⟩
            case round =>
              obtain ⟨j, hj, rfl, rfl, hw⟩ := hrel
              have hw' := hw.out
              subst hw'
              by_cases hlt : j < xs.length
              · obtain ⟨b1, o1, rfl, t1, c1⟩ := ha.out (by omega)
                have j1 : (0 : Int) ≤ (j : Int) := by omega
                have j2 : (j : Int) < (xs.length : Nat) := by omega
                have e1 := c1 j hlt
                obtain ⟨x, hx⟩ : ∃ x, xs.getD j 0 = x := ⟨_, rfl⟩
                obtain ⟨s1, s2, s3, s4, s5, s6, s7, s8, s9⟩ := hL.out.step hlt hx
                rw [hx] at e1
                have hch := choose_in x (k - j - 1) s1 (by omega) s3 (by omega)
                obtain ⟨T, hT⟩ : ∃ T, lst (xs.take j) k = T := ⟨_, rfl⟩
                obtain ⟨C, hC⟩ : ∃ C, chI x (k - j - 1) = C := ⟨_, rfl⟩
                rw [hT, hC] at s7
                rw [hT] at s5 s6 ⊢
                rw [hC] at s8 s9 hch
                replace s7 := Lib.hid s7
                replace hch := Lib.hid hch
                replace hT := Lib.hid hT
                replace hC := Lib.hid hC
                replace hx := Lib.hid hx
                go_wp2_with (go_at_call 54; refine (hch.out _).mono ?_; rintro e w' ⟨rfl, rfl⟩)
                go_roundw
                case rel => exact ⟨j + 1, by omega, by go_num, by rw [s7.out], Lib.hid (by trivial)⟩
                case measure => simp [intOf]; omega
              · obtain rfl : j = xs.length := by omega
                rw [List.take_length]
                have hz := hb.out.size
                go_wp2_with fail
                go_ret2
                exact ⟨ret_ibc hf.out hg.out, hb.out⟩
          · have hok : ¬ leaOk m k := fun h => by
              rcases h.2.2.2 with h | h
              · exact m0 h
              · exact hc h
            have hca := Lib.hid (im_casc_no m k hc w)
            have hf := Lib.hid (show (0 : Int) = leaV m k from (leaV_mk0 hok).symm)
            have hg := Lib.hid (show false = leaB m k from (leaB_mk0 hok).symm)
            replace hc := Lib.hid hc
            replace hok := Lib.hid hok
            go_enter Tryz.func23, Tryz.ntmps23
            go_wp2_with fail
            refine hca.out.mono ?_
            rintro e w1 ⟨v, rfl, hO, hb⟩
            obtain ⟨a', c', rfl, _⟩ := hO
            replace hb := Lib.hid hb
            go_wp2_with fail
            go_ret2
            exact ⟨ret_ibc hf.out hg.out, hb.out⟩
      · have hok : ¬ leaOk m k := fun h => k2 h.2.2.1
        have hf := Lib.hid (show (0 : Int) = leaV m k from (leaV_mk0 hok).symm)
        have hg := Lib.hid (show false = leaB m k from (leaB_mk0 hok).symm)
        replace hok := Lib.hid hok
        go_enter Tryz.func23, Tryz.ntmps23
        go_wp2_with fail
        go_ret2
        exact ⟨ret_ibc hf.out hg.out, Below.refl _ _⟩
    · have hok : ¬ leaOk m k := fun h => k1 h.2.1
      have hf := Lib.hid (show (0 : Int) = leaV m k from (leaV_mk0 hok).symm)
      have hg := Lib.hid (show false = leaB m k from (leaB_mk0 hok).symm)
      replace hok := Lib.hid hok
      go_enter Tryz.func23, Tryz.ntmps23
      go_wp2_with fail
      go_ret2
      exact ⟨ret_ibc hf.out hg.out, Below.refl _ _⟩
  · have hok : ¬ leaOk m k := fun h => hm h.1
    have hf := Lib.hid (show (0 : Int) = leaV m k from (leaV_mk0 hok).symm)
    have hg := Lib.hid (show false = leaB m k from (leaB_mk0 hok).symm)
    replace hok := Lib.hid hok
    go_enter Tryz.func23, Tryz.ntmps23
    go_wp2_with fail
    go_ret2
    exact ⟨ret_ibc hf.out hg.out, Below.refl _ _⟩

theorem l1casc_0 (k : Int) (w : World) : Calls Tryz.prog 55 #[.int .i64 0, .int .i64 k] w fun e w' => ∃ v, e = .returned v ∧ Own w' w.heap.size w'.heap.size v [] ∧ Below w.heap.size w w' := by
  go_enter Tryz.func55, Tryz.ntmps55
  go_wp2_with fail
  refine wp_loop_rounds 1 ?_
  rw [rounds_succ]
  go_wp2_with fail
  go_ret
  exact ⟨_, rfl, Own.nil0 _ _, (Below.refl _ _).alloc (Nat.le_refl _) _⟩
theorem l1casc_any {m k : Int} (h : m = 0 ∨ cascOk m k) (w : World) : Calls Tryz.prog 55 #[.int .i64 m, .int .i64 k] w fun e w' => ∃ v, e = .returned v ∧ Own w' w.heap.size w'.heap.size v (cascL m k.toNat) ∧ Below w.heap.size w w' := by
  rcases h with rfl | h
  · rw [cascL_0 (Int.le_refl _)]; exact l1casc_0 k w
  · exact sp_l1casc m k h w
set_option maxHeartbeats 1000000 in
theorem l3least (m k : Int) (hok : leaOk m k) (w : World) : Calls Tryz.prog 27 #[.int .i64 m, .int .i64 k] w fun e w' => e = .returned (.int .i64 (leaV m k)) ∧ Below w.heap.size w w' := by
  have hca := Lib.hid (l1casc_any hok.2.2.2 w)
  have hf : lst (cascL m k.toNat) k = leaV m k := (leaV_mk hok).symm
  have hL : CascL (cascL m k.toNat) k := by
    rcases hok.2.2.2 with rfl | h
    · rw [cascL_0 (Int.le_refl _)]; exact ⟨by simp, by have := hok.2.1; simp; omega, hok.2.2.1⟩
    · exact casc_l h
  have k1 := hok.2.1
  have k2 := hok.2.2.1
  obtain ⟨xs, hxs⟩ : ∃ xs, cascL m k.toNat = xs := ⟨_, rfl⟩
  rw [hxs] at hca hf hL
  have hl9 : xs.length ≤ 8 := by have := hL.len; omega
  replace hf := Lib.hid hf
  replace hL := Lib.hid hL
  replace hxs := Lib.hid hxs
  replace hok := Lib.hid hok
  go_enter Tryz.func27, Tryz.ntmps27
  go_wp2_with fail
  refine hca.out.mono ?_
  rintro e w1 ⟨v, rfl, hO, hb⟩
  obtain ⟨a', c', rfl, ha⟩ := hO.row
  replace ha := Lib.hid ha
  replace hb := Lib.hid hb
  clear hO
  go_wp2_with fail
  go_loopw [6, 7] (fun q i wr => ∃ j : Nat, j ≤ xs.length ∧ i = .int .i64 j ∧ q = .int .i64 (lst (xs.take j) k) ∧ Hid (w1 = wr)) (fun _ i _ => xs.length - (intOf i).toNat)
  case atStart => exact ⟨0, Nat.zero_le _, rfl, rfl, Lib.hid rfl⟩
  case round =>
    obtain ⟨j, hj, rfl, rfl, hw⟩ := hrel
    have hw' := hw.out
    subst hw'
    by_cases hlt : j < xs.length
    · obtain ⟨b1, o1, rfl, t1, c1⟩ := ha.out (by omega)
      have j1 : (0 : Int) ≤ (j : Int) := by omega
      have j2 : (j : Int) < (xs.length : Nat) := by omega
      have e1 := c1 j hlt
      obtain ⟨x, hx⟩ : ∃ x, xs.getD j 0 = x := ⟨_, rfl⟩
      obtain ⟨s1, s2, s3, s4, s5, s6, s7, s8, s9⟩ := hL.out.step hlt hx
      rw [hx] at e1
      have hch := sp_choose_in x (k - j - 1) s1 (by omega) s3 (by omega)
      obtain ⟨T, hT⟩ : ∃ T, lst (xs.take j) k = T := ⟨_, rfl⟩
      obtain ⟨C, hC⟩ : ∃ C, chI x (k - j - 1) = C := ⟨_, rfl⟩
      rw [hT, hC] at s7
      rw [hT] at s5 s6 ⊢
      rw [hC] at s8 s9 hch
      replace s7 := Lib.hid s7
      replace hch := Lib.hid hch
      replace hT := Lib.hid hT
      replace hC := Lib.hid hC
      replace hx := Lib.hid hx
      go_wp2_with (go_at_call 26; refine (hch.out _).mono ?_; rintro e w' ⟨rfl, rfl⟩)
      go_roundw
      case rel => exact ⟨j + 1, by omega, by go_num, by rw [s7.out], Lib.hid (by trivial)⟩
      case measure => simp [intOf]; omega
    · obtain rfl : j = xs.length := by omega
      rw [List.take_length]
      have hz := hb.out.size
      go_wp2_with fail
      go_ret
      exact ⟨ret_int hf.out, hb.out⟩
end Go.Proofs.YtpjapoaagbdlfaaGreatDoor
