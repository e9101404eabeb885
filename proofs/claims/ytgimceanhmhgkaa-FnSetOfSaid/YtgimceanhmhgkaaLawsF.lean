/- The exact law of sets made of lists of points. -/
import Derived.Test.YtgimceanhmhgkaaSlices
namespace Go.Proofs.Ytgimceanhmhgkaa
open Go.ChangeShapes Go.WideShapes Go.ChangeAt Go.RowKit

theorem ret_ibx {k : IntKind} {a b : Int} {c d : Bool} (h : a = b) (h2 : c = d) : Ending.returned (.tuple #[.int k a, .bool c]) = .returned (.tuple #[.int k b, .bool d]) := by rw [h, h2]
/-- the set of the first k numbers of a list. -/
def sofTo (n : Int) (xs : List Int) : Nat → Option Int
  | 0 => some 0
  | k + 1 => match sofTo n xs k with
    | none => none
    | some s => if ptB n (xs.getD k 0) then some (withI s (xs.getD k 0)) else none
theorem sofTo_lt {n : Int} (hn : n ≤ 8) (xs : List Int) : ∀ (k : Nat) (s : Int), sofTo n xs k = some s → 0 ≤ s ∧ s < 256 := by
  intro k
  induction k with
  | zero => intro x h; simp [sofTo] at h; subst h; simp
  | succ k ih =>
    intro x h
    unfold sofTo at h
    cases hr : sofTo n xs k with
    | none => rw [hr] at h; cases h
    | some y =>
      rw [hr] at h
      have := ih y hr
      simp only at h
      split at h
      · rename_i hp
        have := ptB_yes hp
        injection h with h
        subst h
        exact with_lt (by omega) (by omega) (by omega) (by omega)
      · cases h
theorem sofTo_none {n : Int} {xs : List Int} {k : Nat} (h : sofTo n xs k = none) : ∀ j, sofTo n xs (k + j) = none := by
  intro j
  induction j with
  | zero => exact h
  | succ j ih => show sofTo n xs (k + j + 1) = none; unfold sofTo; rw [ih]
/-- what SetOf returns for points in range. -/
def sofV (n : Int) (xs : List Int) : Int := if ptsB n then (sofTo n xs xs.length).getD 0 else 0
def sofB (n : Int) (xs : List Int) : Bool := ptsB n && (sofTo n xs xs.length).isSome
theorem sof_done {n : Int} {xs : List Int} {s : Int} (hp : ptsB n = true) (h : sofTo n xs xs.length = some s) : s = sofV n xs ∧ true = sofB n xs := by
  unfold sofV sofB; rw [h, hp]; exact ⟨rfl, rfl⟩
theorem sof_fail {n : Int} {xs : List Int} {k : Nat} (hk : k ≤ xs.length) (h : sofTo n xs k = none) : (0 : Int) = sofV n xs ∧ false = sofB n xs := by
  have := sofTo_none h (xs.length - k)
  rw [Nat.add_sub_cancel' hk] at this
  unfold sofV sofB; rw [this]; simp
theorem sof_no {n : Int} {xs : List Int} (hp : ptsB n = false) : (0 : Int) = sofV n xs ∧ false = sofB n xs := by
  unfold sofV sofB; rw [hp]; simp
theorem sof_step {n : Int} {xs : List Int} {k : Nat} {s x : Int} (hx : xs.getD k 0 = x) (h : sofTo n xs k = some s) (hp : ptB n x = true) : sofTo n xs (k + 1) = some (withI s x) := by
  unfold sofTo; rw [h]; simp only; rw [hx, if_pos hp]
theorem sof_stop {n : Int} {xs : List Int} {k : Nat} {s x : Int} (hx : xs.getD k 0 = x) (h : sofTo n xs k = some s) (hp : ptB n x = false) : sofTo n xs (k + 1) = none := by
  unfold sofTo; rw [h]; simp only; rw [hx, if_neg (by simp [hp])]

theorem im_SetOf (n : Int) (v : Value) (xs : List Int) (S : Nat) (w : World) (hx : Row w S v xs) (hl : xs.length ≤ 1073741824) :
    Calls Try.prog 14 #[.int .i64 n, v] w fun e w' => e = .returned (.tuple #[.int .i64 (sofV n xs), .bool (sofB n xs)]) ∧ w = w' := by
  obtain ⟨a, cap, rfl, ha⟩ := hx
  rcases (by cases ptsB n <;> simp : ptsB n = true ∨ ptsB n = false) with hp | hp
  · obtain ⟨n1, n2⟩ := ptsB_yes hp
    have ha := Lib.hid ha
    go_enter Try.func14, Try.ntmps14
    go_wp2_with (first | (go_at_call 40; refine (pts_in _ _).mono ?_; rintro e w' ⟨rfl, rfl⟩) | go_in)
    go_loop [6, 14] (fun q i => ∃ (k : Nat) (s : Int), k ≤ xs.length ∧ i = .int .i64 k ∧ q = .int .u64 s ∧ Hid (sofTo n xs k = some s)) (fun _ i => xs.length - (intOf i).toNat)
    case atStart => exact ⟨0, 0, by omega, rfl, rfl, Lib.hid rfl⟩
    case round =>
      obtain ⟨k, s, hk, rfl, rfl, hs⟩ := hrel
      obtain ⟨s1, s2⟩ := sofTo_lt n2 xs k s hs.out
      by_cases hlt : k < xs.length
      · obtain ⟨b1, o1, rfl, t1, c1⟩ := ha.out (by omega)
        have k1 : (0 : Int) ≤ (k : Int) := by omega
        have k2 : (k : Int) < (xs.length : Nat) := by omega
        have e1 := c1 k hlt
        obtain ⟨x, hx⟩ : ∃ x, xs.getD k 0 = x := ⟨_, rfl⟩
        rw [hx] at e1
        rcases ptB_cases n x with h | h
        · have hn := Lib.hid (sof_step hx hs.out h)
          obtain ⟨x1, x2⟩ := ptB_yes h
          clear hs hx c1
          go_wp2_with (first | (go_at_call 41; refine (pt_in _ _ _).mono ?_; rintro e w' ⟨rfl, rfl⟩) | (go_at_call 42; refine (set_with _ _ s1 s2 (by omega) (by omega) _).mono ?_; rintro e w' ⟨rfl, rfl⟩) | go_in)
          go_round
          case rel => exact ⟨k + 1, _, by omega, by go_num, rfl, hn⟩
          case measure => simp [intOf]; omega
        · have hn := Lib.hid (sof_fail (k := k + 1) (by omega) (sof_stop hx hs.out h))
          clear hs hx c1
          go_wp2_with (first | (go_at_call 41; refine (pt_in _ _ _).mono ?_; rintro e w' ⟨rfl, rfl⟩) | go_in)
          go_ret2
          exact ⟨ret_ibx hn.out.1 hn.out.2, rfl⟩
      · obtain rfl : k = xs.length := by omega
        have hd := Lib.hid (sof_done hp hs.out)
        clear hs
        go_wp2_with fail
        go_ret2
        exact ⟨ret_ibx hd.out.1 hd.out.2, rfl⟩
  · have hn := Lib.hid (sof_no (xs := xs) hp)
    go_enter Try.func14, Try.ntmps14
    go_wp2_with (first | (go_at_call 40; refine (pts_in _ _).mono ?_; rintro e w' ⟨rfl, rfl⟩) | go_in)
    go_ret2
    exact ⟨ret_ibx hn.out.1 hn.out.2, rfl⟩
theorem sp_SetOf (n : Int) (v : Value) (xs : List Int) (S : Nat) (w : World) (hx : Row w S v xs) (hl : xs.length ≤ 1073741824) :
    Calls Try.prog 15 #[.int .i64 n, v] w fun e w' => e = .returned (.tuple #[.int .i64 (sofV n xs), .bool (sofB n xs)]) ∧ w = w' := by
  obtain ⟨a, cap, rfl, ha⟩ := hx
  rcases (by cases ptsB n <;> simp : ptsB n = true ∨ ptsB n = false) with hp | hp
  · obtain ⟨n1, n2⟩ := ptsB_yes hp
    have ha := Lib.hid ha
    go_enter Try.func15, Try.ntmps15
    go_wp2_with (first | (go_at_call 43; refine (l1pts _ _).mono ?_; rintro e w' ⟨rfl, rfl⟩) | go_in)
    go_loop [6, 7] (fun q i => ∃ (k : Nat) (s : Int), k ≤ xs.length ∧ i = .int .i64 k ∧ q = .int .i64 s ∧ Hid (sofTo n xs k = some s)) (fun _ i => xs.length - (intOf i).toNat)
    case atStart => exact ⟨0, 0, by omega, rfl, rfl, Lib.hid rfl⟩
    case round =>
      obtain ⟨k, s, hk, rfl, rfl, hs⟩ := hrel
      obtain ⟨s1, s2⟩ := sofTo_lt n2 xs k s hs.out
      by_cases hlt : k < xs.length
      · obtain ⟨b1, o1, rfl, t1, c1⟩ := ha.out (by omega)
        have k1 : (0 : Int) ≤ (k : Int) := by omega
        have k2 : (k : Int) < (xs.length : Nat) := by omega
        have e1 := c1 k hlt
        obtain ⟨x, hx⟩ : ∃ x, xs.getD k 0 = x := ⟨_, rfl⟩
        rw [hx] at e1
        rcases ptB_cases n x with h | h
        · have hn := Lib.hid (sof_step hx hs.out h)
          obtain ⟨x1, x2⟩ := ptB_yes h
          have hw := with_i64 s1 s2 x1 (by omega : x ≤ 7)
          rw [← inB_pt] at h
          clear hs hx c1
          go_wp2_with (first | (go_at_call 44; refine (l6in _ _ _ _).mono ?_; rintro e w' ⟨rfl, rfl⟩) | go_in)
          go_round
          case rel => exact ⟨k + 1, _, by omega, by go_num, rfl, hn⟩
          case measure => simp [intOf]; omega
        · have hn := Lib.hid (sof_fail (k := k + 1) (by omega) (sof_stop hx hs.out h))
          rw [← inB_pt] at h
          clear hs hx c1
          go_wp2_with (first | (go_at_call 44; refine (l6in _ _ _ _).mono ?_; rintro e w' ⟨rfl, rfl⟩) | go_in)
          go_ret2
          exact ⟨ret_ibx hn.out.1 hn.out.2, rfl⟩
      · obtain rfl : k = xs.length := by omega
        have hd := Lib.hid (sof_done hp hs.out)
        clear hs
        go_wp2_with fail
        go_ret2
        exact ⟨ret_ibx hd.out.1 hd.out.2, rfl⟩
  · have hn := Lib.hid (sof_no (xs := xs) hp)
    go_enter Try.func15, Try.ntmps15
    go_wp2_with (first | (go_at_call 43; refine (l1pts _ _).mono ?_; rintro e w' ⟨rfl, rfl⟩) | go_in)
    go_ret2
    exact ⟨ret_ibx hn.out.1 hn.out.2, rfl⟩

theorem law_SetOf (n : Int) (v : Value) (xs : List Int) (w : World) (hx : Row w w.heap.size v xs) (hl : xs.length ≤ 9223372036854775807) :
    Calls Try.prog 6 #[.int .i64 n, v] w fun e w' => e = .returned (.bool true) ∧ Below w.heap.size w w' := by
  have hx' := hx
  obtain ⟨a, cap, rfl, _⟩ := hx'
  by_cases hbig : 1048576 < xs.length
  · go_enter Try.func6, Try.ntmps6
    go_wp2_with fail
    go_ret
    exact ⟨rfl, Below.refl _ _⟩
  · have hl2 : xs.length ≤ 1048576 := by omega
    have hR := Lib.hid hx
    clear hx hbig
    go_enter Try.func6, Try.ntmps6
    go_wp2_with (first | fail)
    refine (to_ints _ xs _ _ hR.out (by omega) (Nat.le_refl _)).mono ?_
    rintro e w1 ⟨u, rfl, hu, hb1⟩
    obtain ⟨ua, uc, rfl, _⟩ := id hu
    have hU := Lib.hid hu
    clear hu
    go_wp2_with fail
    refine (sp_SetOf _ _ xs _ _ hU.out.row (by omega)).mono ?_
    rintro e w' ⟨rfl, rfl⟩
    go_wp2_with fail
    have hR1 := Lib.hid (hR.out.below hb1 (Nat.le_refl _))
    refine (to_ints _ xs _ _ hR1.out (by omega) hb1.size).mono ?_
    rintro e w2 ⟨u2, rfl, hu2, hb2⟩
    obtain ⟨ua2, uc2, rfl, _⟩ := id hu2
    have hU2 := Lib.hid hu2
    clear hu2
    go_wp2_with fail
    refine (im_SetOf _ _ xs _ _ hU2.out.row (by omega)).mono ?_
    rintro e w' ⟨rfl, rfl⟩
    go_wp2_with fail
    have hR2 := Lib.hid (hR1.out.below hb2 hb1.size)
    refine (to_ints _ xs _ _ hR2.out (by omega) (by have := hb1.size; have := hb2.size; omega)).mono ?_
    rintro e w3 ⟨u3, rfl, hu3, hb3⟩
    obtain ⟨ua3, uc3, rfl, _⟩ := id hu3
    have hU3 := Lib.hid hu3
    clear hu3
    go_wp2_with fail
    refine (eq_ints _ _ xs xs _ _ ((hU2.out.row.below hb3 (Nat.le_refl _)).mono hb3.size) hU3.out.row (by omega) (by omega)).mono ?_
    rintro e w' ⟨rfl, n4, rfl⟩
    have hsame : sameB xs xs = true := decide_eq_true rfl
    go_wp2_with fail
    go_ret
    exact ⟨rfl, below_drewN ((hb1.trans (hb2.mono hb1.size)).trans (hb3.mono (by have := hb1.size; have := hb2.size; omega))) _⟩
end Go.Proofs.Ytgimceanhmhgkaa
