/- The exact law of sets made of lists of points. -/
import Derived.Test.YtmaddbkpolecmaaDoorSlices
namespace Go.Proofs.YtmaddbkpolecmaaDoor
open Go.ChangeShapes Go.WideShapes Go.ChangeAt Go.RowKit

theorem ret_ibx {k : IntKind} {a b : Int} {c d : Bool} (h : a = b) (h2 : c = d) : Ending.returned (.tuple #[.int k a, .bool c]) = .returned (.tuple #[.int k b, .bool d]) := by rw [h, h2]
/-- the set of the first k numbers of a list. -/
def sofTo (n : Int) (xs : List Int) : Nat → Option Int
  | 0 => some 0
  | k + 1 => match sofTo n xs k with
    | none => none
    | some s => if ptB n (xs.getD k 0) then some (withI s (xs.getD k 0)) else none
theorem sofTo_lt {n : Int} (hn : n ≤ 8) (xs : List Int) : ∀ (k : Nat) (s : Int), sofTo n xs k = some s → 0 ≤ s ∧ s < 256 := by
  intro k
  induction k with
  | zero => intro x h; simp [sofTo] at h; subst h; simp
  | succ k ih =>
    intro x h
    unfold sofTo at h
    cases hr : sofTo n xs k with
    | none => rw [hr] at h; cases h
    | some y =>
      rw [hr] at h
      have := ih y hr
      simp only at h
      split at h
      · rename_i hp
        have := ptB_yes hp
        injection h with h
        subst h
        exact with_lt (by omega) (by omega) (by omega) (by omega)
      · cases h
theorem sofTo_none {n : Int} {xs : List Int} {k : Nat} (h : sofTo n xs k = none) : ∀ j, sofTo n xs (k + j) = none := by
  intro j
  induction j with
  | zero => exact h
  | succ j ih => show sofTo n xs (k + j + 1) = none; unfold sofTo; rw [ih]
/-- what SetOf returns for points in range. -/
def sofV (n : Int) (xs : List Int) : Int := if ptsB n then (sofTo n xs xs.length).getD 0 else 0
def sofB (n : Int) (xs : List Int) : Bool := ptsB n && (sofTo n xs xs.length).isSome
theorem sof_done {n : Int} {xs : List Int} {s : Int} (hp : ptsB n = true) (h : sofTo n xs xs.length = some s) : s = sofV n xs ∧ true = sofB n xs := by
  unfold sofV sofB; rw [h, hp]; exact ⟨rfl, rfl⟩
theorem sof_fail {n : Int} {xs : List Int} {k : Nat} (hk : k ≤ xs.length) (h : sofTo n xs k = none) : (0 : Int) = sofV n xs ∧ false = sofB n xs := by
  have := sofTo_none h (xs.length - k)
  rw [Nat.add_sub_cancel' hk] at this
  unfold sofV sofB; rw [this]; simp
theorem sof_no {n : Int} {xs : List Int} (hp : ptsB n = false) : (0 : Int) = sofV n xs ∧ false = sofB n xs := by
  unfold sofV sofB; rw [hp]; simp
theorem sof_step {n : Int} {xs : List Int} {k : Nat} {s x : Int} (hx : xs.getD k 0 = x) (h : sofTo n xs k = some s) (hp : ptB n x = true) : sofTo n xs (k + 1) = some (withI s x) := by
  unfold sofTo; rw [h]; simp only; rw [hx, if_pos hp]
theorem sof_stop {n : Int} {xs : List Int} {k : Nat} {s x : Int} (hx : xs.getD k 0 = x) (h : sofTo n xs k = some s) (hp : ptB n x = false) : sofTo n xs (k + 1) = none := by
  unfold sofTo; rw [h]; simp only; rw [hx, if_neg (by simp [hp])]

theorem im_SetOf (n : Int) (v : Value) (xs : List Int) (S : Nat) (w : World) (hx : Row w S v xs) (hl : xs.length ≤ 1073741824) :
    Calls Tryd.prog 13 #[.int .i64 n, v] w fun e w' => e = .returned (.tuple #[.int .i64 (sofV n xs), .bool (sofB n xs)]) ∧ w = w' := by
  obtain ⟨a, cap, rfl, ha⟩ := hx
  rcases (by cases ptsB n <;> simp : ptsB n = true ∨ ptsB n = false) with hp | hp
  · obtain ⟨n1, n2⟩ := ptsB_yes hp
    have ha := Lib.hid ha
    go_enter Tryd.func13, Tryd.ntmps13
    go_wp2_with (first | (go_at_call 32; refine (pts_in _ _).mono ?_; rintro e w' ⟨rfl, rfl⟩) | go_in)
    go_loop [6, 14] (fun q i => ∃ (k : Nat) (s : Int), k ≤ xs.length ∧ i = .int .i64 k ∧ q = .int .u64 s ∧ Hid (sofTo n xs k = some s)) (fun _ i => xs.length - (intOf i).toNat)
    case atStart => exact ⟨0, 0, by omega, rfl, rfl, Lib.hid rfl⟩
    case round =>
      obtain ⟨k, s, hk, rfl, rfl, hs⟩ := hrel
      obtain ⟨s1, s2⟩ := sofTo_lt n2 xs k s hs.out
      by_cases hlt : k < xs.length
      · obtain ⟨b1, o1, rfl, t1, c1⟩ := ha.out (by omega)
        have k1 : (0 : Int) ≤ (k : Int) := by omega
        have k2 : (k : Int) < (xs.length : Nat) := by omega
        have e1 := c1 k hlt
        obtain ⟨x, hx⟩ : ∃ x, xs.getD k 0 = x := ⟨_, rfl⟩
        rw [hx] at e1
        rcases ptB_cases n x with h | h
        · have hn := Lib.hid (sof_step hx hs.out h)
          obtain ⟨x1, x2⟩ := ptB_yes h
          clear hs hx c1
          go_wp2_with (first | (go_at_call 37; refine (pt_in _ _ _).mono ?_; rintro e w' ⟨rfl, rfl⟩) | (go_at_call 38; refine (set_with _ _ s1 s2 (by omega) (by omega) _).mono ?_; rintro e w' ⟨rfl, rfl⟩) | go_in)
          go_round
          case rel => exact ⟨k + 1, _, by omega, by go_num, rfl, hn⟩
          case measure => simp [intOf]; omega
        · have hn := Lib.hid (sof_fail (k := k + 1) (by omega) (sof_stop hx hs.out h))
          clear hs hx c1
          go_wp2_with (first | (go_at_call 37; refine (pt_in _ _ _).mono ?_; rintro e w' ⟨rfl, rfl⟩) | go_in)
          go_ret2
          exact ⟨ret_ibx hn.out.1 hn.out.2, rfl⟩
      · obtain rfl : k = xs.length := by omega
        have hd := Lib.hid (sof_done hp hs.out)
        clear hs
        go_wp2_with fail
        go_ret2
        exact ⟨ret_ibx hd.out.1 hd.out.2, rfl⟩
  · have hn := Lib.hid (sof_no (xs := xs) hp)
    go_enter Tryd.func13, Tryd.ntmps13
    go_wp2_with (first | (go_at_call 32; refine (pts_in _ _).mono ?_; rintro e w' ⟨rfl, rfl⟩) | go_in)
    go_ret2
    exact ⟨ret_ibx hn.out.1 hn.out.2, rfl⟩
end Go.Proofs.YtmaddbkpolecmaaDoor
