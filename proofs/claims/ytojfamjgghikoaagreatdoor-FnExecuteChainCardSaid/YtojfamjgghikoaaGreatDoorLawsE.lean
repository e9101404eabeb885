/- The exact law of sets read from texts. -/
import Derived.Test.YtojfamjgghikoaaGreatDoorLawsB
namespace Go.Proofs.YtojfamjgghikoaaGreatDoor
open Go.ChangeShapes Go.WideShapes Go.ChangeAt Go.RowKit

theorem ret_ibb' {k : IntKind} {a b : Int} {c d : Bool} (h : a = b) (h2 : c = d) : Ending.returned (.tuple #[.int k a, .bool c]) = .returned (.tuple #[.int k b, .bool d]) := by rw [h, h2]
theorem boolc (b : Bool) : b = true ∨ b = false := by cases b <;> simp
/-- the byte at k, as a number. -/
def byteAt (s : ByteArray) (k : Nat) : Int := if h : k < s.size then (s[k].toNat : Int) else 0
theorem byteAt_eq {s : ByteArray} {k : Nat} (h : k < s.size) : ((s[k]'h).toNat : Int) = byteAt s k := by unfold byteAt; rw [dif_pos h]
/-- the first k signs, read as a set. -/
def rdTo (s : ByteArray) : Nat → Option Int
  | 0 => some 0
  | k + 1 => match rdTo s k with
    | none => none
    | some x => if byteAt s k = 48 then some x else if byteAt s k = 49 then some (x + 2 ^ k) else none
theorem rdTo_lt (s : ByteArray) : ∀ (k : Nat) (x : Int), rdTo s k = some x → 0 ≤ x ∧ x < 2 ^ k := by
  intro k
  induction k with
  | zero => intro x h; simp [rdTo] at h; subst h; simp
  | succ k ih =>
    intro x h
    unfold rdTo at h
    cases hr : rdTo s k with
    | none => rw [hr] at h; cases h
    | some y =>
      rw [hr] at h
      have := ih y hr
      have e : (2 : Int) ^ (k + 1) = 2 ^ k * 2 := Int.pow_succ 2 k
      simp only at h
      split at h
      · injection h with h; omega
      · split at h
        · injection h with h; omega
        · cases h
theorem rdTo_none (s : ByteArray) (k : Nat) (h : rdTo s k = none) : ∀ j, rdTo s (k + j) = none := by
  intro j
  induction j with
  | zero => exact h
  | succ j ih => show rdTo s (k + j + 1) = none; unfold rdTo; rw [ih]
theorem rdTo_0 {s : ByteArray} {k : Nat} {x : Int} (h : rdTo s k = some x) (h0 : byteAt s k = 48) : rdTo s (k + 1) = some x := by
  unfold rdTo; rw [h]; simp [h0]
theorem rdTo_1 {s : ByteArray} {k : Nat} {x : Int} (h : rdTo s k = some x) (h0 : byteAt s k = 49) : rdTo s (k + 1) = some (x + 2 ^ k) := by
  unfold rdTo; rw [h]; simp [h0]
theorem rdTo_2 {s : ByteArray} {k : Nat} {x : Int} (h : rdTo s k = some x) (h0 : byteAt s k ≠ 48) (h1 : byteAt s k ≠ 49) : rdTo s (k + 1) = none := by
  unfold rdTo; rw [h]; simp [h0, h1]
theorem free_dec : ∀ k : Fin 8, ∀ x : Fin 256, x.val < 2 ^ k.val → withI x.val k.val = x.val + 2 ^ k.val := by decide +kernel
theorem free_with {x : Int} {k : Nat} (hk : k ≤ 7) (h1 : 0 ≤ x) (h2 : x < 2 ^ k) : withI x k = x + 2 ^ k ∧ x + 2 ^ k < 256 ∧ x < 256 := by
  have e2 : ((x.toNat : Nat) : Int) = x := Int.toNat_of_nonneg h1
  have p : (2 : Int) ^ k ≤ 128 := (pow8 (p := (k : Nat)) (by omega) (by omega)).2.2
  have h := free_dec ⟨k, by omega⟩ ⟨x.toNat, by omega⟩ (by
    have : ((x.toNat : Nat) : Int) < ((2 ^ k : Nat) : Int) := by rw [e2]; simpa using h2
    simpa using Int.ofNat_lt.1 this)
  simp only [e2] at h
  exact ⟨h, by omega, by omega⟩
/-- what SetRead returns. -/
def readV (s : ByteArray) : Int := (rdTo s s.size).getD 0
def readB (s : ByteArray) : Bool := (rdTo s s.size).isSome
theorem read_done {s : ByteArray} {x : Int} (h : rdTo s s.size = some x) : x = readV s ∧ true = readB s := by unfold readV readB; rw [h]; exact ⟨rfl, rfl⟩
theorem read_fail {s : ByteArray} {k : Nat} (hk : k ≤ s.size) (h : rdTo s k = none) : (0 : Int) = readV s ∧ false = readB s := by
  have := rdTo_none s k h (s.size - k)
  rw [Nat.add_sub_cancel' hk] at this
  unfold readV readB; rw [this]; exact ⟨rfl, rfl⟩

theorem im_read_yes (s : ByteArray) (h1 : 1 ≤ s.size) (h2 : s.size ≤ 8) (w : World) : Calls Tryz.prog 143 #[.int .i64 (s.size : Nat), .string s] w fun e w' => e = .returned (.tuple #[.int .i64 (readV s), .bool (readB s)]) ∧ w = w' := by
  have hp := ptsB_mk (n := (s.size : Nat)) (by omega) (by omega)
  go_enter Tryz.func143, Tryz.ntmps143
  go_wp2_with (first | (go_at_call 63; refine (pts_in _ _).mono ?_; rintro e w' ⟨rfl, rfl⟩) | go_in)
  go_loop [6, 18] (fun v i => ∃ (k : Nat) (x : Int), k ≤ s.size ∧ i = .int .i64 k ∧ v = .int .u64 x ∧ Hid (rdTo s k = some x)) (fun _ i => s.size - (intOf i).toNat)
  case atStart => exact ⟨0, 0, by omega, rfl, rfl, Lib.hid rfl⟩
  case round =>
    obtain ⟨k, x, hk, rfl, rfl, hx⟩ := hrel
    by_cases hlt : k < s.size
    · obtain ⟨x1, x2⟩ := rdTo_lt s k x hx.out
      obtain ⟨f1, f2, f3⟩ := free_with (k := k) (by omega) x1 x2
      have hb := byteAt_eq hlt
      rcases boolc (((s[k].toNat : Nat) : Int) == 48) with c | c
      · have hn := Lib.hid (rdTo_0 hx.out (by rw [← hb]; simpa using c))
        clear hx hb f1 x2 f2
        go_wp2_with (first | (go_at_call 72; refine (set_with _ _ x1 f3 (by omega) (by omega) _).mono ?_; rintro e w' ⟨rfl, rfl⟩) | go_in)
        go_round
        case rel => exact ⟨k + 1, x, by omega, by go_num, rfl, hn⟩
        case measure => simp [intOf]; omega
      · rcases boolc (((s[k].toNat : Nat) : Int) == 49) with d | d
        · have hn := Lib.hid (rdTo_1 hx.out (by rw [← hb]; simpa using d))
          clear hx hb x2 f2
          go_wp2_with (first | (go_at_call 72; refine (set_with _ _ x1 f3 (by omega) (by omega) _).mono ?_; rintro e w' ⟨rfl, rfl⟩) | go_in)
          go_round
          case rel => exact ⟨k + 1, _, by omega, by go_num, rfl, hn⟩
          case measure => simp [intOf]; omega
        · have hn := Lib.hid (read_fail hlt (rdTo_2 hx.out (by rw [← hb]; simpa using c) (by rw [← hb]; simpa using d)))
          clear hx hb x2 f2 f1
          go_wp2_with fail
          go_ret2
          exact ⟨ret_ibb' hn.out.1 hn.out.2, rfl⟩
    · obtain rfl : k = s.size := by omega
      have hd := Lib.hid (read_done hx.out)
      obtain ⟨x1, x2⟩ := rdTo_lt s s.size x hx.out
      have p : (2 : Int) ^ s.size ≤ 256 := (pow_le256 (n := (s.size : Nat)) (by omega) (by omega)).1
      have x3 : x < 256 := by omega
      clear hx x2 p
      go_wp2_with fail
      go_ret2
      exact ⟨ret_ibb' hd.out.1 hd.out.2, rfl⟩
theorem im_read_no (n : Int) (s : ByteArray) (h : ptsB n = false ∨ (ptsB n = true ∧ n ≠ (s.size : Nat))) (w : World) : Calls Tryz.prog 143 #[.int .i64 n, .string s] w fun e w' => e = .returned (.tuple #[.int .i64 0, .bool false]) ∧ w = w' := by
  rcases h with hp | ⟨hp, hne⟩
  · go_enter Tryz.func143, Tryz.ntmps143
    go_wp2_with (first | (go_at_call 63; refine (pts_in _ _).mono ?_; rintro e w' ⟨rfl, rfl⟩) | go_in)
    go_ret2
    exact ⟨rfl, rfl⟩
  · have hne' : (((s.size : Nat) : Int) != n) = true := by simp; omega
    clear hne
    go_enter Tryz.func143, Tryz.ntmps143
    go_wp2_with (first | (go_at_call 63; refine (pts_in _ _).mono ?_; rintro e w' ⟨rfl, rfl⟩) | go_in)
    go_ret2
    exact ⟨rfl, rfl⟩

theorem sp_read_yes (s : ByteArray) (h1 : 1 ≤ s.size) (h2 : s.size ≤ 8) (w : World) : Calls Tryz.prog 124 #[.int .i64 (s.size : Nat), .string s] w fun e w' => e = .returned (.tuple #[.int .i64 (readV s), .bool (readB s)]) ∧ w = w' := by
  have hp := ptsB_mk (n := (s.size : Nat)) (by omega) (by omega)
  go_enter Tryz.func124, Tryz.ntmps124
  go_wp2_with (first | (go_at_call 39; refine (l1pts _ _).mono ?_; rintro e w' ⟨rfl, rfl⟩) | go_in)
  go_loop [6, 7] (fun v i => ∃ (k : Nat) (x : Int), k ≤ s.size ∧ i = .int .i64 k ∧ v = .int .i64 x ∧ Hid (rdTo s k = some x)) (fun _ i => s.size - (intOf i).toNat)
  case atStart => exact ⟨0, 0, by omega, rfl, rfl, Lib.hid rfl⟩
  case round =>
    obtain ⟨k, x, hk, rfl, rfl, hx⟩ := hrel
    by_cases hlt : k < s.size
    · obtain ⟨x1, x2⟩ := rdTo_lt s k x hx.out
      obtain ⟨f1, f2, f3⟩ := free_with (k := k) (by omega) x1 x2
      obtain ⟨g1, g2, g3⟩ := pow8 (p := (k : Nat)) (by omega) (by omega)
      simp only [Int.toNat_natCast] at g1 g2 g3
      have hb := byteAt_eq hlt
      clear f1
      rcases boolc (((s[k].toNat : Nat) : Int) == 49) with d | d
      · have hn := Lib.hid (rdTo_1 hx.out (by rw [← hb]; simpa using d))
        clear hx hb x2
        go_wp2_with fail
        go_round
        case rel => exact ⟨k + 1, _, by omega, by go_num, rfl, hn⟩
        case measure => simp [intOf]; omega
      · rcases boolc (((s[k].toNat : Nat) : Int) == 48) with c | c
        · have hn := Lib.hid (rdTo_0 hx.out (by rw [← hb]; simpa using c))
          clear hx hb x2 f2
          go_wp2_with fail
          go_round
          case rel => exact ⟨k + 1, x, by omega, by go_num, rfl, hn⟩
          case measure => simp [intOf]; omega
        · have hn := Lib.hid (read_fail hlt (rdTo_2 hx.out (by rw [← hb]; simpa using c) (by rw [← hb]; simpa using d)))
          clear hx hb x2 f2
          go_wp2_with fail
          go_ret2
          exact ⟨ret_ibb' hn.out.1 hn.out.2, rfl⟩
    · obtain rfl : k = s.size := by omega
      have hd := Lib.hid (read_done hx.out)
      clear hx
      go_wp2_with fail
      go_ret2
      exact ⟨ret_ibb' hd.out.1 hd.out.2, rfl⟩
theorem sp_read_no (n : Int) (s : ByteArray) (h : ptsB n = false ∨ (ptsB n = true ∧ n ≠ (s.size : Nat))) (w : World) : Calls Tryz.prog 124 #[.int .i64 n, .string s] w fun e w' => e = .returned (.tuple #[.int .i64 0, .bool false]) ∧ w = w' := by
  rcases h with hp | ⟨hp, hne⟩
  · go_enter Tryz.func124, Tryz.ntmps124
    go_wp2_with (first | (go_at_call 39; refine (l1pts _ _).mono ?_; rintro e w' ⟨rfl, rfl⟩) | go_in)
    go_ret2
    exact ⟨rfl, rfl⟩
  · have hne' : (((s.size : Nat) : Int) != n) = true := by simp; omega
    clear hne
    go_enter Tryz.func124, Tryz.ntmps124
    go_wp2_with (first | (go_at_call 39; refine (l1pts _ _).mono ?_; rintro e w' ⟨rfl, rfl⟩) | go_in)
    go_ret2
    exact ⟨rfl, rfl⟩
end Go.Proofs.YtojfamjgghikoaaGreatDoor
