/- Texts merged: XAc1 XAs1 XAs2. -/
import Derived.Test.YtpjapoaagbdlfaaGreatDoorFams13
import Derived.BigQuiet
import Derived.Test.YtpjapoaagbdlfaaGreatDoorAllSp
namespace Go.Proofs.YtpjapoaagbdlfaaGreatDoor
section
/- A set that is a part of another one: plain mathematics, the program's two methods, the model's function, searches with function values. -/
open Go.ChangeShapes Go.WideShapes Go.ChangeAt Go.RowKit Go.Proofs

theorem xor_zero {a b : Nat} (h : a ^^^ b = 0) : a = b := Nat.eq_of_testBit_eq fun i => by
  have h := congrArg (fun z => z.testBit i) h
  simp only [Nat.testBit_xor, Nat.zero_testBit] at h
  cases ha : a.testBit i <;> cases hb : b.testBit i <;> simp [ha, hb] at h ⊢
/-- x is a part of y. -/
def partB (x y : Int) : Bool := decide (andI x y = x)
theorem and_not (a b : Nat) (ha : a < 256) (hb : b < 256) : (BitVec.ofInt 64 (a : Int) &&& ~~~BitVec.ofInt 64 (b : Int)).toNat = a ^^^ (a &&& b) := by
  have h : BitVec.ofInt 64 (a : Int) &&& ~~~BitVec.ofInt 64 (b : Int) = BitVec.ofInt 64 (a : Int) ^^^ (BitVec.ofInt 64 (a : Int) &&& BitVec.ofInt 64 (b : Int)) := by
    ext i hi
    simp only [BitVec.getElem_and, BitVec.getElem_not, BitVec.getElem_xor]
    cases (BitVec.ofInt 64 (a : Int))[i] <;> cases (BitVec.ofInt 64 (b : Int))[i] <;> rfl
  rw [h, BitVec.toNat_xor, BitVec.toNat_and, ofInt_u64 a (by omega), ofInt_u64 b (by omega)]
theorem part_nat (a b : Nat) : (a ^^^ (a &&& b) = 0) ↔ andI a b = a := by
  unfold andI
  simp only [Int.toNat_natCast]
  constructor
  · intro h; have := xor_zero h; omega
  · intro h; have h2 : a &&& b = a := by omega
    rw [h2]; exact Nat.xor_self a
theorem xor_small {a b : Nat} (ha : a < 256) : a ^^^ (a &&& b) < 2 ^ 8 := Nat.xor_lt_two_pow (by omega) (by have : a &&& b ≤ a := Nat.and_le_left; omega)
theorem u64_part {x y : Int} (h1 : 0 ≤ x) (h2 : x < 256) (h3 : 0 ≤ y) (h4 : y < 256) : ∃ d, bits .andNot .u64 x y = d ∧ 0 ≤ d ∧ d < 256 ∧ (d == 0) = partB x y := by
  obtain ⟨a, rfl⟩ := Int.eq_ofNat_of_zero_le h1
  obtain ⟨b, rfl⟩ := Int.eq_ofNat_of_zero_le h3
  have hs := xor_small (a := a) (b := b) (by omega)
  refine ⟨((a ^^^ (a &&& b) : Nat) : Int), ?_, by omega, by omega, ?_⟩
  · show IntKind.u64.wrap ((BitVec.ofInt 64 (a : Int) &&& ~~~BitVec.ofInt 64 (b : Int)).toNat : Int) = _
    rw [and_not a b (by omega) (by omega), IntKind.wrap_u64]
    omega
  · unfold partB
    have hk := part_nat a b
    by_cases h0 : a ^^^ (a &&& b) = 0
    · rw [h0, decide_eq_true (hk.1 h0)]; rfl
    · rw [decide_eq_false (fun h => h0 (hk.2 h)), beq_eq_false_iff_ne]; omega
theorem i64_part {x y : Int} (h1 : 0 ≤ x) (h2 : x < 256) (h3 : 0 ≤ y) (h4 : y < 256) : ∃ d, bits .andNot .i64 x y = d ∧ 0 ≤ d ∧ d < 256 ∧ (d == 0) = partB x y := by
  obtain ⟨a, rfl⟩ := Int.eq_ofNat_of_zero_le h1
  obtain ⟨b, rfl⟩ := Int.eq_ofNat_of_zero_le h3
  have hs := xor_small (a := a) (b := b) (by omega)
  refine ⟨((a ^^^ (a &&& b) : Nat) : Int), ?_, by omega, by omega, ?_⟩
  · show IntKind.i64.wrap ((BitVec.ofInt 64 (a : Int) &&& ~~~BitVec.ofInt 64 (b : Int)).toNat : Int) = _
    rw [and_not a b (by omega) (by omega), IntKind.wrap_i64]
    omega
  · unfold partB
    have hk := part_nat a b
    by_cases h0 : a ^^^ (a &&& b) = 0
    · rw [h0, decide_eq_true (hk.1 h0)]; rfl
    · rw [decide_eq_false (fun h => h0 (hk.2 h)), beq_eq_false_iff_ne]; omega
theorem part_refl {x : Int} (h : 0 ≤ x) : partB x x = true := decide_eq_true (by unfold andI; rw [Nat.and_self]; omega)
theorem part_le {x y : Int} (_h1 : 0 ≤ x) (h2 : 0 ≤ y) (h : partB x y = true) : x ≤ y := by
  have h := of_decide_eq_true h
  unfold andI at h
  have : x.toNat &&& y.toNat ≤ y.toNat := Nat.and_le_right
  omega
theorem part_trans {x y z : Int} (h1 : 0 ≤ x) (h2 : 0 ≤ y) (ha : partB x y = true) (hb : partB y z = true) : partB x z = true := by
  have ha := of_decide_eq_true ha
  have hb := of_decide_eq_true hb
  unfold andI at ha hb
  have a2 : x.toNat &&& y.toNat = x.toNat := by omega
  have b2 : y.toNat &&& z.toNat = y.toNat := by omega
  refine decide_eq_true ?_
  unfold andI
  have : x.toNat &&& z.toNat = x.toNat := by rw [← a2, Nat.and_assoc, b2]
  omega
theorem l5part (x y : Int) (h1 : 0 ≤ x) (h2 : x < 256) (h3 : 0 ≤ y) (h4 : y < 256) (w : World) : Calls Tryz.prog 98 #[.int .i64 x, .int .i64 y] w fun e w' => e = .returned (.bool (partB x y)) ∧ w' = w := by
  obtain ⟨d, hd, d1, d2, hp⟩ := i64_part h1 h2 h3 h4
  rw [← hp]
  replace hp := Lib.hid hp
  go_enter Tryz.func98, Tryz.ntmps98
  go_wp2_with fail
  go_ret
  exact ⟨rfl, rfl⟩
/-- x is a part of y and another set. -/
def partO (x y : Int) : Bool := x != y && partB x y
theorem any_take {xs : List Int} {k : Nat} {x : Int} (hk : k < xs.length) (hx : xs.getD k 0 = x) (p : Int → Bool) : (xs.take (k + 1)).any p = ((xs.take k).any p || p x) := by rw [take_snoc hk, hx, List.any_append]; simp
/-- what a search leaves. -/
def IdxPost (b : Bool) (w : World) (e : Ending) (w' : World) : Prop := ∃ r : Int, e = .returned (.int .i64 r) ∧ decide (0 ≤ r) = b ∧ -1 ≤ r ∧ r ≤ 1000000 ∧ Below w.heap.size w w'
end
section
/- The model's ends and closures of families. -/
open Go.ChangeShapes Go.WideShapes Go.ChangeAt Go.RowKit Go.Proofs

/-- x is a part of the other z (top), or z of x. -/
def endB (top : Bool) (x z : Int) : Bool := if top then partO x z else partO z x
/-- the ends of xs among ys. -/
def endL (top : Bool) (xs ys : List Int) : List Int := ys.filter (fun x => !xs.any (endB top x))
theorem end_same (top : Bool) (x : Int) : endB top x x = false := by unfold endB partO; cases top <;> simp
theorem end_yes {top : Bool} {x z : Int} (h : z ≠ x) : endB top x z = if top then partB x z else partB z x := by
  unfold endB partO
  cases top
  · rw [if_neg (by simp), if_neg (by simp), show (z != x) = true from by simpa using h, Bool.true_and]
  · rw [if_pos rfl, if_pos rfl, show (x != z) = true from by simpa using fun e => h e.symm, Bool.true_and]
theorem asc_at {xs : List Int} (hA : Asc xs) {k m : Nat} (hk : k < xs.length) (hm : m < xs.length) (h : k ≠ m) : xs.getD m 0 ≠ xs.getD k 0 := by
  intro e
  rcases Nat.lt_or_gt_of_ne h with h | h
  · have := asc_get hA h hm; omega
  · have := asc_get hA h hk; omega
theorem any_step_or {xs : List Int} {k : Nat} {x : Int} (hk : k < xs.length) (hx : xs.getD k 0 = x) (p : Int → Bool) {b : Bool} (h : p x = b) (c : Bool) (hc : (!(xs.take k).any p) = c) : (!(xs.take (k + 1)).any p) = (c && !b) := by
  rw [any_take hk hx, h, ← hc]; cases (xs.take k).any p <;> cases b <;> rfl

/-- s is a part of z (down), or z of s. -/
def cloP (down : Bool) (s z : Int) : Bool := if down then partB s z else partB z s
def clL (down : Bool) (xs : List Int) (m : Nat) : List Int := (upI m).filter (fun s => xs.any (cloP down s))
theorem clL_succ (down : Bool) (xs : List Int) (m : Nat) : clL down xs (m + 1) = clL down xs m ++ (if xs.any (cloP down m) then [(m : Int)] else []) := by unfold clL; rw [upI_succ, filter_snoc]
theorem clL_len (down : Bool) (xs : List Int) (m : Nat) : (clL down xs m).length ≤ m := by unfold clL; have := List.length_filter_le (fun s => xs.any (cloP down s)) (upI m); rw [upI_len] at this; exact this
theorem any_step {xs : List Int} {k : Nat} {x : Int} (hk : k < xs.length) (hx : xs.getD k 0 = x) (p : Int → Bool) {b : Bool} (h : p x = b) (c : Bool) (hc : (xs.take k).any p = c) : (xs.take (k + 1)).any p = (c || b) := by
  rw [any_take hk hx, h, ← hc]
/-- the same world. -/
def SameW (a b : World) : Prop := a = b
set_option maxHeartbeats 4000000 in
theorem clo_at (n : Int) (down : Bool) (lv : Value) (xs : List Int) (S : Nat) (w : World) (hx : Row w S lv xs) (hS : S ≤ w.heap.size) (hl : xs.length ≤ 256) (hz : ∀ z ∈ xs, 0 ≤ z ∧ z < 256) (n1 : 1 ≤ n) (n2 : n ≤ 8) :
    Calls Tryz.prog 80 #[.int .i64 n, lv, .bool down] w (IntsPost (clL down xs (2 ^ n.toNat)) w) := by
  obtain ⟨p1, p2, p3⟩ := pow_nat n1 n2
  obtain ⟨N, hN⟩ : ∃ N : Nat, 2 ^ n.toNat = N := ⟨_, rfl⟩
  have hNi : (2 : Int) ^ n.toNat = (N : Nat) := by rw [← hN]; simp
  have hn0 : (0 : Int) ≤ n := by omega
  have hn64 : n < 64 := by omega
  rw [hN] at p1 p2 p3 ⊢
  obtain ⟨a, cap, rfl, ha⟩ := id hx
  replace ha := Lib.hid ha
  replace hz := Lib.hid hz
  replace hN := Lib.hid hN
  replace hNi := Lib.hid hNi
  clear hx
  go_enter Tryz.func80, Tryz.ntmps80
  go_wp2_with fail
  go_loopw [7, 8] (fun v s wr => ∃ k : Nat, k ≤ N ∧ s = .int .i64 k ∧ Hid (OwnL wr w.heap.size v (clL down xs k)) ∧ Hid (Below w.heap.size w wr)) (fun _ s _ => N - (intOf s).toNat)
  case atStart => exact ⟨0, by omega, rfl, Lib.hid (OwnL.lit w (Nat.le_refl _)), Lib.hid ((Below.refl _ _).alloc (Nat.le_refl _) _)⟩
  case round =>
    obtain ⟨k, hk, rfl, hown, hbel⟩ := hrel
    have hsz := hbel.out.size
    by_cases hlt : k < N
    · have k1 : (0 : Int) ≤ (k : Int) := by omega
      have k2 : (k : Int) < (N : Nat) := by omega
      have k3 : (k : Int) < 256 := by omega
      have hlen : (clL down xs k).length ≤ 1073741824 := by have := clL_len down xs k; omega
      have hst := clL_succ down xs k
      obtain ⟨ys, hys⟩ : ∃ ys, clL down xs k = ys := ⟨_, rfl⟩
      rw [hys] at hown hlen hst
      obtain ⟨a', c', rfl⟩ := hown.out.form
      replace hys := Lib.hid hys
      replace hst := Lib.hid hst
      go_wp2_with fail
      rw [p3]
      obtain ⟨W0, rfl⟩ : ∃ W0, W0 = wr := ⟨_, rfl⟩
      go_loopw [9, 10] (fun o j wq => ∃ m : Nat, m ≤ xs.length ∧ j = .int .i64 m ∧ (∃ c, o = .bool c ∧ Hid ((xs.take m).any (cloP down k) = c)) ∧ Hid (SameW W0 wq)) (fun _ j _ => xs.length - (intOf j).toNat)
      case atStart => exact ⟨0, by omega, rfl, ⟨false, rfl, Lib.hid rfl⟩, Lib.hid (show SameW W0 W0 from rfl)⟩
      case round =>
        obtain ⟨m, hm, rfl, ⟨c, rfl, hc⟩, hw⟩ := hrel
        have hw0 : W0 = wr := hw.out
        obtain rfl : wr = W0 := hw0.symm
        clear hw
        by_cases hlm : m < xs.length
        · obtain ⟨b1, o1, rfl, t1, c1⟩ := ha.out (by omega)
          have m1 : (0 : Int) ≤ (m : Int) := by omega
          have m2 : (m : Int) < (xs.length : Nat) := by omega
          have e2 : wr.cell? ⟨b1, o1 + m, none⟩ = some (.int .i64 (xs.getD m 0)) := (hbel.out.cell (p := ⟨b1, o1 + m, none⟩) (show b1 < w.heap.size by omega)).trans (c1 m hlm)
          obtain ⟨z, hz0⟩ : ∃ z, xs.getD m 0 = z := ⟨_, rfl⟩
          rw [hz0] at e2
          obtain ⟨u1, u2⟩ := hz.out z (by rw [← hz0]; exact getD_mem hlm)
          have hft := any_step hlm hz0 (cloP down k) (b := if down then partB k z else partB z k) rfl c hc.out
          replace hz0 := Lib.hid hz0
          clear c1
          cases c
          · rw [Bool.false_or] at hft
            cases down
            · rw [if_neg (by simp)] at hft
              have hp := fun w => l5part z k u1 u2 k1 k3 w
              obtain ⟨b, hb⟩ : ∃ b, partB z k = b := ⟨_, rfl⟩
              rw [hb] at hft hp
              replace hb := Lib.hid hb
              replace hp := Lib.hid hp
              replace hft := Lib.hid hft
              go_wp2_with (go_at_call 98; refine (hp.out _).mono ?_; rintro e w' ⟨rfl, rfl⟩)
              go_roundw
              case rel => exact ⟨m + 1, by omega, by go_num, ⟨b, rfl, hft⟩, Lib.hid (show SameW _ _ from rfl)⟩
              case measure => simp [intOf]; omega
            · rw [if_pos rfl] at hft
              have hp := fun w => l5part k z k1 k3 u1 u2 w
              obtain ⟨b, hb⟩ : ∃ b, partB k z = b := ⟨_, rfl⟩
              rw [hb] at hft hp
              replace hb := Lib.hid hb
              replace hp := Lib.hid hp
              replace hft := Lib.hid hft
              cases b
              · go_wp2_with (go_at_call 98; refine (hp.out _).mono ?_; rintro e w' ⟨rfl, rfl⟩)
                go_roundw
                case rel => exact ⟨m + 1, by omega, by go_num, ⟨false, rfl, hft⟩, Lib.hid (show SameW _ _ from rfl)⟩
                case measure => simp [intOf]; omega
              · go_wp2_with (go_at_call 98; refine (hp.out _).mono ?_; rintro e w' ⟨rfl, rfl⟩)
                go_roundw
                case rel => exact ⟨m + 1, by omega, by go_num, ⟨true, rfl, hft⟩, Lib.hid (show SameW _ _ from rfl)⟩
                case measure => simp [intOf]; omega
          · rw [Bool.true_or] at hft
            replace hft := Lib.hid hft
            go_wp2_with fail
            go_roundw
            case rel => exact ⟨m + 1, by omega, by go_num, ⟨true, rfl, hft⟩, Lib.hid (show SameW _ _ from rfl)⟩
            case measure => simp [intOf]; omega
        · have hq := hc.out
          rw [List.take_of_length_le (by omega)] at hq
          have hst2 := hst.out
          rw [hq] at hst2
          clear hst hc
          replace hq := Lib.hid hq
          cases c
          · rw [if_neg (by simp), List.append_nil] at hst2
            replace hst2 := Lib.hid hst2
            go_wp2_with fail
            go_roundw
            case rel => exact ⟨k + 1, by omega, by go_num, by rw [hst2.out]; exact hown, hbel⟩
            case measure => simp [intOf]; omega
          · rw [if_pos rfl] at hst2
            have hB1 : w.heap.size ≤ (wr.alloc (.cells #[.int .i64 (k : Int)] 3)).heap.size := by rw [World.size_alloc]; omega
            replace hst2 := Lib.hid hst2.symm
            go_wp2_with ((at_builtin; refine app_int rfl _ _ rfl w.heap.size _ ys rfl (hown.out.alloc _) (k : Int) wr.heap.size rfl (cell_new _ _ _) hlen hB1 ?_; intro v' w1 hown1 hb1))
            rw [hst2.out] at hown1
            replace hown1 := Lib.hid hown1
            have hb2 := Lib.hid ((hbel.out.alloc hsz _).trans hb1)
            go_roundw
            case rel => exact ⟨k + 1, by omega, by go_num, hown1, hb2⟩
            case measure => simp [intOf]; omega
    · obtain rfl : k = N := by omega
      obtain ⟨a', c', rfl⟩ := hown.out.form
      have hO := Lib.hid hown.out
      clear hown
      go_wp2_with fail
      go_ret
      exact ⟨_, rfl, hO.out, hbel.out⟩

/-- no set of xs is a part of another one. -/
def antiB (xs : List Int) : Bool := !xs.any (fun x => xs.any (endB true x))
end
section
/- The model's AntichainTop, AntichainBottom, ClosedDown, ClosedUp, AntichainIn. -/
open Go.ChangeShapes Go.WideShapes Go.ChangeAt Go.RowKit Go.Proofs

set_option maxHeartbeats 2000000 in
theorem sp_ClosedDown (n : Int) (lv : Value) (xs : List Int) (S : Nat) (w : World) (hx : Row w S lv xs) (hS : S ≤ w.heap.size) (hl : xs.length ≤ 100000000) :
    Calls Tryz.prog 50 #[.int .i64 n, lv] w (ListPost (ifL (famB n xs) (clL true xs (2 ^ n.toNat))) (famB n xs) w) := by
  have h1 := sp_FamilyIn n lv xs S w hx (by omega)
  obtain ⟨a, cap, rfl, ha⟩ := id hx
  rcases (by cases famB n xs <;> simp : famB n xs = true ∨ famB n xs = false) with f1 | f1
  · rw [f1] at h1 ⊢
    obtain ⟨n1, n2, _⟩ := famB_all f1
    have A1 := famB_asc f1
    have hzz := famB_lt f1
    have l1 := asc_len256 A1 hzz
    have hot := fun q : Nat => clo_at n true _ xs S (w.drewN q) (hx.drewN q) hS l1 hzz n1 n2
    rw [show ifL true (clL true xs (2 ^ n.toNat)) = clL true xs (2 ^ n.toNat) from rfl]
    obtain ⟨ys, hys⟩ : ∃ ys, clL true xs (2 ^ n.toNat) = ys := ⟨_, rfl⟩
    rw [hys] at hot ⊢
    replace hys := Lib.hid hys
    replace hot := Lib.hid hot
    replace h1 := Lib.hid h1
    replace f1 := Lib.hid f1
    replace A1 := Lib.hid A1
    replace hzz := Lib.hid hzz
    replace hx := Lib.hid hx
    replace ha := Lib.hid ha
    go_enter Tryz.func50, Tryz.ntmps50
    go_wp2_with fail
    refine h1.out.mono ?_
    rintro e w1 ⟨rfl, q, rfl⟩
    clear h1
    go_wp2_with fail
    refine (hot.out q).mono ?_
    rintro e w3 ⟨v, rfl, hO, hb3⟩
    obtain ⟨a', c', rfl⟩ := hO.form
    replace hb3 := Lib.hid ((below_drewN (Below.refl w.heap.size w) q).trans hb3)
    replace hO := Lib.hid (own_lift hO)
    go_wp2_with fail
    go_ret2
    exact ⟨_, rfl, hO.out, hb3.out⟩
  · rw [f1] at h1 ⊢
    replace h1 := Lib.hid h1
    replace f1 := Lib.hid f1
    clear hx ha
    go_enter Tryz.func50, Tryz.ntmps50
    go_wp2_with fail
    refine h1.out.mono ?_
    rintro e w1 ⟨rfl, q, rfl⟩
    go_wp2_with fail
    go_ret2
    exact ⟨_, rfl, own_empty0 _ _ _ _ _, ((below_drewN (Below.refl _ w) q).alloc (Nat.le_refl _) _)⟩

end
end Go.Proofs.YtpjapoaagbdlfaaGreatDoor
