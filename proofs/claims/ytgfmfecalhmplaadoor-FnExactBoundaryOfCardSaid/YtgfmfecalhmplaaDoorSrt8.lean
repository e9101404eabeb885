/- A list of sets sorted in place: pdqsort, slices.Sort. -/
import Derived.Test.YtgfmfecalhmplaaDoorSrt7
namespace Go.Proofs.YtgfmfecalhmplaaDoor
open Go.ChangeShapes Go.WideShapes Go.ChangeAt Go.RowKit Go.Proofs

/-- what a sort leaves. -/
def DoneSt (g cap : Nat) (xs : List Int) (w0 : World) (e : Ending) (w' : World) : Prop := (∃ v, e = .returned v) ∧ St g cap xs w0 w'
set_option maxHeartbeats 16000000 in
set_option maxRecDepth 100000 in
theorem pdq_step {g cap : Nat} (n : Nat) (xs : List Int) (hl : xs.length ≤ 256)
    (ih : ∀ (w0 w : World) (a b : Nat) (lim : Int), St g cap xs w0 w → a ≤ b → b ≤ xs.length → b - a < n → 0 ≤ lim → lim ≤ 64 →
      Calls Tryd.prog 108 #[.slice (some ⟨g, 0, none⟩) xs.length cap, .int .i64 (a : Nat), .int .i64 (b : Nat), .int .i64 lim] w (DoneSt g cap xs w0))
    (w0 w : World) (a b : Nat) (lim : Int) (h : St g cap xs w0 w) (hab : a ≤ b) (hb : b ≤ xs.length) (hn : b - a ≤ n) (l0 : 0 ≤ lim) (l1 : lim ≤ 64) :
    Calls Tryd.prog 108 #[.slice (some ⟨g, 0, none⟩) xs.length cap, .int .i64 (a : Nat), .int .i64 (b : Nat), .int .i64 lim] w (DoneSt g cap xs w0) := by
  have hs := Lib.hid h
  replace ih := Lib.hid ih
  clear h
  go_enter Tryd.func108, Tryd.ntmps108
  go_wp2_with fail
  go_loopg [1, 2, 3, 8, 9] (b - a) (fun k s1 s2 s3 s8 s9 wr => ∃ (a b : Nat) (lim : Int) (p q : Bool), s1 = .int .i64 a ∧ s2 = .int .i64 b ∧ s3 = .int .i64 lim ∧ s8 = .bool p ∧ s9 = .bool q ∧ a ≤ b ∧ b ≤ xs.length ∧ b - a ≤ n ∧ 0 ≤ lim ∧ lim ≤ 64 ∧ k = b - a ∧ Hid (St g cap xs w0 wr))
  case atStart => exact ⟨a, b, lim, true, true, rfl, rfl, rfl, rfl, rfl, hab, hb, hn, l0, l1, rfl, hs⟩
  case round =>
    clear hs hab hb hn l0 l1
    obtain ⟨a, b, lim, p, q, rfl, rfl, rfl, rfl, rfl, hab, hb, hn, l0, l1, hk, hs⟩ := hrel
    replace hk := Lib.hid hk
    obtain ⟨L, hL⟩ : ∃ L : Nat, b - a = L := ⟨_, rfl⟩
    have hLi : (b : Int) - (a : Int) = (L : Int) := by omega
    have hbL : b = a + L := by omega
    replace hL := Lib.hid hL
    replace hbL := Lib.hid hbL
    by_cases h12 : L ≤ 12
    · have h12i : (L : Int) ≤ 12 := by omega
      have h12d : decide (L ≤ 12) = true := decide_eq_true h12
      have hc := Lib.hid (insertion_st hs.out a b (by omega) hb (by omega))
      go_wp2_with fail
      refine hc.out.mono ?_
      rintro e w2 ⟨⟨v, rfl⟩, hs2⟩
      replace hs2 := Lib.hid hs2
      go_wp2_with fail
      go_end0
      exact ⟨⟨_, rfl⟩, hs2.out⟩
    · have h12i : ¬ (L : Int) ≤ 12 := by omega
      have h12d : decide (L ≤ 12) = false := decide_eq_false h12
      have hab13 : a + 13 ≤ b := by have := hbL.out; omega
      by_cases hlim : lim = 0
      · subst hlim
        have hc := Lib.hid (heap_st hs.out a b (by omega) hb (by omega))
        go_wp2_with fail
        refine hc.out.mono ?_
        rintro e w2 ⟨⟨v, rfl⟩, hs2⟩
        replace hs2 := Lib.hid hs2
        go_wp2_with fail
        go_end0
        exact ⟨⟨_, rfl⟩, hs2.out⟩
      · have hlimd : (lim == 0) = false := by simp [hlim]
        go_upto_if 35 with fail
        go_cut [3] (fun s3 wx => ∃ lim : Int, s3 = .int .i64 lim ∧ 0 ≤ lim ∧ lim ≤ 64 ∧ Hid (St g cap xs w0 wx))
        case first =>
          rcases (by cases p <;> simp : p = true ∨ p = false) with rfl | rfl
          · go_wp2_with fail
            go_meet
            exact ⟨lim, rfl, l0, l1, hs⟩
          · have hc := Lib.hid (break_st hs.out a b hl hb hab13)
            go_wp2_with fail
            refine hc.out.mono ?_
            rintro e w2 ⟨⟨v, rfl⟩, hs2⟩
            replace hs2 := Lib.hid hs2
            go_wp2_with fail
            go_meet
            exact ⟨lim - 1, by first | rfl | go_num, by omega, by omega, hs2⟩
        clear hlim hlimd l0 l1 hs
        obtain ⟨lim, rfl, l0, l1, hs⟩ := hcut
        have hc := Lib.hid (pivot_st hs.out a b (by omega) hb hab13)
        go_wp2_with fail
        refine hc.out.mono ?_
        rintro e w2 ⟨m, hh, rfl, m1, m2, hh0, hh1, hs2⟩
        clear hs hc
        have hs := Lib.hid hs2
        clear hs2
        go_upto_if 50 with fail
        go_cut [11, 12] (fun s11 s12 wx => ∃ (m : Nat) (hh : Int), s11 = .int .i64 m ∧ s12 = .int .i64 hh ∧ a ≤ m ∧ m < b ∧ Hid (St g cap xs w0 wx))
        case first =>
          by_cases h2 : hh = 2
          · subst h2
            have hc := Lib.hid (reverse_st hs.out a b (by omega) hb (by omega))
            go_wp2_with fail
            refine hc.out.mono ?_
            rintro e w2 ⟨⟨v, rfl⟩, hs2⟩
            replace hs2 := Lib.hid hs2
            go_wp2_with fail
            go_meet
            exact ⟨b - 1 - (m - a), 1, by first | rfl | go_num | (congr 1; omega), rfl, by omega, by omega, hs2⟩
          · have h2d : (hh == 2) = false := by simp [h2]
            go_wp2_with fail
            go_meet
            exact ⟨m, hh, rfl, rfl, m1, m2, hs⟩
        clear m1 m2 hh0 hh1 hs
        obtain ⟨m, hh, rfl, rfl, m1, m2, hs⟩ := hcut
        go_upto_region 15 with fail
        go_cut [68] (fun s68 wx => ∃ v : Bool, s68 = .bool v ∧ Hid (St g cap xs w0 wx))
        case first =>
          rcases (by cases p <;> simp : p = true ∨ p = false) with rfl | rfl
          · rcases (by cases q <;> simp : q = true ∨ q = false) with rfl | rfl
            · go_wp2_with fail
              go_meet
              exact ⟨_, rfl, hs⟩
            · go_wp2_with fail
              go_meet
              exact ⟨_, rfl, hs⟩
          · go_wp2_with fail
            go_meet
            exact ⟨_, rfl, hs⟩
        clear hs
        obtain ⟨v, rfl, hs⟩ := hcut
        go_upto_if 68 with fail
        go_cut [] (fun wx => Hid (St g cap xs w0 wx))
        case first =>
          rcases (by cases v <;> simp : v = true ∨ v = false) with rfl | rfl
          · have hc := Lib.hid (partial_st hs.out a b (by omega) hb (by omega))
            go_wp2_with fail
            refine hc.out.mono ?_
            rintro e w2 ⟨⟨v, rfl⟩, hs2⟩
            replace hs2 := Lib.hid hs2
            rcases (by cases v <;> simp : v = true ∨ v = false) with rfl | rfl
            · go_wp2_with fail
              go_end0
              exact ⟨⟨_, rfl⟩, hs2.out⟩
            · go_wp2_with fail
              go_meet
              exact hs2
          · go_wp2_with fail
            go_meet
            exact hs
        clear hs
        have hs := hcut
        clear hcut
        go_upto_region 17 with fail
        go_cut [87] (fun s87 wx => ∃ v : Bool, s87 = .bool v ∧ Hid (St g cap xs w0 wx))
        case first =>
          by_cases ha0 : 0 < a
          · have had : decide (0 < a) = true := decide_eq_true ha0
            obtain ⟨A, hA⟩ : ∃ A : Nat, a = A + 1 := ⟨a - 1, by omega⟩
            have hAw : IntKind.i64.wrap ((a : Int) - 1) = (A : Int) := by rw [IntKind.wrap_i64]; omega
            have hAx : A < xs.length := by omega
            have hmx : m < xs.length := by omega
            have k1 : (0 : Int) ≤ (A : Int) := by omega
            have k2 : (A : Int) < (xs.length : Nat) := by omega
            have k3 : (0 : Int) ≤ (m : Int) := by omega
            have k4 : (m : Int) < (xs.length : Nat) := by omega
            obtain ⟨x, e1⟩ := hs.out.at hAx
            obtain ⟨y, e2⟩ := hs.out.at hmx
            have hq := lessq x y
            obtain ⟨c, hc⟩ : ∃ c, decide (x < y) = c := ⟨_, rfl⟩
            rw [hc] at hq
            replace hc := Lib.hid hc
            replace hA := Lib.hid hA
            go_quiet ((go_at_call 116; exact Calls.quiet_of_same (hq.out _)))
            have hs2 := Lib.hid (hs.out.drewN nq)
            go_wp2_with fail
            go_meet
            exact ⟨_, rfl, hs2⟩
          · have had : decide (0 < a) = false := decide_eq_false ha0
            have ha0' : a = 0 := by omega
            replace ha0' := Lib.hid ha0'
            go_quiet (fail)
            have hs2 := Lib.hid (hs.out.drewN nq)
            go_wp2_with fail
            go_meet
            exact ⟨_, rfl, hs2⟩
        clear hs v
        obtain ⟨v, rfl, hs⟩ := hcut
        rcases (by cases v <;> simp : v = true ∨ v = false) with rfl | rfl
        · have hc := Lib.hid (partition_eq_st hs.out a b m (by omega) hb (by omega) m2)
          go_wp2_with fail
          refine hc.out.mono ?_
          rintro e w2 ⟨t, rfl, t1, t2, hs2⟩
          replace hs2 := Lib.hid hs2
          go_wp2_with fail
          go_roundg (b - t)
          case measure => have := hk.out; omega
          case rel => exact ⟨t, b, lim, _, _, rfl, rfl, rfl, rfl, rfl, t2, hb, by omega, l0, l1, rfl, hs2⟩
        · have hc := Lib.hid (partition_st hs.out a b m (by omega) hb (by omega) m2)
          go_wp2_with fail
          refine hc.out.mono ?_
          rintro e w2 ⟨t, f, rfl, t1, t2, hs2⟩
          clear hs hc
          have hL8 : (0 : Int) ≤ (L : Int) := by omega
          by_cases hlr : (t : Int) - (a : Int) < (b : Int) - (t : Int)
          · have hrec := Lib.hid (ih.out w0 w2 a t lim hs2 t1 (by omega) (by omega) l0 l1)
            replace hs2 := Lib.hid hs2
            go_wp2_with fail
            refine hrec.out.mono ?_
            rintro e w3 ⟨⟨v, rfl⟩, hs3⟩
            replace hs3 := Lib.hid hs3
            go_wp2_with fail
            go_roundg (b - (t + 1))
            case measure => have := hk.out; omega
            case rel => exact ⟨t + 1, b, lim, _, _, by first | rfl | go_num, rfl, rfl, rfl, rfl, by omega, hb, by omega, l0, l1, rfl, hs3⟩
          · obtain ⟨T, hT⟩ : ∃ T : Nat, t + 1 = T := ⟨_, rfl⟩
            have hTi : (t : Int) + 1 = (T : Int) := by omega
            have hrec := Lib.hid (ih.out w0 w2 T b lim hs2 (by omega) hb (by omega) l0 l1)
            replace hs2 := Lib.hid hs2
            replace hT := Lib.hid hT
            go_wp2_with fail
            refine hrec.out.mono ?_
            rintro e w3 ⟨⟨v, rfl⟩, hs3⟩
            replace hs3 := Lib.hid hs3
            go_wp2_with fail
            go_roundg (t - a)
            case measure => have := hk.out; omega
            case rel => exact ⟨a, t, lim, _, _, rfl, rfl, rfl, rfl, rfl, t1, by omega, by omega, l0, l1, rfl, hs3⟩
theorem pdq_st {g cap : Nat} (n : Nat) (xs : List Int) (hl : xs.length ≤ 256) : ∀ (w0 w : World) (a b : Nat) (lim : Int), St g cap xs w0 w → a ≤ b → b ≤ xs.length → b - a ≤ n → 0 ≤ lim → lim ≤ 64 →
      Calls Tryd.prog 108 #[.slice (some ⟨g, 0, none⟩) xs.length cap, .int .i64 (a : Nat), .int .i64 (b : Nat), .int .i64 lim] w (DoneSt g cap xs w0) := by
  induction n with
  | zero => exact fun w0 w a b lim => pdq_step 0 xs hl (fun _ _ _ _ _ _ _ _ h => absurd h (Nat.not_lt_zero _)) w0 w a b lim
  | succ n ih => exact fun w0 w a b lim => pdq_step (n + 1) xs hl (fun w0 w a b lim h1 h2 h3 h4 => ih w0 w a b lim h1 h2 h3 (by omega)) w0 w a b lim
end Go.Proofs.YtgfmfecalhmplaaDoor
