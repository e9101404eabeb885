/- The model's shifts and pressings. -/
import Derived.Test.YteikiedffnnceaaTs1
import Derived.Deep.LoopGhost
namespace Go.Proofs.Yteikiedffnnceaa
open Go.ChangeShapes Go.WideShapes Go.ChangeAt Go.RowKit Go.Proofs

theorem same_ints (v u : Value) (xs ys : List Int) (S : Nat) (w : World) (hx : Row w S v xs) (hy : Row w S u ys) (hl : xs.length ≤ 1073741824) (hm : ys.length ≤ 1073741824) :
    Calls Try.prog 14 #[v, u] w fun e w' => e = .returned (.bool (sameB xs ys)) ∧ ∃ n, w' = w.drewN n := by
  obtain ⟨a, cap, rfl, ha⟩ := hx
  obtain ⟨c, cap2, rfl, hc⟩ := hy
  by_cases hne : xs.length = ys.length
  · have hb : (((xs.length : Nat) : Int) != ((ys.length : Nat) : Int)) = false := by simp [hne]
    have hne' := Lib.hid hne
    have ha := Lib.hid ha
    have hc := Lib.hid hc
    clear hne
    go_enter Try.func14, Try.ntmps14
    go_wp2
    go_loopw [5] (fun i wr => ∃ k : Nat, k ≤ xs.length ∧ i = .int .i64 k ∧ Hid (∃ n, wr = w.drewN n) ∧ Hid (∀ j, j < k → xs.getD j 0 = ys.getD j 0)) (fun i _ => xs.length - (intOf i).toNat)
    case atStart => exact ⟨0, Nat.zero_le _, rfl, Lib.hid ⟨0, rfl⟩, Lib.hid (fun j hj => by omega)⟩
    case round =>
      obtain ⟨k, hk, rfl, hw, hsame⟩ := hrel
      obtain ⟨n, rfl⟩ := hw.out
      clear hw
      by_cases hlt : k < xs.length
      · obtain ⟨b1, o1, rfl, s1, c1⟩ := ha.out (by omega)
        have hlt2 : k < ys.length := by have := hne'.out; omega
        obtain ⟨b2, o2, rfl, s2, c2⟩ := hc.out (by omega)
        have k1 : (0 : Int) ≤ (k : Int) := by omega
        have k2 : (k : Int) < (xs.length : Nat) := by omega
        have k3 : (k : Int) < (ys.length : Nat) := by omega
        have e1 := c1 k hlt
        have e2 := c2 k hlt2
        obtain ⟨x, hx⟩ : ∃ x, xs.getD k 0 = x := ⟨_, rfl⟩
        obtain ⟨y, hy⟩ : ∃ y, ys.getD k 0 = y := ⟨_, rfl⟩
        rw [hx] at e1
        rw [hy] at e2
        by_cases hxy : x = y
        · have hsame' := Lib.hid (show ∀ j, j < k + 1 → xs.getD j 0 = ys.getD j 0 from fun j hj => by
            by_cases e : j = k
            · subst e; rw [hx, hy]; exact hxy
            · exact hsame.out j (by omega))
          have hd : (x != y) = false := by simp [hxy]
          clear hsame hxy hx hy c1 c2
          go_wp2
          go_quiet (fail)
          go_wp2
          go_roundw
          case rel => exact ⟨k + 1, by omega, by go_num, Lib.hid ⟨_, by first | rfl | exact drewN_add _ _ _⟩, hsame'⟩
          case measure => simp [intOf]; omega
        · have hf := Lib.hid (show false = sameB xs ys from (decide_eq_false (fun e => hxy (by rw [← hx, ← hy, e]))).symm)
          have hd : (x != y) = true := by simp [hxy]
          clear hsame hxy hx hy c1 c2
          go_wp2
          go_quiet (fail)
          go_wp2
          go_ret
          exact ⟨ret_bool hf.out, _, by first | rfl | exact drewN_add _ _ _⟩
      · have hf := Lib.hid (show true = sameB xs ys from (same_step hne'.out (fun j hj => hsame.out j (by omega))).symm)
        go_wp2
        go_ret
        exact ⟨ret_bool hf.out, _, rfl⟩
  · have hb : (((xs.length : Nat) : Int) != ((ys.length : Nat) : Int)) = true := by simp; omega
    have hf := Lib.hid (show false = sameB xs ys from (decide_eq_false (fun e => hne (by rw [e]))).symm)
    clear ha hc hne
    go_enter Try.func14, Try.ntmps14
    go_wp2
    go_ret
    exact ⟨ret_bool hf.out, 0, rfl⟩


/-- what a round leaves: a list of its own, or the list that came in. -/
def RoundPost (lv : Value) (xs L : List Int) (w : World) (e : Ending) (w' : World) : Prop := ∃ v, e = .returned v ∧ (OwnL w' w.heap.size v L ∨ (v = lv ∧ L = xs)) ∧ Row w' w'.heap.size v L ∧ Below w.heap.size w w'
theorem rd_fam_t {n : Int} {φs : List (Int → Int)} {xs : List Int} (h : TurnsT n φs) (hf : famB n xs = true) : famB n (rdL φs xs) = true := rd_fam (fun φ hφ => (h φ hφ).1) hf
theorem shTo_turns (n : Int) {i k : Nat} (hk : k ≤ i) (hi : (i : Int) < n) : TurnsT n (shTo i k) := by
  intro φ hφ
  obtain ⟨a, b, h1, h2, h3, rfl⟩ := mem_shTo hφ hk
  have hi : ptB n (a : Nat) = true := ptB_mk (by omega) (by omega)
  have hk : ptB n (b : Nat) = true := ptB_mk (by omega) (by omega)
  exact ⟨mv_set hi hk, fun x hx => (mv_facts hx hi hk).2.1 (by omega)⟩
theorem prTo_turns (n : Int) {p : Nat} (hp : (p : Int) ≤ n) : TurnsT n (prTo p) := by
  intro φ hφ
  obtain ⟨q, hq, rfl⟩ := List.mem_map.1 hφ
  have h1 := mem_upI.1 hq
  have hk : ptB n q = true := ptB_mk (by omega) (by omega)
  exact ⟨ls_set hk, fun x hx => (ls_facts hx hk).1⟩
set_option maxRecDepth 100000 in
set_option maxHeartbeats 2000000 in
theorem l4round_at (n : Int) (lv : Value) (xs : List Int) (S : Nat) (w : World) (hx : Row w S lv xs) (hS : S ≤ w.heap.size) (hf : famB n xs = true) :
    Calls Try.prog 15 #[.int .i64 n, lv] w (RoundPost lv xs (rdL (shL n) xs) w) := by
  obtain ⟨n1, n2, _⟩ := famB_all hf
  obtain ⟨N, hN⟩ : ∃ N : Nat, n = (N : Int) := ⟨n.toNat, by omega⟩
  subst hN
  have hL := Lib.hid (show shTo N 0 = shL (N : Int) by unfold shL; simp)
  obtain ⟨a, cap, rfl, _⟩ := id hx
  have hR := Lib.hid (hx.mono hS)
  replace hf := Lib.hid hf
  clear hx
  go_enter Try.func15, Try.ntmps15
  go_wp2_with fail
  go_loopw [1, 5] (fun v q wr => ∃ i : Nat, 1 ≤ i ∧ i ≤ N ∧ q = .int .i64 i ∧ Hid (OwnL wr w.heap.size v (rdL (shTo i 0) xs) ∨ (v = .slice a xs.length cap ∧ rdL (shTo i 0) xs = xs)) ∧ Hid (Row wr wr.heap.size v (rdL (shTo i 0) xs)) ∧ Hid (Below w.heap.size w wr)) (fun _ q _ => N - (intOf q).toNat)
  case atStart => exact ⟨1, by omega, by omega, rfl, Lib.hid (.inr ⟨rfl, rfl⟩), hR, Lib.hid (Below.refl _ _)⟩
  case round =>
    obtain ⟨i, hi1, hi, rfl, hO, hr, hb⟩ := hrel
    by_cases hlt : i < N
    · have i1 : (i : Int) < (N : Int) := by omega
      have hsi := Lib.hid (shTo_i i)
      have hlo : (1 : Int) ≤ (i : Int) := by omega
      go_wp2_with fail
      go_loopw [1, 6] (fun v q wq => ∃ k : Nat, k ≤ i ∧ q = .int .i64 k ∧ Hid (OwnL wq w.heap.size v (rdL (shTo i k) xs) ∨ (v = .slice a xs.length cap ∧ rdL (shTo i k) xs = xs)) ∧ Hid (Row wq wq.heap.size v (rdL (shTo i k) xs)) ∧ Hid (Below w.heap.size w wq)) (fun _ q _ => i - (intOf q).toNat)
      case atStart => exact ⟨0, by omega, rfl, hO, hr, hb⟩
      case round =>
        obtain ⟨k, hk, rfl, hO, hr, hb⟩ := hrel
        have hzz := hb.out.size
        by_cases hlt2 : k < i
        · have k1 : (k : Int) < (i : Int) := by omega
          have k0 : (0 : Int) ≤ (k : Int) := by omega
          have hfy := rd_fam_t (shTo_turns (N : Int) hk i1) hf.out
          have hs : rdL (shTo i (k + 1)) xs = tnL (fun x => movedI x i k) (rdL (shTo i k) xs) := by rw [shTo_k, rd_snoc]
          obtain ⟨ys, hys⟩ : ∃ ys, rdL (shTo i k) xs = ys := ⟨_, rfl⟩
          rw [hys] at hr hfy hs
          obtain ⟨va, vc, rfl, _⟩ := id hr.out
          have hcl := Lib.hid (l4shift_at (N : Int) (i : Nat) (k : Nat) _ ys _ wr hr.out (Nat.le_refl _) hfy (ptB_mk (by omega) i1) (ptB_mk (by omega) (by omega)))
          rw [← hs] at hcl
          replace hs := Lib.hid hs
          replace hys := Lib.hid hys
          replace hfy := Lib.hid hfy
          clear hO
          go_wp2_with fail
          refine hcl.out.mono ?_
          rintro e w2 ⟨v2, rfl, hO2, hb2⟩
          have hr2 := Lib.hid hO2.own.row
          replace hO2 := Lib.hid (hO2.mono hzz)
          replace hb2 := Lib.hid (hb.out.trans (hb2.mono hzz))
          go_wp2_with fail
          go_roundw
          case rel => exact ⟨k + 1, by omega, by go_num, Lib.hid (.inl hO2.out), hr2, hb2⟩
          case measure => simp [intOf]; omega
        · obtain rfl : k = i := by omega
          rw [← hsi.out] at hO hr
          go_wp2_with fail
          go_roundw
          case rel => exact ⟨k + 1, by omega, by omega, by go_num, hO, hr, hb⟩
          case measure => simp [intOf]; omega
    · obtain rfl : i = N := by omega
      rw [hL.out] at hO hr
      go_wp2_with fail
      go_ret
      exact ⟨_, rfl, hO.out, hr.out, hb.out⟩
set_option maxRecDepth 100000 in
set_option maxHeartbeats 2000000 in
theorem l4down_at (n : Int) (lv : Value) (xs : List Int) (S : Nat) (w : World) (hx : Row w S lv xs) (hS : S ≤ w.heap.size) (hf : famB n xs = true) :
    Calls Try.prog 39 #[.int .i64 n, lv] w (RoundPost lv xs (rdL (prL n) xs) w) := by
  obtain ⟨n1, n2, _⟩ := famB_all hf
  obtain ⟨N, hN⟩ : ∃ N : Nat, n = (N : Int) := ⟨n.toNat, by omega⟩
  subst hN
  have hL := Lib.hid (show prTo N = prL (N : Int) by unfold prL; simp)
  obtain ⟨a, cap, rfl, _⟩ := id hx
  have hR := Lib.hid (hx.mono hS)
  replace hf := Lib.hid hf
  clear hx
  go_enter Try.func39, Try.ntmps39
  go_wp2_with fail
  go_loopw [1, 5] (fun v q wr => ∃ i : Nat, i ≤ N ∧ q = .int .i64 i ∧ Hid (OwnL wr w.heap.size v (rdL (prTo i) xs) ∨ (v = .slice a xs.length cap ∧ rdL (prTo i) xs = xs)) ∧ Hid (Row wr wr.heap.size v (rdL (prTo i) xs)) ∧ Hid (Below w.heap.size w wr)) (fun _ q _ => N - (intOf q).toNat)
  case atStart => exact ⟨0, by omega, rfl, Lib.hid (.inr ⟨rfl, rfl⟩), hR, Lib.hid (Below.refl _ _)⟩
  case round =>
    obtain ⟨i, hi, rfl, hO, hr, hb⟩ := hrel
    have hzz := hb.out.size
    by_cases hlt : i < N
    · have i1 : (i : Int) < (N : Int) := by omega
      have i0 : (0 : Int) ≤ (i : Int) := by omega
      have hfy := rd_fam_t (prTo_turns (N : Int) (p := i) (by omega)) hf.out
      have hs : rdL (prTo (i + 1)) xs = tnL (fun x => lessI x i) (rdL (prTo i) xs) := by rw [prTo_succ, rd_snoc]
      obtain ⟨ys, hys⟩ : ∃ ys, rdL (prTo i) xs = ys := ⟨_, rfl⟩
      rw [hys] at hr hfy hs
      obtain ⟨va, vc, rfl, _⟩ := id hr.out
      have hcl := Lib.hid (l4press_at (N : Int) (i : Nat) _ ys _ wr hr.out (Nat.le_refl _) hfy (ptB_mk (by omega) i1))
      rw [← hs] at hcl
      replace hs := Lib.hid hs
      replace hys := Lib.hid hys
      replace hfy := Lib.hid hfy
      clear hO
      go_wp2_with fail
      refine hcl.out.mono ?_
      rintro e w2 ⟨v2, rfl, hO2, hb2⟩
      have hr2 := Lib.hid hO2.own.row
      replace hO2 := Lib.hid (hO2.mono hzz)
      replace hb2 := Lib.hid (hb.out.trans (hb2.mono hzz))
      go_wp2_with fail
      go_roundw
      case rel => exact ⟨i + 1, by omega, by go_num, Lib.hid (.inl hO2.out), hr2, hb2⟩
      case measure => simp [intOf]; omega
    · obtain rfl : i = N := by omega
      rw [hL.out] at hO hr
      go_wp2_with fail
      go_ret
      exact ⟨_, rfl, hO.out, hr.out, hb.out⟩
end Go.Proofs.Yteikiedffnnceaa
