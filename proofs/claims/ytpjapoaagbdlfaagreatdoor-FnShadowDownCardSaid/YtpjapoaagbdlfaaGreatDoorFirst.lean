/- First families have the least shadows, which are first ones: mathematics and drawing. -/
import Derived.Test.YtpjapoaagbdlfaaGreatDoorAllShm
import Derived.Test.YtpjapoaagbdlfaaGreatDoorSh2
import Derived.Test.YtpjapoaagbdlfaaGreatDoorLeast
import Derived.Test.YtpjapoaagbdlfaaGreatDoorAllD
import Derived.Lib.MinMax
namespace Go.Proofs.YtpjapoaagbdlfaaGreatDoor
open Go.ChangeShapes Go.WideShapes Go.ChangeAt Go.RowKit Go.Proofs

/-- the first m sets of size k, told by marks. -/
def fL (n k : Nat) (m : Nat) : List Int := (mkL (fun j => cntI (j : Nat) == (k : Nat)) (2 ^ n)).take m
theorem fL_eq (n k m : Nat) : fstL n k m = fL n k m := by unfold fstL fL; rw [levL_mk]; simp
def kkB (n k m : Nat) : Bool := leaB m k && decide (leaV m k = ((sortL (dnL (fL n k m))).length : Nat)) && decide (((sortL (dnL (fL n k m))).length : Nat) ≤ chI n (k - 1 : Nat)) && decide (fL n (k - 1) (sortL (dnL (fL n k m))).length = sortL (dnL (fL n k m)))
set_option maxRecDepth 100000 in
theorem kk_dec : ∀ n : Fin 7, ∀ k : Fin 7, ∀ m : Fin 16, 1 ≤ n.val → 1 ≤ k.val → k.val ≤ n.val → ((m.val : Nat) : Int) ≤ chI n.val k.val → kkB n.val k.val m.val = true := by decide +kernel
theorem fst_facts {n k m : Int} (h : fstB n k m = true) (n6 : n ≤ 6) (k1 : 1 ≤ k) (m15 : m ≤ 15) :
    leaB m k = true ∧ leaV m k = ((sortL (dnL (fstL n k m))).length : Nat) ∧ fstB n (k - 1) ((sortL (dnL (fstL n k m))).length : Nat) = true ∧ fstL n (k - 1) ((sortL (dnL (fstL n k m))).length : Nat) = sortL (dnL (fstL n k m)) := by
  unfold fstB at h
  rw [Bool.and_eq_true] at h
  obtain ⟨h1, h2⟩ := h
  obtain ⟨n1, _, _, kn⟩ := szB_yes h1
  obtain ⟨m0, mc⟩ := cntB_yes h2
  obtain ⟨N, rfl⟩ : ∃ N : Nat, n = N := ⟨n.toNat, by omega⟩
  obtain ⟨K, rfl⟩ : ∃ K : Nat, k = K := ⟨k.toNat, by omega⟩
  obtain ⟨M, rfl⟩ : ∃ M : Nat, m = M := ⟨m.toNat, by omega⟩
  have hd := kk_dec ⟨N, by omega⟩ ⟨K, by omega⟩ ⟨M, by omega⟩ (by show 1 ≤ N; omega) (by show 1 ≤ K; omega) (by show K ≤ N; omega) mc
  unfold kkB at hd
  simp only [Bool.and_eq_true, decide_eq_true_eq] at hd
  obtain ⟨⟨⟨d1, d2⟩, d3⟩, d4⟩ := hd
  have hk : (K : Int) - 1 = ((K - 1 : Nat) : Int) := by omega
  rw [fL_eq, hk, fL_eq]
  refine ⟨d1, d2, ?_, d4⟩
  unfold fstB
  rw [Bool.and_eq_true]
  exact ⟨szB_mk ⟨n1, by omega, by omega, by omega⟩, decide_eq_true ⟨by omega, d3⟩⟩
theorem fst_fam {n k m : Int} (h : fstB n k m = true) : famB n (fstL n k m) = true := by
  unfold fstB at h
  rw [Bool.and_eq_true] at h
  obtain ⟨n1, n8, _, _⟩ := szB_yes h.1
  exact famB_mk (decide_eq_true ⟨n1, n8⟩) (fun z hz => fstL_mem n1 n8 hz) (fstL_asc n k m)
/-- what the drawing of a first family leaves. -/
def TriDraw (w : World) (e : Ending) (w' : World) : Prop := ∃ n k m, e = .returned (.tuple #[.int .i64 n, .int .i64 k, .int .i64 m]) ∧ drawnPts n ∧ m ≤ 15 ∧ -1 ≤ k ∧ k ≤ 9 ∧ Below w.heap.size w w'
set_option maxHeartbeats 2000000 in
theorem same_ints (v u : Value) (xs ys : List Int) (S : Nat) (w : World) (hx : Row w S v xs) (hy : Row w S u ys) (hl : xs.length ≤ 1073741824) (hm : ys.length ≤ 1073741824) :
    Calls Tryz.prog 13 #[v, u] w fun e w' => e = .returned (.bool (sameB xs ys)) ∧ ∃ n, w' = w.drewN n := by
  obtain ⟨a, cap, rfl, ha⟩ := hx
  obtain ⟨c, cap2, rfl, hc⟩ := hy
  by_cases hne : xs.length = ys.length
  · have hb : (((xs.length : Nat) : Int) != ((ys.length : Nat) : Int)) = false := by simp [hne]
    have hne' := Lib.hid hne
    have ha := Lib.hid ha
    have hc := Lib.hid hc
    clear hne
    go_enter Tryz.func13, Tryz.ntmps13
    go_wp2
    go_loopw [5] (fun i wr => ∃ k : Nat, k ≤ xs.length ∧ i = .int .i64 k ∧ Hid (∃ n, wr = w.drewN n) ∧ Hid (∀ j, j < k → xs.getD j 0 = ys.getD j 0)) (fun i _ => xs.length - (intOf i).toNat)
    case atStart => exact ⟨0, Nat.zero_le _, rfl, Lib.hid ⟨0, rfl⟩, Lib.hid (fun j hj => by omega)⟩
    case round =>
      obtain ⟨k, hk, rfl, hw, hsame⟩ := hrel
      obtain ⟨n, rfl⟩ := hw.out
      clear hw
      by_cases hlt : k < xs.length
      · obtain ⟨b1, o1, rfl, s1, c1⟩ := ha.out (by omega)
        have hlt2 : k < ys.length := by have := hne'.out; omega
        obtain ⟨b2, o2, rfl, s2, c2⟩ := hc.out (by omega)
        have k1 : (0 : Int) ≤ (k : Int) := by omega
        have k2 : (k : Int) < (xs.length : Nat) := by omega
        have k3 : (k : Int) < (ys.length : Nat) := by omega
        have e1 := c1 k hlt
        have e2 := c2 k hlt2
        obtain ⟨x, hx⟩ : ∃ x, xs.getD k 0 = x := ⟨_, rfl⟩
        obtain ⟨y, hy⟩ : ∃ y, ys.getD k 0 = y := ⟨_, rfl⟩
        rw [hx] at e1
        rw [hy] at e2
        by_cases hxy : x = y
        · have hsame' := Lib.hid (show ∀ j, j < k + 1 → xs.getD j 0 = ys.getD j 0 from fun j hj => by
            by_cases e : j = k
            · subst e; rw [hx, hy]; exact hxy
            · exact hsame.out j (by omega))
          have hd : (x != y) = false := by simp [hxy]
          clear hsame hxy hx hy c1 c2
          go_wp2
          go_quiet (fail)
          go_wp2
          go_roundw
          case rel => exact ⟨k + 1, by omega, by go_num, Lib.hid ⟨_, by first | rfl | exact drewN_add _ _ _⟩, hsame'⟩
          case measure => simp [intOf]; omega
        · have hf := Lib.hid (show false = sameB xs ys from (decide_eq_false (fun e => hxy (by rw [← hx, ← hy, e]))).symm)
          have hd : (x != y) = true := by simp [hxy]
          clear hsame hxy hx hy c1 c2
          go_wp2
          go_quiet (fail)
          go_wp2
          go_ret
          exact ⟨ret_bool hf.out, _, by first | rfl | exact drewN_add _ _ _⟩
      · have hf := Lib.hid (show true = sameB xs ys from (same_step hne'.out (fun j hj => hsame.out j (by omega))).symm)
        go_wp2
        go_ret
        exact ⟨ret_bool hf.out, _, rfl⟩
  · have hb : (((xs.length : Nat) : Int) != ((ys.length : Nat) : Int)) = true := by simp; omega
    have hf := Lib.hid (show false = sameB xs ys from (decide_eq_false (fun e => hne (by rw [e]))).symm)
    clear ha hc hne
    go_enter Tryz.func13, Tryz.ntmps13
    go_wp2
    go_ret
    exact ⟨ret_bool hf.out, 0, rfl⟩


theorem same_self1 (L : List Int) : sameB L L = true := decide_eq_true rfl
end Go.Proofs.YtpjapoaagbdlfaaGreatDoor
