/- Texts merged: XTs1 XTs2 XTs3. -/
import Derived.Test.YthljimmhgpbmbaaAllTn
import Derived.Test.YthljimmhgpbmbaaAllSp
import Derived.Test.YthljimmhgpbmbaaLawsC
import Derived.BigQuiet
import Derived.Deep.LoopGhost
namespace Go.Proofs.Ythljimmhgpbmbaa
section
/- The model's shifts and pressings: one of them. -/
open Go.ChangeShapes Go.WideShapes Go.ChangeAt Go.RowKit Go.Proofs

theorem tn_all {n : Int} {φ : Int → Int} (h : SetT n φ) {xs : List Int} (ys : List Int) (hall : allB n xs = true) : allB n (xs.map (rpI φ ys)) = true := List.all_eq_true.2 fun z hz => by
  obtain ⟨y, hy, rfl⟩ := List.mem_map.1 hz
  exact rp_set h (allB_yes hall y hy)
theorem less_i64 {s p : Int} (h1 : 0 ≤ s) (h2 : s < 256) (h3 : 0 ≤ p) (h4 : p ≤ 7) : bits .andNot .i64 s (wrap64 (2 ^ p.toNat)) = lessI s p :=
  all256_8 (P := fun s p => bits .andNot .i64 s (wrap64 (2 ^ p.toNat)) = lessI s p) (by decide +kernel) h1 h2 h3 h4
end
section
/- The model's shifts and pressings. -/
open Go.ChangeShapes Go.WideShapes Go.ChangeAt Go.RowKit Go.Proofs

theorem same_ints (v u : Value) (xs ys : List Int) (S : Nat) (w : World) (hx : Row w S v xs) (hy : Row w S u ys) (hl : xs.length ≤ 1073741824) (hm : ys.length ≤ 1073741824) :
    Calls Try.prog 56 #[v, u] w fun e w' => e = .returned (.bool (sameB xs ys)) ∧ ∃ n, w' = w.drewN n := by
  obtain ⟨a, cap, rfl, ha⟩ := hx
  obtain ⟨c, cap2, rfl, hc⟩ := hy
  by_cases hne : xs.length = ys.length
  · have hb : (((xs.length : Nat) : Int) != ((ys.length : Nat) : Int)) = false := by simp [hne]
    have hne' := Lib.hid hne
    have ha := Lib.hid ha
    have hc := Lib.hid hc
    clear hne
    go_enter Try.func56, Try.ntmps56
    go_wp2
    go_loopw [5] (fun i wr => ∃ k : Nat, k ≤ xs.length ∧ i = .int .i64 k ∧ Hid (∃ n, wr = w.drewN n) ∧ Hid (∀ j, j < k → xs.getD j 0 = ys.getD j 0)) (fun i _ => xs.length - (intOf i).toNat)
    case atStart => exact ⟨0, Nat.zero_le _, rfl, Lib.hid ⟨0, rfl⟩, Lib.hid (fun j hj => by omega)⟩
    case round =>
      obtain ⟨k, hk, rfl, hw, hsame⟩ := hrel
      obtain ⟨n, rfl⟩ := hw.out
      clear hw
      by_cases hlt : k < xs.length
      · obtain ⟨b1, o1, rfl, s1, c1⟩ := ha.out (by omega)
        have hlt2 : k < ys.length := by have := hne'.out; omega
        obtain ⟨b2, o2, rfl, s2, c2⟩ := hc.out (by omega)
        have k1 : (0 : Int) ≤ (k : Int) := by omega
        have k2 : (k : Int) < (xs.length : Nat) := by omega
        have k3 : (k : Int) < (ys.length : Nat) := by omega
        have e1 := c1 k hlt
        have e2 := c2 k hlt2
        obtain ⟨x, hx⟩ : ∃ x, xs.getD k 0 = x := ⟨_, rfl⟩
        obtain ⟨y, hy⟩ : ∃ y, ys.getD k 0 = y := ⟨_, rfl⟩
        rw [hx] at e1
        rw [hy] at e2
        by_cases hxy : x = y
        · have hsame' := Lib.hid (show ∀ j, j < k + 1 → xs.getD j 0 = ys.getD j 0 from fun j hj => by
            by_cases e : j = k
            · subst e; rw [hx, hy]; exact hxy
            · exact hsame.out j (by omega))
          have hd : (x != y) = false := by simp [hxy]
          clear hsame hxy hx hy c1 c2
          go_wp2
          go_quiet (fail)
          go_wp2
          go_roundw
          case rel => exact ⟨k + 1, by omega, by go_num, Lib.hid ⟨_, by first | rfl | exact drewN_add _ _ _⟩, hsame'⟩
          case measure => simp [intOf]; omega
        · have hf := Lib.hid (show false = sameB xs ys from (decide_eq_false (fun e => hxy (by rw [← hx, ← hy, e]))).symm)
          have hd : (x != y) = true := by simp [hxy]
          clear hsame hxy hx hy c1 c2
          go_wp2
          go_quiet (fail)
          go_wp2
          go_ret
          exact ⟨ret_bool hf.out, _, by first | rfl | exact drewN_add _ _ _⟩
      · have hf := Lib.hid (show true = sameB xs ys from (same_step hne'.out (fun j hj => hsame.out j (by omega))).symm)
        go_wp2
        go_ret
        exact ⟨ret_bool hf.out, _, rfl⟩
  · have hb : (((xs.length : Nat) : Int) != ((ys.length : Nat) : Int)) = true := by simp; omega
    have hf := Lib.hid (show false = sameB xs ys from (decide_eq_false (fun e => hne (by rw [e]))).symm)
    clear ha hc hne
    go_enter Try.func56, Try.ntmps56
    go_wp2
    go_ret
    exact ⟨ret_bool hf.out, 0, rfl⟩


/-- what a round leaves: a list of its own, or the list that came in. -/
def RoundPost (lv : Value) (xs L : List Int) (w : World) (e : Ending) (w' : World) : Prop := ∃ v, e = .returned v ∧ (OwnL w' w.heap.size v L ∨ (v = lv ∧ L = xs)) ∧ Row w' w'.heap.size v L ∧ Below w.heap.size w w'
theorem rd_fam_t {n : Int} {φs : List (Int → Int)} {xs : List Int} (h : TurnsT n φs) (hf : famB n xs = true) : famB n (rdL φs xs) = true := rd_fam (fun φ hφ => (h φ hφ).1) hf
theorem shTo_turns (n : Int) {i k : Nat} (hk : k ≤ i) (hi : (i : Int) < n) : TurnsT n (shTo i k) := by
  intro φ hφ
  obtain ⟨a, b, h1, h2, h3, rfl⟩ := mem_shTo hφ hk
  have hi : ptB n (a : Nat) = true := ptB_mk (by omega) (by omega)
  have hk : ptB n (b : Nat) = true := ptB_mk (by omega) (by omega)
  exact ⟨mv_set hi hk, fun x hx => (mv_facts hx hi hk).2.1 (by omega)⟩
theorem prTo_turns (n : Int) {p : Nat} (hp : (p : Int) ≤ n) : TurnsT n (prTo p) := by
  intro φ hφ
  obtain ⟨q, hq, rfl⟩ := List.mem_map.1 hφ
  have h1 := mem_upI.1 hq
  have hk : ptB n q = true := ptB_mk (by omega) (by omega)
  exact ⟨ls_set hk, fun x hx => (ls_facts hx hk).1⟩
end
section
/- The model's ShiftOf, ShiftPress, ShiftedIn, PressedIn, ShiftAll, PressAll. -/
open Go.ChangeShapes Go.WideShapes Go.ChangeAt Go.RowKit Go.Proofs

theorem sp_pt {n p : Int} {b : Bool} (h : ptB n p = b) (W : World) : Calls Try.prog 101 #[.int .i64 p, .int .i64 0, .int .i64 (n - 1)] W fun e w' => e = .returned (.bool b) ∧ W = w' :=
  (l6in p 0 (n - 1) W).mono fun _ _ h2 => ⟨by rw [h2.1, inB_pt, h], h2.2⟩
end
end Go.Proofs.Ythljimmhgpbmbaa
