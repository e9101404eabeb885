/- The program's partners: slices.Repeat, the stack of points that wait. -/
import Derived.Test.YtoglcinfnhhkhabDoorCp1
import Derived.Laws.CopyOwn
namespace Go.Proofs.YtoglcinfnhhkhabDoor
open Go.ChangeShapes Go.WideShapes Go.ChangeAt Go.RowKit Go.Proofs

theorem mul64_1 : ∀ N : Nat, 1 ≤ N → N ≤ 8 → ∀ w : World, Calls Tryd.prog 47 #[.int .u64 1, .int .u64 (N : Nat)] w fun e w' => e = .returned (.tuple #[.int .u64 0, .int .u64 (N : Nat)]) ∧ w = w' := by
  intro N h1 h8 w
  obtain rfl | rfl | rfl | rfl | rfl | rfl | rfl | rfl : N = 1 ∨ N = 2 ∨ N = 3 ∨ N = 4 ∨ N = 5 ∨ N = 6 ∨ N = 7 ∨ N = 8 := by omega
  all_goals
    go_enter Tryd.func47, Tryd.ntmps47
    go_wp2_with fail
    go_ret2
    refine ⟨?_, rfl⟩
    kernel_rfl
theorem mul_1 (N : Nat) (h1 : 1 ≤ N) (h8 : N ≤ 8) (w : World) : Calls Tryd.prog 42 #[.int .u64 1, .int .u64 (N : Nat)] w fun e w' => e = .returned (.tuple #[.int .u64 0, .int .u64 (N : Nat)]) ∧ w = w' := by
  have h := Lib.hid (mul64_1 N h1 h8)
  go_enter Tryd.func42, Tryd.ntmps42
  go_wp2_with (first | (go_at_call 47; refine (h.out _).mono ?_; rintro e w' ⟨rfl, rfl⟩))
  go_ret2
  exact ⟨rfl, rfl⟩
theorem ownN_heap {w : World} {B g N : Nat} {xs : List Int} (hg : w.heap[g]? = some (.cells (xs.map (Value.int .i64)).toArray 3 (0, 0))) (hl : xs.length = N) (hN : N ≤ 8) (hB : B ≤ g) : OwnN w B g N N xs :=
  ⟨by simp [hl], .inr ⟨g, N, _, rfl, hB, hg, Nat.le_refl _, by unfold maxLen; omega, by simp [hl], List.take_of_length_le (by simp [hl])⟩⟩
/-- N places, the first k of them filled. -/
def repL (N k : Nat) : List Value := List.replicate k (.int .i64 (-1)) ++ List.replicate (N - k) (.int .i64 0)
theorem repL_len {N k : Nat} (_h : k ≤ N) : (repL N k).length = N := by unfold repL; simp; omega
theorem repL_at {N k j : Nat} (h : j < k) : (repL N k)[j]? = some (.int .i64 (-1)) := by
  unfold repL
  rw [List.getElem?_append_left (by simpa using h), List.getElem?_replicate, if_pos h]
theorem repL_step {N k c : Nat} (_h : k + c ≤ N) : splice (repL N k) k (List.replicate c (.int .i64 (-1))) = repL N (k + c) := by
  unfold splice repL
  rw [List.take_left' (by simp), List.length_replicate, ← List.drop_drop, List.drop_left' (by simp), List.drop_replicate, ← List.append_assoc, List.replicate_append_replicate]
  congr 2
  omega
theorem rep_cells {w : World} {g N k : Nat} (hg : w.heap[g]? = some (.cells (repL N k).toArray 3 (0, 0))) {j : Nat} (h : j < k) : w.cell? ⟨g, j, none⟩ = some (.int .i64 (-1)) := by
  rw [cell_of_row w g j _ _ (0, 0) hg]
  simpa using repL_at h
def RepPost (N : Nat) (w : World) (e : Ending) (w' : World) : Prop := ∃ g, e = .returned (.slice (some ⟨g, 0, none⟩) N N) ∧ w.heap.size ≤ g ∧ OwnN w' w.heap.size g N N (List.replicate N (-1)) ∧ Below w.heap.size w w'
theorem add_at (g j k : Nat) : (⟨g, k, none⟩ : Addr).add j = ⟨g, k + j, none⟩ := by unfold Addr.add; split <;> simp_all
theorem made_rep (N : Nat) : (madeCells #[.int .i64 0] N) = (repL N 0).toArray := by
  apply Array.toList_inj.1
  rw [toList_madeCells_one]
  simp [repL]
set_option maxHeartbeats 4000000 in
set_option maxRecDepth 20000 in
theorem repeat_at (N b : Nat) (w : World) (h1 : 1 ≤ N) (h8 : N ≤ 8) (hb : b < w.heap.size) (hc : w.cell? ⟨b, 0, none⟩ = some (.int .i64 (-1))) :
    Calls Tryd.prog 35 #[.slice (some ⟨b, 0, none⟩) 1 1, .int .i64 (N : Nat)] w (RepPost N w) := by
  have hmul := Lib.hid (mul_1 N h1 h8)
  have hmk := fun W => run_make_row' (P := Tryd.prog) 28 3 (.int .i64 0) 8 Tryd.underlying28 Tryd.intInfo rfl .i64 .i64 N (by omega) (by omega) W
  have hsz : (Tryd.prog.info? 3).map (·.size) = some 1 := by
    obtain ⟨i0, hi, hz0, hz1, hz2⟩ := info_parts Tryd.intInfo
    rw [hi]; simp [hz1]
  have hw0 : Below w.heap.size w (w.alloc (.cells (madeCells #[.int .i64 0] N) 3)) := (Below.refl _ w).alloc (Nat.le_refl _) _
  have hg0 := Lib.hid (show (w.alloc (.cells (madeCells #[.int .i64 0] N) 3)).heap[w.heap.size]? = some (.cells (repL N 0).toArray 3 (0, 0)) by rw [heap_alloc_new, made_rep])
  have hsrc := Lib.hid (show ∀ j v, ([.int .i64 (-1)] : List Value)[j]? = some v → (w.alloc (.cells (madeCells #[.int .i64 0] N) 3)).cell? ((⟨b, 0, none⟩ : Addr).add j) = some v from fun j v hv => by
    cases j with
    | zero => simp at hv; subst hv; rw [add_at]; exact (hw0.cell (p := ⟨b, 0 + 0, none⟩) hb).trans hc
    | succ j => simp at hv)
  have hN := Lib.hid (show 1 = Nat.min 1 N from (Nat.min_eq_left h1).symm)
  replace hw0 := Lib.hid hw0
  replace hsz := Lib.hid hsz
  have h10 : (1 : Int) ≤ (N : Nat) := by omega
  have h80 : (N : Int) ≤ 8 := by omega
  go_enter Tryd.func35, Tryd.ntmps35
  go_wp2_with (first | (go_at_call 42; refine (hmul.out _).mono ?_; rintro e w' ⟨rfl, rfl⟩) | (refine wpList_copy_splice rfl _ _ 28 28 rfl 3 Tryd.underlying28 hsz.out _ _ _ _ _ _ rfl rfl w.heap.size 0 (repL N 0) 3 hg0.out [.int .i64 (-1)] hN.out (fun _ => ⟨rfl, _, rfl, hsrc.out⟩) (by rw [repL_len (by omega)]; simpa using h1) (by simp [Value.oneCell']) w.heap.size w hw0.out (Nat.le_refl _) ?_; intro w2 hg2 hb2))
  go_loopw [8] (fun s wr => ∃ k : Nat, 1 ≤ k ∧ k ≤ N ∧ s = .int .i64 k ∧ Hid (wr.heap[w.heap.size]? = some (.cells (repL N k).toArray 3 (0, 0))) ∧ Hid (Below w.heap.size w wr)) (fun s _ => N - (intOf s).toNat)
  case atStart => 
    have e := repL_step (N := N) (k := 0) (c := 1) (by omega)
    have hg2 := hg2.out
    rw [show ([.int .i64 (-1)] : List Value) = List.replicate 1 (.int .i64 (-1)) from rfl, e] at hg2
    exact ⟨1, by omega, by omega, rfl, Lib.hid hg2, Lib.hid hb2⟩
  case round =>
    obtain ⟨k, hk1, hk, rfl, hg, hbel⟩ := hrel
    by_cases hlt : k < N
    · have k1 : (0 : Int) ≤ (k : Int) := by omega
      have k2 : (k : Int) < (N : Nat) := by omega
      have k3 : (k : Int) ≤ (N : Nat) := by omega
      have hkN : ¬ N = k := by omega
      obtain ⟨c, hcc⟩ : ∃ c, min k (N - k) = c := ⟨_, rfl⟩
      have hc1 : 1 ≤ c ∧ k + c ≤ N := by omega
      have hn := Lib.hid (show (List.replicate c (Value.int .i64 (-1))).length = Nat.min k (N - k) by rw [List.length_replicate]; exact hcc.symm)
      have hst := Lib.hid (repL_step (N := N) (k := k) (c := c) hc1.2)
      have hgd := Lib.hid (show wr.drew.heap[w.heap.size]? = some (.cells (repL N k).toArray 3 (0, 0)) from hg.out)
      have hbd := Lib.hid (hbel.out.drew)
      have hcs := Lib.hid (show ∀ j v, (List.replicate c (Value.int .i64 (-1)))[j]? = some v → wr.drew.cell? ((⟨w.heap.size, 0, none⟩ : Addr).add j) = some v from fun j v hv => by
        have hj : j < c := by have := (List.getElem?_eq_some_iff.1 hv).1; simpa using this
        rw [List.getElem?_replicate, if_pos hj] at hv
        injection hv with hv
        subst hv
        rw [add_at, Nat.zero_add]
        exact rep_cells hgd.out (by omega))
      have hfit := Lib.hid (show k + (List.replicate c (Value.int .i64 (-1))).length ≤ (repL N k).length by rw [repL_len hk, List.length_replicate]; exact hc1.2)
      have hone := Lib.hid (show ∀ v ∈ List.replicate c (Value.int .i64 (-1)), v.oneCell' = true from fun v hv => by rw [(List.mem_replicate.1 hv).2]; rfl)
      replace hcc := Lib.hid hcc
      go_wp2_with fail
      go_region_law (refine step_copy_splice rfl _ _ 28 28 rfl 3 Tryd.underlying28 hsz.out (some ⟨w.heap.size, k, none⟩) (some ⟨w.heap.size, 0, none⟩) (N - k) (N - k) k N (by simp [Act.eval, Act.put]) (by simp [Act.eval, Act.put]) w.heap.size k (repL N k) 3 hgd.out _ hn.out (fun _ => ⟨rfl, _, rfl, hcs.out⟩) hfit.out hone.out w.heap.size w hbd.out (Nat.le_refl _) ?_; intro w3 hg3 hb3; replace hb3 := Lib.hid hb3)
      rw [hst.out] at hg3
      have w1 : IntKind.i64.wrap ((k : Int) + (c : Int)) = ((k + c : Nat) : Int) := by rw [IntKind.wrap_i64]; omega
      go_wp2_with fail
      rw [w1]
      refine ⟨⟨_, _, _, _, _, _, _, _, _, _, _, _, _, _, ?rel, rfl⟩, ?measure⟩
      case rel => exact ⟨k + c, by omega, by omega, rfl, hg3, hb3⟩
      case measure => show N - (k + c) < N - k; omega
    · obtain rfl : k = N := by omega
      have hO := Lib.hid (show OwnN wr w.heap.size w.heap.size k k (List.replicate k (-1)) from ownN_heap (by have := hg.out; simpa [repL] using this) (by simp) h8 (Nat.le_refl _))
      clear hg
      go_wp2_with fail
      go_ret
      exact ⟨_, rfl, Nat.le_refl _, hO.out, hbel.out⟩
end Go.Proofs.YtoglcinfnhhkhabDoor
