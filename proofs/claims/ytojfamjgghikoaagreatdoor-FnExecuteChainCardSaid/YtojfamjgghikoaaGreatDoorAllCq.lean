/- Texts merged: XCp1 XCp2 XCp3 XLk XCh1 XCh2 XRl XCh3 XCp4 XCh4. -/
import Derived.Test.YtojfamjgghikoaaGreatDoorAllSp
import Derived.Laws.OwnMore
import Derived.WalkSmall
import Derived.OneCell
import Derived.Laws.CopyOwn
import Derived.Test.YtojfamjgghikoaaGreatDoorIter
import Derived.StillTail
import Derived.Test.YtojfamjgghikoaaGreatDoorLawsH
import Derived.Test.YtojfamjgghikoaaGreatDoorFLaws2
namespace Go.Proofs.YtojfamjgghikoaaGreatDoor
section
/- Paired points of a set: plain mathematics, and two rows of integers that a call owns. -/
open Go.ChangeShapes Go.WideShapes Go.ChangeAt Go.RowKit Go.Proofs

/-- the points that wait for a partner behind j points of s. -/
def wtL (s : Int) : Nat → List Int
  | 0 => []
  | j + 1 => if hasB s (j : Nat) then (wtL s j).dropLast else wtL s j ++ [(j : Int)]
def prPut (xs : List Int) (p q : Nat) : List Int := (xs.set p (q : Int)).set q (p : Int)
/-- the partners of N points behind j points of s. -/
def pairL (s : Int) (N : Nat) : Nat → List Int
  | 0 => List.replicate N (-1)
  | j + 1 => if hasB s (j : Nat) then (match (wtL s j).getLast? with | some q => prPut (pairL s N j) j q.toNat | none => pairL s N j) else pairL s N j
theorem wt_len (s : Int) : ∀ j, (wtL s j).length ≤ j
  | 0 => Nat.le_refl _
  | j + 1 => by
    have h := wt_len s j
    unfold wtL
    split
    · rw [List.length_dropLast]; omega
    · rw [List.length_append, List.length_singleton]; omega
theorem wt_lt (s : Int) : ∀ j, ∀ x ∈ wtL s j, 0 ≤ x ∧ x < (j : Nat)
  | 0 => by simp [wtL]
  | j + 1 => by
    intro x hx
    have h := wt_lt s j x
    unfold wtL at hx
    split at hx
    · have := h (List.dropLast_subset _ hx); omega
    · rcases List.mem_append.1 hx with hx | hx
      · have := h hx; omega
      · simp at hx; omega
theorem prPut_len (xs : List Int) (p q : Nat) : (prPut xs p q).length = xs.length := by unfold prPut; rw [List.length_set, List.length_set]
theorem pr_len (s : Int) (N : Nat) : ∀ j, (pairL s N j).length = N
  | 0 => by simp [pairL]
  | j + 1 => by
    have h := pr_len s N j
    unfold pairL
    split
    · split
      · rw [prPut_len, h]
      · exact h
    · exact h
theorem wt_last {s : Int} {j : Nat} {q : Int} (h : (wtL s j).getLast? = some q) : ∃ t : Nat, q = (t : Nat) ∧ t < j ∧ wtL s j = (wtL s j).dropLast ++ [(t : Int)] := by
  have hm : q ∈ wtL s j := List.mem_of_getLast? h
  obtain ⟨a, b⟩ := wt_lt s j q hm
  refine ⟨q.toNat, by omega, by omega, ?_⟩
  rw [Int.toNat_of_nonneg a]
  obtain ⟨ys, hys⟩ := List.getLast?_eq_some_iff.1 h
  rw [hys]
  simp
theorem pr_grow (s : Int) (N : Nat) : ∀ j, j ≤ N → pairL s (N + 1) j = pairL s N j ++ [-1]
  | 0, _ => by unfold pairL; rw [List.replicate_succ']
  | j + 1, hj => by
    have h := pr_grow s N j (by omega)
    have hl := pr_len s N j
    unfold pairL
    split
    · rename_i hh
      rcases hq : (wtL s j).getLast? with _ | q
      · exact h
      · obtain ⟨t, rfl, ht, _⟩ := wt_last hq
        simp only [Int.toNat_natCast]
        rw [h]
        unfold prPut
        rw [List.set_append_left _ _ (by omega), List.set_append_left _ _ (by rw [List.length_set]; omega)]
    · exact h
/-- what a step does. -/
theorem wt_out {s : Int} {j : Nat} (h : hasB s (j : Nat) = false) : wtL s (j + 1) = wtL s j ++ [(j : Int)] := by rw [wtL, if_neg (by simp [h])]
theorem wt_in {s : Int} {j : Nat} (h : hasB s (j : Nat) = true) : wtL s (j + 1) = (wtL s j).dropLast := by rw [wtL, if_pos h]
theorem pr_out {s : Int} {N j : Nat} (h : hasB s (j : Nat) = false) : pairL s N (j + 1) = pairL s N j := by rw [pairL, if_neg (by simp [h])]
theorem pr_none {s : Int} {N j : Nat} (hw : wtL s j = []) : pairL s N (j + 1) = pairL s N j := by rw [pairL, hw]; simp
theorem pr_in {s : Int} {N j t : Nat} (h : hasB s (j : Nat) = true) (hw : (wtL s j).getLast? = some (t : Int)) : pairL s N (j + 1) = prPut (pairL s N j) j t := by rw [pairL, if_pos h, hw]; simp
/-- block g holds the N ints xs, the call's own. -/
def OwnN (w : World) (B g N cap : Nat) (xs : List Int) : Prop := w.ownsRow B 3 1 (.slice (some ⟨g, 0, none⟩) N cap) N (xs.map (Value.int .i64))
theorem OwnN.len {w : World} {B g N cap : Nat} {xs : List Int} (h : OwnN w B g N cap xs) : xs.length = N := by have := h.1; simpa using this
theorem OwnN.ofL {w : World} {B g N cap : Nat} {xs : List Int} (h : OwnL w B (.slice (some ⟨g, 0, none⟩) N cap) xs) (hl : xs.length = N) : OwnN w B g N cap xs := by
  subst hl
  exact h
theorem OwnN.toL {w : World} {B g N cap : Nat} {xs : List Int} (h : OwnN w B g N cap xs) : OwnL w B (.slice (some ⟨g, 0, none⟩) N cap) xs := by
  have hl := h.len
  subst hl
  exact h
theorem OwnN.put {w : World} {B g N cap : Nat} {xs : List Int} (h : OwnN w B g N cap xs) (p : Nat) (q : Int) : OwnN (w.setCell ⟨g, p, none⟩ (.int .i64 q)) B g N cap (xs.set p q) := by
  have h1 := (World.ownsRow.stored h p (.int .i64 q)).1
  rw [← List.map_set] at h1
  exact h1
theorem OwnN.cell {w : World} {B g N cap : Nat} {xs : List Int} (h : OwnN w B g N cap xs) {i : Nat} (hi : i < N) : w.cell? ⟨g, i, none⟩ = some (.int .i64 (xs.getD i 0)) := by
  have hl := h.len
  rw [World.ownsRow.cellAt h i (by omega), List.getElem?_map, List.getD_eq_getElem?_getD, List.getElem?_eq_getElem (by omega)]
  rfl
theorem OwnN.frozen {w : World} {B g N cap : Nat} {xs : List Int} (h : OwnN w B g N cap xs) (i : Nat) : w.frozen? ⟨g, i, none⟩ = false := World.ownsRow.frozenAt h i
theorem OwnN.ge {w : World} {B g N cap : Nat} {xs : List Int} (h : OwnN w B g N cap xs) : B ≤ g ∧ g < w.heap.size := World.ownsRow.lt h g rfl
theorem OwnN.alloc {w : World} {B g N cap : Nat} {xs : List Int} (h : OwnN w B g N cap xs) (o : Obj) : OwnN (w.alloc o) B g N cap xs := World.ownsRow.alloc h o
theorem OwnL.someN {w : World} {B : Nat} {v : Value} {xs : List Int} (h : OwnL w B v xs) (hx : xs ≠ []) : ∃ g cap, v = .slice (some ⟨g, 0, none⟩) xs.length cap ∧ OwnN w B g xs.length cap xs := by
  rcases id h.2 with ⟨rfl, hn⟩ | ⟨g, cap, cur, rfl, _⟩
  · exact absurd (List.length_eq_zero_iff.1 hn) hx
  · exact ⟨g, cap, rfl, h⟩
theorem OwnL.other {w : World} {B : Nat} {v : Value} {xs : List Int} (h : OwnL w B v xs) {a : Addr} (ha : v.ownBlock ≠ some a.block) (u : Value) : OwnL (w.setCell a u) B v xs := ownsRow_setCell_other h ha u
theorem OwnL.grown {w w' : World} {B : Nat} {v : Value} {xs : List Int} {row : Option Nat} (h : OwnL w B v xs) (hg : w.grownBy w' row) (hne : v.ownBlock ≠ row) : OwnL w' B v xs := World.ownsRow.kept h hg (.inr hne)
/-- its last one is taken. -/
theorem OwnN.pop {w : World} {B g cap : Nat} {xs : List Int} {q : Int} (h : OwnN w B g (xs.length + 1) cap (xs ++ [q])) : OwnN w B g xs.length cap xs := by
  unfold OwnN at h
  rw [List.map_append] at h
  exact ownsRow_pop (by simp) h
theorem own_lt {w : World} {B : Nat} {v : Value} {xs : List Int} (h : OwnL w B v xs) : v.ownBlock ≠ some w.heap.size := fun e => by
  have := (World.ownsRow.lt h _ e).2
  omega

end
section
/- The program's partners: slices.Repeat, the stack of points that wait. -/
open Go.ChangeShapes Go.WideShapes Go.ChangeAt Go.RowKit Go.Proofs

theorem mul64_1 : ∀ N : Nat, 1 ≤ N → N ≤ 8 → ∀ w : World, Calls Tryz.prog 248 #[.int .u64 1, .int .u64 (N : Nat)] w fun e w' => e = .returned (.tuple #[.int .u64 0, .int .u64 (N : Nat)]) ∧ w = w' := by
  intro N h1 h8 w
  obtain rfl | rfl | rfl | rfl | rfl | rfl | rfl | rfl : N = 1 ∨ N = 2 ∨ N = 3 ∨ N = 4 ∨ N = 5 ∨ N = 6 ∨ N = 7 ∨ N = 8 := by omega
  all_goals
    go_enter Tryz.func248, Tryz.ntmps248
    go_wp2_with fail
    go_ret2
    refine ⟨?_, rfl⟩
    kernel_rfl
theorem mul_1 (N : Nat) (h1 : 1 ≤ N) (h8 : N ≤ 8) (w : World) : Calls Tryz.prog 193 #[.int .u64 1, .int .u64 (N : Nat)] w fun e w' => e = .returned (.tuple #[.int .u64 0, .int .u64 (N : Nat)]) ∧ w = w' := by
  have h := Lib.hid (mul64_1 N h1 h8)
  go_enter Tryz.func193, Tryz.ntmps193
  go_wp2_with (first | (go_at_call 248; refine (h.out _).mono ?_; rintro e w' ⟨rfl, rfl⟩))
  go_ret2
  exact ⟨rfl, rfl⟩
theorem ownN_heap {w : World} {B g N : Nat} {xs : List Int} (hg : w.heap[g]? = some (.cells (xs.map (Value.int .i64)).toArray 3 (0, 0))) (hl : xs.length = N) (hN : N ≤ 8) (hB : B ≤ g) : OwnN w B g N N xs :=
  ⟨by simp [hl], .inr ⟨g, N, _, rfl, hB, hg, Nat.le_refl _, by unfold maxLen; omega, by simp [hl], List.take_of_length_le (by simp [hl])⟩⟩
/-- N places, the first k of them filled. -/
def repL (N k : Nat) : List Value := List.replicate k (.int .i64 (-1)) ++ List.replicate (N - k) (.int .i64 0)
theorem repL_len {N k : Nat} (_h : k ≤ N) : (repL N k).length = N := by unfold repL; simp; omega
theorem repL_at {N k j : Nat} (h : j < k) : (repL N k)[j]? = some (.int .i64 (-1)) := by
  unfold repL
  rw [List.getElem?_append_left (by simpa using h), List.getElem?_replicate, if_pos h]
theorem repL_step {N k c : Nat} (_h : k + c ≤ N) : splice (repL N k) k (List.replicate c (.int .i64 (-1))) = repL N (k + c) := by
  unfold splice repL
  rw [List.take_left' (by simp), List.length_replicate, ← List.drop_drop, List.drop_left' (by simp), List.drop_replicate, ← List.append_assoc, List.replicate_append_replicate]
  congr 2
  omega
theorem rep_cells {w : World} {g N k : Nat} (hg : w.heap[g]? = some (.cells (repL N k).toArray 3 (0, 0))) {j : Nat} (h : j < k) : w.cell? ⟨g, j, none⟩ = some (.int .i64 (-1)) := by
  rw [cell_of_row w g j _ _ (0, 0) hg]
  simpa using repL_at h
def RepPost (N : Nat) (w : World) (e : Ending) (w' : World) : Prop := ∃ g, e = .returned (.slice (some ⟨g, 0, none⟩) N N) ∧ w.heap.size ≤ g ∧ OwnN w' w.heap.size g N N (List.replicate N (-1)) ∧ Below w.heap.size w w'
theorem add_at (g j k : Nat) : (⟨g, k, none⟩ : Addr).add j = ⟨g, k + j, none⟩ := by unfold Addr.add; split <;> simp_all
theorem made_rep (N : Nat) : (madeCells #[.int .i64 0] N) = (repL N 0).toArray := by
  apply Array.toList_inj.1
  rw [toList_madeCells_one]
  simp [repL]
set_option maxHeartbeats 4000000 in
set_option maxRecDepth 20000 in
theorem repeat_at (N b : Nat) (w : World) (h1 : 1 ≤ N) (h8 : N ≤ 8) (hb : b < w.heap.size) (hc : w.cell? ⟨b, 0, none⟩ = some (.int .i64 (-1))) :
    Calls Tryz.prog 134 #[.slice (some ⟨b, 0, none⟩) 1 1, .int .i64 (N : Nat)] w (RepPost N w) := by
  have hmul := Lib.hid (mul_1 N h1 h8)
  have hmk := fun W => run_make_row' (P := Tryz.prog) 28 3 (.int .i64 0) 8 Tryz.underlying28 Tryz.intInfo rfl .i64 .i64 N (by omega) (by omega) W
  have hsz : (Tryz.prog.info? 3).map (·.size) = some 1 := by
    obtain ⟨i0, hi, hz0, hz1, hz2⟩ := info_parts Tryz.intInfo
    rw [hi]; simp [hz1]
  have hw0 : Below w.heap.size w (w.alloc (.cells (madeCells #[.int .i64 0] N) 3)) := (Below.refl _ w).alloc (Nat.le_refl _) _
  have hg0 := Lib.hid (show (w.alloc (.cells (madeCells #[.int .i64 0] N) 3)).heap[w.heap.size]? = some (.cells (repL N 0).toArray 3 (0, 0)) by rw [heap_alloc_new, made_rep])
  have hsrc := Lib.hid (show ∀ j v, ([.int .i64 (-1)] : List Value)[j]? = some v → (w.alloc (.cells (madeCells #[.int .i64 0] N) 3)).cell? ((⟨b, 0, none⟩ : Addr).add j) = some v from fun j v hv => by
    cases j with
    | zero => simp at hv; subst hv; rw [add_at]; exact (hw0.cell (p := ⟨b, 0 + 0, none⟩) hb).trans hc
    | succ j => simp at hv)
  have hN := Lib.hid (show 1 = Nat.min 1 N from (Nat.min_eq_left h1).symm)
  replace hw0 := Lib.hid hw0
  replace hsz := Lib.hid hsz
  have h10 : (1 : Int) ≤ (N : Nat) := by omega
  have h80 : (N : Int) ≤ 8 := by omega
  go_enter Tryz.func134, Tryz.ntmps134
  go_wp2_with (first | (go_at_call 193; refine (hmul.out _).mono ?_; rintro e w' ⟨rfl, rfl⟩) | (refine wpList_copy_splice rfl _ _ 28 28 rfl 3 Tryz.underlying28 hsz.out _ _ _ _ _ _ rfl rfl w.heap.size 0 (repL N 0) 3 hg0.out [.int .i64 (-1)] hN.out (fun _ => ⟨rfl, _, rfl, hsrc.out⟩) (by rw [repL_len (by omega)]; simpa using h1) (by simp [Value.oneCell']) w.heap.size w hw0.out (Nat.le_refl _) ?_; intro w2 hg2 hb2))
  go_loopw [8] (fun s wr => ∃ k : Nat, 1 ≤ k ∧ k ≤ N ∧ s = .int .i64 k ∧ Hid (wr.heap[w.heap.size]? = some (.cells (repL N k).toArray 3 (0, 0))) ∧ Hid (Below w.heap.size w wr)) (fun s _ => N - (intOf s).toNat)
  case atStart => 
    have e := repL_step (N := N) (k := 0) (c := 1) (by omega)
    have hg2 := hg2.out
    rw [show ([.int .i64 (-1)] : List Value) = List.replicate 1 (.int .i64 (-1)) from rfl, e] at hg2
    exact ⟨1, by omega, by omega, rfl, Lib.hid hg2, Lib.hid hb2⟩
  case round =>
    obtain ⟨k, hk1, hk, rfl, hg, hbel⟩ := hrel
    by_cases hlt : k < N
    · have k1 : (0 : Int) ≤ (k : Int) := by omega
      have k2 : (k : Int) < (N : Nat) := by omega
      have k3 : (k : Int) ≤ (N : Nat) := by omega
      have hkN : ¬ N = k := by omega
      obtain ⟨c, hcc⟩ : ∃ c, min k (N - k) = c := ⟨_, rfl⟩
      have hc1 : 1 ≤ c ∧ k + c ≤ N := by omega
      have hn := Lib.hid (show (List.replicate c (Value.int .i64 (-1))).length = Nat.min k (N - k) by rw [List.length_replicate]; exact hcc.symm)
      have hst := Lib.hid (repL_step (N := N) (k := k) (c := c) hc1.2)
      have hgd := Lib.hid (show wr.drew.heap[w.heap.size]? = some (.cells (repL N k).toArray 3 (0, 0)) from hg.out)
      have hbd := Lib.hid (hbel.out.drew)
      have hcs := Lib.hid (show ∀ j v, (List.replicate c (Value.int .i64 (-1)))[j]? = some v → wr.drew.cell? ((⟨w.heap.size, 0, none⟩ : Addr).add j) = some v from fun j v hv => by
        have hj : j < c := by have := (List.getElem?_eq_some_iff.1 hv).1; simpa using this
        rw [List.getElem?_replicate, if_pos hj] at hv
        injection hv with hv
        subst hv
        rw [add_at, Nat.zero_add]
        exact rep_cells hgd.out (by omega))
      have hfit := Lib.hid (show k + (List.replicate c (Value.int .i64 (-1))).length ≤ (repL N k).length by rw [repL_len hk, List.length_replicate]; exact hc1.2)
      have hone := Lib.hid (show ∀ v ∈ List.replicate c (Value.int .i64 (-1)), v.oneCell' = true from fun v hv => by rw [(List.mem_replicate.1 hv).2]; rfl)
      replace hcc := Lib.hid hcc
      go_wp2_with fail
      go_region_law (refine step_copy_splice rfl _ _ 28 28 rfl 3 Tryz.underlying28 hsz.out (some ⟨w.heap.size, k, none⟩) (some ⟨w.heap.size, 0, none⟩) (N - k) (N - k) k N (by simp [Act.eval, Act.put]) (by simp [Act.eval, Act.put]) w.heap.size k (repL N k) 3 hgd.out _ hn.out (fun _ => ⟨rfl, _, rfl, hcs.out⟩) hfit.out hone.out w.heap.size w hbd.out (Nat.le_refl _) ?_; intro w3 hg3 hb3; replace hb3 := Lib.hid hb3)
      rw [hst.out] at hg3
      have w1 : IntKind.i64.wrap ((k : Int) + (c : Int)) = ((k + c : Nat) : Int) := by rw [IntKind.wrap_i64]; omega
      go_wp2_with fail
      rw [w1]
      refine ⟨⟨_, _, _, _, _, _, _, _, _, _, _, _, _, _, ?rel, rfl⟩, ?measure⟩
      case rel => exact ⟨k + c, by omega, by omega, rfl, hg3, hb3⟩
      case measure => show N - (k + c) < N - k; omega
    · obtain rfl : k = N := by omega
      have hO := Lib.hid (show OwnN wr w.heap.size w.heap.size k k (List.replicate k (-1)) from ownN_heap (by have := hg.out; simpa [repL] using this) (by simp) h8 (Nat.le_refl _))
      clear hg
      go_wp2_with fail
      go_ret
      exact ⟨_, rfl, Nat.le_refl _, hO.out, hbel.out⟩

end
section
/- The program's partners. -/
open Go.ChangeShapes Go.WideShapes Go.ChangeAt Go.RowKit Go.Proofs

theorem OwnN.mono {w : World} {B C g N cap : Nat} {xs : List Int} (h : OwnN w C g N cap xs) (hB : B ≤ C) : OwnN w B g N cap xs := by
  refine ⟨h.1, ?_⟩
  rcases h.2 with h2 | ⟨g', cap', cur, e, hg, r⟩
  · exact .inl h2
  · exact .inr ⟨g', cap', cur, e, Nat.le_trans hB hg, r⟩
theorem OwnN.grown {w w' : World} {B g N cap : Nat} {xs : List Int} {row : Option Nat} (h : OwnN w B g N cap xs) (hg : w.grownBy w' row) (hne : row ≠ some g) : OwnN w' B g N cap xs :=
  World.ownsRow.kept h hg (.inr (fun e => hne e.symm))
theorem OwnN.cap {w : World} {B g N cap : Nat} {xs : List Int} (h : OwnN w B g N cap xs) : N ≤ cap ∧ cap ≤ maxLen := by
  rcases h.2 with ⟨h2, _⟩ | ⟨g', cap', cur, e, hg, hh, h3, h4, _⟩
  · cases h2
  · cases e; exact ⟨h3, h4⟩
theorem OwnL.someK {w : World} {B K : Nat} {v : Value} {xs : List Int} (h : OwnL w B v xs) (hl : xs.length = K + 1) : ∃ g cap, v = .slice (some ⟨g, 0, none⟩) (K + 1) cap ∧ OwnN w B g (K + 1) cap xs := by
  obtain ⟨g, cap, e, hN⟩ := h.someN (by intro hx; rw [hx] at hl; simp at hl)
  rw [hl] at e hN
  exact ⟨g, cap, e, hN⟩
set_option maxHeartbeats 8000000 in
theorem partners_at (N : Nat) (s : Int) (w : World) (h1 : 1 ≤ N) (h8 : N ≤ 8) (s1 : 0 ≤ s) (s2 : s < 256) :
    Calls Tryz.prog 71 #[.int .i64 (N : Nat), .int .u64 s] w (IntsPost (pairL s N N) w) := by
  have hrep := Lib.hid (fun b W => repeat_at N b W h1 h8)
  have hw1 := Lib.hid ((Below.refl w.heap.size w).alloc (Nat.le_refl _) (.cells #[.int .i64 (-1)] 3))
  have hc1 := cell_new w (.int .i64 (-1)) 3
  have hz1 : w.heap.size < (w.alloc (.cells #[.int .i64 (-1)] 3)).heap.size := by simp
  have h10 : (1 : Int) ≤ (N : Nat) := by omega
  have h80 : (N : Int) ≤ 8 := by omega
  go_enter Tryz.func71, Tryz.ntmps71
  go_wp2_with (first | (go_at_call 134; refine (hrep.out _ _ hz1 hc1).mono ?_; rintro e w2 ⟨g, rfl, hg0, hN0, hb2⟩))
  have hB2 := Lib.hid (hw1.out.trans (hb2.mono (by simp)))
  have hz2 := hB2.out.size
  have hN1 := Lib.hid ((OwnN.mono hN0 (show w.heap.size ≤ _ by simp)).alloc (.cells #[] 3))
  have hgw := (OwnN.ge hN0).2
  have hWL := Lib.hid (OwnL.lit w2 hz2)
  have hB3 := Lib.hid (hB2.out.alloc hz2 (.cells #[] 3))
  have hgB : w.heap.size ≤ g := by have := (OwnN.ge hN0).1; simp at this; omega
  clear hN0 hb2 hg0
  go_wp2_with fail
  go_loopw [6, 14] (fun o i wr => ∃ k : Nat, k ≤ N ∧ i = .int .i64 k ∧ Hid (OwnN wr w.heap.size g N N (pairL s N k)) ∧ Hid (OwnL wr w.heap.size o (wtL s k)) ∧ Hid (o.ownBlock ≠ some g) ∧ Hid (Below w.heap.size w wr)) (fun _ i _ => N - (intOf i).toNat)
  case atStart => exact ⟨0, by omega, rfl, hN1, hWL, Lib.hid (fun e => by injection e with e; dsimp only at e; omega), hB3⟩
  case round =>
    obtain ⟨k, hk, rfl, hL, hO, hne, hbel⟩ := hrel
    have hsz := hbel.out.size
    by_cases hlt : k < N
    · have k1 : (0 : Int) ≤ (k : Int) := by omega
      have k2 : (k : Int) < (N : Nat) := by omega
      have k7 : (k : Int) ≤ 7 := by omega
      obtain ⟨hb, hhb⟩ : ∃ b, hasB s (k : Nat) = b := ⟨_, rfl⟩
      have hhas := fun W => set_has s (k : Nat) s1 s2 k1 k7 W
      rw [hhb] at hhas
      replace hhas := Lib.hid hhas
      rcases (by cases hb <;> simp : hb = true ∨ hb = false) with rfl | rfl
      · rcases hw : wtL s k with _ | ⟨y, ys⟩
        · have hsp : pairL s N k = pairL s N (k + 1) := (pr_none hw).symm
          have hso : wtL s (k + 1) = [] := by rw [wt_in hhb, hw]; rfl
          rw [hw] at hO
          obtain ⟨a', c', rfl⟩ := hO.out.form
          rw [hsp] at hL
          have hO2 := Lib.hid (show OwnL wr w.heap.size (.slice a' 0 c') (wtL s (k + 1)) from by rw [hso]; exact hO.out)
          replace hhb := Lib.hid hhb
          clear hO hsp hso hw
          go_wp2_with (first | (go_at_call 73; refine (hhas.out _).mono ?_; rintro e w' ⟨rfl, rfl⟩))
          go_roundw
          case rel => exact ⟨k + 1, by omega, by first | rfl | go_num, hL, hO2, hne, hbel⟩
          case measure => simp [intOf]; omega
        · have hl : (wtL s k).length = ys.length + 1 := by rw [hw]; rfl
          have hlen := wt_len s k
          obtain ⟨q, hq⟩ : ∃ q, (wtL s k).getLast? = some q := by rw [hw]; exact ⟨_, List.getLast?_cons⟩
          obtain ⟨t, rfl, ht, hd⟩ := wt_last hq
          obtain ⟨m, hm⟩ : ∃ m, ys.length = m := ⟨_, rfl⟩
          rw [hm] at hl
          obtain ⟨g', c', rfl, hOn⟩ := hO.out.someK hl
          have hcap := hOn.cap.1
          have hgg : g' ≠ g := fun e => hne.out (by rw [e]; rfl)
          have hdl : (wtL s k).dropLast.length = m := by rw [List.length_dropLast, hl]; rfl
          have e1 : wr.cell? ⟨g', m, none⟩ = some (.int .i64 (t : Nat)) := by
            rw [hOn.cell (by omega), hd, List.getD_eq_getElem?_getD, List.getElem?_append_right (by omega), hdl]
            simp
          have e2 := hL.out.cell (i := k) hlt
          have e3 := hL.out.frozen k
          have e4 := hL.out.cell (i := t) (by omega)
          have e5 := hL.out.frozen t
          have hL2 := Lib.hid ((hL.out.put k (t : Nat)).put t (k : Nat))
          have hO2 := Lib.hid (show OwnL ((wr.setCell ⟨g, k, none⟩ (.int .i64 (t : Nat))).setCell ⟨g, t, none⟩ (.int .i64 (k : Nat))) w.heap.size (.slice (some ⟨g', 0, none⟩) m c') (wtL s (k + 1)) from by
            have h0 : OwnL wr w.heap.size (.slice (some ⟨g', 0, none⟩) m c') (wtL s k).dropLast := by
              have h := hOn
              rw [hd, ← hdl] at h
              have h := OwnN.pop h
              rw [hdl] at h
              exact h.toL
            rw [wt_in hhb]
            exact (h0.other (a := ⟨g, k, none⟩) (by simpa [Value.ownBlock] using hgg) _).other (a := ⟨g, t, none⟩) (by simpa [Value.ownBlock] using hgg) _)
          have hpr : ((pairL s N k).set k (t : Nat)).set t (k : Nat) = pairL s N (k + 1) := by rw [pr_in hhb hq]; rfl
          rw [hpr] at hL2
          have hB2 := Lib.hid (below_setCell (p := ⟨g, t, none⟩) (below_setCell (p := ⟨g, k, none⟩) hbel.out hgB (.int .i64 (t : Nat))) hgB (.int .i64 (k : Nat)))
          have hne2 := Lib.hid (show (Value.slice (some ⟨g', 0, none⟩) m c').ownBlock ≠ some g from fun e => hgg (by simpa [Value.ownBlock] using e))
          obtain ⟨u, e7⟩ := cell?_setCell_some (p := ⟨g, k, none⟩) (x := .int .i64 (t : Nat)) e4
          have t1 : (0 : Int) ≤ (t : Int) := by omega
          have t2 : (t : Int) < (N : Nat) := by omega
          have m1 : (0 : Int) ≤ (m : Int) := by omega
          have m2 : (m : Int) < (m + 1 : Nat) := by omega
          have m3 : (m : Int) ≤ (c' : Nat) := by omega
          have m8 : m ≤ 8 := by omega
          have htk := Lib.hid ht
          replace hhb := Lib.hid hhb
          clear hL hO hne hbel hw hl hlen hq hd hOn hcap hdl hpr hm ht
          go_wp2_with (first | (go_at_call 73; refine (hhas.out _).mono ?_; rintro e w' ⟨rfl, rfl⟩))
          go_region
          go_wp2_with fail
          go_roundw
          case rel => exact ⟨k + 1, by omega, by first | rfl | go_num, Lib.hid hL2.out, Lib.hid hO2.out, hne2, Lib.hid hB2.out.drew⟩
          case measure => simp [intOf]; omega
      · have hso := wt_out hhb
        have hsp : pairL s N k = pairL s N (k + 1) := (pr_out hhb).symm
        have hlen : (wtL s k).length ≤ 1073741824 := by have := wt_len s k; omega
        rw [hsp] at hL
        obtain ⟨ys, hys⟩ : ∃ ys, wtL s k = ys := ⟨_, rfl⟩
        rw [hys] at hO hso hlen
        obtain ⟨a', c', rfl⟩ := hO.out.form
        have hB1 : w.heap.size ≤ (wr.alloc (.cells #[.int .i64 (k : Int)] 3)).heap.size := by rw [World.size_alloc]; omega
        replace hhb := Lib.hid hhb
        replace hys := Lib.hid hys
        replace hso := Lib.hid hso
        clear hsp
        go_wp2_with (first | (go_at_call 73; refine (hhas.out _).mono ?_; rintro e w' ⟨rfl, rfl⟩) | (at_builtin; refine app_int_at rfl _ _ rfl w.heap.size _ ys rfl (hO.out.alloc _) (k : Int) wr.heap.size rfl (cell_new _ _ _) hlen hB1 ?_; intro v' w1 hown1 hg1 hat1))
        rw [← hso.out] at hown1
        replace hown1 := Lib.hid hown1
        have hb2 := Lib.hid (below_own (hbel.out.alloc hsz _) hg1 (hO.out.alloc _) hB1)
        have hL2 := Lib.hid ((hL.out.alloc _).grown hg1 hne.out)
        have hv2 := Lib.hid (show v'.ownBlock ≠ some g from fun e => by
          rcases hat1 with h | h
          · exact hne.out (h.symm.trans e)
          · rw [h] at e; injection e with e; rw [World.size_alloc] at e; have := hL.out.ge.2; omega)
        go_roundw
        case rel => exact ⟨k + 1, by omega, by first | rfl | go_num, hL2, hown1, hv2, hb2⟩
        case measure => simp [intOf]; omega
    · obtain rfl : k = N := by omega
      have hOl := Lib.hid hL.out.toL
      clear hL
      go_wp2_with fail
      go_ret
      exact ⟨_, rfl, hOl.out, hbel.out⟩

end
section
/- Linked sets: what a pointer leads to, their number. -/
open Go.ChangeShapes Go.WideShapes Go.ChangeAt Go.RowKit Go.Proofs

/-- v leads to links with the sets L. -/
def LinkV (w : World) : List Int → Value → Prop
  | [], v => v = .pointer none
  | s :: L, v => ∃ (b : Nat) (nx : Value), v = .pointer (some ⟨b, 0, none⟩) ∧ w.heap[b]? = some (.cells #[.int .u64 s, nx] 109 (0, 0)) ∧ LinkV w L nx
theorem LinkV.kept {w w' : World} (hk : ∀ (b : Nat) (cs : Array Value), w.heap[b]? = some (.cells cs 109 (0, 0)) → w'.heap[b]? = some (.cells cs 109 (0, 0))) : ∀ {L : List Int} {v : Value}, LinkV w L v → LinkV w' L v
  | [], _, h => h
  | _ :: _, _, ⟨b, nx, h1, h2, h3⟩ => ⟨b, nx, h1, hk b _ h2, LinkV.kept hk h3⟩
theorem LinkV.below {w w' : World} {L : List Int} {v : Value} (h : LinkV w L v) (hb : Below w.heap.size w w') : LinkV w' L v :=
  LinkV.kept (fun b _ hc => by rw [hb.block b (by have := (Array.getElem?_eq_some_iff.1 hc).1; omega)]; exact hc) h
theorem LinkV.alloc {w : World} {L : List Int} {v : Value} (h : LinkV w L v) (o : Obj) : LinkV (w.alloc o) L v := h.below ((Below.refl _ w).alloc (Nat.le_refl _) o)
theorem link_cells {w : World} {b : Nat} {s nx : Value} (h : w.heap[b]? = some (.cells #[s, nx] 109 (0, 0))) : w.cell? ⟨b, 0, none⟩ = some s ∧ w.cell? ⟨b, 1, none⟩ = some nx :=
  ⟨by rw [cell_of_row w b 0 _ 109 (0, 0) h]; rfl, by rw [cell_of_row w b 1 _ 109 (0, 0) h]; rfl⟩
theorem length_at (L : List Int) (v : Value) (w : World) (h : LinkV w L v) (hl : L.length ≤ 1000) : Calls Tryz.prog 74 #[v] w fun e w' => e = .returned (.int .i64 (L.length : Nat)) ∧ w = w' := by
  obtain ⟨N, hN⟩ : ∃ N, L.length = N := ⟨_, rfl⟩
  rw [hN] at hl ⊢
  have h0 := Lib.hid (show ∃ L' : List Int, LinkV w L' v ∧ 0 + L'.length = N from ⟨L, h, by omega⟩)
  clear h hN
  go_enter Tryz.func74, Tryz.ntmps74
  go_wp2_with fail
  go_loop [0, 3] (fun p c => ∃ k : Nat, k ≤ N ∧ c = .int .i64 (k : Nat) ∧ Hid (∃ L' : List Int, LinkV w L' p ∧ k + L'.length = N)) (fun _ c => N - (intOf c).toNat)
  case atStart => exact ⟨0, by omega, rfl, h0⟩
  case round =>
    obtain ⟨k, hk, rfl, hL⟩ := hrel
    obtain ⟨L', h1, h2⟩ := hL.out
    rcases L' with _ | ⟨s, T⟩
    · have hp : u0 = .pointer none := h1
      subst hp
      obtain rfl : k = N := by simpa using h2
      clear hL h1 h2
      go_wp2_with fail
      go_ret
      exact ⟨rfl, rfl⟩
    · obtain ⟨b, nx, rfl, hc, hT⟩ := h1
      obtain ⟨c0, c1⟩ := link_cells hc
      rw [List.length_cons] at h2
      have hn := Lib.hid (show ∃ L' : List Int, LinkV w L' nx ∧ (k + 1) + L'.length = N from ⟨T, hT, by omega⟩)
      have hkl : k < N := by omega
      clear hL hc hT h2
      go_wp2_with fail
      go_round
      case rel => exact ⟨k + 1, by omega, by first | rfl | go_num, hn⟩
      case measure => simp [intOf]; omega

end
section
/- Chains of sets: plain mathematics; the numbers of linked sets. -/
open Go.ChangeShapes Go.WideShapes Go.ChangeAt Go.RowKit Go.Proofs

/-- the paired points of s that are in it, and the points that are not paired, below k. -/
def cutI (s : Int) (P : List Int) : Nat → Int × Int
  | 0 => (0, 0)
  | k + 1 => if P.getD k 0 < 0 then ((cutI s P k).1, withI (cutI s P k).2 (k : Nat)) else if hasB s (k : Nat) then (withI (cutI s P k).1 (k : Nat), (cutI s P k).2) else cutI s P k
/-- one point more at each step. -/
def lkI : Int → List Int → List Int
  | x, [] => [x]
  | x, p :: ps => x :: lkI (withI x p) ps
def lastI : Int → List Int → Int
  | x, [] => x
  | x, p :: ps => lastI (withI x p) ps
theorem lkI_snoc : ∀ (ps : List Int) (x p : Int), lkI x (ps ++ [p]) = lkI x ps ++ [withI (lastI x ps) p]
  | [], _, _ => rfl
  | q :: ps, x, p => by
    show x :: lkI (withI x q) (ps ++ [p]) = x :: lkI (withI x q) ps ++ _
    rw [lkI_snoc ps]; rfl
theorem lastI_snoc : ∀ (ps : List Int) (x p : Int), lastI x (ps ++ [p]) = withI (lastI x ps) p
  | [], _, _ => rfl
  | q :: ps, x, p => by
    show lastI (withI x q) (ps ++ [p]) = withI (lastI (withI x q) ps) p
    rw [lastI_snoc ps]
theorem lkI_len : ∀ (ps : List Int) (x : Int), (lkI x ps).length = ps.length + 1
  | [], _ => rfl
  | q :: ps, x => by show (x :: lkI _ ps).length = _; rw [List.length_cons, lkI_len ps]; rfl
theorem lkI_head (x : Int) (ps : List Int) : ∃ T, lkI x ps = x :: T := by cases ps <;> exact ⟨_, rfl⟩
/-- the chain of a set of N points. -/
def chnL (N : Nat) (s : Int) : List Int := lkI (cutI s (pairL s N N) N).1 (ptsI (cutI s (pairL s N N) N).2)
/-- what the model keeps. -/
def mcI (s : Int) (P : List Int) : Nat → Int
  | 0 => 0
  | k + 1 => if 0 ≤ P.getD k 0 ∧ hasB s (k : Nat) = true then mcI s P k + 2 ^ k else mcI s P k
def mlI (P : List Int) (x : Int) : Nat → Int × List Int
  | 0 => (x, [x])
  | k + 1 => if P.getD k 0 < 0 then ((mlI P x k).1 + 2 ^ k, (mlI P x k).2 ++ [(mlI P x k).1 + 2 ^ k]) else mlI P x k
set_option maxRecDepth 100000 in
theorem chn_fin : ∀ N : Fin 9, ∀ s : Fin 256, s.val < 2 ^ N.val → (mlI (pairL s.val N.val N.val) (mcI s.val (pairL s.val N.val N.val) N.val) N.val).2 = chnL N.val s.val ∧ (chnL N.val s.val).all (fun z => decide (0 ≤ z ∧ z < 256)) = true ∧ (chnL N.val s.val).length ≤ 9 := by decide +kernel
theorem chn_facts {N : Nat} {s : Int} (h8 : N ≤ 8) (s1 : 0 ≤ s) (s2 : s < 2 ^ N) : (mlI (pairL s N N) (mcI s (pairL s N N) N) N).2 = chnL N s ∧ (∀ z ∈ chnL N s, 0 ≤ z ∧ z < 256) ∧ (chnL N s).length ≤ 9 := by
  have e2 : ((s.toNat : Nat) : Int) = s := Int.toNat_of_nonneg s1
  have hp : 2 ^ N ≤ 2 ^ 8 := Nat.pow_le_pow_right (by omega) h8
  have h2 : s.toNat < 2 ^ N := by
    have : ((s.toNat : Nat) : Int) < ((2 ^ N : Nat) : Int) := by rw [e2]; simpa using s2
    exact Int.ofNat_lt.1 this
  have h := chn_fin ⟨N, by omega⟩ ⟨s.toNat, by omega⟩ h2
  simp only [e2] at h
  refine ⟨h.1, fun z hz => ?_, h.2.2⟩
  have := List.all_eq_true.1 h.2.1 z hz
  exact of_decide_eq_true this
theorem mc_bd (s : Int) (P : List Int) : ∀ k, 0 ≤ mcI s P k ∧ mcI s P k < 2 ^ k
  | 0 => ⟨Int.le_refl _, by show (0 : Int) < 2 ^ 0; decide⟩
  | k + 1 => by
    have h := mc_bd s P k
    have e : (2 : Int) ^ (k + 1) = 2 ^ k + 2 ^ k := by rw [Int.pow_succ]; omega
    unfold mcI
    split <;> omega
theorem ml_bd (P : List Int) (x : Int) (hx : 0 ≤ x) : ∀ k, 0 ≤ (mlI P x k).1 ∧ (mlI P x k).1 < x + 2 ^ k
  | 0 => ⟨hx, by show x < x + 2 ^ 0; omega⟩
  | k + 1 => by
    have h := ml_bd P x hx k
    have hp : (0 : Int) < 2 ^ k := Int.pow_pos (by decide)
    have e : (2 : Int) ^ (k + 1) = 2 ^ k + 2 ^ k := by rw [Int.pow_succ]; omega
    unfold mlI
    split
    · dsimp only; omega
    · omega
theorem ml_len (P : List Int) (x : Int) : ∀ k, (mlI P x k).2.length ≤ k + 1
  | 0 => Nat.le_refl _
  | k + 1 => by
    have h := ml_len P x k
    unfold mlI
    split
    · dsimp only; rw [List.length_append, List.length_singleton]; omega
    · omega
theorem with_in8 : ∀ x : Fin 256, ∀ p : Fin 8, 0 ≤ withI x.val p.val ∧ withI x.val p.val < 256 := by decide +kernel
theorem with_bd8 {x p : Int} (x1 : 0 ≤ x) (x2 : x < 256) (p1 : 0 ≤ p) (p2 : p ≤ 7) : 0 ≤ withI x p ∧ withI x p < 256 := by
  have h := with_in8 ⟨x.toNat, by omega⟩ ⟨p.toNat, by omega⟩
  have e1 : ((x.toNat : Nat) : Int) = x := Int.toNat_of_nonneg x1
  have e2 : ((p.toNat : Nat) : Int) = p := Int.toNat_of_nonneg p1
  simpa only [e1, e2] using h
theorem cut_bd (s : Int) (P : List Int) : ∀ k, k ≤ 8 → (0 ≤ (cutI s P k).1 ∧ (cutI s P k).1 < 256) ∧ 0 ≤ (cutI s P k).2 ∧ (cutI s P k).2 < 256
  | 0, _ => by simp [cutI]
  | k + 1, hk => by
    have h := cut_bd s P k (by omega)
    have a := with_bd8 h.1.1 h.1.2 (show (0 : Int) ≤ (k : Nat) by omega) (by omega)
    have b := with_bd8 h.2.1 h.2.2 (show (0 : Int) ≤ (k : Nat) by omega) (by omega)
    unfold cutI
    split
    · exact ⟨h.1, b⟩
    · split
      · exact ⟨a, h.2⟩
      · exact h
/-- the sets of linked sets as numbers. -/
theorem lk_numbers (L : List Int) (v : Value) (w : World) (h : LinkV w L v) (hl : L.length ≤ 1000) (hz : ∀ z ∈ L, 0 ≤ z ∧ z < 256) : Calls Tryz.prog 45 #[v] w (IntsPost L w) := by
  have hlen := Lib.hid (fun W (hW : LinkV W L v) => length_at L v W hW hl)
  obtain ⟨i0, hi, hz0, hz1, hz2⟩ := info_parts Tryz.intInfo
  have hl0 : (0 : Int) ≤ (L.length : Nat) := by omega
  go_enter Tryz.func45, Tryz.ntmps45
  go_wp2_with (first | (go_at_call 74; refine (hlen.out _ h).mono ?_; rintro e w' ⟨rfl, rfl⟩) | (at_make; refine wpList_make_own _ rfl _ _ 28 rfl w.heap.size 3 i0 (.int .i64 0) 1 Tryz.underlying28 hi hz0 hz1 .i64 .i64 (L.length : Nat) L.length rfl rfl rfl (by rw [hz2]; omega) (by unfold maxLen; omega) (Nat.le_refl _) ?_; intro w1 hR hg))
  have hb1 : Below w.heap.size w w1 := (Below.refl _ w).grown hg (Nat.le_refl _) (fun k e => by cases e)
  have hX := Lib.hid (show OwnL w1 w.heap.size (.slice (some ⟨w.heap.size, 0, none⟩) 0 L.length) [] from hR)
  replace hb1 := Lib.hid hb1
  replace h := Lib.hid h
  replace hz := Lib.hid hz
  clear hR hg hlen
  go_wp2_with fail
  go_loopw [0, 3] (fun p o wr => ∃ A B : List Int, Hid (A ++ B = L) ∧ Hid (LinkV w B p) ∧ Hid (OwnL wr w.heap.size o A) ∧ Hid (Below w.heap.size w wr)) (fun _ o _ => L.length - (match o with | .slice _ n _ => n | _ => 0))
  case atStart => exact ⟨[], L, Lib.hid rfl, h, hX, hb1⟩
  case round =>
    obtain ⟨A, B, hAB, hL, hO, hB⟩ := hrel
    obtain ⟨a', c', rfl⟩ := hO.out.form
    have hsz := hB.out.size
    rcases B with _ | ⟨s, T⟩
    · have hp : u0 = .pointer none := hL.out
      subst hp
      have hA : A = L := by have := hAB.out; rwa [List.append_nil] at this
      subst hA
      go_wp2_with fail
      go_ret
      exact ⟨_, rfl, hO.out, hB.out⟩
    · obtain ⟨b, nx, rfl, hc, hT⟩ := hL.out
      have hbw : b < w.heap.size := (Array.getElem?_eq_some_iff.1 hc).1
      have hcr := (hB.out.block b hbw).trans hc
      obtain ⟨c0, c1⟩ := link_cells hcr
      obtain ⟨s1, s2⟩ := hz.out s (by rw [← hAB.out]; simp)
      have hAl : A.length < L.length := by rw [← hAB.out, List.length_append, List.length_cons]; omega
      have hAB2 := Lib.hid (show (A ++ [s]) ++ T = L by rw [← hAB.out]; simp)
      have hTh := Lib.hid hT
      have hB1 : w.heap.size ≤ (wr.alloc (.cells #[.int .i64 s] 3)).heap.size := by rw [World.size_alloc]; omega
      have hlA : A.length ≤ 1073741824 := by omega
      clear hL hT hcr
      go_wp2_with (at_builtin; refine app_int rfl _ _ rfl w.heap.size _ A rfl (hO.out.alloc _) s wr.heap.size rfl (cell_new _ _ _) hlA hB1 ?_; intro v' w2 hown1 hb2; have hb3 := hB.out.trans ((Below.refl w.heap.size wr).alloc hsz _ |>.trans hb2); obtain ⟨d0, d1⟩ := link_cells ((hb3.block b hbw).trans hc))
      obtain ⟨a2, c2, rfl⟩ := hown1.form
      replace hown1 := Lib.hid hown1
      replace hb3 := Lib.hid hb3
      go_roundw
      case rel => exact ⟨A ++ [s], T, hAB2, hTh, hown1, hb3⟩
      case measure => dsimp only; rw [List.length_append, List.length_singleton]; omega

end
section
/- Linked sets with their blocks; what a round of the chain keeps. -/
open Go.ChangeShapes Go.WideShapes Go.ChangeAt Go.RowKit Go.Proofs

def hdV : List (Int × Nat) → Value
  | [] => .pointer none
  | (_, b) :: _ => .pointer (some ⟨b, 0, none⟩)
/-- links in memory, each with its block. -/
def LB (w : World) : List (Int × Nat) → Prop
  | [] => True
  | (s, b) :: r => w.heap[b]? = some (.cells #[.int .u64 s, hdV r] 109 (0, 0)) ∧ LB w r
theorem LB.link {w : World} : ∀ {zs : List (Int × Nat)}, LB w zs → LinkV w (zs.map (·.1)) (hdV zs)
  | [], _ => rfl
  | (_, b) :: _, ⟨h1, h2⟩ => ⟨b, _, rfl, h1, LB.link h2⟩
theorem LB.kept {w w' : World} : ∀ {zs : List (Int × Nat)}, LB w zs → (∀ z ∈ zs, w'.heap[z.2]? = w.heap[z.2]?) → LB w' zs
  | [], _, _ => trivial
  | (s, b) :: _, ⟨h1, h2⟩, hk => ⟨(hk (s, b) (List.mem_cons_self ..)).trans h1, LB.kept h2 (fun z hz => hk z (List.mem_cons_of_mem _ hz))⟩
theorem hd_app : ∀ (zs : List (Int × Nat)) (z y : Int × Nat), hdV (zs ++ [z] ++ [y]) = hdV (zs ++ [z])
  | [], _, _ => rfl
  | _ :: _, _, _ => rfl
/-- one more at the end. -/
theorem LB.snoc {w w' : World} {s t : Int} {b c : Nat} : ∀ {zs : List (Int × Nat)}, LB w (zs ++ [(s, b)]) → (∀ z ∈ zs, w'.heap[z.2]? = w.heap[z.2]?) → w'.heap[b]? = some (.cells #[.int .u64 s, .pointer (some ⟨c, 0, none⟩)] 109 (0, 0)) → w'.heap[c]? = some (.cells #[.int .u64 t, .pointer none] 109 (0, 0)) → LB w' (zs ++ [(s, b)] ++ [(t, c)])
  | [], _, _, hb, hc => ⟨hb, hc, trivial⟩
  | (s', b') :: r, ⟨h1, h2⟩, hk, hb, hc => by
    refine ⟨?_, LB.snoc h2 (fun z hz => hk z (List.mem_cons_of_mem _ hz)) hb hc⟩
    rw [hk (s', b') (List.mem_cons_self ..)]
    show _ = some (Obj.cells #[.int .u64 s', hdV (r ++ [(s, b)] ++ [(t, c)])] _ _)
    rw [hd_app]
    exact h1
theorem LB.last {w : World} {s : Int} {b : Nat} : ∀ {zs : List (Int × Nat)}, LB w (zs ++ [(s, b)]) → w.heap[b]? = some (.cells #[.int .u64 s, .pointer none] 109 (0, 0))
  | [], h => h.1
  | _ :: _, h => LB.last h.2
/-- what a round keeps: the links so far; the box l holds the last one. -/
def JC (B : Nat) (w : World) (x : Int) (b0 l : Nat) {q : Int} (pre : List (PtOf q)) (W : World) : Prop :=
  ∃ (zs : List (Int × Nat)) (b : Nat), LB W (zs ++ [(lastI x (vals pre), b)]) ∧ (zs ++ [(lastI x (vals pre), b)]).map (·.1) = lkI x (vals pre) ∧ hdV (zs ++ [(lastI x (vals pre), b)]) = .pointer (some ⟨b0, 0, none⟩) ∧
    (∀ z ∈ zs, z.2 ≠ b) ∧ (∀ z ∈ zs, B ≤ z.2) ∧ B ≤ b ∧ W.heap[l]? = some (.cells #[.pointer (some ⟨b, 0, none⟩)] 69 (0, 0)) ∧ Below B w W
theorem LB.in {w : World} : ∀ {zs : List (Int × Nat)}, LB w zs → ∀ z ∈ zs, ∃ cs, w.heap[z.2]? = some (.cells cs 109 (0, 0))
  | (_, _) :: _, ⟨h1, h2⟩, z, hz => by
    rcases List.mem_cons.1 hz with rfl | hz
    · exact ⟨_, h1⟩
    · exact LB.in h2 z hz
theorem JC.kept {B : Nat} {w : World} {x : Int} {b0 l : Nat} {q : Int} {pre : List (PtOf q)} {W W' : World} (h : JC B w x b0 l pre W) (hk : ∀ (b : Nat) (cs : Array Value) (t : TypeId), W.heap[b]? = some (.cells cs t (0, 0)) → W'.heap[b]? = some (.cells cs t (0, 0))) (hb : Below B W W') : JC B w x b0 l pre W' := by
  obtain ⟨zs, b, h1, h2, h3, h4, h5, h6, h7, h8⟩ := h
  refine ⟨zs, b, h1.kept (fun z hz => ?_), h2, h3, h4, h5, h6, hk _ _ _ h7, h8.trans hb⟩
  obtain ⟨cs, hcs⟩ := LB.in h1 z hz
  rw [hcs, hk _ _ _ hcs]
theorem JC.own {B : Nat} {w : World} {x : Int} {b0 l : Nat} {q : Int} {D : Nat} (hB : B ≤ w.heap.size) (hD : B ≤ D) : OwnFrom D (fun (pre : List (PtOf q)) W => JC B w x b0 l pre W) := by
  rintro s X Y row h hg hrow
  refine JC.kept h (fun b cs t hb => ?_) ?_
  · refine (hg.block b (Array.getElem?_eq_some_iff.1 hb).1 (fun e => ?_)).trans hb
    obtain ⟨_, o, ho, hc⟩ := hrow b e.symm
    rw [hb] at ho
    cases ho
    cases hc
  · obtain ⟨_, _, _, _, _, _, _, _, _, h8⟩ := h
    exact (Below.refl B X).grown hg (Nat.le_trans hB h8.size) (fun k e => Nat.le_trans hD (hrow k e).1)
/-- one link more. -/
theorem JC.step {B D : Nat} {w W : World} {x : Int} {b0 l : Nat} {q : Int} {pre : List (PtOf q)} {p : PtOf q} {zs : List (Int × Nat)} {b : Nat}
    (h1 : LB W (zs ++ [(lastI x (vals pre), b)])) (h2 : (zs ++ [(lastI x (vals pre), b)]).map (·.1) = lkI x (vals pre)) (h3 : hdV (zs ++ [(lastI x (vals pre), b)]) = .pointer (some ⟨b0, 0, none⟩))
    (h4 : ∀ z ∈ zs, z.2 ≠ b) (h5 : ∀ z ∈ zs, B ≤ z.2) (h6 : B ≤ b) (h7 : W.heap[l]? = some (.cells #[.pointer (some ⟨b, 0, none⟩)] 69 (0, 0))) (h8 : Below B w W) (hB : B ≤ w.heap.size) (hl : B ≤ l) (t : Int) (ht : t = withI (lastI x (vals pre)) p.1) :
    KeepsFrom D W (((W.alloc (.cells #[.int .u64 t, .pointer none] 109)).setCell ⟨b, 1, none⟩ (.pointer (some ⟨W.heap.size, 0, none⟩))).setCell ⟨l, 0, none⟩ (.pointer (some ⟨W.heap.size, 0, none⟩))) ∧
    Below B W (((W.alloc (.cells #[.int .u64 t, .pointer none] 109)).setCell ⟨b, 1, none⟩ (.pointer (some ⟨W.heap.size, 0, none⟩))).setCell ⟨l, 0, none⟩ (.pointer (some ⟨W.heap.size, 0, none⟩))) ∧
    JC B w x b0 l (pre ++ [p]) (((W.alloc (.cells #[.int .u64 t, .pointer none] 109)).setCell ⟨b, 1, none⟩ (.pointer (some ⟨W.heap.size, 0, none⟩))).setCell ⟨l, 0, none⟩ (.pointer (some ⟨W.heap.size, 0, none⟩))) := by
  subst ht
  have hBW := Nat.le_trans hB h8.size
  have hb := LB.last h1
  have hbs : b < W.heap.size := (Array.getElem?_eq_some_iff.1 hb).1
  have hls : l < W.heap.size := (Array.getElem?_eq_some_iff.1 h7).1
  have hbl : b ≠ l := fun e => by subst e; rw [hb] at h7; injection h7 with e; injection e with _ e; exact absurd e (by decide)
  have hzl : ∀ z ∈ zs, z.2 ≠ l ∧ z.2 < W.heap.size := fun z hz => by
    obtain ⟨cs, hcs⟩ := LB.in h1 z (List.mem_append.2 (.inl hz))
    refine ⟨fun e => ?_, (Array.getElem?_eq_some_iff.1 hcs).1⟩
    rw [e] at hcs
    rw [hcs] at h7
    injection h7 with e
    injection e with _ e
    exact absurd e (by decide)
  have hk1 := (KeepsOthers.alloc W (.cells #[.int .u64 (withI (lastI x (vals pre)) p.1), .pointer none] 109))
  have hbe : Below B W (((W.alloc (.cells #[.int .u64 (withI (lastI x (vals pre)) p.1), .pointer none] 109)).setCell ⟨b, 1, none⟩ (.pointer (some ⟨W.heap.size, 0, none⟩))).setCell ⟨l, 0, none⟩ (.pointer (some ⟨W.heap.size, 0, none⟩))) :=
    below_setCell (p := ⟨l, 0, none⟩) (below_setCell (p := ⟨b, 1, none⟩) ((Below.refl B W).alloc hBW _) h6 _) hl _
  have hcell : ∀ k, k ≠ b → k ≠ l → k < W.heap.size → (((W.alloc (.cells #[.int .u64 (withI (lastI x (vals pre)) p.1), .pointer none] 109)).setCell ⟨b, 1, none⟩ (.pointer (some ⟨W.heap.size, 0, none⟩))).setCell ⟨l, 0, none⟩ (.pointer (some ⟨W.heap.size, 0, none⟩))).heap[k]? = W.heap[k]? := fun k e1 e2 e3 => by
    rw [Below.heap_setCell _ _ _ _ (by exact e2), Below.heap_setCell _ _ _ _ (by exact e1), Below.heap_alloc _ _ _ e3]
  refine ⟨⟨?_, ?_⟩, hbe, zs ++ [(lastI x (vals pre), b)], W.heap.size, ?_, ?_, ?_, ?_, ?_, hBW, ?_, h8.trans hbe⟩
  · exact hbe.size
  · intro i o hD hi ho
    have hib : i ≠ b := fun e => by subst e; rw [hb] at hi; cases hi; cases ho
    have hil : i ≠ l := fun e => by subst e; rw [h7] at hi; cases hi; cases ho
    rw [hcell i hib hil (Array.getElem?_eq_some_iff.1 hi).1]
    exact hi
  · rw [vals_snoc, lastI_snoc]
    refine LB.snoc h1 (fun z hz => hcell _ (h4 z hz) (hzl z hz).1 (hzl z hz).2) ?_ ?_
    · rw [Below.heap_setCell _ _ _ _ (by exact hbl)]
      exact heap_setCell_same _ b 1 _ 109 _ ((Below.heap_alloc _ _ _ hbs).trans hb)
    · rw [Below.heap_setCell _ _ _ _ (by show W.heap.size ≠ l; omega), Below.heap_setCell _ _ _ _ (by show W.heap.size ≠ b; omega)]
      exact heap_alloc_new W _
  · rw [vals_snoc, lkI_snoc, List.map_append, h2, lastI_snoc]; rfl
  · rw [hd_app]; exact h3
  · intro z hz
    rcases List.mem_append.1 hz with hz | hz
    · have := (hzl z hz).2; omega
    · rw [List.mem_singleton.1 hz]; show b ≠ _; omega
  · intro z hz
    rcases List.mem_append.1 hz with hz | hz
    · exact h5 z hz
    · rw [List.mem_singleton.1 hz]; exact h6
  · refine heap_setCell_same _ l 0 #[.pointer (some ⟨b, 0, none⟩)] 69 (.pointer (some ⟨W.heap.size, 0, none⟩)) ?_
    rw [Below.heap_setCell _ _ _ _ (by exact fun e => hbl e.symm), Below.heap_alloc _ _ _ hls]
    exact h7

end
section
/- A region that draws its order, in a round of a range over a function. -/
open Go.ChangeShapes Go.WideShapes Go.ChangeAt Go.RowKit Go.Shelf

/-- an operation in a round, out of the same operation outside of one. -/
theorem upon_lift {P : Program} {l n : Nat} {o : Oper} {a : Act} {K : Act → World → Prop} {Q : Exit → Act → World → Prop} {r : Result Next} (h : o.upon P a K Q r) : o.uponIn (Fence.wide.inRound l) n P a K Q r := by
  cases r with
  | ok x w' =>
    cases x with
    | value v => exact h
    | skip => exact h
    | defer d => exact h
    | enter f args => exact ⟨fun h => (by cases h), callsIn_wide.2 h⟩
    | row row args => exact ⟨fun h => (by cases h), fun c cs _ => let ⟨v, w', r, s⟩ := h c cs; ⟨v, w', r, stepsIn_wide.2 s⟩⟩
    | _ => exact h.elim
  | halt x w' => cases x <;> exact h
theorem wp_lift {P : Program} {l n : Nat} {o : Oper} {a : Act} {w : World} {K : Act → World → Prop} {Q : Exit → Act → World → Prop} (hd : ∀ c, o.op ≠ .defer c) (h : o.wp P a w K Q) : o.wpIn (Fence.wide.inRound l) n P a w K Q := by
  refine ⟨fun _ _ => trivial, ?_⟩
  rw [Oper.semAt_plain (Fence.wide.inRound l) _ _ hd]
  exact upon_lift h
theorem op_lift {P : Program} {l n : Nat} {ops : Array Oper} {i : Nat} {a : Act} {w : World} {K K' : Act → World → Prop} {Q : Exit → Act → World → Prop} (hQ : ¬ LetsOut Q) (hd : ∀ o, ops[i]? = some o → ∀ c, o.op ≠ .defer c) (hK : ∀ a w, K a w → K' a w) (h : wpOp P ops Q i K a w) : wpOpIn (Fence.wide.inRound l) n P ops Q i K' a w := by
  unfold wpOp at h
  unfold wpOpIn
  cases ho : ops[i]? with
  | none => rw [ho] at h; exact hK _ _ h
  | some o =>
    rw [ho] at h
    dsimp only at h ⊢
    split
    · rename_i hw
      rw [if_pos hw] at h
      rcases h with h | h
      · exact Oper.wpIn_mono hK (wp_lift (hd o ho) h)
      · exact absurd h.2 hQ
    · rename_i hw
      rw [if_neg hw] at h
      exact ⟨fun _ _ => trivial, hK _ _ h⟩
theorem any_lift {P : Program} {l n : Nat} {md : Region.Mode} {ops : Array Oper} {Q : Exit → Act → World → Prop} (hQ : ¬ LetsOut Q) (hd : ∀ (i : Nat) (o : Oper), ops[i]? = some o → ∀ c : Call, o.op ≠ .defer c) :
    ∀ (fuel : Nat) (listed : Array Bool) (a : Act) (w : World), wpAny P md ops Q fuel listed a w → wpAnyIn (Fence.wide.inRound l) n P md ops Q fuel listed a w
  | 0, _, _, _, h => h
  | fuel + 1, _, _, _, h => ⟨h.1, fun i hi => op_lift hQ (hd i) (fun a w h => any_lift hQ hd fuel _ a w h) (h.2 i hi)⟩
/-- a region that draws its order, in a round. -/
theorem region_lift {P : Program} {l n id : Nat} {ops : Array Oper} {Q : Exit → Act → World → Prop} {a : Act} {w : World} (hm : P.follows .mixedOrders = true) (hQ : ¬ LetsOut Q) (hd : ∀ (i : Nat) (o : Oper), ops[i]? = some o → ∀ c : Call, o.op ≠ .defer c)
    (h : wpAny P .any ops Q ops.size (Array.replicate ops.size false) a { w with drawn := w.drawn + 1 }) : (Code.region id ops true).wpIn (Fence.wide.inRound l) n P Q a w :=
  wpIn_region_any hm (any_lift hQ hd _ _ _ _ h)
theorem no_defer {ops : Array Oper} (h : ops.toList.all (fun o => match o.op with | .defer _ => false | _ => true) = true) : ∀ (i : Nat) (o : Oper), ops[i]? = some o → ∀ c : Call, o.op ≠ .defer c := fun i o ho c e => by
  have hm : o ∈ ops.toList := by rw [Array.mem_toList_iff]; exact Array.mem_of_getElem? ho
  have := List.all_eq_true.1 h o hm
  rw [e] at this
  cases this
/-- a region that draws its order and only reads but for its last operations, in a round: in the order of the text. -/
theorem region_still_in {P : Program} {l₀ m id : Nat} {Q : Exit → Act → World → Prop} {a : Act} {w : World} {l : List Oper} (n : Nat) (hm : P.follows .mixedOrders = true) (hQ : ¬ LetsOut Q) (hd : ∀ (i : Nat) (o : Oper), l.toArray[i]? = some o → ∀ c : Call, o.op ≠ .defer c) (hB : Region.lexTailB .any l.toArray n = true)
    (h : wpStill P l.toArray { w with drawn := w.drawn + 1 } (fun a' => wpList P l.toArray Q (l.drop n) a' { w with drawn := w.drawn + 1 }) (l.take n) a) : (Code.region id l.toArray true).wpIn (Fence.wide.inRound l₀) m P Q a w := by
  simp only [Region.lexTailB, Bool.and_eq_true, decide_eq_true_eq] at hB
  obtain ⟨⟨⟨⟨hsel, hn⟩, hs⟩, hc⟩, hlex⟩ := hB
  have hn' : n < l.length := by simpa using hn
  have htl : (l.take n).length = n := by simp; omega
  have hdl : (l.drop n).length = l.toArray.size - n := by simp
  have inv0 : HeadInv .any l.toArray n (Array.replicate l.toArray.size false) :=
    ⟨by simp, fun j oj _ hl => (by rw [getD_replicate_false] at hl; cases hl), fun t _ ht => getD_in (by simpa using ht) (getD_replicate_false _ _)⟩
  have H := wpAnyL_lex (md := .any) (g := l.toArray.size - n) hsel hs hc hn (l.take n) 0 _ a (fun j hj => by
    have hj' : j < n := by rw [htl] at hj; exact hj
    simp [hj']) (by simpa using htl) inv0 (by rw [htl]; exact hlex) h
  refine region_lift hm hQ hd ?_
  have := wpAny_of_head (Q' := Q) (g := l.toArray.size - n) (fun listed a' hL => by
    have := wpAny_of_seq (md := .any) (Q' := Q) (l.drop n) n listed a' { w with drawn := w.drawn + 1 } (fun j => by simp [List.getElem?_drop]) (by rw [hdl]; exact hL.1) hL.2
    rwa [hdl] at this) _ _ _ H
  rw [htl, show n + (l.toArray.size - n) = l.toArray.size by omega] at this
  exact this

end
section
/- The program's chainOf. -/
open Go.ChangeShapes Go.WideShapes Go.ChangeAt Go.RowKit Go.Shelf
attribute [local go_sem] Oper.semAt_some

theorem keeps_drew {B : Nat} {W W' : World} (h : KeepsFrom B W W') : KeepsFrom B W W'.drew := ⟨h.size, h.same⟩
theorem JC.drew {B : Nat} {w : World} {x : Int} {b0 l : Nat} {q : Int} {pre : List (PtOf q)} {W : World} (h : JC B w x b0 l pre W) : JC B w x b0 l pre W.drew := JC.kept (W' := W.drew) h (fun _ _ _ h => h) (Below.refl B W).drew
theorem last_bd {q : Int} : ∀ {ps : List (PtOf q)} {x : Int}, 0 ≤ x → x < 256 → 0 ≤ lastI x (vals ps) ∧ lastI x (vals ps) < 256
  | [], _, h1, h2 => ⟨h1, h2⟩
  | ⟨_, p1, p2, _⟩ :: ps, _, h1, h2 => by
    have := with_bd8 h1 h2 p1 p2
    exact last_bd (ps := ps) this.1 this.2
set_option maxRecDepth 100000 in
set_option maxHeartbeats 4000000 in
theorem chain_of (N : Nat) (s : Int) (w : World) (hT : Tab w) (h1 : 1 ≤ N) (h8 : N ≤ 8) (s1 : 0 ≤ s) (s2 : s < 256) :
    Calls Tryz.prog 44 #[.int .i64 (N : Nat), .int .u64 s] w fun e w' => ∃ p, e = .returned p ∧ LinkV w' (chnL N s) p ∧ Below w.heap.size w w' := by
  have hpart := Lib.hid (partners_at N s w h1 h8 s1 s2)
  have hlt := hT.lt
  have n1 : (1 : Int) ≤ (N : Nat) := by omega
  have n8 : (N : Int) ≤ 8 := by omega
  refine (callsIn_wide (n := 10)).1 ?_
  refine callsIn_of_wp_marks Tryz.func44 rfl trivial ?_ rfl
  simp only [Tryz.ntmps44, List.size_toArray, List.length_cons, List.length_nil, Nat.reduceAdd, Nat.reduceSub, Array.replicate_succ, Array.replicate_zero, List.push_toArray, List.append_toArray, List.nil_append, List.cons_append]
  gi_wp2_with (first | (refine ⟨trivial, ?_⟩; gi_at_call 71; refine (callsIn_wide.2 hpart.out).mono ?_; rintro e w1 ⟨v, rfl, hO, hb1⟩; obtain ⟨pa, pc, rfl⟩ := hO.form))
  have hPl := pr_len s N N
  obtain ⟨P, hP⟩ : ∃ P, pairL s N N = P := ⟨_, rfl⟩
  rw [hP] at hO hPl ⊢
  obtain ⟨ra, rc, hre, hrow⟩ := hO.own.row
  cases hre
  rw [hPl] at hrow ⊢
  have hzw := hb1.size
  have hchn : lkI (cutI s P N).1 (ptsI (cutI s P N).2) = chnL N s := by unfold chnL; rw [hP]
  replace hP := Lib.hid hP
  replace hO := Lib.hid hO
  replace hrow := Lib.hid hrow
  replace hchn := Lib.hid hchn
  replace hT := Lib.hid (hT.below hb1 hlt)
  replace hb1 := Lib.hid hb1
  gi_loopw [5, 6, 16] (fun a b i wr => wr = w1 ∧ ∃ k : Nat, k ≤ N ∧ i = .int .i64 (k : Nat) ∧ a = .int .u64 (cutI s P k).1 ∧ b = .int .u64 (cutI s P k).2) (fun _ _ i _ => N - (intOf i).toNat)
  case atStart => exact ⟨rfl, 0, by omega, rfl, rfl, rfl⟩
  case round =>
    obtain ⟨rfl, k, hk, rfl, rfl, rfl⟩ := hrel
    obtain ⟨⟨a1, a2⟩, b1, b2⟩ := cut_bd s P k (by omega)
    by_cases hkN : k < N
    · obtain ⟨g, off, rfl, hg1, hgc⟩ := hrow.out (by omega)
      have k1 : (0 : Int) ≤ (k : Int) := by omega
      have k2 : (k : Int) < (N : Nat) := by omega
      have k7 : (k : Int) ≤ 7 := by omega
      have e1 := hgc k (by omega)
      have hst : cutI s P (k + 1) = if P.getD k 0 < 0 then ((cutI s P k).1, withI (cutI s P k).2 (k : Nat)) else if hasB s (k : Nat) then (withI (cutI s P k).1 (k : Nat), (cutI s P k).2) else cutI s P k := rfl
      obtain ⟨y, hy⟩ : ∃ y, P.getD k 0 = y := ⟨_, rfl⟩
      obtain ⟨cc, hcc⟩ : ∃ cc, cutI s P k = cc := ⟨_, rfl⟩
      obtain ⟨ca, cb⟩ := cc
      rw [hy] at e1 hst
      rw [hcc] at hst a1 a2 b1 b2 ⊢
      dsimp only at a1 a2 b1 b2 hst ⊢
      have hwa := Lib.hid (fun W => set_with ca (k : Nat) a1 a2 k1 k7 W)
      have hwb := Lib.hid (fun W => set_with cb (k : Nat) b1 b2 k1 k7 W)
      have hhas := fun W => set_has s (k : Nat) s1 s2 k1 k7 W
      obtain ⟨hb, hhb⟩ : ∃ b, hasB s (k : Nat) = b := ⟨_, rfl⟩
      rw [hhb] at hhas hst
      replace hhas := Lib.hid hhas
      replace hhb := Lib.hid hhb
      replace hy := Lib.hid hy
      replace hcc := Lib.hid hcc
      clear hgc
      by_cases hneg : y < 0
      · rw [if_pos hneg] at hst
        replace hst := Lib.hid hst
        gi_wp2_with (first | (refine ⟨trivial, ?_⟩; gi_at_call 72; (with_reducible refine (callsIn_wide.2 (hwb.out _)).mono ?_); rintro e w' ⟨rfl, rfl⟩))
        go_roundw
        case rel => exact ⟨trivial, k + 1, by omega, by first | rfl | go_num, by rw [hst.out], by rw [hst.out]⟩
        case measure => simp [intOf]; omega
      · rw [if_neg hneg] at hst
        rcases (by cases hb <;> simp : hb = true ∨ hb = false) with rfl | rfl
        · rw [if_pos rfl] at hst
          replace hst := Lib.hid hst
          gi_wp2_with (first | (refine ⟨trivial, ?_⟩; gi_at_call 73; refine (callsIn_wide.2 (hhas.out _)).mono ?_; rintro e w' ⟨rfl, rfl⟩) | (refine ⟨trivial, ?_⟩; gi_at_call 72; (with_reducible refine (callsIn_wide.2 (hwa.out _)).mono ?_); rintro e w' ⟨rfl, rfl⟩))
          go_roundw
          case rel => exact ⟨trivial, k + 1, by omega, by first | rfl | go_num, by rw [hst.out], by rw [hst.out]⟩
          case measure => simp [intOf]; omega
        · rw [if_neg (by simp)] at hst
          replace hst := Lib.hid hst
          gi_wp2_with (first | (refine ⟨trivial, ?_⟩; gi_at_call 73; refine (callsIn_wide.2 (hhas.out _)).mono ?_; rintro e w' ⟨rfl, rfl⟩))
          go_roundw
          case rel => exact ⟨trivial, k + 1, by omega, by first | rfl | go_num, by rw [hst.out], by rw [hst.out]⟩
          case measure => simp [intOf]; omega
    · obtain rfl : k = N := by omega
      obtain ⟨cc, hcc⟩ : ∃ cc, cutI s P k = cc := ⟨_, rfl⟩
      obtain ⟨ca, cb⟩ := cc
      rw [hcc] at hchn a1 a2 b1 b2 ⊢
      dsimp only at a1 a2 b1 b2 hchn ⊢
      replace hcc := Lib.hid hcc
      gi_wp2_with (first | (refine ⟨trivial, ?_⟩; gi_at_call 48; refine (pts_make _ _).mono ?_; rintro e w' ⟨rfl, rfl⟩))
      have hzz := hzw
      have hW0 : Below w.heap.size w (((wr.alloc (.cells #[.int .u64 ca, .pointer none] 109)).alloc (.cells #[.pointer (some ⟨wr.heap.size, 0, none⟩)] 69)).alloc (.cells #[.int .u64 cb] 72)) :=
        ((hb1.out.alloc hzw _).alloc (by simp; omega) _).alloc (by simp; omega) _
      have bL : ((wr.alloc (.cells #[.int .u64 ca, .pointer none] 109)).alloc (.cells #[.pointer (some ⟨wr.heap.size, 0, none⟩)] 69)).heap[wr.heap.size]? = some (.cells #[.int .u64 ca, .pointer none] 109 (0, 0)) := by
        rw [Below.heap_alloc _ _ _ (by simp)]; exact heap_alloc_new wr _
      have bO := heap_alloc_new (wr.alloc (.cells #[.int .u64 ca, .pointer none] 109)) (.cells #[.pointer (some ⟨wr.heap.size, 0, none⟩)] 69)
      have bN := Boxed.new ((wr.alloc (.cells #[.int .u64 ca, .pointer none] 109)).alloc (.cells #[.pointer (some ⟨wr.heap.size, 0, none⟩)] 69)) 72 (.int .u64 cb)
      simp only [World.size_alloc] at bO bN
      refine wpIn_rangeFunc_ownG rfl (by omega) (gf := 77) (lb := #[.pointer (some ⟨wr.heap.size + 1 + 1, 0, none⟩)]) rfl trivial (enters_of Tryz.func77 (by kernel_rfl) rfl)
        (pts_stops _ (by omega) (wr.heap.size + 1 + 1) w.heap.size cb b1 b2 _ (by simp) bN.cell (hT.out.below (((Below.refl wr.heap.size wr).alloc (Nat.le_refl _) _ |>.alloc (by simp) _).alloc (by simp; omega) _) (by omega)) hlt) belowK_t (belowK_b (by simp; omega)) (Below.refl _ _) (fun _ => rfl)
        (fun (pre : List (PtOf cb)) W => JC w.heap.size w ca wr.heap.size (wr.heap.size + 1) pre W)
        (fun _ _ _ => False)
        (JC.own (Nat.le_refl _) (by simp; omega))
        (fun _ _ _ _ _ hs _ _ => hs)
        ⟨[], wr.heap.size, ⟨(Below.heap_alloc _ _ _ (by simp; omega)).trans bL, trivial⟩, rfl, rfl, by simp, by simp, hzw, (Below.heap_alloc _ _ _ (by simp)).trans bO, hW0⟩
        (fun x => { tmps := #[.int .i64 (k : Nat), .int .u64 s, undef, undef, .pointer none, .int .u64 ca, .int .u64 cb, u7, u8, .pointer (some ⟨wr.heap.size, 0, none⟩), .pointer (some ⟨wr.heap.size + 1, 0, none⟩), .int .i64 x.1, .int .i64 (k : Nat), .int .u64 s, .slice pa k pc, .int .i64 (k : Nat), .int .i64 (k : Nat), .bool false, u18, u19, u20, u21, u22, u23, u24, u25, u26, u27, u28, u29, u30, u31, u32, .int .u64 ca, .agg #[.int .u64 ca, .pointer none], .pointer (some ⟨wr.heap.size, 0, none⟩), .pointer (some ⟨wr.heap.size, 0, none⟩), .int .u64 cb, .func (.func 77) #[] #[.pointer (some ⟨wr.heap.size + 1 + 1, 0, none⟩)], .int .i64 x.1, undef, undef, undef, undef, undef, undef, undef, undef, undef, undef, undef, undef, undef, undef, undef, undef], defers := [] }) ?assign ?body ?done ?stop
      case assign =>
        intro l x W K hK
        gi_wp2
        exact hK
      case body =>
        rintro l pre ⟨p, p1, p2, p3⟩ W ⟨zs, b, q1, q2, q3, q4, q5, q6, q7, q8⟩ hlen2
        have hsx := last_bd (ps := pre) a1 a2
        obtain ⟨sx, hsx0⟩ : ∃ sx, lastI ca (vals pre) = sx := ⟨_, rfl⟩
        have hstep := JC.step (D := (((wr.alloc (.cells #[.int .u64 ca, .pointer none] 109)).alloc (.cells #[.pointer (some ⟨wr.heap.size, 0, none⟩)] 69)).alloc (.cells #[.int .u64 cb] 72)).heap.size) (p := ⟨p, p1, p2, p3⟩) q1 q2 q3 q4 q5 q6 q7 q8 (Nat.le_refl _) (by omega) _ rfl
        have hb := LB.last q1
        rw [hsx0] at hb hsx hstep
        dsimp only at hstep
        obtain ⟨t, ht⟩ : ∃ t, withI sx p = t := ⟨_, rfl⟩
        have hwi := fun W => set_with sx p hsx.1 hsx.2 p1 p2 W
        rw [ht] at hwi hstep
        replace hwi := Lib.hid hwi
        obtain ⟨c0, c1⟩ := link_cells hb
        have c2 : W.cell? ⟨wr.heap.size + 1, 0, none⟩ = some (.pointer (some ⟨b, 0, none⟩)) := by rw [cell_of_row W _ 0 _ 69 (0, 0) q7]; rfl
        have c3 : (W.alloc (.cells #[.int .u64 t, .pointer none] 109)).cell? ⟨wr.heap.size + 1, 0, none⟩ = some (.pointer (some ⟨b, 0, none⟩)) := by rw [cell_of_row _ _ 0 _ 69 (0, 0) ((Below.heap_alloc _ _ _ (Array.getElem?_eq_some_iff.1 q7).1).trans q7)]; rfl
        have hbl : b ≠ wr.heap.size + 1 := fun e => by rw [e, q7] at hb; injection hb with hb; injection hb with _ hb; exact absurd hb (by decide)
        have hbs : b < W.heap.size := (Array.getElem?_eq_some_iff.1 hb).1
        have g1 := (Below.heap_alloc W (.cells #[.int .u64 t, .pointer none] 109) _ hbs).trans hb
        have g2 := (Below.heap_alloc W (.cells #[.int .u64 t, .pointer none] 109) _ (Array.getElem?_eq_some_iff.1 q7).1).trans q7
        obtain ⟨-, c4⟩ := link_cells g1
        have f4 : (W.alloc (.cells #[.int .u64 t, .pointer none] 109)).frozen? ⟨b, 1, none⟩ = false := by simp [World.frozen?, g1]
        have g3 := heap_setCell_same _ b 1 _ 109 (.pointer (some ⟨W.heap.size, 0, none⟩)) g1
        have c6 : ((W.alloc (.cells #[.int .u64 t, .pointer none] 109)).setCell ⟨b, 1, none⟩ (.pointer (some ⟨W.heap.size, 0, none⟩))).cell? ⟨b, 1, none⟩ = some (.pointer (some ⟨W.heap.size, 0, none⟩)) := by rw [cell_of_row _ b 1 _ 109 (0, 0) g3]; rfl
        have g4 : ((W.alloc (.cells #[.int .u64 t, .pointer none] 109)).setCell ⟨b, 1, none⟩ (.pointer (some ⟨W.heap.size, 0, none⟩))).heap[wr.heap.size + 1]? = some (.cells #[.pointer (some ⟨b, 0, none⟩)] 69 (0, 0)) := (Below.heap_setCell _ _ _ _ (by exact fun e => hbl e.symm)).trans g2
        have c5 : ((W.alloc (.cells #[.int .u64 t, .pointer none] 109)).setCell ⟨b, 1, none⟩ (.pointer (some ⟨W.heap.size, 0, none⟩))).cell? ⟨wr.heap.size + 1, 0, none⟩ = some (.pointer (some ⟨b, 0, none⟩)) := by rw [cell_of_row _ _ 0 _ 69 (0, 0) g4]; rfl
        have f5 : ((W.alloc (.cells #[.int .u64 t, .pointer none] 109)).setCell ⟨b, 1, none⟩ (.pointer (some ⟨W.heap.size, 0, none⟩))).frozen? ⟨wr.heap.size + 1, 0, none⟩ = false := by simp [World.frozen?, g4]
        have hcm := World.setCell_alloc_past (w := W) (.cells #[.int .u64 t, .pointer none] 109) b 1 (.pointer (some ⟨W.heap.size, 0, none⟩)) hbs
        have hcm2 := World.setCell_alloc_past (w := W.setCell ⟨b, 1, none⟩ (.pointer (some ⟨W.heap.size, 0, none⟩))) (.cells #[.int .u64 t, .pointer none] 109) (wr.heap.size + 1) 0 (.pointer (some ⟨W.heap.size, 0, none⟩)) (by rw [World.size_setCell]; exact (Array.getElem?_eq_some_iff.1 q7).1)
        rw [hcm] at c5 c6 f5 hstep
        rw [hcm2] at hstep
        have hfin := And.intro (keeps_drew hstep.1) (And.intro hstep.2.1.drew hstep.2.2.drew)
        clear g1 g2 g3 g4
        clear hstep
        replace hfin := Lib.hid hfin
        gi_wp2
        refine region_lift (by kernel_rfl) (fun ⟨_, _, h⟩ => h) (no_defer (by kernel_rfl)) ?_
        change wpAny _ _ _ _ _ _ _ W.drew
        refine wpAny_take (i := 5) rfl (by kernel_rfl) (by kernel_rfl) (by kernel_rfl) (fun _ _ _ h => h) (Or.inl ⟨by rfl, fun w => by go_simp <;> rfl⟩) ?_
        refine wpAny_ready (rs := [0, 1]) (by kernel_rfl) (by simp) ?_
        refine AllReady.cons rfl (fun K hK => ?_) ?_
        · go_simp
          refine hK _ _ ?_
          clear hK K
          refine wpAny_ready (rs := [1]) (by kernel_rfl) (by simp) ?_
          refine AllReady.cons rfl (fun K hK => ?_) ?_
          · go_simp
            refine hK _ _ ?_
            clear hK K
            refine wpAny_take (i := 2) rfl (by kernel_rfl) (by kernel_rfl) (by kernel_rfl) (fun _ _ _ h => h) (Or.inl ⟨by rfl, fun w => by go_simp <;> rfl⟩) ?_
            refine wpAny_take (i := 3) rfl (by kernel_rfl) (by kernel_rfl) (by kernel_rfl) (fun _ _ _ h => h) (Or.inl ⟨by rfl, fun w => by go_simp <;> rfl⟩) ?_
            refine wpAny_ready (rs := [4]) (by kernel_rfl) (by simp) ?_
            refine AllReady.cons rfl (fun K hK => ?_) ?_
            · go_simp
              refine hK _ _ ?_
              clear hK K
              refine wpAny_ready (rs := [6]) (by kernel_rfl) (by simp) ?_
              refine AllReady.cons rfl (fun K hK => ?_) ?_
              · go_simp
                refine (hwi.out _).mono ?_; rintro e w' ⟨rfl, rfl⟩; dsimp only
                refine hK _ _ ?_
                clear hK K
                refine wpAny_take (i := 7) rfl (by kernel_rfl) (by kernel_rfl) (by kernel_rfl) (fun _ _ _ h => h) (Or.inl ⟨by rfl, fun w => by go_simp <;> rfl⟩) ?_
                refine wpAny_ready (rs := [8]) (by kernel_rfl) (by simp) ?_
                refine AllReady.cons rfl (fun K hK => ?_) ?_
                · go_simp
                  refine hK _ _ ?_
                  clear hK K
                  refine wpAny_of_seq _ 9 _ _ _ (fun j => by match j with | 0 => rfl | 1 => rfl | 2 => rfl | j + 3 => exact (Array.getElem?_eq_none (by simp; omega)).symm) (by kernel_rfl) ?_
                  go_wp2_with fail
                  gi_wp2
                  exact hfin.out
                exact AllReady.nil
              exact AllReady.nil
            exact AllReady.nil
          exact AllReady.nil
        refine AllReady.cons rfl (fun K hK => ?_) ?_
        · go_simp
          refine hK _ _ ?_
          clear hK K
          refine wpAny_take (i := 2) rfl (by kernel_rfl) (by kernel_rfl) (by kernel_rfl) (fun _ _ _ h => h) (Or.inl ⟨by rfl, fun w => by go_simp <;> rfl⟩) ?_
          refine wpAny_take (i := 3) rfl (by kernel_rfl) (by kernel_rfl) (by kernel_rfl) (fun _ _ _ h => h) (Or.inl ⟨by rfl, fun w => by go_simp <;> rfl⟩) ?_
          refine wpAny_ready (rs := [0, 4]) (by kernel_rfl) (by simp) ?_
          refine AllReady.cons rfl (fun K hK => ?_) ?_
          · go_simp
            refine hK _ _ ?_
            clear hK K
            refine wpAny_ready (rs := [4]) (by kernel_rfl) (by simp) ?_
            refine AllReady.cons rfl (fun K hK => ?_) ?_
            · go_simp
              refine hK _ _ ?_
              clear hK K
              refine wpAny_ready (rs := [6]) (by kernel_rfl) (by simp) ?_
              refine AllReady.cons rfl (fun K hK => ?_) ?_
              · go_simp
                refine (hwi.out _).mono ?_; rintro e w' ⟨rfl, rfl⟩; dsimp only
                refine hK _ _ ?_
                clear hK K
                refine wpAny_take (i := 7) rfl (by kernel_rfl) (by kernel_rfl) (by kernel_rfl) (fun _ _ _ h => h) (Or.inl ⟨by rfl, fun w => by go_simp <;> rfl⟩) ?_
                refine wpAny_ready (rs := [8]) (by kernel_rfl) (by simp) ?_
                refine AllReady.cons rfl (fun K hK => ?_) ?_
                · go_simp
                  refine hK _ _ ?_
                  clear hK K
                  refine wpAny_of_seq _ 9 _ _ _ (fun j => by match j with | 0 => rfl | 1 => rfl | 2 => rfl | j + 3 => exact (Array.getElem?_eq_none (by simp; omega)).symm) (by kernel_rfl) ?_
                  go_wp2_with fail
                  gi_wp2
                  exact hfin.out
                exact AllReady.nil
              exact AllReady.nil
            exact AllReady.nil
          refine AllReady.cons rfl (fun K hK => ?_) ?_
          · go_simp
            refine hK _ _ ?_
            clear hK K
            refine wpAny_ready (rs := [0, 6]) (by kernel_rfl) (by simp) ?_
            refine AllReady.cons rfl (fun K hK => ?_) ?_
            · go_simp
              refine hK _ _ ?_
              clear hK K
              refine wpAny_ready (rs := [6]) (by kernel_rfl) (by simp) ?_
              refine AllReady.cons rfl (fun K hK => ?_) ?_
              · go_simp
                refine (hwi.out _).mono ?_; rintro e w' ⟨rfl, rfl⟩; dsimp only
                refine hK _ _ ?_
                clear hK K
                refine wpAny_take (i := 7) rfl (by kernel_rfl) (by kernel_rfl) (by kernel_rfl) (fun _ _ _ h => h) (Or.inl ⟨by rfl, fun w => by go_simp <;> rfl⟩) ?_
                refine wpAny_ready (rs := [8]) (by kernel_rfl) (by simp) ?_
                refine AllReady.cons rfl (fun K hK => ?_) ?_
                · go_simp
                  refine hK _ _ ?_
                  clear hK K
                  refine wpAny_of_seq _ 9 _ _ _ (fun j => by match j with | 0 => rfl | 1 => rfl | 2 => rfl | j + 3 => exact (Array.getElem?_eq_none (by simp; omega)).symm) (by kernel_rfl) ?_
                  go_wp2_with fail
                  gi_wp2
                  exact hfin.out
                exact AllReady.nil
              exact AllReady.nil
            refine AllReady.cons rfl (fun K hK => ?_) ?_
            · go_simp
              refine (hwi.out _).mono ?_; rintro e w' ⟨rfl, rfl⟩; dsimp only
              refine hK _ _ ?_
              clear hK K
              refine wpAny_take (i := 7) rfl (by kernel_rfl) (by kernel_rfl) (by kernel_rfl) (fun _ _ _ h => h) (Or.inl ⟨by rfl, fun w => by go_simp <;> rfl⟩) ?_
              refine wpAny_ready (rs := [0, 8]) (by kernel_rfl) (by simp) ?_
              refine AllReady.cons rfl (fun K hK => ?_) ?_
              · go_simp
                refine hK _ _ ?_
                clear hK K
                refine wpAny_ready (rs := [8]) (by kernel_rfl) (by simp) ?_
                refine AllReady.cons rfl (fun K hK => ?_) ?_
                · go_simp
                  refine hK _ _ ?_
                  clear hK K
                  refine wpAny_of_seq _ 9 _ _ _ (fun j => by match j with | 0 => rfl | 1 => rfl | 2 => rfl | j + 3 => exact (Array.getElem?_eq_none (by simp; omega)).symm) (by kernel_rfl) ?_
                  go_wp2_with fail
                  gi_wp2
                  exact hfin.out
                exact AllReady.nil
              refine AllReady.cons rfl (fun K hK => ?_) ?_
              · go_simp
                refine hK _ _ ?_
                clear hK K
                refine wpAny_ready (rs := [0]) (by kernel_rfl) (by simp) ?_
                refine AllReady.cons rfl (fun K hK => ?_) ?_
                · go_simp
                  refine hK _ _ ?_
                  clear hK K
                  refine wpAny_of_seq _ 9 _ _ _ (fun j => by match j with | 0 => rfl | 1 => rfl | 2 => rfl | j + 3 => exact (Array.getElem?_eq_none (by simp; omega)).symm) (by kernel_rfl) ?_
                  go_wp2_with fail
                  gi_wp2
                  exact hfin.out
                exact AllReady.nil
              exact AllReady.nil
            exact AllReady.nil
          exact AllReady.nil
        exact AllReady.nil
      case done =>
        rintro D ys W hD hys hJ hK
        obtain ⟨zs, b, q1, q2, q3, q4, q5, q6, q7, q8⟩ := hJ
        gi_wp2
        refine ⟨by simp, .inl ⟨_, _, rfl, run_takeDeferred hK, ?_⟩⟩
        have hlk := LB.link q1
        rw [q2, q3, hys, hchn.out] at hlk
        refine ⟨_, results_tmp rfl _ _ _, _, rfl, hlk.kept (fun c cs hc => ?_), q8.trans (belowK_b (w := w) (Nat.le_refl _) W D _ _ (by simp at hD; omega) hK rfl rfl)⟩
        rw [World.putObj_heap_other (fun e => by subst e; rw [hK] at hc; cases hc)]
        exact hc
      case stop =>
        rintro D c pre W _ _ h _
        exact h.elim

end
section
/- The model's pairs, and the exact law of ChainPairs. -/
open Go.ChangeShapes Go.WideShapes Go.ChangeAt Go.RowKit Go.Proofs

set_option maxHeartbeats 8000000 in
theorem l5pairs_at (N : Nat) (s : Int) (w : World) (h8 : N ≤ 8) (s1 : 0 ≤ s) (s2 : s < 256) :
    Calls Tryz.prog 75 #[.int .i64 (N : Nat), .int .i64 s] w (IntsPost (pairL s N N) w) := by
  have h80 : (N : Int) ≤ 8 := by omega
  have hV0 := Lib.hid ((OwnL.lit w (Nat.le_refl w.heap.size)).alloc (.cells #[] 3))
  have hO0 := OwnL.lit (w.alloc (.cells #[] 3)) (B := w.heap.size) (by simp)
  rw [World.size_alloc] at hO0
  replace hO0 := Lib.hid hO0
  have hne0 := Lib.hid (show (Value.slice (some ⟨w.heap.size, 0, none⟩) 0 0).ownBlock ≠ (Value.slice (some ⟨w.heap.size + 1, 0, none⟩) 0 0).ownBlock from fun e => by simp [Value.ownBlock] at e)
  have hB0 := Lib.hid (((Below.refl w.heap.size w).alloc (Nat.le_refl _) (.cells #[] 3)).alloc (by simp) (.cells #[] 3))
  go_enter Tryz.func75, Tryz.ntmps75
  go_wp2_with fail
  go_loopw [5, 6, 7] (fun v o i wr => ∃ k : Nat, k ≤ N ∧ i = .int .i64 k ∧ Hid (OwnL wr w.heap.size v (pairL s k k)) ∧ Hid (OwnL wr w.heap.size o (wtL s k)) ∧ Hid (v.ownBlock ≠ o.ownBlock) ∧ Hid (Below w.heap.size w wr)) (fun _ _ i _ => N - (intOf i).toNat)
  case atStart => exact ⟨0, by omega, rfl, hV0, hO0, hne0, hB0⟩
  case round =>
    obtain ⟨k, hk, rfl, hV, hO, hne, hbel⟩ := hrel
    have hsz := hbel.out.size
    by_cases hlt : k < N
    · have k1 : (0 : Int) ≤ (k : Int) := by omega
      have k2 : (k : Int) < (N : Nat) := by omega
      have k7 : (k : Int) ≤ 7 := by omega
      obtain ⟨hb, hhb⟩ : ∃ b, hasB s (k : Nat) = b := ⟨_, rfl⟩
      have hhas := fun W => l1has s (k : Nat) s1 s2 k1 k7 W
      rw [hhb] at hhas
      replace hhas := Lib.hid hhas
      have hgr := pr_grow s k k (Nat.le_refl _)
      have hlv : (pairL s k k).length ≤ 1073741824 := by rw [pr_len]; omega
      have hlk := pr_len s (k + 1) k
      obtain ⟨xs, hxs⟩ : ∃ xs, pairL s k k = xs := ⟨_, rfl⟩
      rw [hxs] at hV hgr hlv
      obtain ⟨a', c', rfl⟩ := hV.out.form
      have hB1 : w.heap.size ≤ (wr.alloc (.cells #[.int .i64 (-1)] 3)).heap.size := by rw [World.size_alloc]; omega
      replace hgr := Lib.hid hgr
      replace hlk := Lib.hid hlk
      replace hhb := Lib.hid hhb
      replace hxs := Lib.hid hxs
      go_wp2_with (at_builtin; refine app_int_at rfl _ _ rfl w.heap.size _ xs rfl (hV.out.alloc _) (-1) wr.heap.size rfl (cell_new _ _ _) hlv hB1 ?_; intro v1 w1 hown1 hg1 hat1)
      rw [← hgr.out] at hown1
      have hb1 := Lib.hid (below_own (hbel.out.alloc hsz _) hg1 (hV.out.alloc _) hB1)
      have hO1 := Lib.hid ((hO.out.alloc (.cells #[.int .i64 (-1)] 3)).grown hg1 hne.out.symm)
      have hne1 := Lib.hid (show v1.ownBlock ≠ u6.ownBlock from fun e => by
        rcases hat1 with h | h
        · exact hne.out (h.symm.trans e)
        · rw [h] at e
          have := (World.ownsRow.lt hO.out _ e.symm).2
          rw [World.size_alloc] at this
          omega)
      obtain ⟨g, cp, rfl, hN1⟩ := OwnL.someK hown1 hlk.out
      have hsz1 := hb1.out.size
      replace hN1 := Lib.hid hN1
      clear hown1 hg1 hat1 hV hO hne hbel
      refine (hhas.out _).mono ?_
      rintro e w' ⟨rfl, rfl⟩
      rcases (by cases hb <;> simp : hb = true ∨ hb = false) with rfl | rfl
      · rcases hw : wtL s k with _ | ⟨y, ys⟩
        · have hsp : pairL s (k + 1) k = pairL s (k + 1) (k + 1) := (pr_none hw).symm
          have hso : wtL s (k + 1) = [] := by rw [wt_in hhb.out, hw]; rfl
          rw [hw] at hO1
          obtain ⟨a2, c2, rfl⟩ := hO1.out.form
          rw [hsp] at hN1
          have hO2 := Lib.hid (show OwnL w1 w.heap.size (.slice a2 0 c2) (wtL s (k + 1)) from by rw [hso]; exact hO1.out)
          have hV2 := Lib.hid hN1.out.toL
          clear hO1 hsp hso hw hN1
          go_wp2_with fail
          go_roundw
          case rel => exact ⟨k + 1, by omega, by first | rfl | go_num, hV2, hO2, hne1, hb1⟩
          case measure => simp [intOf]; omega
        · have hl : (wtL s k).length = ys.length + 1 := by rw [hw]; rfl
          have hlen := wt_len s k
          obtain ⟨q, hq⟩ : ∃ q, (wtL s k).getLast? = some q := by rw [hw]; exact ⟨_, List.getLast?_cons⟩
          obtain ⟨t, rfl, ht, hd⟩ := wt_last hq
          obtain ⟨m, hm⟩ : ∃ m, ys.length = m := ⟨_, rfl⟩
          rw [hm] at hl
          obtain ⟨g', c2, rfl, hOn⟩ := hO1.out.someK hl
          have hcap := hOn.cap.1
          have hgg : g' ≠ g := fun e => hne1.out (by rw [e]; rfl)
          have hdl : (wtL s k).dropLast.length = m := by rw [List.length_dropLast, hl]; rfl
          have e1 : w1.cell? ⟨g', m, none⟩ = some (.int .i64 (t : Nat)) := by
            rw [hOn.cell (by omega), hd, List.getD_eq_getElem?_getD, List.getElem?_append_right (by omega), hdl]
            simp
          have e2 := hN1.out.cell (i := k) (by omega)
          have e3 := hN1.out.frozen k
          have hNk := hN1.out.put k (t : Nat)
          have e4 := hNk.cell (i := t) (by omega)
          have e5 := hNk.frozen t
          have hL2 := Lib.hid (hNk.put t (k : Nat)).toL
          have hgB := hN1.out.ge.1
          have hO2 := Lib.hid (show OwnL ((w1.setCell ⟨g, k, none⟩ (.int .i64 (t : Nat))).setCell ⟨g, t, none⟩ (.int .i64 (k : Nat))) w.heap.size (.slice (some ⟨g', 0, none⟩) m c2) (wtL s (k + 1)) from by
            have h0 : OwnL w1 w.heap.size (.slice (some ⟨g', 0, none⟩) m c2) (wtL s k).dropLast := by
              have h := hOn
              rw [hd, ← hdl] at h
              have h := OwnN.pop h
              rw [hdl] at h
              exact h.toL
            rw [wt_in hhb.out]
            exact (h0.other (a := ⟨g, k, none⟩) (by simpa [Value.ownBlock] using hgg) _).other (a := ⟨g, t, none⟩) (by simpa [Value.ownBlock] using hgg) _)
          have hpr : ((pairL s (k + 1) k).set k (t : Nat)).set t (k : Nat) = pairL s (k + 1) (k + 1) := by rw [pr_in hhb.out hq]; rfl
          rw [hpr] at hL2
          have hB2 := Lib.hid (below_setCell (p := ⟨g, t, none⟩) (below_setCell (p := ⟨g, k, none⟩) hb1.out hgB (.int .i64 (t : Nat))) hgB (.int .i64 (k : Nat)))
          have hne2 := Lib.hid (show (Value.slice (some ⟨g, 0, none⟩) (k + 1) cp).ownBlock ≠ (Value.slice (some ⟨g', 0, none⟩) m c2).ownBlock from fun e => hgg (by simpa [Value.ownBlock] using e.symm))
          have t1 : (0 : Int) ≤ (t : Int) := by omega
          have t2 : (t : Int) < (k + 1 : Nat) := by omega
          have k3 : (k : Int) < (k + 1 : Nat) := by omega
          have m1 : (0 : Int) ≤ (m : Int) := by omega
          have m2 : (m : Int) < (m + 1 : Nat) := by omega
          have m3 : (m : Int) ≤ (c2 : Nat) := by omega
          have m8 : m ≤ 8 := by omega
          clear hN1 hO1 hne1 hb1 hw hl hlen hq hd hOn hcap hdl hpr hm hNk
          go_wp2_with fail
          go_roundw
          case rel => exact ⟨k + 1, by omega, by first | rfl | go_num, hL2, hO2, hne2, hB2⟩
          case measure => simp [intOf]; omega
      · have hso := wt_out hhb.out
        have hsp : pairL s (k + 1) k = pairL s (k + 1) (k + 1) := (pr_out hhb.out).symm
        have hlen : (wtL s k).length ≤ 1073741824 := by have := wt_len s k; omega
        rw [hsp] at hN1
        obtain ⟨ys, hys⟩ : ∃ ys, wtL s k = ys := ⟨_, rfl⟩
        rw [hys] at hO1 hso hlen
        obtain ⟨a2, c2, rfl⟩ := hO1.out.form
        have hB2 : w.heap.size ≤ (w1.alloc (.cells #[.int .i64 (k : Int)] 3)).heap.size := by rw [World.size_alloc]; omega
        replace hys := Lib.hid hys
        replace hso := Lib.hid hso
        clear hsp
        go_wp2_with (at_builtin; refine app_int_at rfl _ _ rfl w.heap.size _ ys rfl (hO1.out.alloc _) (k : Int) w1.heap.size rfl (cell_new _ _ _) hlen hB2 ?_; intro o2 w2 hown2 hg2 hat2)
        rw [← hso.out] at hown2
        replace hown2 := Lib.hid hown2
        have hb2 := Lib.hid (below_own (hb1.out.alloc hsz1 _) hg2 (hO1.out.alloc _) hB2)
        have hL2 := Lib.hid ((hN1.out.alloc (.cells #[.int .i64 (k : Int)] 3)).grown hg2 (fun e => hne1.out (Eq.symm e))).toL
        have hv2 := Lib.hid (show (Value.slice (some ⟨g, 0, none⟩) (k + 1) cp).ownBlock ≠ o2.ownBlock from fun e => by
          rcases hat2 with h | h
          · exact hne1.out (e.trans h)
          · rw [h] at e; simp [Value.ownBlock] at e; have := hN1.out.ge.2; omega)
        go_roundw
        case rel => exact ⟨k + 1, by omega, by first | rfl | go_num, hL2, hown2, hv2, hb2⟩
        case measure => simp [intOf]; omega
    · obtain rfl : k = N := by omega
      go_wp2_with fail
      go_ret
      exact ⟨_, rfl, hV.out, hbel.out⟩
/-- a set's points in pairs, or nothing. -/
def pairsI (n s : Int) : List Int := if setB n s then pairL s n.toNat n.toNat else []
theorem pairs_len (n s : Int) : (pairsI n s).length ≤ 1000000 := by
  unfold pairsI
  split
  · rename_i h
    obtain ⟨n1, n2, _⟩ := setB_yes h
    rw [pr_len]; omega
  · simp
end
section
/- The model's chain; the exact law of ChainOf. -/
open Go.ChangeShapes Go.WideShapes Go.ChangeAt Go.RowKit Go.Proofs

theorem pow_at {k : Nat} (h : k ≤ 7) : wrap64 (2 ^ k) = 2 ^ k ∧ (1 : Int) ≤ 2 ^ k ∧ (2 : Int) ^ k ≤ 128 := by
  have := pow8 (p := (k : Nat)) (by omega) (by omega)
  simpa using this
set_option maxHeartbeats 8000000 in
theorem l5chain_at (N : Nat) (s : Int) (w : World) (h1 : 1 ≤ N) (h8 : N ≤ 8) (s1 : 0 ≤ s) (s2 : s < 256) (s3 : s < 2 ^ N) :
    Calls Tryz.prog 47 #[.int .i64 (N : Nat), .int .i64 s] w (IntsPost (chnL N s) w) := by
  have hp := Lib.hid (fun W => l5pairs_at N s W h8 s1 s2)
  have n1 : (1 : Int) ≤ (N : Nat) := by omega
  have n8 : (N : Int) ≤ 8 := by omega
  have hend := (chn_facts h8 s1 s3).1
  go_enter Tryz.func47, Tryz.ntmps47
  go_wp2_with (first | (go_at_call 75; refine (hp.out _).mono ?_; rintro e w1 ⟨v, rfl, hO, hb1⟩; obtain ⟨pa, pc, rfl⟩ := hO.form))
  have hPl := pr_len s N N
  obtain ⟨P, hP⟩ : ∃ P, pairL s N N = P := ⟨_, rfl⟩
  rw [hP] at hO hPl hend ⊢
  have hrw := hO.own.row
  rw [hPl]
  obtain ⟨ra, rc, hre, hrow⟩ := hrw
  cases hre
  rw [hPl] at hrow
  have hzw := hb1.size
  replace hP := Lib.hid hP
  replace hO := Lib.hid hO
  replace hrow := Lib.hid hrow
  replace hend := Lib.hid hend
  replace hb1 := Lib.hid hb1
  go_loopw [6, 7] (fun x i wr => wr = w1 ∧ ∃ k : Nat, k ≤ N ∧ i = .int .i64 (k : Nat) ∧ x = .int .i64 (mcI s P k)) (fun _ i _ => N - (intOf i).toNat)
  case atStart => exact ⟨rfl, 0, by omega, rfl, rfl⟩
  case round =>
    obtain ⟨rfl, k, hk, rfl, rfl⟩ := hrel
    have hbd := mc_bd s P k
    have hp2 : (2 : Int) ^ k ≤ 256 := by
      have : 2 ^ k ≤ 2 ^ 8 := Nat.pow_le_pow_right (by omega) (show k ≤ 8 by omega)
      have h := Int.ofNat_le.2 this
      simpa using h
    by_cases hkN : k < N
    · obtain ⟨g, off, rfl, hg1, hgc⟩ := hrow.out (by omega)
      have k1 : (0 : Int) ≤ (k : Int) := by omega
      have k2 : (k : Int) < (N : Nat) := by omega
      have k7 : (k : Int) ≤ 7 := by omega
      obtain ⟨pw, _, _⟩ := pow_at (k := k) (by omega)
      have e1 := hgc k (by omega)
      have hst : mcI s P (k + 1) = if 0 ≤ P.getD k 0 ∧ hasB s (k : Nat) = true then mcI s P k + 2 ^ k else mcI s P k := rfl
      obtain ⟨y, hy⟩ : ∃ y, P.getD k 0 = y := ⟨_, rfl⟩
      obtain ⟨X, hX⟩ : ∃ X, mcI s P k = X := ⟨_, rfl⟩
      obtain ⟨z, hz⟩ : ∃ z, (2 : Int) ^ k = z := ⟨_, rfl⟩
      rw [hy] at e1 hst
      rw [hX, hz] at hst hbd
      rw [hz] at pw hp2
      rw [hX]
      have hhas := fun W => l1has s (k : Nat) s1 s2 k1 k7 W
      obtain ⟨hb, hhb⟩ : ∃ b, hasB s (k : Nat) = b := ⟨_, rfl⟩
      rw [hhb] at hhas hst
      replace hhas := Lib.hid hhas
      replace hhb := Lib.hid hhb
      replace hy := Lib.hid hy
      replace hX := Lib.hid hX
      clear hgc
      by_cases hpos : 0 ≤ y
      · rcases (by cases hb <;> simp : hb = true ∨ hb = false) with rfl | rfl
        · rw [if_pos ⟨hpos, rfl⟩] at hst
          replace hst := Lib.hid hst
          go_wp2_with (first | (go_at_call 76; refine (hhas.out _).mono ?_; rintro e w' ⟨rfl, rfl⟩))
          go_roundw
          case rel => exact ⟨trivial, k + 1, by omega, by first | rfl | go_num, by rw [hst.out]⟩
          case measure => simp [intOf]; omega
        · rw [if_neg (by simp)] at hst
          replace hst := Lib.hid hst
          go_wp2_with (first | (go_at_call 76; refine (hhas.out _).mono ?_; rintro e w' ⟨rfl, rfl⟩))
          go_roundw
          case rel => exact ⟨trivial, k + 1, by omega, by first | rfl | go_num, by rw [hst.out]⟩
          case measure => simp [intOf]; omega
      · rw [if_neg (fun h => hpos h.1)] at hst
        replace hst := Lib.hid hst
        go_wp2_with (first | (go_at_call 76; refine (hhas.out _).mono ?_; rintro e w' ⟨rfl, rfl⟩))
        go_roundw
        case rel => exact ⟨trivial, k + 1, by omega, by first | rfl | go_num, by rw [hst.out]⟩
        case measure => simp [intOf]; omega
    · obtain rfl : k = N := by omega
      obtain ⟨X, hX⟩ : ∃ X, mcI s P k = X := ⟨_, rfl⟩
      rw [hX] at hend hbd ⊢
      replace hX := Lib.hid hX
      have hX0 := hbd.1
      have hX2 : X < 256 := by omega
      obtain ⟨W0, rfl⟩ : ∃ W0, W0 = wr := ⟨_, rfl⟩
      have hO0 := Lib.hid (show OwnL (W0.alloc (.cells #[.int .i64 X] 3)) W0.heap.size (.slice (some ⟨W0.heap.size, 0, none⟩) 1 1) (mlI P X 0).2 from (ownN_heap (xs := [X]) (N := 1) (heap_alloc_new W0 (.cells #[.int .i64 X] 3)) rfl (by omega) (Nat.le_refl _)).toL)
      go_wp2_with fail
      go_loopw [6, 8, 9] (fun x o i wq => ∃ j : Nat, j ≤ k ∧ i = .int .i64 (j : Nat) ∧ x = .int .i64 (mlI P X j).1 ∧ Hid (OwnL wq W0.heap.size o (mlI P X j).2) ∧ Hid (Below W0.heap.size W0 wq)) (fun _ _ i _ => k - (intOf i).toNat)
      case atStart => exact ⟨0, by omega, rfl, rfl, hO0, Lib.hid ((Below.refl _ W0).alloc (Nat.le_refl _) _)⟩
      case round =>
        obtain ⟨j, hj, rfl, rfl, hown, hkeep⟩ := hrel
        have hsz := hkeep.out.size
        have hbd2 := ml_bd P X hX0 j
        have hp3 : (2 : Int) ^ j ≤ 256 := by
          have : 2 ^ j ≤ 2 ^ 8 := Nat.pow_le_pow_right (by omega) (show j ≤ 8 by omega)
          have h := Int.ofNat_le.2 this
          simpa using h
        by_cases hjk : j < k
        · obtain ⟨g, off, rfl, hg1, hgc⟩ := hrow.out (by omega)
          have j1 : (0 : Int) ≤ (j : Int) := by omega
          have j2 : (j : Int) < (k : Nat) := by omega
          have j7 : (j : Int) ≤ 7 := by omega
          obtain ⟨pw, _, _⟩ := pow_at (k := j) (by omega)
          have e1 := (hkeep.out.cell (p := ⟨g, off + j, none⟩) hg1).trans (hgc j (by omega))
          have hst : mlI P X (j + 1) = if P.getD j 0 < 0 then ((mlI P X j).1 + 2 ^ j, (mlI P X j).2 ++ [(mlI P X j).1 + 2 ^ j]) else mlI P X j := rfl
          have hll := ml_len P X j
          obtain ⟨y, hy⟩ : ∃ y, P.getD j 0 = y := ⟨_, rfl⟩
          obtain ⟨z, hz⟩ : ∃ z, (2 : Int) ^ j = z := ⟨_, rfl⟩
          obtain ⟨m, hm⟩ : ∃ m, mlI P X j = m := ⟨_, rfl⟩
          obtain ⟨mx, ml⟩ := m
          rw [hm] at hst hbd2 hown hll ⊢
          rw [hz] at hst hbd2 pw hp3
          rw [hy] at e1 hst
          dsimp only at hst hbd2 hown hll ⊢
          obtain ⟨oa, oc, rfl⟩ := hown.out.form
          replace hm := Lib.hid hm
          replace hy := Lib.hid hy
          clear hgc
          by_cases hneg : y < 0
          · rw [if_pos hneg] at hst
            have hw : wrap64 (mx + z) = mx + z := by unfold wrap64; omega
            obtain ⟨t, ht⟩ : ∃ t, mx + z = t := ⟨_, rfl⟩
            rw [ht] at hst hw
            have hlen1 : ml.length ≤ 1073741824 := by omega
            have hB1 : W0.heap.size ≤ (wr.alloc (.cells #[.int .i64 t] 3)).heap.size := by rw [World.size_alloc]; omega
            replace hst := Lib.hid hst
            go_wp2_with (at_builtin; refine app_int rfl _ _ rfl W0.heap.size _ ml rfl (hown.out.alloc _) t wr.heap.size rfl (cell_new _ _ _) hlen1 hB1 ?_; intro v' w2 hown1 hb2)
            have hk2 := Lib.hid ((hkeep.out.alloc hsz _).trans hb2)
            replace hown1 := Lib.hid hown1
            go_roundw
            case rel => exact ⟨j + 1, by omega, by first | rfl | go_num, by rw [hst.out], by rw [hst.out]; exact hown1, hk2⟩
            case measure => simp [intOf]; omega
          · rw [if_neg hneg] at hst
            replace hst := Lib.hid hst
            go_wp2_with fail
            go_roundw
            case rel => exact ⟨j + 1, by omega, by first | rfl | go_num, by rw [hst.out], by rw [hst.out]; exact hown, hkeep⟩
            case measure => simp [intOf]; omega
        · obtain rfl : j = k := by omega
          have hown2 := hown.out
          rw [hend.out] at hown2
          replace hown2 := Lib.hid hown2
          clear hown
          go_wp2_with fail
          go_ret
          exact ⟨_, rfl, hown2.out.mono hzw, hb1.out.trans (hkeep.out.mono hzw)⟩
theorem chn_len {N : Nat} {s : Int} (h8 : N ≤ 8) (s1 : 0 ≤ s) (s2 : s < 2 ^ N) : (chnL N s).length ≤ 9 := (chn_facts h8 s1 s2).2.2
/-- a set's chain, or nothing. -/
def chnI (n s : Int) : List Int := if setB n s then chnL n.toNat s else []
theorem chnI_len (n s : Int) : (chnI n s).length ≤ 1000000 := by
  unfold chnI
  split
  · rename_i h
    obtain ⟨n1, n2, h1, h2⟩ := setB_yes h
    have := chn_len (N := n.toNat) (s := s) (by omega) h1 h2
    omega
  · simp
theorem im_ChainOf (n s : Int) (w : World) (hT : Tab w) : Calls Tryz.prog 21 #[.int .i64 n, .int .i64 s] w (ListPost (chnI n s) (setB n s) w) := by
  unfold chnI
  rcases (by cases setB n s <;> simp : setB n s = true ∨ setB n s = false) with h | h
  · obtain ⟨n1, n2, h3, h4⟩ := setB_yes h
    obtain ⟨s1, s2⟩ := setB_lt h
    obtain ⟨N, rfl⟩ := Int.eq_ofNat_of_zero_le (show 0 ≤ n by omega)
    rw [Int.toNat_natCast] at h4
    have hi := Lib.hid (fun W => set_in_yes (N : Nat) s h W)
    have hp := Lib.hid (chain_of N s w hT (by omega) (by omega) s1 s2)
    obtain ⟨-, hall, hlen⟩ := chn_facts (N := N) (by omega) s1 h4
    have hnum := Lib.hid (fun p W (hl : LinkV W (chnL N s) p) => lk_numbers (chnL N s) p W hl (by omega) hall)
    rw [h, if_pos rfl, Int.toNat_natCast]
    replace h := Lib.hid h
    replace hall := Lib.hid hall
    replace h4 := Lib.hid h4
    go_enter Tryz.func21, Tryz.ntmps21
    go_wp2_with (first | (go_at_call 43; refine (hi.out _).mono ?_; rintro e w' ⟨rfl, rfl⟩) | (go_at_call 44; refine hp.out.mono ?_; rintro e w1 ⟨p, rfl, hL, hb⟩; replace hnum := Lib.hid (hnum.out p w1 hL); replace hb := Lib.hid hb) | (go_at_call 45; refine hnum.out.mono ?_; rintro e w2 ⟨v, rfl, hO, hb2⟩; replace hO := Lib.hid (hO.mono hb.out.size); replace hb2 := Lib.hid (hb.out.trans (hb2.mono hb.out.size))))
    go_ret2
    exact ⟨_, rfl, hO.out.own, hb2.out⟩
  · have hi := Lib.hid (fun W => set_in_no n s h W)
    rw [h, if_neg (by simp)]
    replace h := Lib.hid h
    go_enter Tryz.func21, Tryz.ntmps21
    go_wp2_with (first | (go_at_call 43; refine (hi.out _).mono ?_; rintro e w' ⟨rfl, rfl⟩))
    go_ret2
    exact ⟨_, rfl, own_empty0 _ _ _ _ _, (Below.refl _ w).alloc (Nat.le_refl _) _⟩
theorem sp_ChainOf (n s : Int) (w : World) : Calls Tryz.prog 22 #[.int .i64 n, .int .i64 s] w (ListPost (chnI n s) (setB n s) w) := by
  unfold chnI
  rcases (by cases setB n s <;> simp : setB n s = true ∨ setB n s = false) with h | h
  · obtain ⟨n1, n2, h3, h4⟩ := setB_yes h
    obtain ⟨s1, s2⟩ := setB_lt h
    obtain ⟨N, rfl⟩ := Int.eq_ofNat_of_zero_le (show 0 ≤ n by omega)
    rw [Int.toNat_natCast] at h4
    have hi := Lib.hid (fun W => sp_set_in_yes (N : Nat) s h W)
    have hp := Lib.hid (fun W => l5chain_at N s W (by omega) (by omega) s1 s2 h4)
    rw [h, if_pos rfl, Int.toNat_natCast]
    replace h := Lib.hid h
    replace h4 := Lib.hid h4
    go_enter Tryz.func22, Tryz.ntmps22
    go_wp2_with (first | (go_at_call 46; refine (hi.out _).mono ?_; rintro e w' ⟨rfl, rfl⟩) | (go_at_call 47; refine (hp.out _).mono ?_; rintro e w1 ⟨v, rfl, hO, hb⟩; replace hO := Lib.hid hO; replace hb := Lib.hid hb))
    go_ret2
    exact ⟨_, rfl, hO.out.own, hb.out⟩
  · have hi := Lib.hid (fun W => sp_set_in_no n s h W)
    rw [h, if_neg (by simp)]
    replace h := Lib.hid h
    go_enter Tryz.func22, Tryz.ntmps22
    go_wp2_with (first | (go_at_call 46; refine (hi.out _).mono ?_; rintro e w' ⟨rfl, rfl⟩))
    go_ret2
    exact ⟨_, rfl, own_empty0 _ _ _ _ _, (Below.refl _ w).alloc (Nat.le_refl _) _⟩
end
end Go.Proofs.YtojfamjgghikoaaGreatDoor
