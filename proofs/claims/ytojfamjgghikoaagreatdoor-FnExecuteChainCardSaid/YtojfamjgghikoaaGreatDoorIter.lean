/- The points of a set come in ascending order: the iterator. -/
import Derived.Test.YtojfamjgghikoaaGreatDoorSets2
import Derived.RangeFuncBox
import Derived.RangeFuncNested
import Derived.RangeFuncBound
import Derived.RangeFuncCalls
import Derived.RangeFuncLeaves
import Derived.Shelf.Abstract
import Derived.Shelf.RegionOpen
import Derived.OwnWalkIn
import Derived.TacticsInMore
import Derived.LoopNIn
import Derived.LoopIn
import Derived.Lib.LaidTab
namespace Go.Proofs.YtojfamjgghikoaaGreatDoor
open Go.ChangeShapes Go.WideShapes Go.ChangeAt Go.RowKit Go.Shelf
attribute [local go_sem] Oper.semAt_some

/-- the points of s below k. -/
def ptsTo (s : Int) : Nat → List Int
  | 0 => []
  | k + 1 => ptsTo s k ++ (if hasB s (k : Nat) then [((k : Nat) : Int)] else [])
/-- the points of s. -/
def ptsI (s : Int) : List Int := ptsTo s 8
/-- the least point. -/
def tzI (x : Int) : Int := (ptsI x).headD 8
/-- without the least point. -/
def nxtI (x : Int) : Int := bits .and .u64 x (x - 1)
def tzIx (x : Int) : Int := IntKind.u64.wrap (bits .and .u64 x (IntKind.u64.wrap (-x)) * 285870213051353865) / 288230376151711744
def deB : List Int := [0, 1, 56, 2, 57, 49, 28, 3, 61, 58, 42, 50, 38, 29, 17, 4, 62, 47, 59, 36, 45, 43, 51, 22, 53, 39, 33, 30, 24, 18, 12, 5, 63, 55, 48, 27, 60, 41, 37, 16, 46, 35, 44, 21, 52, 32, 23, 11, 54, 26, 40, 15, 34, 20, 31, 10, 25, 14, 19, 9, 13, 8, 7, 6]
theorem tz_dec : ∀ x : Fin 256, 1 ≤ x.val → 0 ≤ tzIx x.val ∧ tzIx x.val < 64 ∧ deB.getD (tzIx x.val).toNat 0 = tzI x.val ∧ 0 ≤ tzI x.val ∧ tzI x.val ≤ 7 ∧ 0 ≤ nxtI x.val ∧ nxtI x.val < x.val ∧ ptsI x.val = tzI x.val :: ptsI (nxtI x.val) ∧ hasB x.val (tzI x.val) = true := by decide +kernel
theorem tz_facts {x : Int} (h1 : 1 ≤ x) (h2 : x < 256) : 0 ≤ tzIx x ∧ tzIx x < 64 ∧ deB.getD (tzIx x).toNat 0 = tzI x ∧ 0 ≤ tzI x ∧ tzI x ≤ 7 ∧ 0 ≤ nxtI x ∧ nxtI x < x ∧ ptsI x = tzI x :: ptsI (nxtI x) ∧ hasB x (tzI x) = true := by
  have h := tz_dec ⟨x.toNat, by omega⟩ (by simp; omega)
  have e : ((x.toNat : Nat) : Int) = x := Int.toNat_of_nonneg (by omega)
  simpa only [e] using h
/-- the table of math/bits is as its text lays it. -/
def Tab (w : World) : Prop := ∀ i, i < 64 → w.cell? ⟨1, i, none⟩ = some (.int .u8 (deB.getD i 0))
theorem Tab.below {w w' : World} {B : Nat} (h : Tab w) (hb : Below B w w') (hB : 1 < B) : Tab w' := fun i hi =>
  (hb.cell (p := ⟨1, i, none⟩) hB).trans (h i hi)
theorem Tab.drewN {w : World} (h : Tab w) (n : Nat) : Tab (w.drewN n) := h
theorem Tab.alloc {w : World} (h : Tab w) (hB : 1 < w.heap.size) (o : Obj) : Tab (w.alloc o) := h.below ((Below.refl _ w).alloc (Nat.le_refl _) o) hB
theorem Tab.lt {w : World} (h : Tab w) : 1 < w.heap.size := by
  have h0 := h 0 (by omega)
  by_cases hb : 1 < w.heap.size
  · exact hb
  · have : w.heap[1]? = none := Array.getElem?_eq_none (by omega)
    simp [World.cell?, this] at h0

theorem tab_of {w : World} (h : Lib.TabIs Tryz.prog w "math/bits.deBruijn64tab" .u8 deB) : Tab w := fun i hi => h.cell (by kernel_rfl) i hi

theorem tz64 (x : Int) (h1 : 1 ≤ x) (h2 : x < 256) (w : World) (hT : Tab w) : Calls Tryz.prog 78 #[.int .u64 x] w fun e w' => e = .returned (.int .i64 (tzI x)) ∧ w = w' := by
  have hx : (x == 0) = false := by simp; omega
  obtain ⟨a, b, c, d, d2, _⟩ := tz_facts h1 h2
  have hc := hT (tzIx x).toNat (by omega)
  rw [c] at hc
  unfold tzIx at a b hc
  clear c hT
  go_enter Tryz.func78, Tryz.ntmps78
  go_wp2
  go_ret
  exact ⟨rfl, rfl⟩

theorem pts_make (s : Int) (w : World) : CallsIn Fence.wide 9 Tryz.prog 48 #[.int .u64 s] w fun e w' =>
    e = .returned (.func (.func 77) #[] #[.pointer (some ⟨w.heap.size, 0, none⟩)]) ∧ w' = w.alloc (.cells #[.int .u64 s] 72) := by
  refine callsIn_of_wp Tryz.func48 rfl trivial ?_ rfl
  simp only [Tryz.ntmps48, List.size_toArray, List.length_cons, List.length_nil, Nat.reduceAdd, Nat.reduceSub, Array.replicate_succ, Array.replicate_zero, List.push_toArray, List.append_toArray, List.nil_append, List.cons_append]
  gi_wp2
  go_ret
  exact ⟨rfl, rfl⟩

/-- a point of s. -/
abbrev PtOf (s : Int) := { x : Int // 0 ≤ x ∧ x ≤ 7 ∧ hasB s x = true }
/-- the numbers of a list of points. -/
def vals {s : Int} (l : List (PtOf s)) : List Int := l.map (·.1)
theorem vals_snoc {s : Int} (l : List (PtOf s)) (x : PtOf s) : vals (l ++ [x]) = vals l ++ [x.1] := by simp [vals]
theorem vals_len {s : Int} (l : List (PtOf s)) : (vals l).length = l.length := by simp [vals]
theorem mem_dec : ∀ s : Fin 256, (ptsI s.val).all (fun p => decide (0 ≤ p ∧ p ≤ 7 ∧ hasB s.val p = true)) = true := by decide +kernel
theorem mem_pts {s : Int} (h1 : 0 ≤ s) (h2 : s < 256) {p : Int} (hp : p ∈ ptsI s) : 0 ≤ p ∧ p ≤ 7 ∧ hasB s p = true := by
  have h := all256 (P := fun s => (ptsI s).all (fun p => decide (0 ≤ p ∧ p ≤ 7 ∧ hasB s p = true)) = true) mem_dec h1 h2
  have := List.all_eq_true.1 h p hp
  exact of_decide_eq_true this

set_option maxRecDepth 100000 in
set_option maxHeartbeats 1000000 in
theorem pts_in1 (n : Nat) (hn : 1 ≤ n) (l Bn n₀ : Nat) (s : Int) (s1 : 0 ≤ s) (s2 : s < 256) (J Jx : List (PtOf s) → World → Prop)
    (hY : ∀ pre (x : PtOf s) W, J pre W → pre.length < (ptsI s).length → YieldAt Fence.wide (n - 1) Tryz.prog l #[.int .i64 x.1] W fun e W' =>
      (e = .returned (.bool true) ∧ J (pre ++ [x]) W' ∧ Below n₀ W W') ∨ (e = .returned (.bool false) ∧ Jx (pre ++ [x]) W'))
    (W : World) (hBn : W.cell? ⟨Bn, 0, none⟩ = some (.int .u64 s)) (hT : Tab W) (hn0 : 1 < n₀) (h0 : J [] W) :
    CallsIn Fence.wide n Tryz.prog 77 #[.func (.yield l) #[] #[], .pointer (some ⟨Bn, 0, none⟩)] W fun e W' => (∃ v, e = .returned v) ∧
      ((∃ ys, vals ys = ptsI s ∧ J ys W') ∨ (∃ pre, vals pre <+: ptsI s ∧ Jx pre W')) := by
  refine callsIn_of_wp Tryz.func77 rfl trivial ?_ rfl
  simp only [Tryz.ntmps77, List.size_toArray, List.length_cons, List.length_nil, Nat.reduceAdd, Nat.reduceSub, Array.replicate_succ, Array.replicate_zero, List.push_toArray, List.append_toArray, List.nil_append, List.cons_append]
  gi_wp2
  gi_loopw [3] (fun p wr => ∃ (pre : List (PtOf s)) (r : Int), p = .int .u64 r ∧ 0 ≤ r ∧ r < 256 ∧ Hid (ptsI s = vals pre ++ ptsI r) ∧ Hid (Tab wr) ∧ J pre wr)
    (fun p _ => (intOf p).toNat)
  case atStart =>
    exact ⟨[], s, rfl, s1, s2, Lib.hid rfl, Lib.hid hT, h0⟩
  case round =>
    obtain ⟨pre, r, rfl, r1, r2, hx, hTr, hJs⟩ := hrel
    by_cases hr : 1 ≤ r
    · obtain ⟨_, _, _, t1, t2, n1, n2, hp, _⟩ := tz_facts hr r2
      have hx' := hx.out
      rw [hp] at hx'
      have hlen : pre.length < (ptsI s).length := by rw [hx']; simp [vals_len]
      have hmem := mem_pts s1 s2 (p := tzI r) (by rw [hx']; simp)
      obtain ⟨fn, tmps, assign, body, hy, hR⟩ := hY pre ⟨tzI r, hmem⟩ wr hJs hlen
      dsimp only at hy
      have hne : (r != 0) = true := by simp; omega
      have hx2 := Lib.hid (show ptsI s = vals (pre ++ [⟨tzI r, hmem⟩]) ++ ptsI (nxtI r) by rw [hx', vals_snoc, List.append_assoc]; rfl)
      have htz := Lib.hid (tz64 r hr r2 wr hTr.out)
      unfold nxtI at n1 n2 hx2
      have hmem' := Lib.hid hmem
      clear hx hx' hp hlen
      gi_wp2_with (refine ⟨trivial, ?_⟩; gi_at_call 78; refine (callsIn_wide.2 (htz.out)).mono ?_; rintro e w' ⟨rfl, rfl⟩)
      refine hR.mono ?_
      rintro e W3 (⟨rfl, hJ3, hk3⟩ | ⟨rfl, hJx3⟩)
      · have hT3 := Lib.hid (hTr.out.below hk3 hn0)
        gi_wp2
        go_roundw
        case rel => exact ⟨_, _, rfl, n1, by omega, hx2, hT3, hJ3⟩
        case measure => simp [intOf]; omega
      · gi_wp2
        refine bodyPost_ret (results_none rfl _ _ _) rfl ?_
        exact ⟨⟨_, rfl⟩, .inr ⟨_, ⟨_, hx2.out.symm⟩, hJx3⟩⟩
    · obtain rfl : r = 0 := by omega
      have hx' := Lib.hid (show vals pre = ptsI s by
        have := hx.out
        rw [show ptsI 0 = [] from by decide +kernel, List.append_nil] at this
        exact this.symm)
      clear hx
      gi_wp2
      go_end0
      exact ⟨⟨_, rfl⟩, .inl ⟨pre, hx'.out, hJs⟩⟩
theorem pts_stops (n : Nat) (hn : 1 ≤ n) (Bn n₀ : Nat) (s : Int) (s1 : 0 ≤ s) (s2 : s < 256) (w : World) (hBn : Bn < w.heap.size) (hc : w.cell? ⟨Bn, 0, none⟩ = some (.int .u64 s)) (hT : Tab w) (hn0 : 1 < n₀) :
    SeqStopsK Fence.wide n Tryz.prog 77 #[.pointer (some ⟨Bn, 0, none⟩)] (fun x : PtOf s => #[Value.int .i64 x.1]) (Below n₀) (fun ys => vals ys = ptsI s) (fun pre => vals pre <+: ptsI s) (ptsI s).length w := fun l J Jx W hW _ _ hY h0 =>
  pts_in1 n hn l Bn n₀ s s1 s2 J Jx hY W ((hW.cell (p := ⟨Bn, 0, none⟩) hBn).trans hc) (hT.below hW hT.lt) hn0 h0
end Go.Proofs.YtojfamjgghikoaaGreatDoor
