/- The sets of a list from the last one to the first: the iterator of slices.Backward. -/
import Derived.Test.YtjhjmbiecihjhaaDoorCl2
import Derived.Test.YtjhjmbiecihjhaaDoorAllSp
import Derived.RangeFuncBox
import Derived.RangeFuncNested
import Derived.RangeFuncBound
import Derived.RangeFuncCalls
import Derived.RangeFuncLeaves
import Derived.Shelf.Abstract
import Derived.Shelf.RegionOpen
import Derived.OwnWalkIn
import Derived.TacticsInMore
import Derived.LoopNIn
import Derived.LoopIn
namespace Go.Proofs.YtjhjmbiecihjhaaDoor
open Go.ChangeShapes Go.WideShapes Go.ChangeAt Go.RowKit Go.Shelf
attribute [local go_sem] Oper.semAt_some

theorem back_make (a : Option Addr) (n c : Nat) (w : World) : CallsIn Fence.wide 9 Tryd.prog 56 #[.slice a n c] w fun e w' =>
    e = .returned (.func (.func 77) #[] #[.pointer (some ⟨w.heap.size, 0, none⟩)]) ∧ w' = w.alloc (.cells #[.slice a n c] 48) := by
  refine callsIn_of_wp Tryd.func56 rfl trivial ?_ rfl
  simp only [Tryd.ntmps56, List.size_toArray, List.length_cons, List.length_nil, Nat.reduceAdd, Nat.reduceSub, Array.replicate_succ, Array.replicate_zero, List.push_toArray, List.append_toArray, List.nil_append, List.cons_append]
  gi_wp2
  go_ret
  exact ⟨rfl, rfl⟩
/-- a set with its place. -/
abbrev IS := { p : Int × Int // 0 ≤ p.2 ∧ p.2 < 256 }
def isets (l : List IS) : List Int := l.map (·.1.2)
theorem isets_snoc (l : List IS) (x : IS) : isets (l ++ [x]) = isets l ++ [x.1.2] := by simp [isets]
theorem isets_len (l : List IS) : (isets l).length = l.length := by simp [isets]
/-- what a round keeps: the blocks below B, and block b's cell. -/
def KB (B b : Nat) (W W' : World) : Prop := Below B W W' ∧ ∀ v, W.cell? ⟨b, 0, none⟩ = some v → W'.cell? ⟨b, 0, none⟩ = some v
theorem KB.refl (B b : Nat) (W : World) : KB B b W W := ⟨Below.refl _ _, fun _ h => h⟩
theorem KB.trans {B b : Nat} {W W' W'' : World} (h : KB B b W W') (k : KB B b W' W'') : KB B b W W'' := ⟨h.1.trans k.1, fun v hv => k.2 v (h.2 v hv)⟩
theorem cell_putObj {W : World} {l b : Nat} {o o' : Obj} {v : Value} (hl : W.heap[l]? = some o) (ho : o.isCells = false) (hv : W.cell? ⟨b, 0, none⟩ = some v) : (W.putObj l o').cell? ⟨b, 0, none⟩ = some v := by
  have hne : b ≠ l := fun e => by
    subst e
    unfold World.cell? at hv
    rw [hl] at hv
    cases o <;> simp [Obj.isCells] at ho hv
  have hk := (grownBy_putObj' W l o').cell hv (by intro e; injection e with e; exact hne e)
  exact hk
theorem kb_b {B b : Nat} {w : World} (hn : B ≤ w.heap.size) (W : World) (l : Nat) (o o' : Obj) (hl : w.heap.size ≤ l) (h : W.heap[l]? = some o) (ho : o.isCells = false) (hw : o.isWalk = false) : KB B b W (W.putObj l o') :=
  ⟨belowK_b hn W l o o' hl h ho hw, fun _ hv => cell_putObj h ho hv⟩
set_option maxRecDepth 100000 in
set_option maxHeartbeats 1000000 in
theorem back_in1 (n : Nat) (hn : 1 ≤ n) (l Bn n₀ : Nat) (a : Option Addr) (c : Nat) (xs : List Int) (J Jx : List IS → World → Prop)
    (hY : ∀ pre (x : IS) W, J pre W → pre.length < xs.length → YieldAt Fence.wide (n - 1) Tryd.prog l #[.int .i64 x.1.1, .int .u64 x.1.2] W fun e W' =>
      (e = .returned (.bool true) ∧ J (pre ++ [x]) W' ∧ KB n₀ Bn W W') ∨ (e = .returned (.bool false) ∧ Jx (pre ++ [x]) W'))
    (W : World) (hBn : W.cell? ⟨Bn, 0, none⟩ = some (.slice a xs.length c)) (hx : SRow W n₀ (.slice a xs.length c) xs) (hl : xs.length ≤ 1000) (hz : ∀ z ∈ xs, 0 ≤ z ∧ z < 256) (h0 : J [] W) :
    CallsIn Fence.wide n Tryd.prog 77 #[.func (.yield l) #[] #[], .pointer (some ⟨Bn, 0, none⟩)] W fun e W' => (∃ v, e = .returned v) ∧
      ((∃ ys, isets ys = xs.reverse ∧ J ys W') ∨ (∃ pre, isets pre <+: xs.reverse ∧ Jx pre W')) := by
  have hx0 := Lib.hid hx
  have hBn0 := Lib.hid hBn
  have hz0 := Lib.hid hz
  have hl0 : (xs.length : Int) ≤ 1000 := by omega
  clear hx hz
  refine callsIn_of_wp Tryd.func77 rfl trivial ?_ rfl
  simp only [Tryd.ntmps77, List.size_toArray, List.length_cons, List.length_nil, Nat.reduceAdd, Nat.reduceSub, Array.replicate_succ, Array.replicate_zero, List.push_toArray, List.append_toArray, List.nil_append, List.cons_append]
  gi_wp2
  gi_loopw [3] (fun p wr => ∃ (pre : List IS) (k : Nat), p = .int .i64 ((k : Int) - 1) ∧ k ≤ xs.length ∧ Hid (isets pre = (xs.drop k).reverse) ∧ Hid (SRow wr n₀ (.slice a xs.length c) xs) ∧ Hid (wr.cell? ⟨Bn, 0, none⟩ = some (.slice a xs.length c)) ∧ J pre wr)
    (fun p _ => (intOf p + 1).toNat)
  case atStart =>
    exact ⟨[], xs.length, by first | rfl | go_num, Nat.le_refl _, Lib.hid (by simp [isets]), hx0, hBn0, h0⟩
  case round =>
    obtain ⟨pre, k, rfl, hk, hp, hxr, hBr, hJs⟩ := hrel
    by_cases hk1 : 1 ≤ k
    · obtain ⟨m, rfl⟩ : ∃ m, k = m + 1 := ⟨k - 1, by omega⟩
      have hlt : m < xs.length := by omega
      obtain ⟨a', c', he, ha⟩ := hxr.out
      cases he
      obtain ⟨b1, o1, rfl, s1, c1⟩ := ha (by omega)
      have e0 := hBr.out
      have m1 : (0 : Int) ≤ (m : Int) := by omega
      have m2 : (m : Int) < (xs.length : Nat) := by omega
      have m3 : ((m + 1 : Nat) : Int) - 1 = (m : Int) := by omega
      have e1 := c1 m hlt
      obtain ⟨x, hx⟩ : ∃ x, xs.getD m 0 = x := ⟨_, rfl⟩
      have hxz := hz0.out x (by rw [← hx]; exact getD_mem hlt)
      rw [hx] at e1
      have hds := drop_step hlt hx
      have hlen : pre.length < xs.length := by
        have := congrArg List.length hp.out
        rw [isets_len, List.length_reverse, List.length_drop] at this
        omega
      obtain ⟨fn, tmps, assign, body, hy, hR⟩ := hY pre ⟨((m : Int), x), hxz⟩ wr hJs hlen
      dsimp only at hy hR
      have hp2 := Lib.hid (show isets (pre ++ [⟨((m : Int), x), hxz⟩]) = (xs.drop m).reverse by rw [isets_snoc, hp.out, hds])
      rw [m3]
      replace hxr := Lib.hid hxr.out
      clear hds hlen c1 ha hx hp
      gi_wp2
      refine hR.mono ?_
      rintro e W3 (⟨rfl, hJ3, hk3⟩ | ⟨rfl, hJx3⟩)
      · have hx3 := Lib.hid (hxr.out.below hk3.1 (Nat.le_refl _))
        have hB3 := Lib.hid (hk3.2 _ hBr.out)
        gi_wp2
        go_roundw
        case rel => exact ⟨_, m, by first | rfl | go_num, by omega, hp2, hx3, hB3, hJ3⟩
        case measure => simp [intOf] <;> omega
      · gi_wp2
        refine bodyPost_ret (results_none rfl _ _ _) rfl ?_
        exact ⟨⟨_, rfl⟩, .inr ⟨_, ⟨(xs.take m).reverse, by rw [hp2.out, ← List.reverse_append, List.take_append_drop]⟩, hJx3⟩⟩
    · obtain rfl : k = 0 := by omega
      have hp2 := Lib.hid (show isets pre = xs.reverse by have := hp.out; rwa [List.drop_zero] at this)
      clear hp
      gi_wp2
      go_end0
      exact ⟨⟨_, rfl⟩, .inl ⟨pre, hp2.out, hJs⟩⟩
theorem back_stops (n : Nat) (hn : 1 ≤ n) (Bn n₀ : Nat) (a : Option Addr) (c : Nat) (xs : List Int) (w : World) (hc : w.cell? ⟨Bn, 0, none⟩ = some (.slice a xs.length c)) (hBw : Bn < w.heap.size) (hx : SRow w n₀ (.slice a xs.length c) xs) (hn0 : n₀ ≤ w.heap.size) (hl : xs.length ≤ 1000) (hz : ∀ z ∈ xs, 0 ≤ z ∧ z < 256) :
    SeqStopsK Fence.wide n Tryd.prog 77 #[.pointer (some ⟨Bn, 0, none⟩)] (fun x : IS => #[Value.int .i64 x.1.1, Value.int .u64 x.1.2]) (KB n₀ Bn) (fun ys => isets ys = xs.reverse) (fun pre => isets pre <+: xs.reverse) xs.length w := fun l J Jx W hW _ _ hY h0 =>
  back_in1 n hn l Bn n₀ a c xs J Jx hY W ((hW.cell (p := ⟨Bn, 0, none⟩) hBw).trans hc) (hx.below hW hn0) hl hz h0

end Go.Proofs.YtjhjmbiecihjhaaDoor
