/- The kernels of all sets in an array: the iterator over the sets from the last one down, while a block ahead of the list is written. -/
import Derived.Test.YtjhjmbiecihjhaaDoorKe1
import Derived.Test.YtjhjmbiecihjhaaDoorCl3
namespace Go.Proofs.YtjhjmbiecihjhaaDoor
open Go.ChangeShapes Go.WideShapes Go.ChangeAt Go.RowKit Go.Shelf
attribute [local go_sem] Oper.semAt_some

theorem cell_same {W W' : World} {b : Nat} (h : W'.heap[b]? = W.heap[b]?) (i : Nat) : W'.cell? ⟨b, i, none⟩ = W.cell? ⟨b, i, none⟩ := by simp [World.cell?, h]
/-- the blocks below n₀ but Bk stay. -/
def KX (n₀ Bk : Nat) (W W' : World) : Prop := W.heap.size ≤ W'.heap.size ∧ ∀ k, k < n₀ → k ≠ Bk → W'.heap[k]? = W.heap[k]?
theorem KX.refl (n₀ Bk : Nat) (W : World) : KX n₀ Bk W W := ⟨Nat.le_refl _, fun _ _ _ => rfl⟩
theorem KX.trans {n₀ Bk : Nat} {A B C : World} (h : KX n₀ Bk A B) (k : KX n₀ Bk B C) : KX n₀ Bk A C := ⟨Nat.le_trans h.1 k.1, fun j h1 h2 => (k.2 j h1 h2).trans (h.2 j h1 h2)⟩
theorem kx_t {n₀ Bk : Nat} {A B C : World} (h : KX n₀ Bk A B) (k : KX n₀ Bk B C) : KX n₀ Bk A C := h.trans k
theorem kx_b {n₀ Bk : Nat} {w : World} (hn : n₀ ≤ w.heap.size) (W : World) (l : Nat) (o o' : Obj) (hl : w.heap.size ≤ l) (_ : W.heap[l]? = some o) (_ : o.isCells = false) (_ : o.isWalk = false) : KX n₀ Bk W (W.putObj l o') :=
  ⟨by simp [World.putObj], fun k hk _ => World.putObj_heap_other (by omega)⟩
theorem KX.of_below {n₀ Bk B : Nat} {W W' : World} (h : Below B W W') (hB : n₀ ≤ B) : KX n₀ Bk W W' := ⟨h.size, fun k hk _ => h.block k (by omega)⟩
theorem KX.alloc {n₀ Bk : Nat} {W W' : World} (h : KX n₀ Bk W W') (hn : n₀ ≤ W'.heap.size) (o : Obj) : KX n₀ Bk W (W'.alloc o) := h.trans ⟨by simp, fun k hk _ => Below.heap_alloc _ _ _ (by omega)⟩
theorem KX.store {n₀ Bk : Nat} {W W' : World} (h : KX n₀ Bk W W') (i : Nat) (v : Value) : KX n₀ Bk W (W'.setCell ⟨Bk, i, none⟩ v) := h.trans ⟨by simp [World.setCell], fun k _ hk => Below.heap_setCell _ _ _ _ hk⟩
theorem kx_own {β : Type} {n₀ Bk B : Nat} {W0 : World} (h1 : n₀ ≤ W0.heap.size) (h2 : n₀ ≤ B) : OwnFrom B (fun (_ : β) W => KX n₀ Bk W0 W) := fun _ X Y row hs hg hr =>
  ⟨Nat.le_trans hs.1 hg.size, fun k hk hkb => (hg.block k (by have := hs.1; omega) (fun e => by have := (hr k e.symm).1; omega)).trans (hs.2 k hk hkb)⟩
theorem srow_kx {W W' : World} {n₀ Bk : Nat} {a : Option Addr} {c : Nat} {xs : List Int} (hbk : ∀ b o, a = some ⟨b, o, none⟩ → b ≠ Bk) (h : SRow W n₀ (.slice a xs.length c) xs) (hk : KX n₀ Bk W W') : SRow W' n₀ (.slice a xs.length c) xs := by
  obtain ⟨a', c', he, ha⟩ := h
  cases he
  refine ⟨a, c, rfl, fun hl => ?_⟩
  obtain ⟨b, o, e, h1, h2⟩ := ha hl
  exact ⟨b, o, e, h1, fun j hj => (cell_same (hk.2 b h1 (hbk b o e)) (o + j)).trans (h2 j hj)⟩
set_option maxRecDepth 100000 in
set_option maxHeartbeats 1000000 in
theorem back_in1X (n : Nat) (hn : 1 ≤ n) (l Bn n₀ Bk : Nat) (a : Option Addr) (c : Nat) (xs : List Int) (J Jx : List IS → World → Prop)
    (hY : ∀ pre (x : IS) W, J pre W → pre.length < xs.length → YieldAt Fence.wide (n - 1) Tryd.prog l #[.int .i64 x.1.1, .int .u64 x.1.2] W fun e W' =>
      (e = .returned (.bool true) ∧ J (pre ++ [x]) W' ∧ KX n₀ Bk W W') ∨ (e = .returned (.bool false) ∧ Jx (pre ++ [x]) W'))
    (W : World) (hBn : W.cell? ⟨Bn, 0, none⟩ = some (.slice a xs.length c)) (hx : SRow W n₀ (.slice a xs.length c) xs) (hl : xs.length ≤ 1000) (hbk : ∀ b o, a = some ⟨b, o, none⟩ → b ≠ Bk) (hBl : Bn < n₀) (hBk : Bn ≠ Bk) (hz : ∀ z ∈ xs, 0 ≤ z ∧ z < 256) (h0 : J [] W) :
    CallsIn Fence.wide n Tryd.prog 77 #[.func (.yield l) #[] #[], .pointer (some ⟨Bn, 0, none⟩)] W fun e W' => (∃ v, e = .returned v) ∧
      ((∃ ys, isets ys = xs.reverse ∧ J ys W') ∨ (∃ pre, isets pre <+: xs.reverse ∧ Jx pre W')) := by
  have hx0 := Lib.hid hx
  have hBn0 := Lib.hid hBn
  have hz0 := Lib.hid hz
  have hl0 : (xs.length : Int) ≤ 1000 := by omega
  clear hx hz
  refine callsIn_of_wp Tryd.func77 rfl trivial ?_ rfl
  simp only [Tryd.ntmps77, List.size_toArray, List.length_cons, List.length_nil, Nat.reduceAdd, Nat.reduceSub, Array.replicate_succ, Array.replicate_zero, List.push_toArray, List.append_toArray, List.nil_append, List.cons_append]
  gi_wp2
  gi_loopw [3] (fun p wr => ∃ (pre : List IS) (k : Nat), p = .int .i64 ((k : Int) - 1) ∧ k ≤ xs.length ∧ Hid (isets pre = (xs.drop k).reverse) ∧ Hid (SRow wr n₀ (.slice a xs.length c) xs) ∧ Hid (wr.cell? ⟨Bn, 0, none⟩ = some (.slice a xs.length c)) ∧ J pre wr)
    (fun p _ => (intOf p + 1).toNat)
  case atStart =>
    exact ⟨[], xs.length, by first | rfl | go_num, Nat.le_refl _, Lib.hid (by simp [isets]), hx0, hBn0, h0⟩
  case round =>
    obtain ⟨pre, k, rfl, hk, hp, hxr, hBr, hJs⟩ := hrel
    by_cases hk1 : 1 ≤ k
    · obtain ⟨m, rfl⟩ : ∃ m, k = m + 1 := ⟨k - 1, by omega⟩
      have hlt : m < xs.length := by omega
      obtain ⟨a', c', he, ha⟩ := hxr.out
      cases he
      obtain ⟨b1, o1, rfl, s1, c1⟩ := ha (by omega)
      have e0 := hBr.out
      have m1 : (0 : Int) ≤ (m : Int) := by omega
      have m2 : (m : Int) < (xs.length : Nat) := by omega
      have m3 : ((m + 1 : Nat) : Int) - 1 = (m : Int) := by omega
      have e1 := c1 m hlt
      obtain ⟨x, hx⟩ : ∃ x, xs.getD m 0 = x := ⟨_, rfl⟩
      have hxz := hz0.out x (by rw [← hx]; exact getD_mem hlt)
      rw [hx] at e1
      have hds := drop_step hlt hx
      have hlen : pre.length < xs.length := by
        have := congrArg List.length hp.out
        rw [isets_len, List.length_reverse, List.length_drop] at this
        omega
      obtain ⟨fn, tmps, assign, body, hy, hR⟩ := hY pre ⟨((m : Int), x), hxz⟩ wr hJs hlen
      dsimp only at hy hR
      have hp2 := Lib.hid (show isets (pre ++ [⟨((m : Int), x), hxz⟩]) = (xs.drop m).reverse by rw [isets_snoc, hp.out, hds])
      rw [m3]
      replace hxr := Lib.hid hxr.out
      clear hds hlen c1 ha hx hp
      gi_wp2
      refine hR.mono ?_
      rintro e W3 (⟨rfl, hJ3, hk3⟩ | ⟨rfl, hJx3⟩)
      · have hx3 := Lib.hid (srow_kx hbk hxr.out hk3)
        have hB3 := Lib.hid ((cell_same (hk3.2 Bn hBl hBk) 0).trans hBr.out)
        gi_wp2
        go_roundw
        case rel => exact ⟨_, m, by first | rfl | go_num, by omega, hp2, hx3, hB3, hJ3⟩
        case measure => simp [intOf] <;> omega
      · gi_wp2
        refine bodyPost_ret (results_none rfl _ _ _) rfl ?_
        exact ⟨⟨_, rfl⟩, .inr ⟨_, ⟨(xs.take m).reverse, by rw [hp2.out, ← List.reverse_append, List.take_append_drop]⟩, hJx3⟩⟩
    · obtain rfl : k = 0 := by omega
      have hp2 := Lib.hid (show isets pre = xs.reverse by have := hp.out; rwa [List.drop_zero] at this)
      clear hp
      gi_wp2
      go_end0
      exact ⟨⟨_, rfl⟩, .inl ⟨pre, hp2.out, hJs⟩⟩
theorem back_stopsX (n : Nat) (hn : 1 ≤ n) (Bn n₀ Bk : Nat) (a : Option Addr) (c : Nat) (xs : List Int) (w : World) (hc : w.cell? ⟨Bn, 0, none⟩ = some (.slice a xs.length c)) (hBw : Bn < w.heap.size) (hx : SRow w n₀ (.slice a xs.length c) xs) (hn0 : n₀ ≤ w.heap.size) (hl : xs.length ≤ 1000)
    (hbk : ∀ b o, a = some ⟨b, o, none⟩ → b ≠ Bk) (hBl : Bn < n₀) (hBk : Bn ≠ Bk) (hz : ∀ z ∈ xs, 0 ≤ z ∧ z < 256) :
    SeqStopsK Fence.wide n Tryd.prog 77 #[.pointer (some ⟨Bn, 0, none⟩)] (fun x : IS => #[Value.int .i64 x.1.1, Value.int .u64 x.1.2]) (KX n₀ Bk) (fun ys => isets ys = xs.reverse) (fun pre => isets pre <+: xs.reverse) xs.length w := fun l J Jx W hW _ _ hY h0 =>
  back_in1X n hn l Bn n₀ Bk a c xs J Jx hY W ((hW.cell (p := ⟨Bn, 0, none⟩) hBw).trans hc) (hx.below hW hn0) hl hbk hBl hBk hz h0
end Go.Proofs.YtjhjmbiecihjhaaDoor
