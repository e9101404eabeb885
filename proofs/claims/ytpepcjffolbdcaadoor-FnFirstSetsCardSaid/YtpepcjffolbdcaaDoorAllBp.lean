/- Texts merged: XBo8 XBo9 XBoA XBoB XBoC. -/
import Derived.Test.YtpepcjffolbdcaaDoorAllBo
import Derived.Test.YtpepcjffolbdcaaDoorAllSp
import Derived.Deep.RegionHeld3
import Derived.BigQuiet
import Derived.Test.YtpepcjffolbdcaaDoorFLaws
namespace Go.Proofs.YtpepcjffolbdcaaDoor
section
/- All sets in ball order: the model's comparison. -/
open Go.ChangeShapes Go.WideShapes Go.ChangeAt Go.RowKit Go.Proofs

theorem fd_step {a b : Int} {k : Nat} (h : k < 8) : fdB a b (8 - k) = if hasB a (k : Nat) != hasB b (k : Nat) then hasB a (k : Nat) else fdB a b (8 - (k + 1)) := by
  obtain ⟨j, hj⟩ : ∃ j, 8 - k = j + 1 := ⟨8 - k - 1, by omega⟩
  rw [hj, show 8 - (k + 1) = j by omega]
  have e : (7 - (j : Nat) : Int) = (k : Nat) := by omega
  show (if hasB a (7 - (j : Nat) : Int) != hasB b (7 - (j : Nat) : Int) then hasB a (7 - (j : Nat) : Int) else fdB a b j) = _
  rw [e]
set_option maxHeartbeats 1000000 in
theorem sp_ahead (a b : Int) (a1 : 0 ≤ a) (a2 : a < 256) (b1 : 0 ≤ b) (b2 : b < 256) (w : World) :
    Calls Tryd.prog 103 #[.int .i64 a, .int .i64 b] w fun e w' => e = .returned (.bool (decide (bkI a < bkI b))) ∧ w = w' := by
  rw [← ah_key a1 a2 b1 b2]
  have hs1 := fun W => l1size a a1 a2 W
  have hs2 := fun W => l1size b b1 b2 W
  have hh1 := Lib.hid (fun (p : Nat) (hp : p < 8) W => l1has a (p : Nat) a1 a2 (by omega) (by omega) W)
  have hh2 := Lib.hid (fun (p : Nat) (hp : p < 8) W => l1has b (p : Nat) b1 b2 (by omega) (by omega) W)
  unfold ahB
  obtain ⟨x, hx⟩ : ∃ x, cntI a = x := ⟨_, rfl⟩
  obtain ⟨y, hy⟩ : ∃ y, cntI b = y := ⟨_, rfl⟩
  rw [hx] at hs1 ⊢
  rw [hy] at hs2 ⊢
  replace hs1 := Lib.hid hs1
  replace hs2 := Lib.hid hs2
  replace hx := Lib.hid hx
  replace hy := Lib.hid hy
  by_cases hxy : x = y
  · subst hxy
    have hR := show (if x != x then decide (x < x) else fdB a b 8) = fdB a b 8 by simp
    rw [hR]
    clear hR
    obtain ⟨R, hRR⟩ : ∃ R, fdB a b 8 = R := ⟨_, rfl⟩
    rw [hRR]
    replace hRR := Lib.hid hRR
    go_enter Tryd.func103, Tryd.ntmps103
    go_wp2_with (go_at_call 63; first | ((with_reducible refine (hs1.out _).mono ?_); rintro e w' ⟨rfl, rfl⟩) | ((with_reducible refine (hs2.out _).mono ?_); rintro e w' ⟨rfl, rfl⟩))
    go_loopw [7] (fun q wr => ∃ k : Nat, k ≤ 8 ∧ q = .int .i64 k ∧ Hid (R = fdB a b (8 - k)) ∧ wr = w) (fun q _ => 8 - (intOf q).toNat)
    case atStart => exact ⟨0, by omega, rfl, Lib.hid hRR.out.symm, rfl⟩
    case round =>
      obtain ⟨k, hk, rfl, hF, rfl⟩ := hrel
      by_cases hlt : k < 8
      · have hst := hF.out.trans (fd_step hlt)
        have c1 := hh1.out k hlt
        have c2 := hh2.out k hlt
        obtain ⟨p, hp⟩ : ∃ p, hasB a (k : Nat) = p := ⟨_, rfl⟩
        obtain ⟨q, hq⟩ : ∃ q, hasB b (k : Nat) = q := ⟨_, rfl⟩
        rw [hp] at c1 hst
        rw [hq] at c2 hst
        replace hp := Lib.hid hp
        replace hq := Lib.hid hq
        by_cases hpq : p = q
        · subst hpq
          have hst2 := Lib.hid (show R = fdB a b (8 - (k + 1)) by rw [hst]; simp)
          replace c1 := Lib.hid c1
          replace c2 := Lib.hid c2
          clear hst
          go_wp2_with (go_at_call 123; first | ((with_reducible refine (c1.out _).mono ?_); rintro e w' ⟨rfl, rfl⟩) | ((with_reducible refine (c2.out _).mono ?_); rintro e w' ⟨rfl, rfl⟩))
          go_roundw
          case rel => exact ⟨k + 1, by omega, by go_num, hst2, by first | trivial | rfl⟩
          case measure => simp [intOf]; omega
        · have hne : (p != q) = true := by simp [hpq]
          have hst2 := Lib.hid (show p = R by rw [hst, if_pos hne])
          have hne2 : (!(p == q)) = true := by simp [hpq]
          have hne3 : (p == q) = false := by simp [hpq]
          replace c1 := Lib.hid c1
          replace c2 := Lib.hid c2
          clear hst
          go_wp2_with (go_at_call 123; first | ((with_reducible refine (c1.out _).mono ?_); rintro e w' ⟨rfl, rfl⟩) | ((with_reducible refine (c2.out _).mono ?_); rintro e w' ⟨rfl, rfl⟩))
          go_ret
          exact ⟨ret_bool hst2.out, rfl⟩
      · obtain rfl : k = 8 := by omega
        have hst2 := Lib.hid (show false = R from hF.out.symm)
        go_wp2_with fail
        go_ret
        exact ⟨ret_bool hst2.out, rfl⟩
  · have hne : (x != y) = true := by simp [hxy]
    have hR := Lib.hid (show decide (x < y) = (if x != y then decide (x < y) else fdB a b 8) by rw [if_pos hne])
    obtain ⟨R, hRR⟩ : ∃ R, (if x != y then decide (x < y) else fdB a b 8) = R := ⟨_, rfl⟩
    rw [hRR] at hR ⊢
    replace hRR := Lib.hid hRR
    go_enter Tryd.func103, Tryd.ntmps103
    go_wp2_with (go_at_call 63; first | ((with_reducible refine (hs1.out _).mono ?_); rintro e w' ⟨rfl, rfl⟩) | ((with_reducible refine (hs2.out _).mono ?_); rintro e w' ⟨rfl, rfl⟩))
    go_ret
    exact ⟨ret_bool hR.out, rfl⟩

end
section
/- All sets in ball order: the model's list. -/
open Go.ChangeShapes Go.WideShapes Go.ChangeAt Go.RowKit Go.Proofs

set_option maxRecDepth 100000 in
set_option maxHeartbeats 4000000 in
theorem step_app_intsb {w : World} {ops : Array Oper} {o : Oper} {a : Act} {K : Act → World → Prop} {Q : Exit → Act → World → Prop} {E : Prop} (hgd : o.guard = none) (s x : Operand)
    (ho : o.op = .call { callee := .builtin .append, args := #[s, x], argTypes := #[23, 23] })
    (B : Nat) (v : Value) (xs : List Int) (hs : a.eval s = v) (hown : OwnL w B v xs) (A : Option Addr) (c S : Nat) (ys : List Int) (hx : a.eval x = .slice A ys.length c) (hr : Row w S (.slice A ys.length c) ys)
    (hlen : xs.length ≤ 1073741824) (hlen2 : ys.length ≤ 1073741824) (hB : B ≤ w.heap.size)
    (h : ∀ v' w', OwnL w' B v' (xs ++ ys) → w.grownBy w' v.ownBlock → (∀ b, Below B b w → Below B b w') → K (a.put o.dst v') w') : if Region.wanted o (yielded ops a.tmps) = true then Oper.wp Tryd.prog o a w K Q else E := by
  have hw : Region.wanted o (yielded ops a.tmps) = true := by simp [Region.wanted, hgd]
  rw [if_pos hw]
  obtain ⟨i0, hi0, hz0, hz1, hz2⟩ := info_parts Tryd.intInfo
  obtain ⟨A', c', e, hc⟩ := hr
  injection e with e1 e2 e3
  subst e1 e3
  have hbel : ∀ w', w.grownBy w' v.ownBlock → ∀ b, Below B b w → Below B b w' := fun w' hg b hb => hb.grown hg hB (fun k e => (World.ownsRow.lt hown k e).1)
  rcases A with _ | ad
  · have hn : ys = [] := by
      rcases Nat.eq_zero_or_pos ys.length with h0 | h0
      · exact List.length_eq_zero_iff.1 h0
      · obtain ⟨b, off, e, _⟩ := hc h0; cases e
    subst hn
    have hrun := run_app_none_i o.type hown c
    unfold Oper.wp
    simp only [List.length_nil] at hx
    simp [execOp, ho, resolve, invoke, builtin, hs, hx, hrun, Result.andThen]
    exact h v w (by rw [List.append_nil]; exact hown) (World.grownBy.refl w _) (fun b hb => hb)
  · refine wp_append_own w s x 23 ho B 3 i0 (.int .i64 0) 1 8 Tryd.underlying23 hi0 hz0 hz1 hz2 rfl (by decide) v xs.length (iv xs) hs hown ad ys.length c (iv ys) hx (by simp [iv]) ?_ (iv_one ys) (by unfold maxLen; omega) (by omega) hB ?_
    · intro j u hu
      obtain ⟨hj, rfl⟩ := iv_get hu
      obtain ⟨b, off, e, _, hcc⟩ := hc (by omega)
      injection e with e
      subst e
      have hadd : (⟨b, off, none⟩ : Addr).add j = ⟨b, off + j, none⟩ := by simp [Addr.add]
      rw [hadd]
      exact hcc j hj
    · intro v' w' hown' hg _
      refine h v' w' ?_ hg (hbel w' hg)
      unfold OwnL
      rw [List.map_append, List.length_append]
      exact hown'
set_option maxRecDepth 100000 in
set_option maxHeartbeats 4000000 in
theorem cell_growb {w w' : World} {v : Value} {p : Addr} {u : Value} (h : w.cell? p = some u) (hp : p.block < w.heap.size) (hg : w.grownBy w' v.ownBlock) (hne : v.ownBlock ≠ some p.block) : w'.cell? p = some u := by
  have e := hg.block p.block hp (fun e => hne e.symm)
  simp only [World.cell?, e] at h ⊢
  exact h
set_option maxRecDepth 100000 in
set_option maxHeartbeats 4000000 in
theorem slice_fromi (b o n c l : Nat) (h1 : l ≤ n) (W : World) : (Instr.sliceAt 23 (.slice (some ⟨b, o, none⟩) n c) (some (.int .i64 ((l : Nat) : Int))) none none).run Tryd.prog W = .ok (.slice (some (if c = l then ⟨b, o, none⟩ else ⟨b, o + l, none⟩)) (n - l) (c - l)) W := by
  have hs : (sizeOf (Tryd.prog.elem 23)).run Tryd.prog W = .ok 1 W := by kernel_rfl
  have ht : Tryd.prog.underlying 23 = some (.slice (Tryd.prog.elem 23)) := by kernel_rfl
  refine (run_sliceAt_slice W 23 _ _ _ _ ht).trans ?_
  refine (run_slice_l W 23 _ _ _ ht _ _ (by omega) (by omega)).trans ?_
  rw [hs]
  simp only [Result.andThen, sliced, Int.toNat_natCast, Nat.mul_one]
  by_cases h : c = l
  · rw [if_pos h, if_pos h]
  · rw [if_neg h, if_neg h]; simp [Addr.add]
theorem slice_toi (b o M c l : Nat) (h0 : l ≤ M) (h1 : M ≤ c) (W : World) : (Instr.sliceAt 23 (.slice (some ⟨b, o, none⟩) M c) none (some (.int .i64 ((l : Nat) : Int))) none).run Tryd.prog W = .ok (.slice (some ⟨b, o, none⟩) l c) W := by
  have hs : (sizeOf (Tryd.prog.elem 23)).run Tryd.prog W = .ok 1 W := by kernel_rfl
  have ht : Tryd.prog.underlying 23 = some (.slice (Tryd.prog.elem 23)) := by kernel_rfl
  refine (run_sliceAt_slice W 23 _ _ _ _ ht).trans ?_
  refine (run_slice_h W 23 _ _ _ ht _ _ (by omega) (by omega)).trans ?_
  rw [hs]
  simp only [Result.andThen, sliced, Int.toNat_natCast, Nat.mul_one]
  by_cases h : c = 0
  · simp [h]
  · simp [Addr.add]
theorem ku_succ (j : Nat) : kL (upI (j + 1)) = insI (bkI (j : Nat)) (kL (upI j)) := by
  unfold kL
  rw [upI_succ, List.map_append, List.map_singleton, sortL_snoc]
theorem ku_mem {j : Nat} (_hj : j ≤ 256) {k : Int} (h : k ∈ kL (upI j)) : ∃ x : Int, 0 ≤ x ∧ x < j ∧ k = bkI x := by
  unfold kL at h
  rw [mem_sortL] at h
  obtain ⟨x, hx, rfl⟩ := List.mem_map.1 h
  have := mem_upI.1 hx
  exact ⟨x, this.1, this.2, rfl⟩
theorem ku_not {j : Nat} (hj : j < 256) : memB (bkI (j : Nat)) (kL (upI j)) = false := memB_mk0 fun h => by
  obtain ⟨x, x1, x2, e⟩ := ku_mem (by omega) h
  have a := (bk_facts (s := (j : Nat)) (by omega) (by omega)).2.2
  have b := (bk_facts (s := x) x1 (by omega)).2.2
  rw [e, b] at a
  omega
theorem ku_len : ∀ j : Nat, j ≤ 256 → (kL (upI j)).length = j
  | 0, _ => by simp [kL, upI, sortL]
  | j + 1, h => by rw [ku_succ, ins_len (ku_not (by omega)), ku_len j (by omega)]
theorem ku_isK {j : Nat} (hj : j ≤ 256) : ∀ k ∈ kL (upI j), IsK k := fun k hk => by
  obtain ⟨x, x1, x2, rfl⟩ := ku_mem hj hk
  exact isK_of x1 (by omega)
theorem ku_asc (j : Nat) : Asc (kL (upI j)) := asc_sortL _
theorem place_ku {j k : Nat} (hj : j < 256) (hk : k ≤ j) (h1 : ∀ i, k ≤ i → i < j → bkI (j : Nat) < (kL (upI j)).getD i 0) (h2 : k = 0 ∨ (kL (upI j)).getD (k - 1) 0 ≤ bkI (j : Nat)) : k = plN (bkI (j : Nat)) (kL (upI j)) := by
  have hl := ku_len j (by omega)
  refine plN_eq (by omega) (fun i hi => ?_) (fun i hi1 hi2 => ?_)
  · rcases h2 with h2 | h2
    · omega
    · have hne : (kL (upI j)).getD i 0 ≠ bkI (j : Nat) := fun e => by
        have := memB_no (ku_not hj)
        exact this (by rw [← e]; exact getD_mem (by omega))
      by_cases e : i = k - 1
      · subst e; omega
      · have := asc_get (ku_asc j) (i := i) (j := k - 1) (by omega) (by omega)
        omega
  · have := h1 i hi1 (by omega); omega
theorem own_some {w : World} {B : Nat} {v : Value} {xs : List Int} (h : OwnL w B v xs) (h0 : 0 < xs.length) : ∃ g c, v = .slice (some ⟨g, 0, none⟩) xs.length c ∧ xs.length ≤ c ∧ c ≤ 9223372036854775807 ∧ B ≤ g ∧ g < w.heap.size ∧ CellsAt w g 0 xs := by
  have hc := @World.ownsRow.cells _ _ _ _ _ _ _ h
  rcases h.2 with ⟨rfl, hn⟩ | ⟨g, cap, cur, rfl, hB, hg, hn, hm, hs, ht⟩
  · omega
  · refine ⟨g, cap, rfl, hn, by unfold maxLen at hm; omega, hB, (Array.getElem?_eq_some_iff.1 hg).1, fun i hi => ?_⟩
    have e : (xs.map (Value.int .i64))[i]? = some (.int .i64 (xs.getD i 0)) := by
      rw [List.getElem?_map, List.getD_eq_getElem?_getD, List.getElem?_eq_getElem hi]; rfl
    have := hc (g := g) rfl i _ e
    have hadd : (⟨g, 0, none⟩ : Addr).add i = ⟨g, i, none⟩ := by unfold Addr.add; split <;> simp_all
    rw [hadd] at this
    rw [Nat.zero_add]
    exact this
theorem row_take_i {w : World} {S g c k : Nat} {ys : List Int} (hk : k ≤ ys.length) (hg : g < S) (hc : CellsAt w g 0 ys) : Row w S (.slice (some ⟨g, 0, none⟩) (ys.take k).length c) (ys.take k) := by
  refine ⟨_, _, rfl, fun _ => ⟨g, 0, rfl, hg, fun i hi => ?_⟩⟩
  rw [List.length_take] at hi
  rw [hc i (by omega)]
  congr 2
  simp [List.getD_eq_getElem?_getD, show i < k by omega]
theorem row_drop_i {w : World} {S g c k : Nat} {ys : List Int} (hk : k ≤ ys.length) (hcap : ys.length ≤ c) (hg : g < S) (hc : CellsAt w g 0 ys) : Row w S (.slice (some (if c = k then ⟨g, 0, none⟩ else ⟨g, 0 + k, none⟩)) (ys.drop k).length (c - k)) (ys.drop k) := by
  refine ⟨_, _, rfl, fun h0 => ?_⟩
  rw [List.length_drop] at h0
  rw [if_neg (show ¬ c = k by omega)]
  refine ⟨g, 0 + k, rfl, hg, fun i hi => ?_⟩
  rw [List.length_drop] at hi
  rw [Nat.add_assoc, hc (k + i) (by omega)]
  congr 2
  simp [List.getD_eq_getElem?_getD]
/-- what the model's list leaves. -/
def OrdPost (B : Nat) (L : List Int) (w : World) (e : Ending) (w' : World) : Prop := ∃ v, e = .returned v ∧ OwnL w' B v L ∧ Below B w w' ∧ (∃ g c, v = .slice (some ⟨g, 0, none⟩) L.length c ∧ L.length ≤ c ∧ c ≤ 9223372036854775807)

end
section
/- All sets in ball order: the model. -/
open Go.ChangeShapes Go.WideShapes Go.ChangeAt Go.RowKit Go.Proofs

theorem ownL_mono {w : World} {B B' : Nat} {v : Value} {xs : List Int} (h : OwnL w B v xs) (hB : B' ≤ B) : OwnL w B' v xs := by
  refine ⟨h.1, ?_⟩
  rcases h.2 with hn | ⟨g, cap, cur, rfl, hb, rest⟩
  · exact .inl hn
  · exact .inr ⟨g, cap, cur, rfl, by omega, rest⟩
set_option maxRecDepth 20000 in
set_option maxHeartbeats 16000000 in
theorem sp_order (n : Int) (n1 : 1 ≤ n) (n2 : n ≤ 8) (w : World) : Calls Tryd.prog 73 #[.int .i64 n] w (OrdPost w.heap.size (orL n) w) := by
  obtain ⟨p1, p2, p3⟩ := pow_nat n1 n2
  have hor : orL n = unL (kL (upI (2 ^ n.toNat))) := by unfold orL; rw [up_sort]
  obtain ⟨N, hN⟩ : ∃ N : Nat, 2 ^ n.toNat = N := ⟨_, rfl⟩
  have hNi : (2 : Int) ^ n.toNat = (N : Nat) := by rw [← hN]; simp
  have hn0 : (0 : Int) ≤ n := by omega
  have hn64 : n < 64 := by omega
  rw [hN] at p1 p2 p3 hor
  rw [hor]
  have hN256 : N ≤ 256 := by omega
  replace hor := Lib.hid hor
  replace hN := Lib.hid hN
  replace hNi := Lib.hid hNi
  go_enter Tryd.func73, Tryd.ntmps73
  go_wp2_with fail
  go_loopw [3, 4] (fun v s wr => ∃ (j g c : Nat), j ≤ N ∧ s = .int .i64 j ∧ v = .slice (some ⟨g, 0, none⟩) j c ∧ j ≤ c ∧ c ≤ 9223372036854775807 ∧ Hid (OwnL wr w.heap.size (.slice (some ⟨g, 0, none⟩) j c) (unL (kL (upI j)))) ∧ Hid (CellsAt wr g 0 (unL (kL (upI j))) ∧ g < wr.heap.size) ∧ Hid (Below w.heap.size w wr)) (fun _ s _ => N - (intOf s).toNat)
  case atStart => exact ⟨0, w.heap.size, 0, by omega, rfl, rfl, by omega, by omega, Lib.hid (OwnL.lit w (Nat.le_refl _)), Lib.hid ⟨fun i hi => by simp [kL, upI, sortL, unL] at hi, by simp⟩, Lib.hid ((Below.refl _ _).alloc (Nat.le_refl _) _)⟩
  case round =>
    obtain ⟨j, g, c, hj, rfl, rfl, hjc, hcm, hown, hcel, hbel⟩ := hrel
    have hsz := hbel.out.size
    by_cases hlt : j < N
    · have j1 : (0 : Int) ≤ (j : Int) := by omega
      have j2 : (j : Int) < (N : Nat) := by omega
      have hkl := Lib.hid (ku_len j (by omega))
      have hisk := Lib.hid (ku_isK (j := j) (by omega))
      obtain ⟨hca, hgl⟩ := hcel.out
      have hca2 := Lib.hid (show ∀ i, i < j → wr.cell? ⟨g, i, none⟩ = some (.int .i64 (unb ((kL (upI j)).getD i 0))) from fun i hi => by
        have := hca i (by rw [unL_len, hkl.out]; exact hi)
        rw [Nat.zero_add, unL_get (by rw [hkl.out]; exact hi)] at this
        exact this)
      have hah := Lib.hid (fun i (hi : i < j) (W : World) => by
        obtain ⟨u1, u2, u3⟩ := hisk.out _ (getD_mem (xs := kL (upI j)) (i := i) (by rw [hkl.out]; exact hi))
        have h := sp_ahead (j : Nat) (unb ((kL (upI j)).getD i 0)) (by omega) (by omega) u1 u2 W
        rw [u3] at h
        exact h)
      have hpk := Lib.hid (fun k h0 h1 h2 => place_ku (j := j) (k := k) (by omega) h0 h1 h2)
      have hins := Lib.hid (unL_ins (x := (j : Nat)) (ks := kL (upI j)) (by omega) (by omega) (ku_not (by omega)))
      have hsu := Lib.hid (ku_succ j)
      have hul := Lib.hid (show (unL (kL (upI j))).length = j by rw [unL_len, hkl.out])
      obtain ⟨ks, hks⟩ : ∃ ks, kL (upI j) = ks := ⟨_, rfl⟩
      rw [hks] at hca2 hah hpk hins hsu hown hkl hul
      obtain ⟨K, hK⟩ : ∃ K, bkI (j : Nat) = K := ⟨_, rfl⟩
      rw [hK] at hah hpk
      replace hks := Lib.hid hks
      replace hK := Lib.hid hK
      clear hca hcel hisk
      go_wp2_with fail
      replace p3 := Lib.hid p3
      go_loopw [5] (fun q wq => ∃ k : Nat, k ≤ j ∧ q = .int .i64 k ∧ Hid (∀ i, k ≤ i → i < j → K < ks.getD i 0) ∧ wq = wr) (fun q _ => (intOf q).toNat)
      case atStart => exact ⟨j, by omega, rfl, Lib.hid (fun i h1 h2 => by omega), rfl⟩
      case round =>
        obtain ⟨k, hk, rfl, hhi, rfl⟩ := hrel
        by_cases hah2 : 0 < k ∧ K < ks.getD (k - 1) 0
        · obtain ⟨k0, hlk⟩ := hah2
          obtain ⟨m, rfl⟩ : ∃ m, k = m + 1 := ⟨k - 1, by omega⟩
          rw [show m + 1 - 1 = m by omega] at hlk
          have e1 := hca2.out m (by omega)
          have hc := hah.out m (by omega)
          rw [decide_eq_true hlk] at hc
          have hhi2 := Lib.hid (show ∀ i, m ≤ i → i < j → K < ks.getD i 0 from fun i h1 h2 => by
            by_cases e : i = m
            · subst e; exact hlk
            · exact hhi.out i (by omega) h2)
          obtain ⟨u, hu⟩ : ∃ u, unb (ks.getD m 0) = u := ⟨_, rfl⟩
          rw [hu] at e1 hc
          have hg1 : decide ((0 : Int) < ((m + 1 : Nat) : Int)) = true := decide_eq_true (by omega)
          have hg2 : decide (0 < m + 1) = true := by simp
          have hm1 : ((m + 1 : Nat) : Int) - 1 = (m : Int) := by omega
          have hm2 : (0 : Int) ≤ (m : Int) := by omega
          have hm3 : (m : Int) < (j : Int) := by omega
          have hm4 : ((m + 1 : Nat) : Int) = (m : Int) + 1 := by omega
          have hm5 : (m : Int) + 1 - 1 = (m : Int) := by omega
          replace hc := Lib.hid hc
          replace hu := Lib.hid hu
          clear hlk hhi k0
          go_wp2_with (go_at_call 103; refine (hc.out _).mono ?_; rintro e w' ⟨rfl, rfl⟩)
          refine ⟨?_, by first | (simp [intOf]; done) | (simp [intOf]; omega)⟩
          first
            | exact ⟨m, by omega, rfl, hhi2, trivial⟩
            | ((repeat apply Exists.intro); refine ⟨?_, rfl⟩; exact ⟨m, by omega, rfl, hhi2, by first | trivial | rfl⟩)
        · have hp := Lib.hid (hpk.out k hk hhi.out (by
            rcases Nat.eq_zero_or_pos k with h | h
            · exact .inl h
            · exact .inr (by omega)))
          have hfin := Lib.hid (show (unL ks).take k ++ [(j : Int)] ++ (unL ks).drop k = unL (kL (upI (j + 1))) by
            rw [hsu.out, hK.out, ← hK.out, ← hins.out, hK.out, ← hp.out]
            unfold putAt; simp)
          have hkul := Lib.hid (ku_len (j + 1) (by omega))
          obtain ⟨us, hus⟩ : ∃ us, unL (kL (upI (j + 1))) = us := ⟨_, rfl⟩
          have husl : us.length = j + 1 := by rw [← hus, unL_len, hkul.out]
          rw [hus] at hfin
          obtain ⟨t1, ht1⟩ : ∃ t1, (unL ks).take k = t1 := ⟨_, rfl⟩
          obtain ⟨t2, ht2⟩ : ∃ t2, (unL ks).drop k = t2 := ⟨_, rfl⟩
          have hl1 : t1.length = k := by rw [← ht1, List.length_take, hul.out]; omega
          have hl2 : t2.length = j - k := by rw [← ht2, List.length_drop, hul.out]
          have hs1 := fun W => slice_toi g 0 j c k hk hjc W
          have hs2 := fun W => slice_fromi g 0 j c k hk W
          obtain ⟨A2, hA2⟩ : ∃ A2, some (if c = k then (⟨g, 0, none⟩ : Addr) else ⟨g, 0 + k, none⟩) = A2 := ⟨_, rfl⟩
          rw [hA2] at hs2
          rw [ht1, ht2] at hfin
          have hcw : CellsAt wr g 0 (unL ks) := fun i hi => by
            rw [hul.out] at hi
            have := hca2.out i hi
            rw [Nat.zero_add, this, unL_get (by rw [hkl.out]; exact hi)]
          have hgB : g < wr.heap.size := hgl
          have hr1 := Lib.hid (fun (W : World) (h : Below wr.heap.size wr W) => by
            have := (row_take_i (w := wr) (S := wr.heap.size) (c := c) (k := k) (ys := unL ks) (by rw [hul.out]; exact hk) hgB hcw).below h (Nat.le_refl _)
            rw [ht1] at this; exact this)
          have hr2 := Lib.hid (fun (W : World) (h : Below wr.heap.size wr W) => by
            have := (row_drop_i (w := wr) (S := wr.heap.size) (c := c) (k := k) (ys := unL ks) (by rw [hul.out]; exact hk) (by rw [hul.out]; exact hjc) hgB hcw).below h (Nat.le_refl _)
            rw [ht2, hA2] at this; exact this)
          have hll1 := Lib.hid hl1
          have hll2 := Lib.hid hl2
          have ht1l : t1.length ≤ 1073741824 := by omega
          have ht2l : t2.length ≤ 1073741824 := by omega
          clear hl1 hl2
          have hSB := Lib.hid (show ∀ W', Below wr.heap.size wr W' → True ∧ Below wr.heap.size wr W' from fun W' h => ⟨trivial, h⟩)
          obtain ⟨lit, hlit⟩ : ∃ o : Obj, o = .cells #[] 3 := ⟨_, rfl⟩
          obtain ⟨one, hone⟩ : ∃ o : Obj, o = .cells #[.int .i64 (j : Int)] 3 := ⟨_, rfl⟩
          have hDA : ((wr.alloc one).alloc lit).drew.cell? ⟨wr.heap.size, 0, none⟩ = some (.int .i64 (j : Int)) := by
            have h1 : (wr.alloc one).cell? ⟨wr.heap.size, 0, none⟩ = some (.int .i64 (j : Int)) := by rw [hone]; exact cell_new _ _ _
            have h2 : ((wr.alloc one).alloc lit).cell? ⟨wr.heap.size, 0, none⟩ = some (.int .i64 (j : Int)) := by rw [World.cell?_alloc_past _ _ _ (by simp)]; exact h1
            exact h2
          have hAD : ((wr.alloc lit).alloc one).drew.cell? ⟨wr.heap.size + 1, 0, none⟩ = some (.int .i64 (j : Int)) := by
            have h2 := cell_new (wr.alloc lit) (.int .i64 (j : Int)) 3
            rw [World.size_alloc, ← hone] at h2
            exact h2
          have hlDA : wr.heap.size < ((wr.alloc one).alloc lit).drew.heap.size := by show _ < (World.alloc _ _).heap.size; rw [World.size_alloc, World.size_alloc]; omega
          have hlAD : wr.heap.size + 1 < ((wr.alloc lit).alloc one).drew.heap.size := by show _ < (World.alloc _ _).heap.size; rw [World.size_alloc, World.size_alloc]; omega
          have hnDA : (Value.slice (some ⟨wr.heap.size + 1, 0, none⟩) 0 0).ownBlock ≠ some wr.heap.size := by intro e; injection e with e; dsimp only at e; omega
          have hnAD : (Value.slice (some ⟨wr.heap.size, 0, none⟩) 0 0).ownBlock ≠ some (wr.heap.size + 1) := by intro e; injection e with e; dsimp only at e; omega
          have hl1 : OwnL (wr.alloc lit).drew wr.heap.size (.slice (some ⟨wr.heap.size, 0, none⟩) 0 0) [] := by rw [hlit]; exact (OwnL.lit wr (Nat.le_refl _)).drewN 1
          have hl2 : OwnL ((wr.alloc lit).alloc one).drew wr.heap.size (.slice (some ⟨wr.heap.size, 0, none⟩) 0 0) [] := by rw [hlit]; exact ((OwnL.lit wr (Nat.le_refl _)).alloc one).drewN 1
          have hl3 : OwnL ((wr.alloc one).alloc lit).drew wr.heap.size (.slice (some ⟨wr.heap.size + 1, 0, none⟩) 0 0) [] := by
            have h := (OwnL.lit (wr.alloc one) (B := wr.heap.size) (by rw [World.size_alloc]; omega)).drewN 1
            rw [World.size_alloc, ← hlit] at h
            exact h
          subst hlit hone
          have h0 : ([] : List Int).length ≤ 1073741824 := by simp
          have hla : (t1 ++ [(j : Int)]).length ≤ 1073741824 := by have := hll1.out; simp; omega
          replace hDA := Lib.hid hDA
          replace hAD := Lib.hid hAD
          replace hl1 := Lib.hid hl1
          replace hl2 := Lib.hid hl2
          replace hl3 := Lib.hid hl3
          replace hlDA := Lib.hid hlDA
          replace hlAD := Lib.hid hlAD
          replace hnDA := Lib.hid hnDA
          replace hnAD := Lib.hid hnAD
          replace ht1 := Lib.hid ht1
          replace ht2 := Lib.hid ht2
          replace hA2 := Lib.hid hA2
          replace hus := Lib.hid hus
          replace husl := Lib.hid husl
          replace hcw := Lib.hid hcw
          have hend : Hid (∀ (w3 : World) (v3 : Value), OwnL w3 wr.heap.size v3 (t1 ++ [(j : Int)] ++ t2) → Below wr.heap.size wr w3 → ∃ g' c', v3 = .slice (some ⟨g', 0, none⟩) (j + 1) c' ∧ j + 1 ≤ c' ∧ c' ≤ 9223372036854775807 ∧ Hid (OwnL w3 w.heap.size (.slice (some ⟨g', 0, none⟩) (j + 1) c') (unL (kL (upI (j + 1))))) ∧ Hid (CellsAt w3 g' 0 (unL (kL (upI (j + 1)))) ∧ g' < w3.heap.size) ∧ Hid (Below w.heap.size w w3)) := Lib.hid fun w3 v3 hO hb => by
            rw [hfin.out] at hO
            have hO2 : OwnL w3 w.heap.size v3 us := ownL_mono hO hsz
            obtain ⟨g', c', hv, q1, q2, q3, q4, q5⟩ := own_some hO2 (by rw [husl.out]; omega)
            rw [husl.out] at hv q1
            subst hv
            rw [hus.out]
            exact ⟨g', c', rfl, q1, q2, Lib.hid hO2, Lib.hid ⟨q5, q4⟩, Lib.hid (hbel.out.trans (hb.mono hsz))⟩
          have hcase : k = 0 ∨ ∃ m : Nat, k = m + 1 ∧ ¬ K < ks.getD m 0 := by
            rcases Nat.eq_zero_or_pos k with h | h
            · exact .inl h
            · exact .inr ⟨k - 1, by omega, fun hh => hah2 ⟨h, hh⟩⟩
          clear hah2 hhi hp
          rcases hcase with hk0 | ⟨m, hkm, hnl⟩
          · have hg1 : decide ((0 : Int) < (k : Int)) = false := decide_eq_false (by omega)
            have hg2 : decide (0 < k) = false := decide_eq_false (by omega)
            have hg3 : ¬ (0 < (k : Int)) := by omega
            replace hk0 := Lib.hid hk0
            go_wp2_with fail
            go_region_held3 (fun w' => True ∧ Below wr.heap.size wr w')
              (first
                | exact hSB.out _ (Below.refl _ _).drew
                | exact hSB.out _ ((fun h => Below.alloc h h.size _) (And.right (by assumption)))
                | exact hSB.out _ (by assumption))
              (first
                | (refine step_app_int (by rfl) _ _ (by rfl) wr.heap.size _ t1 (by rfl) (by first | exact hown1 | exact hown1.alloc _) (j : Int) _ (by rfl) (by first | exact cell_new _ _ _ | exact hc1) ht1l (And.right (by assumption : _ ∧ Below wr.heap.size wr _)).size ?_; intro v2 w2 hown2 hbb2; have hb2 := Below.trans (And.right (by assumption : _ ∧ Below wr.heap.size wr _)) hbb2)
                | (refine step_app_intsb (by rfl) _ _ (by rfl) wr.heap.size _ (t1 ++ [(j : Int)]) (by rfl) hown2 A2 (c - k) wr.heap.size t2 (by rw [hll2.out]; rfl) (hr2.out _ (And.right (by assumption))) hla ht2l (And.right (by assumption : _ ∧ Below wr.heap.size wr _)).size ?_; intro v3 w3 hown3 hg3 hbb3; have hb3 := hbb3 _ (And.right (by assumption)))
                | (refine step_app_intsb (by rfl) _ _ (by rfl) wr.heap.size _ [] (by rfl) (by first | exact hl1.out | exact hl2.out | exact hl3.out) (some ⟨g, 0, none⟩) c wr.heap.size t1 (by rw [hll1.out]; rfl) (hr1.out _ (And.right (by assumption))) h0 ht1l (And.right (by assumption : _ ∧ Below wr.heap.size wr _)).size ?_; intro v1 w1 hown1 hg1 hbb1; have hb1 := hbb1 _ (And.right (by assumption)); rw [List.nil_append] at hown1; first | (have hc1 := cell_growb hDA.out hlDA.out hg1 hnDA.out) | (have hc1 := cell_growb hAD.out hlAD.out hg1 hnAD.out) | skip))
            all_goals
              obtain ⟨g', c', rfl, q1, q2, q3, q4, q5⟩ := hend.out _ _ hown3 hb3
              clear hown3 hb3
              go_wp2_with fail
              go_roundw
              case rel => exact ⟨j + 1, g', c', by omega, by go_num, rfl, q1, q2, q3, q4, q5⟩
              case measure => simp [intOf]; omega
          · have e1 := hca2.out m (by omega)
            have hc := hah.out m (by omega)
            rw [decide_eq_false hnl] at hc
            obtain ⟨u, hu⟩ : ∃ u, unb (ks.getD m 0) = u := ⟨_, rfl⟩
            rw [hu] at e1 hc
            have hg1 : decide ((0 : Int) < (k : Int)) = true := decide_eq_true (by omega)
            have hg2 : decide (0 < k) = true := decide_eq_true (by omega)
            have hg3 : 0 < (k : Int) := by omega
            have hm1 : (k : Int) - 1 = (m : Int) := by omega
            have hm2 : (0 : Int) ≤ (m : Int) := by omega
            have hm3 : (m : Int) < (j : Int) := by omega
            replace hc := Lib.hid hc
            replace hu := Lib.hid hu
            replace hkm := Lib.hid hkm
            clear hnl
            go_wp2_with (go_at_call 103; refine (hc.out _).mono ?_; rintro e w' ⟨rfl, rfl⟩)
            go_region_held3 (fun w' => True ∧ Below wr.heap.size wr w')
              (first
                | exact hSB.out _ (Below.refl _ _).drew
                | exact hSB.out _ ((fun h => Below.alloc h h.size _) (And.right (by assumption)))
                | exact hSB.out _ (by assumption))
              (first
                | (refine step_app_int (by rfl) _ _ (by rfl) wr.heap.size _ t1 (by rfl) (by first | exact hown1 | exact hown1.alloc _) (j : Int) _ (by rfl) (by first | exact cell_new _ _ _ | exact hc1) ht1l (And.right (by assumption : _ ∧ Below wr.heap.size wr _)).size ?_; intro v2 w2 hown2 hbb2; have hb2 := Below.trans (And.right (by assumption : _ ∧ Below wr.heap.size wr _)) hbb2)
                | (refine step_app_intsb (by rfl) _ _ (by rfl) wr.heap.size _ (t1 ++ [(j : Int)]) (by rfl) hown2 A2 (c - k) wr.heap.size t2 (by rw [hll2.out]; rfl) (hr2.out _ (And.right (by assumption))) hla ht2l (And.right (by assumption : _ ∧ Below wr.heap.size wr _)).size ?_; intro v3 w3 hown3 hg3 hbb3; have hb3 := hbb3 _ (And.right (by assumption)))
                | (refine step_app_intsb (by rfl) _ _ (by rfl) wr.heap.size _ [] (by rfl) (by first | exact hl1.out | exact hl2.out | exact hl3.out) (some ⟨g, 0, none⟩) c wr.heap.size t1 (by rw [hll1.out]; rfl) (hr1.out _ (And.right (by assumption))) h0 ht1l (And.right (by assumption : _ ∧ Below wr.heap.size wr _)).size ?_; intro v1 w1 hown1 hg1 hbb1; have hb1 := hbb1 _ (And.right (by assumption)); rw [List.nil_append] at hown1; first | (have hc1 := cell_growb hDA.out hlDA.out hg1 hnDA.out) | (have hc1 := cell_growb hAD.out hlAD.out hg1 hnAD.out) | skip))
            all_goals
              obtain ⟨g', c', rfl, q1, q2, q3, q4, q5⟩ := hend.out _ _ hown3 hb3
              clear hown3 hb3
              go_wp2_with fail
              go_roundw
              case rel => exact ⟨j + 1, g', c', by omega, by go_num, rfl, q1, q2, q3, q4, q5⟩
              case measure => simp [intOf]; omega
    · obtain rfl : j = N := by omega
      have hO := hown.out
      have hkl := Lib.hid (ku_len j hN256)
      have hul : (unL (kL (upI j))).length = j := by rw [unL_len, hkl.out]
      have hfin := Lib.hid (show ∃ v, Ending.returned (.slice (some ⟨g, 0, none⟩) j c) = .returned v ∧ OwnL wr w.heap.size v (unL (kL (upI j))) ∧ Below w.heap.size w wr ∧ (∃ g c, v = .slice (some ⟨g, 0, none⟩) (unL (kL (upI j))).length c ∧ (unL (kL (upI j))).length ≤ c ∧ c ≤ 9223372036854775807) from ⟨_, rfl, hO, hbel.out, g, c, by rw [hul], by rw [hul]; exact hjc, hcm⟩)
      clear hO hul
      go_wp2_with fail
      go_ret
      exact hfin.out

end
section
/- BoundaryOrder: the model, the law; the first sets of an order: the program. -/
open Go.ChangeShapes Go.WideShapes Go.ChangeAt Go.RowKit Go.Proofs

/-- m sets of n points can be told. -/
def fiB (n m : Int) : Bool := ptsB n && decide (0 ≤ m ∧ m ≤ 2 ^ n.toNat)
/-- what BoundaryFirst gives. -/
def fiL (n m : Int) : List Int := sortL ((orL n).take m.toNat)
/-- what first leaves. -/
def FirstPostK (w : World) (ys : List Int) (e : Ending) (w' : World) : Prop := ∃ v, e = .returned (.agg #[v, (Value.func (.func 139) #[] #[])]) ∧ SRow w' w'.heap.size v ys ∧ Below w.heap.size w w'
set_option maxRecDepth 100000 in
set_option maxHeartbeats 4000000 in
theorem first_ball (lv : Value) (xs : List Int) (m : Nat) (S : Nat) (w : World) (hx : SRow w S lv xs) (hS : S ≤ w.heap.size) (hl : xs.length ≤ 1000) (hm : m ≤ xs.length) :
    Calls Tryd.prog 101 #[.agg #[lv, (Value.func (.func 139) #[] #[])], .int .i64 (m : Nat)] w (FirstPostK w (xs.take m)) := by
  have hmk := fun W => run_make_row' (P := Tryd.prog) 43 59 (.int .u64 0) 8 Tryd.underlying43 Tryd.setInfo rfl .i64 .i64 xs.length (by omega) (by omega) W
  simp only [made_list] at hmk
  obtain ⟨a, cap, rfl, ha⟩ := hx
  obtain ⟨N, hN⟩ : ∃ N, xs.length = N := ⟨_, rfl⟩
  rw [hN] at hmk hl hm ⊢
  have hm0 : (0 : Int) ≤ (m : Nat) := by omega
  have hm1 : ((m : Nat) : Int) ≤ (N : Nat) := by omega
  obtain ⟨w3, hw3⟩ : ∃ w3, ((w.alloc (.cells #[.slice a N cap, (Value.func (.func 139) #[] #[])] 46)).alloc (.cells #[.slice none 0 0, .nilFunc] 46)).alloc (.cells (Array.replicate N (Value.int .u64 0)) 59) = w3 := ⟨_, rfl⟩
  have hbb : Below w.heap.size w w3 := hw3 ▸ (((Below.refl w.heap.size w).alloc (Nat.le_refl _) (.cells #[.slice a N cap, (Value.func (.func 139) #[] #[])] 46)).alloc (by simp) (.cells #[.slice none 0 0, .nilFunc] 46)).alloc (by simp; omega) _
  have hz3 : w3.heap.size = w.heap.size + 3 := by rw [← hw3]; simp
  have hg3 : w3.heap[w.heap.size + 1 + 1]? = some (.cells (List.replicate N (Value.int .u64 0)).toArray 59 (0, 0)) := by
    have := heap_alloc_new ((w.alloc (.cells #[.slice a N cap, (Value.func (.func 139) #[] #[])] 46)).alloc (.cells #[.slice none 0 0, .nilFunc] 46)) (.cells (Array.replicate N (Value.int .u64 0)) 59)
    rw [hw3] at this
    simpa using this
  have hc3 : w3.heap[w.heap.size]? = some (.cells #[.slice a N cap, (Value.func (.func 139) #[] #[])] 46 (0, 0)) := by rw [← hw3]; exact new_cell3a w _ _ _ _
  have hr3 : w3.heap[w.heap.size + 1]? = some (.cells #[.slice none 0 0, .nilFunc] 46 (0, 0)) := by rw [← hw3]; exact new_cell3b w _ _ _ _
  have hcs : 0 < (sv xs).length → ∃ ad, a = some ad ∧ ∀ j u, (sv xs)[j]? = some u → w3.cell? (ad.add j) = some u := fun h0 => by
    rw [sv_len] at h0
    obtain ⟨b, off, rfl, hb, hc⟩ := ha (by omega)
    refine ⟨_, rfl, fun j u hj => ?_⟩
    obtain ⟨h1, rfl⟩ := sv_get hj
    have hadd : (⟨b, off, none⟩ : Addr).add j = ⟨b, off + j, none⟩ := by simp [Addr.add]
    rw [hadd, hbb.cell (p := ⟨b, off + j, none⟩) (by show b < w.heap.size; omega)]
    exact hc j h1
  have hss : (sv xs).length = N := by rw [sv_len, hN]
  have hsp := sp_copied xs N hN.symm
  have e0 : w3.cell? ⟨w.heap.size, 0, none⟩ = some (.slice a N cap) := by rw [cell_of_row w3 _ 0 _ 46 (0, 0) hc3]; rfl
  have e1 : w3.cell? ⟨w.heap.size, 1, none⟩ = some (Value.func (.func 139) #[] #[]) := by rw [cell_of_row w3 _ 1 _ 46 (0, 0) hc3]; rfl
  replace ha := Lib.hid ha
  replace hbb := Lib.hid hbb
  replace hcs := Lib.hid hcs
  replace hg3 := Lib.hid hg3
  replace hc3 := Lib.hid hc3
  replace hr3 := Lib.hid hr3
  replace hss := Lib.hid hss
  replace hsp := Lib.hid hsp
  replace hz3 := Lib.hid hz3
  replace hN := Lib.hid hN
  go_enter Tryd.func101, Tryd.ntmps101
  go_wp2_with (with_reducible refine wpList_copy_splice rfl (.tmp 10) (.tmp 12) 43 43 rfl 59 Tryd.underlying43 set_size1 (some ⟨w.heap.size + 1 + 1, 0, none⟩) a N N N cap rfl rfl (w.heap.size + 1 + 1) 0 (List.replicate N (Value.int .u64 0)) 59 hg3.out (sv xs) (by rw [hss.out]; exact (Nat.min_self N).symm) (fun h => ⟨rfl, hcs.out h⟩) (by rw [hss.out]; simp) (sv_one xs) (w.heap.size + 2) w3 (Below.refl _ _) (by omega) ?_; intro w4 hg4 hb4)
  rw [hsp.out] at hg4
  have hz4 : w3.heap.size ≤ w4.heap.size := hb4.size
  have f0 : w4.cell? ⟨w.heap.size, 0, none⟩ = some (.slice a N cap) := by rw [hb4.cell (p := ⟨w.heap.size, 0, none⟩) (by simp)]; exact e0
  have f1 : w4.cell? ⟨w.heap.size, 1, none⟩ = some (Value.func (.func 139) #[] #[]) := by rw [hb4.cell (p := ⟨w.heap.size, 1, none⟩) (by simp)]; exact e1
  obtain ⟨d0, d1, df0, df1⟩ := res_cells hr3.out hb4
  have rr := fun v => two_cells v (Value.func (.func 139) #[] #[]) d0 d1
  have hb5 := Lib.hid (hbb.out.trans (hb4.mono (by omega)))
  have hrow := Lib.hid (row_take (show m ≤ xs.length by rw [hN.out]; exact hm) hg4.out (w.heap.size + 3) (by omega))
  have hz5 := hz3.out
  clear hbb hcs hg3 hc3 hr3 hss hsp hg4 hb4 e0 e1 hmk ha
  have hff := Lib.hid (fun u => (hrow.out.setCell (p := ⟨w.heap.size + 1, 0, none⟩) (u := u) (by simp)).setCell (p := ⟨w.heap.size + 1, 1, none⟩) (u := (Value.func (.func 139) #[] #[])) (by simp))
  have hbf := Lib.hid (fun u => below_setCell (below_setCell hb5.out (p := ⟨w.heap.size + 1, 0, none⟩) (by simp) u) (p := ⟨w.heap.size + 1, 1, none⟩) (by simp) (Value.func (.func 139) #[] #[]))
  have hzf := Lib.hid (show w.heap.size + 3 ≤ w4.heap.size by omega)
  go_region
  go_wp2_with fail
  exact bodyPost_ret (v := .agg #[.slice (some ⟨w.heap.size + 1 + 1, 0, none⟩) m m, (Value.func (.func 139) #[] #[])]) (by simp [results, Tryd.results101, go_sem, (rr _).1, (rr _).2]) rfl ⟨_, rfl, ((hff.out _).mono (by have := hzf.out; simp [World.drew]; omega)).drewS, below_drewN (hbf.out _) 1⟩
theorem orL_len {n : Int} (n1 : 1 ≤ n) (n2 : n ≤ 8) : (orL n).length = 2 ^ n.toNat := by
  obtain ⟨p1, p2, p3⟩ := pow_nat n1 n2
  unfold orL
  rw [up_sort, unL_len, ku_len _ p1]
theorem sort_bd {xs : List Int} (hz : ∀ z ∈ xs, 0 ≤ z ∧ z < 256) : (sortL xs).length ≤ 256 ∧ ∀ z ∈ sortL xs, 0 ≤ z ∧ z < 256 := by
  have h : ∀ z ∈ sortL xs, 0 ≤ z ∧ z < 256 := fun z hz2 => hz z (mem_sortL.1 hz2)
  exact ⟨asc_len256 (asc_sortL xs) h, h⟩
set_option maxRecDepth 100000 in
set_option maxHeartbeats 2000000 in
theorem first_in_ball (n m : Int) (w : World) (hT : Tab w) : Calls Tryd.prog 70 #[balO n, .int .i64 m] w (ListPost (ifL (fiB n m) (fiL n m)) (fiB n m) w) := by
  have hpt := fun W => pts_bal n W
  have hpp := fun W => pts_in n W
  have hmt := mth_bal n
  replace hpt := Lib.hid hpt
  rcases (by cases ptsB n <;> simp : ptsB n = true ∨ ptsB n = false) with hp | hp
  · obtain ⟨n1, n2⟩ := ptsB_yes hp
    rw [hp] at hpp
    replace hpp := Lib.hid hpp
    obtain ⟨p1, p2, p3⟩ := pow_nat n1 n2
    have hol := orL_len n1 n2
    obtain ⟨N, hN⟩ : ∃ N : Nat, 2 ^ n.toNat = N := ⟨_, rfl⟩
    have hNi : (2 : Int) ^ n.toNat = (N : Nat) := by rw [← hN]; simp
    have hn0 : (0 : Int) ≤ n := by omega
    have hn64 : n < 64 := by omega
    rw [hN] at p1 p2 p3 hol
    by_cases hm : 0 ≤ m ∧ m ≤ (N : Int)
    · have hb : fiB n m = true := by unfold fiB; rw [hp, hNi]; exact decide_eq_true hm
      rw [hb]
      show Calls Tryd.prog 70 #[balO n, .int .i64 m] w (ListPost (fiL n m) true w)
      obtain ⟨m1, m2⟩ := hm
      obtain ⟨M, rfl⟩ : ∃ M : Nat, m = (M : Nat) := ⟨m.toNat, by omega⟩
      have hin := in_ball n n1 n2 w hT
      change Calls Tryd.prog 100 #[balO n] w fun e w' => ∃ v, e = .returned (.agg #[v, (Value.func (.func 139) #[] #[])]) ∧ SetL w' w.heap.size v (orL n) ∧ Below w.heap.size w w' at hin
      have hz := (kL_up_len n1 n2).2
      unfold fiL
      obtain ⟨ys, hys⟩ : ∃ ys, orL n = ys := ⟨_, rfl⟩
      rw [hys] at hin hz hol ⊢
      rw [show ((M : Nat) : Int).toNat = M from Int.toNat_natCast M]
      have hzt : ∀ z ∈ ys.take M, 0 ≤ z ∧ z < 256 := fun z h => hz z (List.mem_of_mem_take h)
      obtain ⟨hsl, hsz⟩ := sort_bd hzt
      have hfl := fld0b
      have hMl : M ≤ ys.length := by omega
      have hyl : ys.length ≤ 256 := by omega
      obtain ⟨ts, hts⟩ : ∃ ts, ys.take M = ts := ⟨_, rfl⟩
      have htl : ts.length ≤ 256 := by rw [← hts, List.length_take]; omega
      rw [hts] at hzt hsl hsz ⊢
      replace hts := Lib.hid hts
      replace hin := Lib.hid hin
      replace hsz := Lib.hid hsz
      replace hzt := Lib.hid hzt
      replace hz := Lib.hid hz
      replace hys := Lib.hid hys
      replace hb := Lib.hid hb
      replace hp := Lib.hid hp
      replace hN := Lib.hid hN
      replace hNi := Lib.hid hNi
      replace hol := Lib.hid hol
      go_enter Tryd.func70, Tryd.ntmps70
      go_wp2_with (first | (go_at_call 188; refine (hpt.out _).mono ?_; rintro e w' ⟨rfl, rfl⟩) | (go_at_call 95; refine (hpp.out _).mono ?_; rintro e w' ⟨rfl, rfl⟩))
      refine hin.out.mono ?_
      rintro e w1 ⟨v1, rfl, hS1, hb1⟩
      obtain ⟨a1, c1, rfl⟩ := hS1.form
      have hz1 := hb1.size
      have hfs := first_ball _ ys M _ w1 hS1.row (Nat.le_refl _) (by omega) hMl
      rw [hts.out] at hfs
      replace hfs := Lib.hid hfs
      replace hb1 := Lib.hid hb1
      clear hS1 hin
      go_wp2_with fail
      refine hfs.out.mono ?_
      rintro e w2 ⟨v2, rfl, hS2, hb2⟩
      have hz2 := hb2.size
      have hfo := Lib.hid (family_of _ ts _ w2 hS2 (Nat.le_refl _) (fun k _ => by
        have := (sort_bd (xs := ts.take k) (fun z h => hzt.out z (List.mem_of_mem_take h))).1
        omega) (by omega))
      obtain ⟨a2, c2, rfl, _⟩ := id hS2
      replace hb2 := Lib.hid (hb1.out.trans (hb2.mono hz1))
      clear hS2 hfs
      go_wp2_with fail
      refine hfo.out.mono ?_
      rintro e w3 ⟨v3, rfl, hS3, hb3⟩
      obtain ⟨a3, c3, rfl⟩ := hS3.form
      have hz3 := hb3.size
      have hnum := Lib.hid (numbers_at _ _ _ w3 hS3.row (Nat.le_refl _) (by omega) hsz.out)
      replace hb3 := Lib.hid (hb2.out.trans (hb3.mono (by omega)))
      clear hS3 hfo
      go_wp2_with fail
      refine hnum.out.mono ?_
      rintro e w4 ⟨t, rfl, hO, hb4⟩
      obtain ⟨ua, uc, rfl, _⟩ := id hO
      replace hb4 := Lib.hid (hb3.out.trans (hb4.mono (by omega)))
      replace hO := Lib.hid (hO.mono (show w.heap.size ≤ w3.heap.size by omega) (Nat.le_refl _))
      go_wp2_with fail
      go_ret2
      exact ⟨_, rfl, hO.out, hb4.out⟩
    · have hb : fiB n m = false := by unfold fiB; rw [hp, hNi]; exact decide_eq_false hm
      rw [hb]
      replace hb := Lib.hid hb
      replace hp := Lib.hid hp
      replace hN := Lib.hid hN
      replace hNi := Lib.hid hNi
      replace hol := Lib.hid hol
      by_cases h0 : m < 0
      · clear hm
        go_enter Tryd.func70, Tryd.ntmps70
        go_wp2_with (first | (go_at_call 188; refine (hpt.out _).mono ?_; rintro e w' ⟨rfl, rfl⟩) | (go_at_call 95; refine (hpp.out _).mono ?_; rintro e w' ⟨rfl, rfl⟩))
        go_ret2
        exact ⟨_, rfl, own_empty0 _ _ _ _ _, (Below.refl _ _).alloc (Nat.le_refl _) _⟩
      · have h1 : (N : Int) < m := by omega
        clear hm
        go_enter Tryd.func70, Tryd.ntmps70
        go_wp2_with (first | (go_at_call 188; refine (hpt.out _).mono ?_; rintro e w' ⟨rfl, rfl⟩) | (go_at_call 95; refine (hpp.out _).mono ?_; rintro e w' ⟨rfl, rfl⟩))
        go_ret2
        exact ⟨_, rfl, own_empty0 _ _ _ _ _, (Below.refl _ _).alloc (Nat.le_refl _) _⟩
  · have hb : fiB n m = false := by unfold fiB; rw [hp]; rfl
    rw [hp] at hpp
    rw [hb]
    replace hpp := Lib.hid hpp
    replace hb := Lib.hid hb
    replace hp := Lib.hid hp
    go_enter Tryd.func70, Tryd.ntmps70
    go_wp2_with (first | (go_at_call 188; refine (hpt.out _).mono ?_; rintro e w' ⟨rfl, rfl⟩) | (go_at_call 95; refine (hpp.out _).mono ?_; rintro e w' ⟨rfl, rfl⟩))
    go_ret2
    exact ⟨_, rfl, own_empty0 _ _ _ _ _, (Below.refl _ _).alloc (Nat.le_refl _) _⟩

end
section
/- The first sets in binary order: the program. -/
open Go.ChangeShapes Go.WideShapes Go.ChangeAt Go.RowKit Go.Proofs

theorem up_take {M N : Nat} (h : M ≤ N) : (upI N).take M = upI M := by
  unfold upI
  rw [← List.map_take, List.take_range, Nat.min_eq_left h]
set_option maxRecDepth 100000 in
set_option maxHeartbeats 2000000 in
theorem first_in_bin (n m : Int) (w : World) : Calls Tryd.prog 70 #[binO n, .int .i64 m] w (ListPost (ifL (fiB n m) (upI m.toNat)) (fiB n m) w) := by
  have hpt := fun W => pts_bin n W
  have hpp := fun W => pts_in n W
  have hmt := mth_bin n
  replace hpt := Lib.hid hpt
  rcases (by cases ptsB n <;> simp : ptsB n = true ∨ ptsB n = false) with hp | hp
  · obtain ⟨n1, n2⟩ := ptsB_yes hp
    rw [hp] at hpp
    replace hpp := Lib.hid hpp
    obtain ⟨p1, p2, p3⟩ := pow_nat n1 n2
    obtain ⟨N, hN⟩ : ∃ N : Nat, 2 ^ n.toNat = N := ⟨_, rfl⟩
    have hNi : (2 : Int) ^ n.toNat = (N : Nat) := by rw [← hN]; simp
    have hn0 : (0 : Int) ≤ n := by omega
    have hn64 : n < 64 := by omega
    rw [hN] at p1 p2 p3
    by_cases hm : 0 ≤ m ∧ m ≤ (N : Int)
    · have hb : fiB n m = true := by unfold fiB; rw [hp, hNi]; exact decide_eq_true hm
      rw [hb]
      show Calls Tryd.prog 70 #[binO n, .int .i64 m] w (ListPost (upI m.toNat) true w)
      obtain ⟨m1, m2⟩ := hm
      obtain ⟨M, rfl⟩ : ∃ M : Nat, m = (M : Nat) := ⟨m.toNat, by omega⟩
      have hin := in_bin n n1 n2 w
      have hz : ∀ z ∈ upI N, 0 ≤ z ∧ z < 256 := fun z h => by have := mem_upI.1 h; omega
      have hol : (upI N).length = N := upI_len N
      have htk : sortL ((upI N).take M) = upI M := by rw [up_take (by omega), up_sort]
      rw [hN] at hin
      rw [show ((M : Nat) : Int).toNat = M from Int.toNat_natCast M, ← htk]
      obtain ⟨ys, hys⟩ : ∃ ys, upI N = ys := ⟨_, rfl⟩
      rw [hys] at hin hz hol ⊢
      replace htk := Lib.hid htk
      have hzt : ∀ z ∈ ys.take M, 0 ≤ z ∧ z < 256 := fun z h => hz z (List.mem_of_mem_take h)
      obtain ⟨hsl, hsz⟩ := sort_bd hzt
      have hfl := fld0b
      have hMl : M ≤ ys.length := by omega
      have hyl : ys.length ≤ 256 := by omega
      obtain ⟨ts, hts⟩ : ∃ ts, ys.take M = ts := ⟨_, rfl⟩
      have htl : ts.length ≤ 256 := by rw [← hts, List.length_take]; omega
      rw [hts] at hzt hsl hsz ⊢
      replace hts := Lib.hid hts
      replace hin := Lib.hid hin
      replace hsz := Lib.hid hsz
      replace hzt := Lib.hid hzt
      replace hz := Lib.hid hz
      replace hys := Lib.hid hys
      replace hb := Lib.hid hb
      replace hp := Lib.hid hp
      replace hN := Lib.hid hN
      replace hNi := Lib.hid hNi
      replace hol := Lib.hid hol
      go_enter Tryd.func70, Tryd.ntmps70
      go_wp2_with (first | (go_at_call 189; refine (hpt.out _).mono ?_; rintro e w' ⟨rfl, rfl⟩) | (go_at_call 95; refine (hpp.out _).mono ?_; rintro e w' ⟨rfl, rfl⟩))
      refine hin.out.mono ?_
      rintro e w1 ⟨v1, rfl, hS1, hb1⟩
      obtain ⟨a1, c1, rfl⟩ := hS1.form
      have hz1 := hb1.size
      have hfs := first_any _ ys M _ w1 hS1.row (Nat.le_refl _) (by omega) hMl
      rw [hts.out] at hfs
      replace hfs := Lib.hid hfs
      replace hb1 := Lib.hid hb1
      clear hS1 hin
      go_wp2_with fail
      refine hfs.out.mono ?_
      rintro e w2 ⟨v2, rfl, hS2, hb2⟩
      have hz2 := hb2.size
      have hfo := Lib.hid (family_of _ ts _ w2 hS2 (Nat.le_refl _) (fun k _ => by
        have := (sort_bd (xs := ts.take k) (fun z h => hzt.out z (List.mem_of_mem_take h))).1
        omega) (by omega))
      obtain ⟨a2, c2, rfl, _⟩ := id hS2
      replace hb2 := Lib.hid (hb1.out.trans (hb2.mono hz1))
      clear hS2 hfs
      go_wp2_with fail
      refine hfo.out.mono ?_
      rintro e w3 ⟨v3, rfl, hS3, hb3⟩
      obtain ⟨a3, c3, rfl⟩ := hS3.form
      have hz3 := hb3.size
      have hnum := Lib.hid (numbers_at _ _ _ w3 hS3.row (Nat.le_refl _) (by omega) hsz.out)
      replace hb3 := Lib.hid (hb2.out.trans (hb3.mono (by omega)))
      clear hS3 hfo
      go_wp2_with fail
      refine hnum.out.mono ?_
      rintro e w4 ⟨t, rfl, hO, hb4⟩
      obtain ⟨ua, uc, rfl, _⟩ := id hO
      replace hb4 := Lib.hid (hb3.out.trans (hb4.mono (by omega)))
      replace hO := Lib.hid (hO.mono (show w.heap.size ≤ w3.heap.size by omega) (Nat.le_refl _))
      go_wp2_with fail
      go_ret2
      exact ⟨_, rfl, hO.out, hb4.out⟩
    · have hb : fiB n m = false := by unfold fiB; rw [hp, hNi]; exact decide_eq_false hm
      rw [hb]
      replace hb := Lib.hid hb
      replace hp := Lib.hid hp
      replace hN := Lib.hid hN
      replace hNi := Lib.hid hNi
      by_cases h0 : m < 0
      · clear hm
        go_enter Tryd.func70, Tryd.ntmps70
        go_wp2_with (first | (go_at_call 189; refine (hpt.out _).mono ?_; rintro e w' ⟨rfl, rfl⟩) | (go_at_call 95; refine (hpp.out _).mono ?_; rintro e w' ⟨rfl, rfl⟩))
        go_ret2
        exact ⟨_, rfl, own_empty0 _ _ _ _ _, (Below.refl _ _).alloc (Nat.le_refl _) _⟩
      · have h1 : (N : Int) < m := by omega
        clear hm
        go_enter Tryd.func70, Tryd.ntmps70
        go_wp2_with (first | (go_at_call 189; refine (hpt.out _).mono ?_; rintro e w' ⟨rfl, rfl⟩) | (go_at_call 95; refine (hpp.out _).mono ?_; rintro e w' ⟨rfl, rfl⟩))
        go_ret2
        exact ⟨_, rfl, own_empty0 _ _ _ _ _, (Below.refl _ _).alloc (Nat.le_refl _) _⟩
  · have hb : fiB n m = false := by unfold fiB; rw [hp]; rfl
    rw [hp] at hpp
    rw [hb]
    replace hpp := Lib.hid hpp
    replace hb := Lib.hid hb
    replace hp := Lib.hid hp
    go_enter Tryd.func70, Tryd.ntmps70
    go_wp2_with (first | (go_at_call 189; refine (hpt.out _).mono ?_; rintro e w' ⟨rfl, rfl⟩) | (go_at_call 95; refine (hpp.out _).mono ?_; rintro e w' ⟨rfl, rfl⟩))
    go_ret2
    exact ⟨_, rfl, own_empty0 _ _ _ _ _, (Below.refl _ _).alloc (Nat.le_refl _) _⟩
set_option maxHeartbeats 1000000 in
theorem im_BoundaryBinary (n m : Int) (w : World) : Calls Tryd.prog 33 #[.int .i64 n, .int .i64 m] w (ListPost (ifL (fiB n m) (upI m.toNat)) (fiB n m) w) := by
  have hf := Lib.hid (first_in_bin n m w)
  go_enter Tryd.func33, Tryd.ntmps33
  go_wp2_with fail
  refine hf.out.mono ?_
  rintro e w1 ⟨v, rfl, hO, hb⟩
  obtain ⟨ua, uc, rfl, _⟩ := id hO
  replace hO := Lib.hid hO
  replace hb := Lib.hid hb
  go_wp2_with fail
  go_ret2
  exact ⟨_, rfl, hO.out, hb.out⟩
set_option maxHeartbeats 1000000 in
theorem im_BoundaryFirst (n m : Int) (w : World) (hT : Tab w) : Calls Tryd.prog 29 #[.int .i64 n, .int .i64 m] w (ListPost (ifL (fiB n m) (fiL n m)) (fiB n m) w) := by
  have hf := Lib.hid (first_in_ball n m w hT)
  go_enter Tryd.func29, Tryd.ntmps29
  go_wp2_with fail
  refine hf.out.mono ?_
  rintro e w1 ⟨v, rfl, hO, hb⟩
  obtain ⟨ua, uc, rfl, _⟩ := id hO
  replace hO := Lib.hid hO
  replace hb := Lib.hid hb
  go_wp2_with fail
  go_ret2
  exact ⟨_, rfl, hO.out, hb.out⟩
theorem orL_set {n : Int} (n1 : 1 ≤ n) (n2 : n ≤ 8) : ∀ z ∈ orL n, setB n z = true := fun z hz => by
  unfold orL at hz
  rw [up_sort] at hz
  obtain ⟨k, hk, rfl⟩ := List.mem_map.1 hz
  obtain ⟨p1, p2, p3⟩ := pow_nat n1 n2
  obtain ⟨x, x1, x2, rfl⟩ := ku_mem p1 hk
  rw [(bk_facts x1 (by omega)).2.2]
  have e : ((2 ^ n.toNat : Nat) : Int) = 2 ^ n.toNat := by simp
  exact setB_mk ⟨n1, n2, x1, by omega⟩
set_option maxRecDepth 100000 in
set_option maxHeartbeats 1000000 in
theorem sp_BoundaryFirst (n m : Int) (w : World) : Calls Tryd.prog 30 #[.int .i64 n, .int .i64 m] w (ListPost (ifL (fiB n m) (fiL n m)) (fiB n m) w) := by
  have hpp := fun W => l1pts n W
  rcases (by cases ptsB n <;> simp : ptsB n = true ∨ ptsB n = false) with hp | hp
  · obtain ⟨n1, n2⟩ := ptsB_yes hp
    obtain ⟨p1, p2, p3⟩ := pow_nat n1 n2
    have hol := orL_len n1 n2
    have ho := Lib.hid (sp_order n n1 n2 w)
    obtain ⟨N, hN⟩ : ∃ N : Nat, 2 ^ n.toNat = N := ⟨_, rfl⟩
    have hNi : (2 : Int) ^ n.toNat = (N : Nat) := by rw [← hN]; simp
    have hn0 : (0 : Int) ≤ n := by omega
    have hn64 : n < 64 := by omega
    rw [hN] at p1 p2 p3 hol
    have hin := l6in m 0 (N : Nat)
    rw [hp] at hpp
    replace hpp := Lib.hid hpp
    rcases (by cases inB m 0 (N : Nat) <;> simp : inB m 0 (N : Nat) = true ∨ inB m 0 (N : Nat) = false) with hk | hk
    · have hb : fiB n m = true := by unfold fiB; rw [hp, hNi]; exact hk
      obtain ⟨m1, m2⟩ := of_decide_eq_true hk
      rw [hk] at hin
      rw [hb]
      show Calls Tryd.prog 30 #[.int .i64 n, .int .i64 m] w (ListPost (fiL n m) true w)
      obtain ⟨M, rfl⟩ : ∃ M : Nat, m = (M : Nat) := ⟨m.toNat, by omega⟩
      have hfl : fiL n (M : Nat) = sortL ((orL n).take M) := rfl
      have hsetT : allB n ((orL n).take M) = true := List.all_eq_true.2 fun z hz => orL_set n1 n2 z (List.mem_of_mem_take hz)
      rw [hfl]
      obtain ⟨ys, hys⟩ : ∃ ys, orL n = ys := ⟨_, rfl⟩
      rw [hys] at ho hol hsetT ⊢
      have hMl : M ≤ ys.length := by omega
      have m3 : ((M : Nat) : Int) ≤ (N : Nat) := m2
      replace hfl := Lib.hid hfl
      replace hsetT := Lib.hid hsetT
      replace hys := Lib.hid hys
      replace hin := Lib.hid hin
      replace hb := Lib.hid hb
      replace hp := Lib.hid hp
      replace hk := Lib.hid hk
      replace hN := Lib.hid hN
      replace hNi := Lib.hid hNi
      go_enter Tryd.func30, Tryd.ntmps30
      go_wp2_with (first | (go_at_call 71; refine (hpp.out _).mono ?_; rintro e w' ⟨rfl, rfl⟩) | (go_at_call 62; refine (hin.out _).mono ?_; rintro e w' ⟨rfl, rfl⟩))
      refine ho.out.mono ?_
      rintro e w1 ⟨v, rfl, hO, hb1, ⟨g, c, rfl, q1, q2⟩⟩
      have hz1 := hb1.size
      rw [hol] at q1 hO ⊢
      obtain ⟨g2, c2, hv, q3, q4, q5, q6, q7⟩ := own_some hO (by omega)
      rw [hol] at hv
      injection hv with hv1 hv2 hv3
      injection hv1 with hv1
      injection hv1 with hv1
      subst hv1 hv3
      have hrow := row_take_i (w := w1) (S := w1.heap.size) (c := c) (k := M) (ys := ys) hMl q6 q7
      have hfa := family_at n _ _ _ w1 hrow (Nat.le_refl _) (by rw [List.length_take]; omega) n1 n2 hsetT.out
      rw [show (ys.take M).length = M by rw [List.length_take]; omega] at hfa
      have hk1 : ((M : Nat) : Int) ≤ (c : Nat) := by omega
      have hk0 : (0 : Int) ≤ ((M : Nat) : Int) := by omega
      replace hfa := Lib.hid hfa
      replace hb1 := Lib.hid hb1
      replace hol := Lib.hid hol
      clear hO hrow ho q7
      go_wp2_with fail
      refine hfa.out.mono ?_
      rintro e w2 ⟨v2, rfl, hO2, hb2⟩
      obtain ⟨a2, c2, rfl⟩ := hO2.form
      replace hO2 := Lib.hid (hO2.own.mono hz1 (Nat.le_refl _))
      replace hb2 := Lib.hid (hb1.out.trans (hb2.mono hz1))
      go_wp2_with fail
      go_ret2
      exact ⟨_, rfl, hO2.out, hb2.out⟩
    · have hb : fiB n m = false := by unfold fiB; rw [hp, hNi]; exact hk
      rw [hk] at hin
      rw [hb]
      replace hin := Lib.hid hin
      replace hb := Lib.hid hb
      replace hp := Lib.hid hp
      replace hk := Lib.hid hk
      replace hN := Lib.hid hN
      replace hNi := Lib.hid hNi
      replace hol := Lib.hid hol
      go_enter Tryd.func30, Tryd.ntmps30
      go_wp2_with (first | (go_at_call 71; refine (hpp.out _).mono ?_; rintro e w' ⟨rfl, rfl⟩) | (go_at_call 62; refine (hin.out _).mono ?_; rintro e w' ⟨rfl, rfl⟩))
      go_ret2
      exact ⟨_, rfl, own_empty0 _ _ _ _ _, (Below.refl _ _).alloc (Nat.le_refl _) _⟩
  · have hb : fiB n m = false := by unfold fiB; rw [hp]; rfl
    rw [hp] at hpp
    rw [hb]
    replace hpp := Lib.hid hpp
    replace hb := Lib.hid hb
    replace hp := Lib.hid hp
    go_enter Tryd.func30, Tryd.ntmps30
    go_wp2_with (go_at_call 71; refine (hpp.out _).mono ?_; rintro e w' ⟨rfl, rfl⟩)
    go_ret2
    exact ⟨_, rfl, own_empty0 _ _ _ _ _, (Below.refl _ _).alloc (Nat.le_refl _) _⟩
set_option maxRecDepth 100000 in
set_option maxHeartbeats 1000000 in
theorem sp_BoundaryBinary (n m : Int) (w : World) : Calls Tryd.prog 34 #[.int .i64 n, .int .i64 m] w (ListPost (ifL (fiB n m) (upI m.toNat)) (fiB n m) w) := by
  have hpp := fun W => l1pts n W
  rcases (by cases ptsB n <;> simp : ptsB n = true ∨ ptsB n = false) with hp | hp
  · obtain ⟨n1, n2⟩ := ptsB_yes hp
    obtain ⟨p1, p2, p3⟩ := pow_nat n1 n2
    obtain ⟨N, hN⟩ : ∃ N : Nat, 2 ^ n.toNat = N := ⟨_, rfl⟩
    have hNi : (2 : Int) ^ n.toNat = (N : Nat) := by rw [← hN]; simp
    have hn0 : (0 : Int) ≤ n := by omega
    have hn64 : n < 64 := by omega
    rw [hN] at p1 p2 p3
    have hin := l6in m 0 (N : Nat)
    rw [hp] at hpp
    replace hpp := Lib.hid hpp
    rcases (by cases inB m 0 (N : Nat) <;> simp : inB m 0 (N : Nat) = true ∨ inB m 0 (N : Nat) = false) with hk | hk
    · have hb : fiB n m = true := by unfold fiB; rw [hp, hNi]; exact hk
      obtain ⟨m1, m2⟩ := of_decide_eq_true hk
      rw [hk] at hin
      rw [hb]
      show Calls Tryd.prog 34 #[.int .i64 n, .int .i64 m] w (ListPost (upI m.toNat) true w)
      obtain ⟨M, rfl⟩ : ∃ M : Nat, m = (M : Nat) := ⟨m.toNat, by omega⟩
      rw [show ((M : Nat) : Int).toNat = M from Int.toNat_natCast M]
      have hM : M ≤ 256 := by omega
      replace hin := Lib.hid hin
      replace hb := Lib.hid hb
      replace hp := Lib.hid hp
      replace hk := Lib.hid hk
      replace hN := Lib.hid hN
      replace hNi := Lib.hid hNi
      go_enter Tryd.func34, Tryd.ntmps34
      go_wp2_with (first | (go_at_call 71; refine (hpp.out _).mono ?_; rintro e w' ⟨rfl, rfl⟩) | (go_at_call 62; refine (hin.out _).mono ?_; rintro e w' ⟨rfl, rfl⟩))
      go_loopw [6, 7] (fun v s wr => ∃ k : Nat, k ≤ M ∧ s = .int .i64 k ∧ Hid (OwnL wr w.heap.size v (upI k)) ∧ Hid (Below w.heap.size w wr)) (fun _ s _ => M - (intOf s).toNat)
      case atStart => exact ⟨0, by omega, rfl, Lib.hid (OwnL.lit w (Nat.le_refl _)), Lib.hid ((Below.refl _ _).alloc (Nat.le_refl _) _)⟩
      case round =>
        obtain ⟨k, hk, rfl, hown, hbel⟩ := hrel
        have hsz := hbel.out.size
        by_cases hlt : k < M
        · have k1 : (0 : Int) ≤ (k : Int) := by omega
          have k2 : (k : Int) < (M : Nat) := by omega
          have hlen : (upI k).length ≤ 1073741824 := by rw [upI_len]; omega
          have hs := upI_succ k
          obtain ⟨ys, hys⟩ : ∃ ys, upI k = ys := ⟨_, rfl⟩
          rw [hys] at hown hs hlen
          obtain ⟨a', c', rfl⟩ := hown.out.form
          have hB1 : w.heap.size ≤ (wr.alloc (.cells #[.int .i64 (k : Int)] 3)).heap.size := by rw [World.size_alloc]; omega
          replace hys := Lib.hid hys
          replace hs := Lib.hid hs.symm
          go_wp2_with (at_builtin; refine app_int rfl _ _ rfl w.heap.size _ ys rfl (hown.out.alloc _) (k : Int) wr.heap.size rfl (cell_new _ _ _) hlen hB1 ?_; intro v' w1 hown1 hb1)
          rw [hs.out] at hown1
          replace hown1 := Lib.hid hown1
          have hb2 := Lib.hid ((hbel.out.alloc hsz _).trans hb1)
          go_roundw
          case rel => exact ⟨k + 1, by omega, by go_num, hown1, hb2⟩
          case measure => simp [intOf]; omega
        · obtain rfl : k = M := by omega
          obtain ⟨a', c', rfl⟩ := hown.out.form
          have hown2 := Lib.hid hown.out.own
          clear hown
          go_wp2_with fail
          go_ret2
          exact ⟨_, rfl, hown2.out, hbel.out⟩
    · have hb : fiB n m = false := by unfold fiB; rw [hp, hNi]; exact hk
      rw [hk] at hin
      rw [hb]
      replace hin := Lib.hid hin
      replace hb := Lib.hid hb
      replace hp := Lib.hid hp
      replace hk := Lib.hid hk
      replace hN := Lib.hid hN
      replace hNi := Lib.hid hNi
      go_enter Tryd.func34, Tryd.ntmps34
      go_wp2_with (first | (go_at_call 71; refine (hpp.out _).mono ?_; rintro e w' ⟨rfl, rfl⟩) | (go_at_call 62; refine (hin.out _).mono ?_; rintro e w' ⟨rfl, rfl⟩))
      go_ret2
      exact ⟨_, rfl, own_empty0 _ _ _ _ _, (Below.refl _ _).alloc (Nat.le_refl _) _⟩
  · have hb : fiB n m = false := by unfold fiB; rw [hp]; rfl
    rw [hp] at hpp
    rw [hb]
    replace hpp := Lib.hid hpp
    replace hb := Lib.hid hb
    replace hp := Lib.hid hp
    go_enter Tryd.func34, Tryd.ntmps34
    go_wp2_with (go_at_call 71; refine (hpp.out _).mono ?_; rintro e w' ⟨rfl, rfl⟩)
    go_ret2
    exact ⟨_, rfl, own_empty0 _ _ _ _ _, (Below.refl _ _).alloc (Nat.le_refl _) _⟩
theorem fiB_yes {n m : Int} (h : fiB n m = true) : 1 ≤ n ∧ n ≤ 8 ∧ 0 ≤ m ∧ m ≤ 2 ^ n.toNat := by
  unfold fiB at h
  rw [Bool.and_eq_true] at h
  obtain ⟨a, b⟩ := ptsB_yes h.1
  have := of_decide_eq_true h.2
  exact ⟨a, b, this⟩
end
end Go.Proofs.YtpepcjffolbdcaaDoor
