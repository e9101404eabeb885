/- The model's search for flowers: what it does in a step, and by induction. -/
import Derived.Test.YtilkcfikmlkeaaaFl1
import Derived.Test.YtilkcfikmlkeaaaAllSp
import Derived.Deep.RegionHeld3
import Derived.BigQuiet
namespace Go.Proofs.Ytilkcfikmlkeaaa
open Go.ChangeShapes Go.WideShapes Go.ChangeAt Go.RowKit Go.Proofs

set_option maxRecDepth 20000 in
theorem step_app_ints {w : World} {ops : Array Oper} {o : Oper} {a : Act} {K : Act → World → Prop} {Q : Exit → Act → World → Prop} {E : Prop} (hgd : o.guard = none) (s x : Operand)
    (ho : o.op = .call { callee := .builtin .append, args := #[s, x], argTypes := #[23, 23] })
    (B : Nat) (v : Value) (xs : List Int) (hs : a.eval s = v) (hown : OwnL w B v xs) (A : Option Addr) (c S : Nat) (ys : List Int) (hx : a.eval x = .slice A ys.length c) (hr : Row w S (.slice A ys.length c) ys)
    (hlen : xs.length ≤ 1073741824) (hlen2 : ys.length ≤ 1073741824) (hB : B ≤ w.heap.size)
    (h : ∀ v' w', OwnL w' B v' (xs ++ ys) → w.grownBy w' v.ownBlock → (∀ b, Below B b w → Below B b w') → K (a.put o.dst v') w') : if Region.wanted o (yielded ops a.tmps) = true then Oper.wp Try.prog o a w K Q else E := by
  have hw : Region.wanted o (yielded ops a.tmps) = true := by simp [Region.wanted, hgd]
  rw [if_pos hw]
  obtain ⟨i0, hi0, hz0, hz1, hz2⟩ := info_parts Try.intInfo
  obtain ⟨A', c', e, hc⟩ := hr
  injection e with e1 e2 e3
  subst e1 e3
  have hbel : ∀ w', w.grownBy w' v.ownBlock → ∀ b, Below B b w → Below B b w' := fun w' hg b hb => hb.grown hg hB (fun k e => (World.ownsRow.lt hown k e).1)
  rcases A with _ | ad
  · have hn : ys = [] := by
      rcases Nat.eq_zero_or_pos ys.length with h0 | h0
      · exact List.length_eq_zero_iff.1 h0
      · obtain ⟨b, off, e, _⟩ := hc h0; cases e
    subst hn
    have hrun := run_app_none_i o.type hown c
    unfold Oper.wp
    simp only [List.length_nil] at hx
    simp [execOp, ho, resolve, invoke, builtin, hs, hx, hrun, Result.andThen]
    exact h v w (by rw [List.append_nil]; exact hown) (World.grownBy.refl w _) (fun b hb => hb)
  · refine wp_append_own w s x 23 ho B 3 i0 (.int .i64 0) 1 8 Try.underlying23 hi0 hz0 hz1 hz2 rfl (by decide) v xs.length (iv xs) hs hown ad ys.length c (iv ys) hx (by simp [iv]) ?_ (iv_one ys) (by unfold maxLen; omega) (by omega) hB ?_
    · intro j u hu
      obtain ⟨hj, rfl⟩ := iv_get hu
      obtain ⟨b, off, e, _, hcc⟩ := hc (by omega)
      injection e with e
      subst e
      have hadd : (⟨b, off, none⟩ : Addr).add j = ⟨b, off + j, none⟩ := by simp [Addr.add]
      rw [hadd]
      exact hcc j hj
    · intro v' w' hown' hg _
      refine h v' w' ?_ hg (hbel w' hg)
      unfold OwnL
      rw [List.map_append, List.length_append]
      exact hown'
theorem cell_grow {w w' : World} {v : Value} {p : Addr} {u : Value} (h : w.cell? p = some u) (hp : p.block < w.heap.size) (hg : w.grownBy w' v.ownBlock) (hne : v.ownBlock ≠ some p.block) : w'.cell? p = some u := by
  have e := hg.block p.block hp (fun e => hne e.symm)
  simp only [World.cell?, e] at h ⊢
  exact h
/-- what the model's search leaves. -/
def FlSp (o : Option (List Int)) (B : Nat) (w : World) (e : Ending) (w' : World) : Prop := ∃ v, e = .returned (.tuple #[v, .bool o.isSome]) ∧ Own w' B w'.heap.size v (o.getD []) ∧ Below w.heap.size w w'
/-- what the search does, with d leaves to come. -/
def FlSpAt (kk d : Nat) : Prop := ∀ (f L : List Int) (fv lv : Value) (S B fr : Nat) (w : World), L.length + d = kk → Row w S fv f → S ≤ w.heap.size → OwnL w B lv L → B ≤ w.heap.size → f.length ≤ 256 → (∀ z ∈ f, 0 ≤ z ∧ z < 256) → (∀ z ∈ L, 0 ≤ z ∧ z < 256) → fr ≤ f.length →
    Calls Try.prog 13 #[fv, .int .i64 (fr : Nat), .int .i64 (kk : Nat), lv] w (FlSp (srch okB d (f.drop fr) L) B w)
set_option maxHeartbeats 2000000 in
theorem flsp_zero (kk : Nat) : FlSpAt kk 0 := fun f L fv lv S B fr w hd hx hS hL hB hl hz hzL hfr => by
  obtain ⟨fa, fc, rfl, _⟩ := id hx
  obtain ⟨la, lc, rfl⟩ := hL.form
  have hbq : (((L.length : Nat) : Int) == ((kk : Nat) : Int)) = true := by simp; omega
  have hLk : ((L.length : Nat) : Int) = ((kk : Nat) : Int) := by omega
  have hown := Lib.hid hL.own
  have hres : srch okB 0 (f.drop fr) L = some L := rfl
  rw [hres]
  replace hz := Lib.hid hz
  replace hzL := Lib.hid hzL
  replace hLk := Lib.hid hLk
  clear hx hL hd
  go_enter Try.func13, Try.ntmps13
  go_wp2_with fail
  go_ret2
  exact ⟨_, rfl, hown.out.mono (Nat.le_refl _) (Nat.le_refl _), Below.refl _ _⟩
set_option maxRecDepth 20000 in
set_option maxHeartbeats 16000000 in
theorem flsp_step (kk d : Nat) (hkk : kk ≤ 4) (ih : FlSpAt kk d) : FlSpAt kk (d + 1) := fun f L fv lv S B fr w hd hx hS hL hB hl hz hzL hfr => by
  obtain ⟨fa, fc, rfl, f3⟩ := id hx
  obtain ⟨la, lc, rfl⟩ := hL.form
  have hbq : (((L.length : Nat) : Int) == ((kk : Nat) : Int)) = false := by simp; omega
  have hLk : ¬ (((L.length : Nat) : Int) = ((kk : Nat) : Int)) := by omega
  have hL4 : L.length ≤ 4 := by omega
  obtain ⟨R0, hR0⟩ : ∃ R0, srch okB (d + 1) (f.drop fr) L = R0 := ⟨_, rfl⟩
  have hstart := Lib.hid (show R0 = stepS (srch okB d) okB L (f.drop fr) from hR0.symm)
  rw [hR0]
  obtain ⟨la', lc', hle, hrl⟩ := hL.own.row
  cases hle
  have hLr := Lib.hid hL.own.row
  have hdd := Lib.hid hd
  replace hR0 := Lib.hid hR0
  replace hL := Lib.hid hL
  replace hz := Lib.hid hz
  replace hzL := Lib.hid hzL
  replace f3 := Lib.hid f3
  replace hrl := Lib.hid hrl
  replace ih := Lib.hid ih
  replace hx := Lib.hid hx
  clear hd
  go_enter Try.func13, Try.ntmps13
  go_wp2_with fail
  go_loopw [10] (fun q wr => ∃ k : Nat, k ≤ f.length ∧ q = .int .i64 (k : Nat) ∧ Hid (Below w.heap.size w wr) ∧ Hid (R0 = stepS (srch okB d) okB L (f.drop k))) (fun q _ => f.length - (intOf q).toNat)
  case atStart => exact ⟨fr, hfr, rfl, Lib.hid (Below.refl _ _), hstart⟩
  case round =>
    obtain ⟨k, hk, rfl, hbel, hres⟩ := hrel
    by_cases hlt : k < f.length
    · obtain ⟨b1, o1, rfl, t1, c1⟩ := f3.out (by omega)
      have k1 : (0 : Int) ≤ (k : Int) := by omega
      have k2 : (k : Int) < (f.length : Nat) := by omega
      have e1 : wr.cell? ⟨b1, o1 + k, none⟩ = some (.int .i64 (f.getD k 0)) := (hbel.out.cell (p := ⟨b1, o1 + k, none⟩) (show b1 < w.heap.size by omega)).trans (c1 k hlt)
      obtain ⟨x, hx0⟩ : ∃ x, f.getD k 0 = x := ⟨_, rfl⟩
      obtain ⟨x1, x2⟩ := hz.out x (by rw [← hx0]; exact getD_mem hlt)
      rw [hx0] at e1
      have hxf := Lib.hid hx0
      clear hx0 c1
      obtain ⟨w0, rfl⟩ : ∃ w0, w0 = wr := ⟨_, rfl⟩
      go_wp2_with fail
      go_loopw [11, 12] (fun okv j wq => ∃ m : Nat, m ≤ L.length ∧ okv = .bool (okTo L x m) ∧ j = .int .i64 (m : Nat) ∧ Hid (∃ q, wq = w0.drewN q)) (fun _ j _ => L.length - (intOf j).toNat)
      case atStart => exact ⟨0, by omega, by rw [ok_yes (k := 0) (fun j hj => by omega)], rfl, Lib.hid ⟨0, rfl⟩⟩
      case round =>
        obtain ⟨m, hm, rfl, rfl, hw⟩ := hrel
        have hwd : ∀ p, Hid (∃ q, wr.drewN p = w0.drewN q) := fun p => by
          obtain ⟨q, h⟩ := hw.out
          exact Lib.hid ⟨q + p, by rw [h]; exact World.drewN_drewN _ _ _⟩
        by_cases hlm : m < L.length
        · obtain ⟨b2, o2, rfl, t2, c2⟩ := hrl.out (by omega)
          have m1 : (0 : Int) ≤ (m : Int) := by omega
          have m2 : (m : Int) < (L.length : Nat) := by omega
          have m3 : (0 : Int) < (L.length : Nat) := by omega
          have hcL : ∀ i, i < L.length → wr.cell? ⟨b2, o2 + i, none⟩ = some (.int .i64 (L.getD i 0)) := fun i hi => by
            obtain ⟨q, h⟩ := hw.out
            rw [h]
            exact (hbel.out.cell (p := ⟨b2, o2 + i, none⟩) t2).trans (c2 i hi)
          have e1' : wr.cell? ⟨b1, o1 + k, none⟩ = some (.int .i64 x) := by
            obtain ⟨q, h⟩ := hw.out
            rw [h]; exact e1
          obtain ⟨z, hz0⟩ : ∃ z, L.getD m 0 = z := ⟨_, rfl⟩
          obtain ⟨y, hy0⟩ : ∃ y, L.getD 0 0 = y := ⟨_, rfl⟩
          have e2 := hcL m hlm
          have e3 := hcL 0 (by omega)
          rw [Nat.add_zero] at e3
          rw [hz0] at e2
          rw [hy0] at e3
          obtain ⟨u1, u2⟩ := hzL.out z (by rw [← hz0]; exact getD_mem hlm)
          obtain ⟨v1, v2⟩ := hzL.out y (by rw [← hy0]; exact getD_mem (by omega))
          have hst := ok_step (x := x) hz0
          rw [hy0] at hst
          have hp := i64_andI u1 u2 x1 x2
          have hq := i64_andI v1 v2 x1 x2
          obtain ⟨p1, p2⟩ := andI_bd x u1 u2
          obtain ⟨q1, q2⟩ := andI_bd x v1 v2
          obtain ⟨p, hpp⟩ : ∃ p, andI z x = p := ⟨_, rfl⟩
          obtain ⟨q, hqq⟩ : ∃ q, andI y x = q := ⟨_, rfl⟩
          rw [hpp] at hp p1 p2 hst
          rw [hqq] at hq q1 q2 hst
          obtain ⟨ok, hok⟩ : ∃ ok, okTo L x m = ok := ⟨_, rfl⟩
          rw [hok] at hst ⊢
          replace hok := Lib.hid hok
          replace hpp := Lib.hid hpp
          replace hqq := Lib.hid hqq
          replace hz0 := Lib.hid hz0
          clear hw c2
          cases ok with
          | false =>
            rw [Bool.false_and, Bool.false_and] at hst
            replace hst := Lib.hid hst
            replace hcL := Lib.hid hcL
            replace hy0 := Lib.hid hy0
            by_cases hm0 : m = 0
            · have j1 : decide (0 < m) = false := decide_eq_false (by omega)
              have j2 : ¬ (0 : Int) < (m : Int) := by omega
              replace hm0 := Lib.hid hm0
              go_wp2_with fail
              go_quiet (fail)
              go_wp2_with fail
              go_roundw
              case rel => exact ⟨m + 1, by omega, by rw [hst.out], by go_num, hwd _⟩
              case measure => simp [intOf]; omega
            · have j1 : decide (0 < m) = true := decide_eq_true (by omega)
              have j2 : (0 : Int) < (m : Int) := by omega
              go_wp2_with fail
              go_quiet (fail)
              go_wp2_with fail
              go_quiet (fail)
              go_wp2_with fail
              go_roundw
              case rel => exact ⟨m + 1, by omega, by rw [hst.out], by go_num, hwd _⟩
              case measure => simp [intOf]; omega
          | true =>
            rw [Bool.true_and] at hst
            by_cases hpq : p = q
            · rw [decide_eq_true hpq, Bool.true_and] at hst
              have hpb : (p == q) = true := beq_iff_eq.2 hpq
              replace hpq := Lib.hid hpq
              by_cases hm0 : m = 0
              · have j1 : decide (0 < m) = false := decide_eq_false (by omega)
                have j2 : ¬ (0 : Int) < (m : Int) := by omega
                rw [j1, Bool.not_false, Bool.true_or] at hst
                replace hst := Lib.hid hst
                replace hcL := Lib.hid hcL
                replace hy0 := Lib.hid hy0
                replace hm0 := Lib.hid hm0
                go_wp2_with fail
                go_quiet (fail)
                go_wp2_with fail
                go_roundw
                case rel => exact ⟨m + 1, by omega, by rw [hst.out], by go_num, hwd _⟩
                case measure => simp [intOf]; omega
              · have j1 : decide (0 < m) = true := decide_eq_true (by omega)
                have j2 : (0 : Int) < (m : Int) := by omega
                have m4 : (1 : Int) < (L.length : Nat) := by omega
                obtain ⟨y2, hy2⟩ : ∃ y2, L.getD 1 0 = y2 := ⟨_, rfl⟩
                have e4 := hcL 1 (by omega)
                rw [hy2] at e4
                obtain ⟨s1, s2⟩ := hzL.out y2 (by rw [← hy2]; exact getD_mem (by omega))
                have hr := i64_andI v1 v2 s1 s2
                obtain ⟨r1, r2⟩ := andI_bd y2 v1 v2
                rw [j1, Bool.not_true, Bool.false_or, hy2] at hst
                obtain ⟨r, hrr⟩ : ∃ r, andI y y2 = r := ⟨_, rfl⟩
                rw [hrr] at hr r1 r2 hst
                have hwd2 : ∀ p q, Hid (∃ q', (wr.drewN p).drewN q = w0.drewN q') := fun p q => by rw [World.drewN_drewN]; exact hwd _
                replace hrr := Lib.hid hrr
                replace hy2 := Lib.hid hy2
                replace hcL := Lib.hid hcL
                replace hy0 := Lib.hid hy0
                by_cases hpr : p = r
                · rw [decide_eq_true hpr] at hst
                  have hrb : (p == r) = true := beq_iff_eq.2 hpr
                  replace hpr := Lib.hid hpr
                  replace hst := Lib.hid hst
                  go_wp2_with fail
                  go_quiet (fail)
                  go_wp2_with fail
                  go_quiet (fail)
                  go_wp2_with fail
                  go_roundw
                  case rel => exact ⟨m + 1, by omega, by rw [hst.out], by go_num, by first | exact hwd _ | exact hwd2 _ _⟩
                  case measure => simp [intOf]; omega
                · rw [decide_eq_false hpr] at hst
                  have hrb : (p == r) = false := beq_eq_false_iff_ne.2 hpr
                  replace hst := Lib.hid hst
                  go_wp2_with fail
                  go_quiet (fail)
                  go_wp2_with fail
                  go_quiet (fail)
                  go_wp2_with fail
                  go_roundw
                  case rel => exact ⟨m + 1, by omega, by rw [hst.out], by go_num, by first | exact hwd _ | exact hwd2 _ _⟩
                  case measure => simp [intOf]; omega
            · rw [decide_eq_false hpq, Bool.false_and] at hst
              have hpb : (p == q) = false := beq_eq_false_iff_ne.2 hpq
              have hwd2 : ∀ p q, Hid (∃ q', (wr.drewN p).drewN q = w0.drewN q') := fun p q => by rw [World.drewN_drewN]; exact hwd _
              replace hst := Lib.hid hst
              replace hcL := Lib.hid hcL
              replace hy0 := Lib.hid hy0
              by_cases hm0 : m = 0
              · have j1 : decide (0 < m) = false := decide_eq_false (by omega)
                have j2 : ¬ (0 : Int) < (m : Int) := by omega
                replace hm0 := Lib.hid hm0
                go_wp2_with fail
                go_quiet (fail)
                go_wp2_with fail
                go_roundw
                case rel => exact ⟨m + 1, by omega, by rw [hst.out], by go_num, hwd _⟩
                case measure => simp [intOf]; omega
              · have j1 : decide (0 < m) = true := decide_eq_true (by omega)
                have j2 : (0 : Int) < (m : Int) := by omega
                go_wp2_with fail
                go_quiet (fail)
                go_wp2_with fail
                go_quiet (fail)
                go_wp2_with fail
                go_roundw
                case rel => exact ⟨m + 1, by omega, by rw [hst.out], by go_num, by first | exact hwd _ | exact hwd2 _ _⟩
                case measure => simp [intOf]; omega
        · obtain rfl : m = L.length := by omega
          have hbr := Lib.hid (show Below w.heap.size w wr by obtain ⟨q, h⟩ := hw.out; rw [h]; exact below_drewN hbel.out q)
          have hzr := hbr.out.size
          have e1' : wr.cell? ⟨b1, o1 + k, none⟩ = some (.int .i64 x) := by
            obtain ⟨q, h⟩ := hw.out
            rw [h]; exact e1
          obtain ⟨ok, hok⟩ : ∃ ok, okTo L x L.length = ok := ⟨_, rfl⟩
          have hoB : okB L x = ok := hok
          rw [hok]
          replace hok := Lib.hid hok
          cases ok with
          | false =>
            have hnx := Lib.hid (hres.out.trans (step_no hlt hxf.out hoB))
            replace hoB := Lib.hid hoB
            go_wp2_with fail
            go_roundw
            case rel => exact ⟨k + 1, by omega, by go_num, hbr, hnx⟩
            case measure => simp [intOf]; omega
          | true =>
            have hmiss := fun hg => hres.out.trans (step_miss hlt hxf.out hoB hg)
            have hhit := fun R hg => hres.out.trans (step_hit (R := R) hlt hxf.out hoB hg)
            obtain ⟨o, ho⟩ : ∃ o, srch okB d (f.drop (k + 1)) (L ++ [x]) = o := ⟨_, rfl⟩
            rw [ho] at hmiss
            have hhit' := fun R (h : o = some R) => hhit R (ho.trans h)
            have hrowL := Lib.hid (fun W' (h : Below wr.heap.size wr W') => (hLr.out.below hbr.out (Nat.le_refl _)).below h hzr)
            have hcellB := Lib.hid (show ∀ W', Below wr.heap.size wr W' → W'.cell? ⟨b1, o1 + k, none⟩ = some (.int .i64 x) ∧ Below wr.heap.size wr W' from fun W' h => ⟨(h.cell (p := ⟨b1, o1 + k, none⟩) (show b1 < wr.heap.size by omega)).trans e1', h⟩)
            have hrec := Lib.hid (fun W2 v2 (h : Below wr.heap.size wr W2) (hO : OwnL W2 wr.heap.size v2 (L ++ [x])) => ih.out f (L ++ [x]) _ v2 S wr.heap.size (k + 1) W2 (by have := hdd.out; simp; omega) ((hx.out.below hbr.out hS).below h (by omega)) (by have := h.size; omega) hO h.size hl hz.out (fun z hm => by
              rcases List.mem_append.1 hm with hm | hm
              · exact hzL.out z hm
              · simp at hm; subst hm; exact ⟨x1, x2⟩) (by omega))
            rw [ho, show ((k + 1 : Nat) : Int) = IntKind.i64.wrap ((k : Int) + 1) by rw [IntKind.wrap_i64]; omega] at hrec
            have h0 : ([] : List Int).length ≤ 1073741824 := by simp
            have hLl : L.length ≤ 1073741824 := by omega
            obtain ⟨lit, hlit⟩ : ∃ o : Obj, o = .cells #[] 3 := ⟨_, rfl⟩
            obtain ⟨one, hone⟩ : ∃ o : Obj, o = .cells #[.int .i64 x] 3 := ⟨_, rfl⟩
            have hDA : ((wr.alloc one).alloc lit).drew.cell? ⟨wr.heap.size, 0, none⟩ = some (.int .i64 x) := by
              have h1 : (wr.alloc one).cell? ⟨wr.heap.size, 0, none⟩ = some (.int .i64 x) := by rw [hone]; exact cell_new _ _ _
              have h2 : ((wr.alloc one).alloc lit).cell? ⟨wr.heap.size, 0, none⟩ = some (.int .i64 x) := by rw [World.cell?_alloc_past _ _ _ (by simp)]; exact h1
              exact h2
            have hAD : ((wr.alloc lit).alloc one).drew.cell? ⟨wr.heap.size + 1, 0, none⟩ = some (.int .i64 x) := by
              have h2 := cell_new (wr.alloc lit) (.int .i64 x) 3
              rw [World.size_alloc, ← hone] at h2
              exact h2
            have hlDA : wr.heap.size < ((wr.alloc one).alloc lit).drew.heap.size := by show _ < (World.alloc _ _).heap.size; rw [World.size_alloc, World.size_alloc]; omega
            have hlAD : wr.heap.size + 1 < ((wr.alloc lit).alloc one).drew.heap.size := by show _ < (World.alloc _ _).heap.size; rw [World.size_alloc, World.size_alloc]; omega
            have hnDA : (Value.slice (some ⟨wr.heap.size + 1, 0, none⟩) 0 0).ownBlock ≠ some wr.heap.size := by intro e; injection e with e; dsimp only at e; omega
            have hnAD : (Value.slice (some ⟨wr.heap.size, 0, none⟩) 0 0).ownBlock ≠ some (wr.heap.size + 1) := by intro e; injection e with e; dsimp only at e; omega
            have hl1 : OwnL (wr.alloc lit).drew wr.heap.size (.slice (some ⟨wr.heap.size, 0, none⟩) 0 0) [] := by rw [hlit]; exact (OwnL.lit wr (Nat.le_refl _)).drewN 1
            have hl2 : OwnL ((wr.alloc lit).alloc one).drew wr.heap.size (.slice (some ⟨wr.heap.size, 0, none⟩) 0 0) [] := by rw [hlit]; exact ((OwnL.lit wr (Nat.le_refl _)).alloc one).drewN 1
            have hl3 : OwnL ((wr.alloc one).alloc lit).drew wr.heap.size (.slice (some ⟨wr.heap.size + 1, 0, none⟩) 0 0) [] := by
              have h := (OwnL.lit (wr.alloc one) (B := wr.heap.size) (by rw [World.size_alloc]; omega)).drewN 1
              rw [World.size_alloc, ← hlit] at h
              exact h
            subst hlit hone
            replace hDA := Lib.hid hDA
            replace hAD := Lib.hid hAD
            replace hl1 := Lib.hid hl1
            replace hl2 := Lib.hid hl2
            replace hl3 := Lib.hid hl3
            replace hlDA := Lib.hid hlDA
            replace hlAD := Lib.hid hlAD
            replace hnDA := Lib.hid hnDA
            replace hnAD := Lib.hid hnAD
            replace ho := Lib.hid ho
            replace hoB := Lib.hid hoB
            replace hmiss := Lib.hid hmiss
            replace hhit := Lib.hid hhit'
            clear hhit' hw
            cases o with
            | none =>
              have hrec' : Hid (∀ W2 v2, Below wr.heap.size wr W2 → OwnL W2 wr.heap.size v2 (L ++ [x]) → Calls Try.prog 13 #[.slice (some ⟨b1, o1, none⟩) f.length fc, .int .i64 (IntKind.i64.wrap ((k : Int) + 1)), .int .i64 (kk : Nat), v2] W2 fun e w' => ∃ v, e = .returned (.tuple #[v, .bool false]) ∧ Own w' wr.heap.size w'.heap.size v [] ∧ Below W2.heap.size W2 w') := hrec
              have hnx := Lib.hid (hmiss.out rfl)
              clear hrec
              go_wp2_with fail
              go_region_held3 (fun w' => w'.cell? ⟨b1, o1 + k, none⟩ = some (.int .i64 x) ∧ Below wr.heap.size wr w')
                (first
                  | exact hcellB.out _ (Below.refl _ _).drew
                  | exact hcellB.out _ ((fun h => Below.alloc h h.size _) (And.right (by assumption)))
                  | exact hcellB.out _ (by assumption))
                (first
                  | (refine step_app_int (by rfl) _ _ (by rfl) wr.heap.size _ L (by rfl) (by first | exact hown1 | exact hown1.alloc _) x _ (by rfl) (by first | exact cell_new _ _ _ | exact hc1) hLl (And.right (by assumption : _ ∧ Below wr.heap.size wr _)).size ?_; intro v2 w2 hown2 hbb2; have hb2 := Below.trans (And.right (by assumption : _ ∧ Below wr.heap.size wr _)) hbb2)
                  | (refine step_app_ints (by rfl) _ _ (by rfl) wr.heap.size _ [] (by rfl) (by first | exact hl1.out | exact hl2.out | exact hl3.out) la lc w.heap.size L (by rfl) (hrowL.out _ (And.right (by assumption))) h0 hLl (And.right (by assumption : _ ∧ Below wr.heap.size wr _)).size ?_; intro v1 w1 hown1 hg1 hbb1; have hb1 := hbb1 _ (And.right (by assumption)); rw [List.nil_append] at hown1; first | (have hc1 := cell_grow hDA.out hlDA.out hg1 hnDA.out) | (have hc1 := cell_grow hAD.out hlAD.out hg1 hnAD.out) | skip)
                  | (go_at_call 13; refine (hrec'.out _ _ (And.right (by assumption)) (by assumption)).mono ?_; rintro e w5 ⟨v5, rfl, hO5, hb5⟩; have hb6 := Below.trans (And.right (by assumption : _ ∧ Below wr.heap.size wr _)) (hb5.mono (And.right (by assumption : _ ∧ Below wr.heap.size wr _)).size)))
              all_goals
                have hbe := Lib.hid (hbr.out.trans (hb6.mono hzr))
                obtain ⟨a5, c5, rfl, _⟩ := hO5
                clear hb5 hb6
                go_wp2_with fail
                go_roundw
                case rel => exact ⟨k + 1, by omega, by go_num, hbe, hnx⟩
                case measure => simp [intOf]; omega
            | some R =>
              have hrec' : Hid (∀ W2 v2, Below wr.heap.size wr W2 → OwnL W2 wr.heap.size v2 (L ++ [x]) → Calls Try.prog 13 #[.slice (some ⟨b1, o1, none⟩) f.length fc, .int .i64 (IntKind.i64.wrap ((k : Int) + 1)), .int .i64 (kk : Nat), v2] W2 fun e w' => ∃ v, e = .returned (.tuple #[v, .bool true]) ∧ Own w' wr.heap.size w'.heap.size v R ∧ Below W2.heap.size W2 w') := hrec
              have hR := Lib.hid (hhit.out R rfl)
              clear hrec
              go_wp2_with fail
              go_region_held3 (fun w' => w'.cell? ⟨b1, o1 + k, none⟩ = some (.int .i64 x) ∧ Below wr.heap.size wr w')
                (first
                  | exact hcellB.out _ (Below.refl _ _).drew
                  | exact hcellB.out _ ((fun h => Below.alloc h h.size _) (And.right (by assumption)))
                  | exact hcellB.out _ (by assumption))
                (first
                  | (refine step_app_int (by rfl) _ _ (by rfl) wr.heap.size _ L (by rfl) (by first | exact hown1 | exact hown1.alloc _) x _ (by rfl) (by first | exact cell_new _ _ _ | exact hc1) hLl (And.right (by assumption : _ ∧ Below wr.heap.size wr _)).size ?_; intro v2 w2 hown2 hbb2; have hb2 := Below.trans (And.right (by assumption : _ ∧ Below wr.heap.size wr _)) hbb2)
                  | (refine step_app_ints (by rfl) _ _ (by rfl) wr.heap.size _ [] (by rfl) (by first | exact hl1.out | exact hl2.out | exact hl3.out) la lc w.heap.size L (by rfl) (hrowL.out _ (And.right (by assumption))) h0 hLl (And.right (by assumption : _ ∧ Below wr.heap.size wr _)).size ?_; intro v1 w1 hown1 hg1 hbb1; have hb1 := hbb1 _ (And.right (by assumption)); rw [List.nil_append] at hown1; first | (have hc1 := cell_grow hDA.out hlDA.out hg1 hnDA.out) | (have hc1 := cell_grow hAD.out hlAD.out hg1 hnAD.out) | skip)
                  | (go_at_call 13; refine (hrec'.out _ _ (And.right (by assumption)) (by assumption)).mono ?_; rintro e w5 ⟨v5, rfl, hO5, hb5⟩; have hb6 := Below.trans (And.right (by assumption : _ ∧ Below wr.heap.size wr _)) (hb5.mono (And.right (by assumption : _ ∧ Below wr.heap.size wr _)).size)))
              all_goals
                have hbe := Lib.hid (hbr.out.trans (hb6.mono hzr))
                obtain ⟨a5, c5, rfl, _⟩ := id hO5
                have hfin := Lib.hid (show FlSp R0 B w (.returned (.tuple #[.slice a5 R.length c5, .bool true])) w5 by rw [hR.out]; exact ⟨_, rfl, hO5.mono (by omega) (Nat.le_refl _), hbe.out⟩)
                clear hb5 hb6 hO5
                go_wp2_with fail
                go_ret2
                exact hfin.out
    · have hfin := Lib.hid (show FlSp R0 B w (.returned (.tuple #[.slice (some ⟨wr.heap.size, 0, none⟩) 0 0, .bool false])) (wr.alloc (.cells #[] 3)) by
        rw [show R0 = none by rw [hres.out]; exact step_none _ _ _ (by omega)]
        exact ⟨_, rfl, own_empty0 _ _ _ _ _, hbel.out.alloc hbel.out.size _⟩)
      go_wp2_with fail
      go_ret2
      exact hfin.out
theorem flsp_at (kk : Nat) (hkk : kk ≤ 4) : ∀ d, FlSpAt kk d
  | 0 => flsp_zero kk
  | d + 1 => flsp_step kk d hkk (flsp_at kk hkk d)
end Go.Proofs.Ytilkcfikmlkeaaa
