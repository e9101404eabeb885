/- The model: unions, common sets, what is left, common parts, joins, traces, links, levels, others. -/
import Derived.Test.YtapijjfhdhkakaaSpec3
import Derived.Test.YtapijjfhdhkakaaLawsB
import Derived.Test.YtapijjfhdhkakaaBits
import Derived.Test.YtapijjfhdhkakaaFams10
namespace Go.Proofs.Ytapijjfhdhkakaa
open Go.ChangeShapes Go.WideShapes Go.ChangeAt Go.RowKit Go.Proofs

/-- the cells of a list of numbers. -/
def iv (xs : List Int) : List Value := xs.map (Value.int .i64)
theorem iv_get {xs : List Int} {j : Nat} {u : Value} (h : (iv xs)[j]? = some u) : j < xs.length ∧ u = .int .i64 (xs.getD j 0) := by
  unfold iv at h
  rw [List.getElem?_map] at h
  cases hx : xs[j]? with
  | none => rw [hx] at h; cases h
  | some x =>
    rw [hx] at h
    have hj := (List.getElem?_eq_some_iff.1 hx).1
    refine ⟨hj, ?_⟩
    rw [List.getD_eq_getElem?_getD, hx]
    simp at h
    exact h.symm
theorem iv_one (xs : List Int) : ∀ v ∈ iv xs, v.oneCell' = true := by
  intro v hv
  obtain ⟨x, _, rfl⟩ := List.mem_map.1 hv
  rfl
theorem run_app_none_i {w : World} {B : Nat} {v : Value} {xs : List Int} (ty : TypeId) (h : OwnL w B v xs) (c : Nat) : (Builtin.append_ #[23, 23] ty #[v, .slice none 0 c]).run Try.prog w = .ok v w := by
  obtain ⟨i0, hi0, hz0, hz1, hz2⟩ := info_parts Try.intInfo
  have ht := Try.underlying23
  rcases h.2 with ⟨rfl, _⟩ | ⟨g, cap, cur, rfl, _, _, hn, _⟩
  · simp [Builtin.append_, run_underlying ht, sizeOf, typeInfo, hi0, Builtin.lenOf, Builtin.firstCells]
  · simp [Builtin.append_, run_underlying ht, sizeOf, typeInfo, hi0, Builtin.lenOf, Builtin.firstCells, hn, storeCells]
set_option maxRecDepth 100000 in
theorem app_ints {w : World} {ops : Array Oper} {rest : List Oper} {o : Oper} {a : Act} {Q : Exit → Act → World → Prop} (hgd : o.guard = none) (s x : Operand)
    (ho : o.op = .call { callee := .builtin .append, args := #[s, x], argTypes := #[23, 23] })
    (B : Nat) (v : Value) (xs : List Int) (hs : a.eval s = v) (hown : OwnL w B v xs) (A : Option Addr) (c S : Nat) (ys : List Int) (hx : a.eval x = .slice A ys.length c) (hr : Row w S (.slice A ys.length c) ys)
    (hlen : xs.length ≤ 1073741824) (hlen2 : ys.length ≤ 1073741824) (hB : B ≤ w.heap.size)
    (h : ∀ v' w', OwnL w' B v' (xs ++ ys) → Below B w w' → wpList Try.prog ops Q rest (a.put o.dst v') w') : wpList Try.prog ops Q (o :: rest) a w := by
  obtain ⟨i0, hi0, hz0, hz1, hz2⟩ := info_parts Try.intInfo
  obtain ⟨A', c', e, hc⟩ := hr
  injection e with e1 e2 e3
  subst e1 e3
  rcases A with _ | ad
  · have hn : ys = [] := by
      rcases Nat.eq_zero_or_pos ys.length with h0 | h0
      · exact List.length_eq_zero_iff.1 h0
      · obtain ⟨b, off, e, _⟩ := hc h0; cases e
    subst hn
    refine wpList_plain hgd fun K hK => ?_
    have hrun := run_app_none_i o.type hown c
    unfold Oper.wp
    simp only [List.length_nil] at hx
    simp [execOp, ho, resolve, invoke, builtin, hs, hx, hrun, Result.andThen]
    exact hK _ _ (h v w (by rw [List.append_nil]; exact hown) (Below.refl _ _))
  · refine wpList_append_own w hgd s x 23 ho B 3 i0 (.int .i64 0) 1 8 Try.underlying23 hi0 hz0 hz1 hz2 rfl (by decide) v xs.length (iv xs) hs hown ad ys.length c (iv ys) hx (by simp [iv]) ?_ (iv_one ys) (by unfold maxLen; omega) (by omega) hB ?_
    · intro j u hu
      obtain ⟨hj, rfl⟩ := iv_get hu
      obtain ⟨b, off, e, _, hcc⟩ := hc (by omega)
      injection e with e
      subst e
      have hadd : (⟨b, off, none⟩ : Addr).add j = ⟨b, off + j, none⟩ := by simp [Addr.add]
      rw [hadd]
      exact hcc j hj
    · intro v' w' hown' hg _
      refine h v' w' ?_ ((Below.refl B w).grown hg hB (fun k e => (World.ownsRow.lt hown k e).1))
      unfold OwnL
      rw [List.map_append, List.length_append]
      exact hown'
theorem allB_app {n : Int} {xs zs : List Int} (h1 : allB n xs = true) (h2 : allB n zs = true) : allB n (xs ++ zs) = true := List.all_eq_true.2 fun z hz => by
  rcases List.mem_append.1 hz with h | h
  · exact allB_yes h1 z h
  · exact allB_yes h2 z h
theorem famB_allB {n : Int} {xs : List Int} (h : famB n xs = true) : allB n xs = true := List.all_eq_true.2 (famB_all h).2.2
theorem own_lift {w w' : World} {q : Nat} {v : Value} {L : List Int} (h : OwnL w' (w.drewN q).heap.size v L) : Own w' w.heap.size w'.heap.size v L := h.own

set_option maxHeartbeats 2000000 in
theorem sp_FamilyUnion (n : Int) (lv lu : Value) (xs zs : List Int) (S : Nat) (w : World) (hx : Row w S lv xs) (hy : Row w S lu zs) (hS : S ≤ w.heap.size) (hl : xs.length ≤ 100000000) (hl2 : zs.length ≤ 100000000) :
    Calls Try.prog 30 #[.int .i64 n, lv, lu] w (ListPost (ifL (famB n xs && famB n zs) (sortL (xs ++ zs))) (famB n xs && famB n zs) w) := by
  have h1 := sp_both n lv lu xs zs S w hx hy (by omega) (by omega)
  obtain ⟨a, cap, rfl, ha⟩ := id hx
  obtain ⟨b, cbp, rfl, hb⟩ := id hy
  rcases (by cases (famB n xs && famB n zs) <;> simp : (famB n xs && famB n zs) = true ∨ (famB n xs && famB n zs) = false) with hB | hB
  · rw [hB] at h1 ⊢
    rw [Bool.and_eq_true] at hB
    obtain ⟨f1, f2⟩ := hB
    obtain ⟨n1, n2, _⟩ := famB_all f1
    have a1 := famB_allB f1
    have a2 := famB_allB f2
    have l1 := famB_len f1
    have l2 := famB_len f2
    have A1 := famB_asc f1
    have A2 := famB_asc f2
    replace h1 := Lib.hid h1
    replace f1 := Lib.hid f1
    replace f2 := Lib.hid f2
    replace a1 := Lib.hid a1
    replace a2 := Lib.hid a2
    replace A1 := Lib.hid A1
    replace A2 := Lib.hid A2
    replace hx := Lib.hid hx
    replace hy := Lib.hid hy
    replace ha := Lib.hid ha
    replace hb := Lib.hid hb
    show Calls Try.prog 30 #[.int .i64 n, .slice a xs.length cap, .slice b zs.length cbp] w (ListPost (sortL (xs ++ zs)) true w)
    go_enter Try.func30, Try.ntmps30
    go_wp2_with fail
    refine h1.out.mono ?_
    rintro e w1 ⟨rfl, q, rfl⟩
    have hlit := Lib.hid (OwnL.lit (w.drewN q) (Nat.le_refl w.heap.size))
    have hbl := Lib.hid ((below_drewN (Below.refl w.heap.size w) q).alloc (Nat.le_refl _) (.cells #[] 3))
    have hrx := Lib.hid (hx.out.below hbl.out hS)
    have hry := Lib.hid (hy.out.below hbl.out hS)
    have hqs : w.heap.size ≤ ((w.drewN q).alloc (.cells #[] 3)).heap.size := by rw [World.size_alloc]; exact Nat.le_succ _
    have h0 : ([] : List Int).length ≤ 1073741824 := by simp
    have hl1' : xs.length ≤ 1073741824 := by omega
    have hl2' : zs.length ≤ 1073741824 := by omega
    obtain ⟨ys, hys⟩ : ∃ ys, xs ++ zs = ys := ⟨_, rfl⟩
    have hya := Lib.hid (hys ▸ allB_app a1.out a2.out : allB n ys = true)
    have hyl : ys.length ≤ 512 := by rw [← hys, List.length_append]; omega
    rw [hys]
    replace hys := Lib.hid hys
    go_wp2_with (first
      | (at_builtin; refine app_ints rfl _ _ rfl w.heap.size _ [] rfl hlit.out a cap S xs rfl hrx.out h0 hl1' hqs ?_; intro v1 w1 hO1 hb1; rw [List.nil_append] at hO1; obtain ⟨u1, u2, rfl⟩ := hO1.form; have hry1 := hry.out.below hb1 hS; have hq1 := Nat.le_trans hqs hb1.size; replace hry1 := Lib.hid hry1; replace hO1 := Lib.hid hO1; replace hb1 := Lib.hid hb1)
      | (at_builtin; refine app_ints rfl _ _ rfl w.heap.size _ xs rfl hO1.out b cbp S zs rfl hry1.out hl1' hl2' hq1 ?_; intro v2 w2 hO2 hb2; rw [hys.out] at hO2; obtain ⟨t1, t2, rfl⟩ := hO2.form; replace hO2 := Lib.hid hO2; replace hb2 := Lib.hid hb2))
    have hb3 := Lib.hid (hbl.out.trans (hb1.out.trans hb2.out))
    have hfa := Lib.hid (family_at n _ ys _ w2 hO2.out.own.row (Nat.le_refl _) (by omega) n1 n2 hya.out)
    have hz3 := hb3.out.size
    clear h1
    refine hfa.out.mono ?_
    rintro e w4 ⟨v4, rfl, hO4, hb4⟩
    obtain ⟨x1, x2, rfl⟩ := hO4.form
    replace hb4 := Lib.hid (hb3.out.trans (hb4.mono hz3))
    replace hO4 := Lib.hid (hO4.own.mono hz3 (Nat.le_refl _))
    go_wp2_with fail
    go_ret2
    exact ⟨_, rfl, by rw [hys.out]; exact hO4.out, hb4.out⟩
  · rw [hB] at h1 ⊢
    replace h1 := Lib.hid h1
    replace hB := Lib.hid hB
    clear hx hy ha hb
    go_enter Try.func30, Try.ntmps30
    go_wp2_with fail
    refine h1.out.mono ?_
    rintro e w1 ⟨rfl, q, rfl⟩
    go_wp2_with fail
    go_ret2
    exact ⟨_, rfl, own_empty0 _ _ _ _ _, ((below_drewN (Below.refl _ w) q).alloc (Nat.le_refl _) _)⟩

theorem filt_yes {xs : List Int} {k : Nat} {x : Int} (hk : k < xs.length) (hx : xs.getD k 0 = x) (p : Int → Bool) (h : p x = true) : (xs.take (k + 1)).filter p = (xs.take k).filter p ++ [x] := by rw [take_snoc hk, hx, filter_snoc, if_pos h]
theorem filt_no {xs : List Int} {k : Nat} {x : Int} (hk : k < xs.length) (hx : xs.getD k 0 = x) (p : Int → Bool) (h : p x = false) : (xs.take (k + 1)).filter p = (xs.take k).filter p := by rw [take_snoc hk, hx, filter_snoc, if_neg (by simp [h]), List.append_nil]
set_option maxHeartbeats 2000000 in
theorem keep_at (lv : Value) (xs : List Int) (S b N : Nat) (p : Nat → Bool) (m : Bool) (w : World) (hx : Row w S lv xs) (hS : S ≤ w.heap.size) (hl : xs.length ≤ 1000) (hm : MarkRow w b N p) (hset : ∀ x ∈ xs, ∃ t : Nat, x = t ∧ t < N) :
    Calls Try.prog 80 #[lv, .slice (some ⟨b, 0, none⟩) N N, .bool m] w (IntsPost (xs.filter (fun z => p z.toNat == m)) w) := by
  have hblt := World.rowIs.lt hm
  obtain ⟨a, cap, rfl, ha⟩ := hx
  replace ha := Lib.hid ha
  replace hm := Lib.hid hm
  replace hset := Lib.hid hset
  go_enter Try.func80, Try.ntmps80
  go_wp2_with fail
  go_loopw [7, 8] (fun v q wr => ∃ k : Nat, k ≤ xs.length ∧ q = .int .i64 k ∧ Hid (OwnL wr w.heap.size v ((xs.take k).filter (fun z => p z.toNat == m))) ∧ Hid (Below w.heap.size w wr)) (fun _ q _ => xs.length - (intOf q).toNat)
  case atStart => exact ⟨0, by omega, rfl, Lib.hid (OwnL.lit w (Nat.le_refl _)), Lib.hid ((Below.refl _ _).alloc (Nat.le_refl _) _)⟩
  case round =>
    obtain ⟨k, hk, rfl, hown, hbel⟩ := hrel
    have hsz := hbel.out.size
    by_cases hlt : k < xs.length
    · obtain ⟨b1, o1, rfl, s1, c1⟩ := ha.out (by omega)
      have k1 : (0 : Int) ≤ (k : Int) := by omega
      have k2 : (k : Int) < (xs.length : Nat) := by omega
      have e1 : wr.cell? ⟨b1, o1 + k, none⟩ = some (.int .i64 (xs.getD k 0)) := (hbel.out.cell (p := ⟨b1, o1 + k, none⟩) (show b1 < w.heap.size by omega)).trans (c1 k hlt)
      obtain ⟨x, hx⟩ : ∃ x, xs.getD k 0 = x := ⟨_, rfl⟩
      obtain ⟨t, rfl, ht⟩ := hset.out x (by rw [← hx]; exact getD_mem hlt)
      rw [hx] at e1
      have t1 : (0 : Int) ≤ (t : Int) := by omega
      have t2 : (t : Int) < (N : Nat) := by omega
      have e2 := World.rowIs.cell (hm.out.below hbel.out hblt) ht
      have hlen : ((xs.take k).filter (fun z => p z.toNat == m)).length ≤ 1073741824 := by have := List.length_filter_le (fun z : Int => p z.toNat == m) (xs.take k); rw [List.length_take] at this; omega
      obtain ⟨r, hr⟩ : ∃ r, p t = r := ⟨_, rfl⟩
      rcases (by cases (r == m) <;> simp : (r == m) = true ∨ (r == m) = false) with hp | hp
      · have hs := filt_yes hlt hx (fun z => p z.toNat == m) (by simp only [Int.toNat_natCast]; rw [hr]; exact hp)
        obtain ⟨ys, hys⟩ : ∃ ys, (xs.take k).filter (fun z => p z.toNat == m) = ys := ⟨_, rfl⟩
        rw [hys] at hown hs hlen
        obtain ⟨a', c', rfl⟩ := hown.out.form
        rw [hr] at e2
        have hB1 : w.heap.size ≤ (wr.alloc (.cells #[.int .i64 (t : Int)] 3)).heap.size := by rw [World.size_alloc]; omega
        clear hx c1
        replace hr := Lib.hid hr
        replace hys := Lib.hid hys
        replace hs := Lib.hid hs.symm
        go_wp2_with (at_builtin; refine app_int rfl _ _ rfl w.heap.size _ ys rfl (hown.out.alloc _) (t : Int) wr.heap.size rfl (cell_new _ _ _) hlen hB1 ?_; intro v' w1 hown1 hb1)
        rw [hs.out] at hown1
        replace hown1 := Lib.hid hown1
        have hb2 := Lib.hid ((hbel.out.alloc hsz _).trans hb1)
        go_roundw
        case rel => exact ⟨k + 1, by omega, by go_num, hown1, hb2⟩
        case measure => simp [intOf]; omega
      · have hs := filt_no hlt hx (fun z => p z.toNat == m) (by simp only [Int.toNat_natCast]; rw [hr]; exact hp)
        rw [← hs] at hown
        obtain ⟨zs, hzs⟩ : ∃ zs, (xs.take (k + 1)).filter (fun z => p z.toNat == m) = zs := ⟨_, rfl⟩
        rw [hzs] at hown
        obtain ⟨a', c', rfl⟩ := hown.out.form
        rw [hr] at e2
        clear hx c1 hs hlen
        replace hr := Lib.hid hr
        replace hzs := Lib.hid hzs
        go_wp2_with fail
        go_roundw
        case rel => exact ⟨k + 1, by omega, by go_num, by rw [hzs.out]; exact hown, hbel⟩
        case measure => simp [intOf]; omega
    · obtain rfl : k = xs.length := by omega
      have hO := hown.out
      rw [List.take_length] at hO
      obtain ⟨a', c', rfl⟩ := hO.form
      replace hO := Lib.hid hO
      clear hown
      go_wp2_with fail
      go_ret
      exact ⟨_, rfl, hO.out, hbel.out⟩

theorem filt_eq {n : Int} {xs : List Int} (h : allB n xs = true) (hA : Asc xs) (p q : Int → Bool) (hpq : ∀ z, 0 ≤ z → p z = q z) : xs.filter p = sortL (xs.filter q) := by
  rw [sortL_asc (asc_filter hA _)]
  exact List.filter_congr fun z hz => hpq z (setB_lt (allB_yes h z hz)).1

set_option maxHeartbeats 2000000 in
theorem sp_FamilyCommon (n : Int) (lv lu : Value) (xs zs : List Int) (S : Nat) (w : World) (hx : Row w S lv xs) (hy : Row w S lu zs) (hS : S ≤ w.heap.size) (hl : xs.length ≤ 100000000) (hl2 : zs.length ≤ 100000000) :
    Calls Try.prog 33 #[.int .i64 n, lv, lu] w (ListPost (ifL (famB n xs && famB n zs) (sortL (xs.filter (fun x => memB x zs)))) (famB n xs && famB n zs) w) := by
  have h1 := sp_both n lv lu xs zs S w hx hy (by omega) (by omega)
  obtain ⟨a, cap, rfl, ha⟩ := id hx
  obtain ⟨b, cbp, rfl, hb⟩ := id hy
  rcases (by cases (famB n xs && famB n zs) <;> simp : (famB n xs && famB n zs) = true ∨ (famB n xs && famB n zs) = false) with hB | hB
  · rw [hB] at h1 ⊢
    rw [Bool.and_eq_true] at hB
    obtain ⟨f1, f2⟩ := hB
    obtain ⟨n1, n2, _⟩ := famB_all f1
    have a1 := famB_allB f1
    have a2 := famB_allB f2
    have l1 := famB_len f1
    have l2 := famB_len f2
    have A1 := famB_asc f1
    have A2 := famB_asc f2
    replace h1 := Lib.hid h1
    replace f1 := Lib.hid f1
    replace f2 := Lib.hid f2
    replace a1 := Lib.hid a1
    replace a2 := Lib.hid a2
    replace A1 := Lib.hid A1
    replace A2 := Lib.hid A2
    replace hx := Lib.hid hx
    replace hy := Lib.hid hy
    replace ha := Lib.hid ha
    replace hb := Lib.hid hb
    show Calls Try.prog 33 #[.int .i64 n, .slice a xs.length cap, .slice b zs.length cbp] w (ListPost (sortL (xs.filter (fun x => memB x zs))) true w)
    go_enter Try.func33, Try.ntmps33
    go_wp2_with fail
    refine h1.out.mono ?_
    rintro e w1 ⟨rfl, q, rfl⟩
    have hqS : S ≤ (w.drewN q).heap.size := hS
    have hset : ∀ x ∈ xs, ∃ t : Nat, x = t ∧ t < 2 ^ n.toNat := fun x hx => set_nat (allB_yes a1.out x hx)
    have hmk := marks_at n _ zs S (w.drewN q) (hy.out.drewN q) hqS (by omega) n1 n2 a2.out
    obtain ⟨N, hN⟩ : ∃ N : Nat, 2 ^ n.toNat = N := ⟨_, rfl⟩
    rw [hN] at hmk hset
    have hfl : xs.filter (fun z => memB ((z.toNat : Nat) : Int) zs == true) = sortL (xs.filter (fun x => memB x zs)) := filt_eq a1.out A1.out _ _ (fun z h => by rw [Int.toNat_of_nonneg h]; cases memB z zs <;> rfl)
    obtain ⟨ys, hys⟩ : ∃ ys, sortL (xs.filter (fun x => memB x zs)) = ys := ⟨_, rfl⟩
    rw [hys] at hfl
    replace hys := Lib.hid hys
    replace hfl := Lib.hid hfl
    replace hmk := Lib.hid hmk
    replace hN := Lib.hid hN
    replace hset := Lib.hid hset
    clear h1
    go_wp2_with fail
    refine hmk.out.mono ?_
    rintro e w2 ⟨b2, rfl, hb1, hb3, hM, hbel⟩
    have hz2 := hbel.size
    have hkp := Lib.hid (keep_at _ xs S b2 N _ true w2 ((hx.out.drewN q).below hbel hqS) (Nat.le_trans hqS hz2) (by omega) hM hset.out)
    replace hbel := Lib.hid ((below_drewN (Below.refl w.heap.size w) q).trans hbel)
    clear hM hmk
    go_wp2_with fail
    refine hkp.out.mono ?_
    rintro e w4 ⟨v4, rfl, hO4, hb4⟩
    rw [hfl.out] at hO4
    obtain ⟨x1, x2, rfl⟩ := hO4.form
    have hz3 := hbel.out.size
    replace hb4 := Lib.hid (hbel.out.trans (hb4.mono hz3))
    replace hO4 := Lib.hid (hO4.own.mono hz3 (Nat.le_refl _))
    go_wp2_with fail
    go_ret2
    exact ⟨_, rfl, by rw [hys.out]; exact hO4.out, hb4.out⟩
  · rw [hB] at h1 ⊢
    replace h1 := Lib.hid h1
    replace hB := Lib.hid hB
    clear hx hy ha hb
    go_enter Try.func33, Try.ntmps33
    go_wp2_with fail
    refine h1.out.mono ?_
    rintro e w1 ⟨rfl, q, rfl⟩
    go_wp2_with fail
    go_ret2
    exact ⟨_, rfl, own_empty0 _ _ _ _ _, ((below_drewN (Below.refl _ w) q).alloc (Nat.le_refl _) _)⟩

set_option maxHeartbeats 2000000 in
theorem sp_FamilyLess (n : Int) (lv lu : Value) (xs zs : List Int) (S : Nat) (w : World) (hx : Row w S lv xs) (hy : Row w S lu zs) (hS : S ≤ w.heap.size) (hl : xs.length ≤ 100000000) (hl2 : zs.length ≤ 100000000) :
    Calls Try.prog 36 #[.int .i64 n, lv, lu] w (ListPost (ifL (famB n xs && famB n zs) (sortL (xs.filter (fun x => !memB x zs)))) (famB n xs && famB n zs) w) := by
  have h1 := sp_both n lv lu xs zs S w hx hy (by omega) (by omega)
  obtain ⟨a, cap, rfl, ha⟩ := id hx
  obtain ⟨b, cbp, rfl, hb⟩ := id hy
  rcases (by cases (famB n xs && famB n zs) <;> simp : (famB n xs && famB n zs) = true ∨ (famB n xs && famB n zs) = false) with hB | hB
  · rw [hB] at h1 ⊢
    rw [Bool.and_eq_true] at hB
    obtain ⟨f1, f2⟩ := hB
    obtain ⟨n1, n2, _⟩ := famB_all f1
    have a1 := famB_allB f1
    have a2 := famB_allB f2
    have l1 := famB_len f1
    have l2 := famB_len f2
    have A1 := famB_asc f1
    have A2 := famB_asc f2
    replace h1 := Lib.hid h1
    replace f1 := Lib.hid f1
    replace f2 := Lib.hid f2
    replace a1 := Lib.hid a1
    replace a2 := Lib.hid a2
    replace A1 := Lib.hid A1
    replace A2 := Lib.hid A2
    replace hx := Lib.hid hx
    replace hy := Lib.hid hy
    replace ha := Lib.hid ha
    replace hb := Lib.hid hb
    show Calls Try.prog 36 #[.int .i64 n, .slice a xs.length cap, .slice b zs.length cbp] w (ListPost (sortL (xs.filter (fun x => !memB x zs))) true w)
    go_enter Try.func36, Try.ntmps36
    go_wp2_with fail
    refine h1.out.mono ?_
    rintro e w1 ⟨rfl, q, rfl⟩
    have hqS : S ≤ (w.drewN q).heap.size := hS
    have hset : ∀ x ∈ xs, ∃ t : Nat, x = t ∧ t < 2 ^ n.toNat := fun x hx => set_nat (allB_yes a1.out x hx)
    have hmk := marks_at n _ zs S (w.drewN q) (hy.out.drewN q) hqS (by omega) n1 n2 a2.out
    obtain ⟨N, hN⟩ : ∃ N : Nat, 2 ^ n.toNat = N := ⟨_, rfl⟩
    rw [hN] at hmk hset
    have hfl : xs.filter (fun z => memB ((z.toNat : Nat) : Int) zs == false) = sortL (xs.filter (fun x => !memB x zs)) := filt_eq a1.out A1.out _ _ (fun z h => by rw [Int.toNat_of_nonneg h]; cases memB z zs <;> rfl)
    obtain ⟨ys, hys⟩ : ∃ ys, sortL (xs.filter (fun x => !memB x zs)) = ys := ⟨_, rfl⟩
    rw [hys] at hfl
    replace hys := Lib.hid hys
    replace hfl := Lib.hid hfl
    replace hmk := Lib.hid hmk
    replace hN := Lib.hid hN
    replace hset := Lib.hid hset
    clear h1
    go_wp2_with fail
    refine hmk.out.mono ?_
    rintro e w2 ⟨b2, rfl, hb1, hb3, hM, hbel⟩
    have hz2 := hbel.size
    have hkp := Lib.hid (keep_at _ xs S b2 N _ false w2 ((hx.out.drewN q).below hbel hqS) (Nat.le_trans hqS hz2) (by omega) hM hset.out)
    replace hbel := Lib.hid ((below_drewN (Below.refl w.heap.size w) q).trans hbel)
    clear hM hmk
    go_wp2_with fail
    refine hkp.out.mono ?_
    rintro e w4 ⟨v4, rfl, hO4, hb4⟩
    rw [hfl.out] at hO4
    obtain ⟨x1, x2, rfl⟩ := hO4.form
    have hz3 := hbel.out.size
    replace hb4 := Lib.hid (hbel.out.trans (hb4.mono hz3))
    replace hO4 := Lib.hid (hO4.own.mono hz3 (Nat.le_refl _))
    go_wp2_with fail
    go_ret2
    exact ⟨_, rfl, by rw [hys.out]; exact hO4.out, hb4.out⟩
  · rw [hB] at h1 ⊢
    replace h1 := Lib.hid h1
    replace hB := Lib.hid hB
    clear hx hy ha hb
    go_enter Try.func36, Try.ntmps36
    go_wp2_with fail
    refine h1.out.mono ?_
    rintro e w1 ⟨rfl, q, rfl⟩
    go_wp2_with fail
    go_ret2
    exact ⟨_, rfl, own_empty0 _ _ _ _ _, ((below_drewN (Below.refl _ w) q).alloc (Nat.le_refl _) _)⟩
end Go.Proofs.Ytapijjfhdhkakaa
