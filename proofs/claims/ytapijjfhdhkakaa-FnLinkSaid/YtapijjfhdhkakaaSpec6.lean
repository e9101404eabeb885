/- The model: others, the rest, levels, traces, links, sets without a point. -/
import Derived.Test.YtapijjfhdhkakaaSpec5
import Derived.Test.YtapijjfhdhkakaaFams12
import Derived.Deep.RegionLaw
import Derived.IntWalk
namespace Go.Proofs.Ytapijjfhdhkakaa
open Go.ChangeShapes Go.WideShapes Go.ChangeAt Go.RowKit Go.Proofs

theorem asc_map {xs : List Int} {f : Int → Int} (hA : Asc xs) (h : ∀ x ∈ xs, ∀ y ∈ xs, x < y → f x < f y) : Asc (xs.map f) := by
  unfold Asc at *
  rw [List.pairwise_map]
  exact hA.imp_of_mem (fun hx hy hxy => h _ hx _ hy hxy)
theorem asc_other {N : Int} {xs : List Int} (hA : Asc xs) : Asc ((xs.reverse).map (fun x => N - 1 - x)) := by
  unfold Asc at *
  rw [List.pairwise_map, List.pairwise_reverse]
  exact hA.imp (fun h => by omega)
theorem up_sort (N : Nat) : sortL (upI N) = upI N := sortL_asc (asc_upI N)
theorem rest_eq (N : Nat) (xs : List Int) : mkL (fun j => !memB (j : Nat) xs) N = sortL ((sortL (upI N)).filter (fun x => !memB x xs)) := by
  rw [up_sort, sortL_asc (asc_filter (asc_upI N) _)]
  unfold mkL
  exact List.filter_congr fun z hz => by show (!memB ((z.toNat : Nat) : Int) xs) = _; rw [Int.toNat_of_nonneg (mem_upI.1 hz).1]
theorem level_eq (N : Nat) (k : Int) : mkL (fun j => cntI (j : Nat) == k) N = sortL ((sortL (upI N)).filter (fun x => cntI x == k)) := by
  rw [up_sort, sortL_asc (asc_filter (asc_upI N) _)]
  unfold mkL
  exact List.filter_congr fun z hz => by show (cntI ((z.toNat : Nat) : Int) == k) = _; rw [Int.toNat_of_nonneg (mem_upI.1 hz).1]
theorem drop_step {xs : List Int} {k : Nat} {x : Int} (hk : k < xs.length) (hx : xs.getD k 0 = x) : (xs.drop k).reverse = (xs.drop (k + 1)).reverse ++ [x] := by
  rw [List.drop_eq_getElem_cons hk, List.reverse_cons]
  rw [List.getD_eq_getElem?_getD, List.getElem?_eq_getElem hk] at hx
  simp at hx
  rw [hx]
theorem app_int_at {w : World} {ops : Array Oper} {rest : List Oper} {o : Oper} {a : Act} {Q : Exit → Act → World → Prop} (hgd : o.guard = none) (s x : Operand)
    (ho : o.op = .call { callee := .builtin .append, args := #[s, x], argTypes := #[23, 23] })
    (B : Nat) (v : Value) (xs : List Int) (hs : a.eval s = v) (hown : OwnL w B v xs) (y : Int) (b : Nat) (hx : a.eval x = .slice (some ⟨b, 0, none⟩) 1 1) (hcell : w.cell? ⟨b, 0, none⟩ = some (.int .i64 y))
    (hlen : xs.length ≤ 1073741824) (hB : B ≤ w.heap.size)
    (h : ∀ v' w', OwnL w' B v' (xs ++ [y]) → w.grownBy w' v.ownBlock → (v'.ownBlock = v.ownBlock ∨ v'.ownBlock = some w.heap.size) → wpList Try.prog ops Q rest (a.put o.dst v') w') : wpList Try.prog ops Q (o :: rest) a w := by
  obtain ⟨i0, hi, hz0, hz1, hz2⟩ := info_parts Try.intInfo
  refine wpList_append_own_at w hgd s x 23 ho B 3 i0 (.int .i64 0) 1 8 Try.underlying23 hi hz0 hz1 hz2 rfl (by decide) v xs.length (iv xs) hs hown ⟨b, 0, none⟩ 1 1 [.int .i64 y] hx rfl ?_ (by simp [Value.oneCell']) (by unfold maxLen; omega) (by omega) hB ?_
  · intro j u hu
    cases j with
    | zero => simp at hu; subst hu; simpa [Addr.add] using hcell
    | succ j => simp at hu
  · intro v' w' hown' hg _ hat
    refine h v' w' ?_ hg hat
    unfold OwnL
    simpa [iv] using hown'
theorem step_app_int {w : World} {ops : Array Oper} {o : Oper} {a : Act} {K : Act → World → Prop} {Q : Exit → Act → World → Prop} {E : Prop} (hgd : o.guard = none) (s x : Operand)
    (ho : o.op = .call { callee := .builtin .append, args := #[s, x], argTypes := #[23, 23] })
    (B : Nat) (v : Value) (xs : List Int) (hs : a.eval s = v) (hown : OwnL w B v xs) (y : Int) (b : Nat) (hx : a.eval x = .slice (some ⟨b, 0, none⟩) 1 1) (hcell : w.cell? ⟨b, 0, none⟩ = some (.int .i64 y))
    (hlen : xs.length ≤ 1073741824) (hB : B ≤ w.heap.size)
    (h : ∀ v' w', OwnL w' B v' (xs ++ [y]) → Below B w w' → K (a.put o.dst v') w') : if Region.wanted o (yielded ops a.tmps) = true then Oper.wp Try.prog o a w K Q else E := by
  have hw : Region.wanted o (yielded ops a.tmps) = true := by simp [Region.wanted, hgd]
  rw [if_pos hw]
  obtain ⟨i0, hi, hz0, hz1, hz2⟩ := info_parts Try.intInfo
  refine wp_append_own w s x 23 ho B 3 i0 (.int .i64 0) 1 8 Try.underlying23 hi hz0 hz1 hz2 rfl (by decide) v xs.length (iv xs) hs hown ⟨b, 0, none⟩ 1 1 [.int .i64 y] hx rfl ?_ (by simp [Value.oneCell']) (by unfold maxLen; omega) (by omega) hB ?_
  · intro j u hu
    cases j with
    | zero => simp at hu; subst hu; simpa [Addr.add] using hcell
    | succ j => simp at hu
  · intro v' w' hown' hg _
    refine h v' w' ?_ ((Below.refl B w).grown hg hB (fun k e => (World.ownsRow.lt hown k e).1))
    unfold OwnL
    simpa [iv] using hown'
theorem MarkRow.grown {w w' : World} {b N : Nat} {p : Nat → Bool} {v : Value} (h : MarkRow w b N p) (hg : w.grownBy w' v.ownBlock) (hv : v.ownBlock ≠ some b) : MarkRow w' b N p :=
  World.rowIs.of_block h (hg.block b (World.rowIs.lt h) (fun e => hv e.symm))
theorem below_own {B : Nat} {a w w' : World} {v : Value} {xs : List Int} (h : Below B a w) (hg : w.grownBy w' v.ownBlock) (hO : OwnL w B v xs) (hB : B ≤ w.heap.size) : Below B a w' := h.grown hg hB (fun k e => (World.ownsRow.lt hO k e).1)
set_option maxHeartbeats 2000000 in
theorem other_at (n : Int) (lv : Value) (xs : List Int) (S : Nat) (w : World) (hx : Row w S lv xs) (hS : S ≤ w.heap.size) (hl : xs.length ≤ 1000) (n1 : 1 ≤ n) (n2 : n ≤ 8) (hz : ∀ z ∈ xs, 0 ≤ z ∧ z < 256) :
    Calls Try.prog 88 #[.int .i64 n, lv] w (IntsPost ((xs.reverse).map (fun x => ((2 ^ n.toNat : Nat) : Int) - 1 - x)) w) := by
  obtain ⟨a, cap, rfl, ha⟩ := hx
  obtain ⟨p1, p2, p3⟩ := pow_nat n1 n2
  obtain ⟨N, hN⟩ : ∃ N : Nat, 2 ^ n.toNat = N := ⟨_, rfl⟩
  rw [hN] at p1 p2 p3 ⊢
  have hNi : (2 : Int) ^ n.toNat = (N : Nat) := by rw [← hN]; simp
  replace ha := Lib.hid ha
  replace hz := Lib.hid hz
  replace hN := Lib.hid hN
  replace hNi := Lib.hid hNi
  have hn0 : (0 : Int) ≤ n := by omega
  have hn64 : n < 64 := by omega
  go_enter Try.func88, Try.ntmps88
  go_wp2_with fail
  go_loopw [5, 6] (fun v q wr => ∃ k : Nat, k ≤ xs.length ∧ q = .int .i64 ((k : Int) - 1) ∧ Hid (OwnL wr w.heap.size v (((xs.drop k).reverse).map (fun x => (N : Int) - 1 - x))) ∧ Hid (Below w.heap.size w wr)) (fun _ q _ => (intOf q + 1).toNat)
  case atStart => exact ⟨xs.length, by omega, rfl, Lib.hid (by rw [List.drop_length]; exact OwnL.lit w (Nat.le_refl _)), Lib.hid ((Below.refl _ _).alloc (Nat.le_refl _) _)⟩
  case round =>
    obtain ⟨k, hk, rfl, hown, hbel⟩ := hrel
    have hsz := hbel.out.size
    by_cases h0 : k = 0
    · subst h0
      have hO := hown.out
      rw [List.drop_zero] at hO
      obtain ⟨a', c', rfl⟩ := hO.form
      replace hO := Lib.hid hO
      clear hown
      go_wp2_with fail
      go_ret
      exact ⟨_, rfl, hO.out, hbel.out⟩
    · obtain ⟨j, rfl⟩ : ∃ j : Nat, k = j + 1 := ⟨k - 1, by omega⟩
      have hkj : ((j + 1 : Nat) : Int) - 1 = (j : Nat) := by omega
      rw [hkj]
      have hlt : j < xs.length := by omega
      obtain ⟨b1, o1, rfl, s1, c1⟩ := ha.out (by omega)
      have k1 : (0 : Int) ≤ (j : Int) := by omega
      have k2 : (j : Int) < (xs.length : Nat) := by omega
      have e1 : wr.cell? ⟨b1, o1 + j, none⟩ = some (.int .i64 (xs.getD j 0)) := (hbel.out.cell (p := ⟨b1, o1 + j, none⟩) (show b1 < w.heap.size by omega)).trans (c1 j hlt)
      obtain ⟨x, hx⟩ : ∃ x, xs.getD j 0 = x := ⟨_, rfl⟩
      rw [hx] at e1
      obtain ⟨z1, z2⟩ := hz.out x (by rw [← hx]; exact getD_mem hlt)
      have hst : ((xs.drop j).reverse).map (fun x => (N : Int) - 1 - x) = ((xs.drop (j + 1)).reverse).map (fun x => (N : Int) - 1 - x) ++ [(N : Int) - 1 - x] := by rw [drop_step hlt hx, List.map_append]; rfl
      have hlen : (((xs.drop (j + 1)).reverse).map (fun x => (N : Int) - 1 - x)).length ≤ 1073741824 := by simp; omega
      obtain ⟨ys, hys⟩ : ∃ ys, ((xs.drop (j + 1)).reverse).map (fun x => (N : Int) - 1 - x) = ys := ⟨_, rfl⟩
      rw [hys] at hown hst hlen
      obtain ⟨a', c', rfl⟩ := hown.out.form
      have hB1 : ∀ o, w.heap.size ≤ (wr.alloc o).heap.size := fun o => by rw [World.size_alloc]; omega
      replace hB1 := Lib.hid hB1
      clear hx c1
      replace hkj := Lib.hid hkj
      replace hys := Lib.hid hys
      replace hst := Lib.hid hst.symm
      have hV : IntKind.i64.wrap (IntKind.i64.wrap (IntKind.i64.wrap (2 ^ n.toNat) - 1) - x) = (N : Int) - 1 - x := by
        have q0 : IntKind.i64.wrap (N : Int) = N := by rw [IntKind.wrap_i64]; omega
        have q1 : IntKind.i64.wrap ((N : Int) - 1) = (N : Int) - 1 := by rw [IntKind.wrap_i64]; omega
        have q2 : IntKind.i64.wrap ((N : Int) - 1 - x) = (N : Int) - 1 - x := by rw [IntKind.wrap_i64]; omega
        rw [hNi.out, q0, q1, q2]
      obtain ⟨V, hV2⟩ : ∃ V, IntKind.i64.wrap (IntKind.i64.wrap (IntKind.i64.wrap (2 ^ n.toNat) - 1) - x) = V := ⟨_, rfl⟩
      have hc1 := cell_new wr (.int .i64 (IntKind.i64.wrap (IntKind.i64.wrap (IntKind.i64.wrap (2 ^ n.toNat) - 1) - x))) 3
      replace hV := Lib.hid hV
      replace hV2 := Lib.hid hV2
      replace hc1 := Lib.hid hc1
      go_wp2_with fail
      go_region_law (refine step_app_int rfl _ _ rfl w.heap.size _ ys rfl (OwnL.alloc (w := wr.drew) hown.out _) (IntKind.i64.wrap (IntKind.i64.wrap (IntKind.i64.wrap (2 ^ n.toNat) - 1) - x)) wr.heap.size rfl hc1.out hlen (hB1.out _) ?_; intro v' w1 hown1 hb1)
      all_goals
        rw [hV.out, hst.out] at hown1
        replace hown1 := Lib.hid hown1
        have hb2 := Lib.hid ((hbel.out.drew.alloc hsz _).trans hb1)
        go_wp2_with fail
        go_roundw
        case rel => exact ⟨j, by omega, by first | rfl | go_num, hown1, hb2⟩
        case measure => simp [intOf] <;> omega

set_option maxHeartbeats 2000000 in
theorem sp_FamilyOther (n : Int) (lv : Value) (xs : List Int) (S : Nat) (w : World) (hx : Row w S lv xs) (hS : S ≤ w.heap.size) (hl : xs.length ≤ 100000000) :
    Calls Try.prog 39 #[.int .i64 n, lv] w (ListPost (ifL (famB n xs) (sortL (xs.map (otherI n)))) (famB n xs) w) := by
  have h1 := sp_FamilyIn n lv xs S w hx (by omega)
  obtain ⟨a, cap, rfl, ha⟩ := id hx
  rcases (by cases famB n xs <;> simp : famB n xs = true ∨ famB n xs = false) with f1 | f1
  · rw [f1] at h1 ⊢
    obtain ⟨n1, n2, _⟩ := famB_all f1
    have a1 := famB_allB f1
    have l1 := famB_len f1
    have A1 := famB_asc f1
    have hzz := famB_lt f1
    replace h1 := Lib.hid h1
    replace f1 := Lib.hid f1
    replace a1 := Lib.hid a1
    replace A1 := Lib.hid A1
    replace hzz := Lib.hid hzz
    replace hx := Lib.hid hx
    replace ha := Lib.hid ha
    show Calls Try.prog 39 #[.int .i64 n, .slice a xs.length cap] w (ListPost (sortL (xs.map (otherI n))) true w)
    go_enter Try.func39, Try.ntmps39
    go_wp2_with fail
    refine h1.out.mono ?_
    rintro e w1 ⟨rfl, q, rfl⟩
    have hqS : S ≤ (w.drewN q).heap.size := hS
    have hot := other_at n _ xs S (w.drewN q) (hx.out.drewN q) hqS (by omega) n1 n2 hzz.out
    have hL : (xs.reverse).map (fun x => ((2 ^ n.toNat : Nat) : Int) - 1 - x) = sortL (xs.map (otherI n)) := by
      refine asc_ext (asc_other A1.out) (asc_sortL _) fun z => ?_
      rw [mem_sortL]
      have : ((2 ^ n.toNat : Nat) : Int) = 2 ^ n.toNat := by simp
      simp only [List.mem_map, List.mem_reverse, otherI, this]
    rw [hL] at hot
    replace hL := Lib.hid hL
    replace hot := Lib.hid hot
    clear h1
    go_wp2_with fail
    refine hot.out.mono ?_
    rintro e w3 ⟨v, rfl, hO, hb3⟩
    obtain ⟨a', c', rfl⟩ := hO.form
    replace hb3 := Lib.hid ((below_drewN (Below.refl w.heap.size w) q).trans hb3)
    replace hO := Lib.hid (own_lift hO)
    go_wp2_with fail
    go_ret2
    exact ⟨_, rfl, hO.out, hb3.out⟩
  · rw [f1] at h1 ⊢
    replace h1 := Lib.hid h1
    replace f1 := Lib.hid f1
    clear hx ha
    go_enter Try.func39, Try.ntmps39
    go_wp2_with fail
    refine h1.out.mono ?_
    rintro e w1 ⟨rfl, q, rfl⟩
    go_wp2_with fail
    go_ret2
    exact ⟨_, rfl, own_empty0 _ _ _ _ _, ((below_drewN (Below.refl _ w) q).alloc (Nat.le_refl _) _)⟩

set_option maxHeartbeats 2000000 in
theorem sp_FamilyRest (n : Int) (lv : Value) (xs : List Int) (S : Nat) (w : World) (hx : Row w S lv xs) (hS : S ≤ w.heap.size) (hl : xs.length ≤ 100000000) :
    Calls Try.prog 43 #[.int .i64 n, lv] w (ListPost (ifL (famB n xs) (sortL ((sortL (upI (2 ^ n.toNat))).filter (fun x => !memB x xs)))) (famB n xs) w) := by
  have h1 := sp_FamilyIn n lv xs S (w.alloc (.cells #[] 3)) (hx.below ((Below.refl w.heap.size w).alloc (Nat.le_refl _) _) hS) (by omega)
  obtain ⟨a, cap, rfl, ha⟩ := id hx
  rcases (by cases famB n xs <;> simp : famB n xs = true ∨ famB n xs = false) with f1 | f1
  · rw [f1] at h1 ⊢
    obtain ⟨n1, n2, _⟩ := famB_all f1
    have a1 := famB_allB f1
    have l1 := famB_len f1
    have A1 := famB_asc f1
    have hzz := famB_lt f1
    replace h1 := Lib.hid h1
    replace f1 := Lib.hid f1
    replace a1 := Lib.hid a1
    replace A1 := Lib.hid A1
    replace hzz := Lib.hid hzz
    replace hx := Lib.hid hx
    replace ha := Lib.hid ha
    show Calls Try.prog 43 #[.int .i64 n, .slice a xs.length cap] w (ListPost (sortL ((sortL (upI (2 ^ n.toNat))).filter (fun x => !memB x xs))) true w)
    go_enter Try.func43, Try.ntmps43
    go_wp2_with fail
    refine h1.out.mono ?_
    rintro e w1 ⟨rfl, q, rfl⟩
    obtain ⟨p1, p2, p3⟩ := pow_nat n1 n2
    obtain ⟨N, hN⟩ : ∃ N : Nat, 2 ^ n.toNat = N := ⟨_, rfl⟩
    have hNi : (2 : Int) ^ n.toNat = (N : Nat) := by rw [← hN]; simp
    have hn0 : (0 : Int) ≤ n := by omega
    have hn64 : n < 64 := by omega
    have hqS : S ≤ ((w.alloc (.cells #[] 3)).drewN q).heap.size := by show S ≤ (w.alloc _).heap.size; rw [World.size_alloc]; omega
    have hbq := below_drewN ((Below.refl w.heap.size w).alloc (Nat.le_refl _) (.cells #[] 3)) q
    have hmk := marks_at n _ xs S ((w.alloc (.cells #[] 3)).drewN q) (hx.out.below hbq hS) hqS (by omega) n1 n2 a1.out
    have hre := rest_eq (2 ^ n.toNat) xs
    obtain ⟨L, hL⟩ : ∃ L, sortL ((sortL (upI (2 ^ n.toNat))).filter (fun x => !memB x xs)) = L := ⟨_, rfl⟩
    rw [hL] at hre
    rw [hN] at p1 p2 p3 hmk hre
    replace hL := Lib.hid hL
    replace hN := Lib.hid hN
    replace hNi := Lib.hid hNi
    replace hmk := Lib.hid hmk
    replace hre := Lib.hid hre
    replace hbq := Lib.hid hbq
    have hou := Lib.hid ((OwnL.lit w (Nat.le_refl w.heap.size)).drewN q)
    clear h1
    go_wp2_with fail
    refine hmk.out.mono ?_
    rintro e w2 ⟨b, rfl, hb1, hb2, hM, hbe⟩
    have hou2 := Lib.hid (hou.out.below hbe (Nat.le_refl _))
    have hbw := Lib.hid (hbq.out.trans (hbe.mono (by show w.heap.size ≤ (w.alloc _).heap.size; rw [World.size_alloc]; omega)))
    clear hmk hbe
    obtain ⟨P, hP⟩ : ∃ P : Nat → Bool, (fun j : Nat => !memB (j : Nat) xs) = P := ⟨_, rfl⟩
    rw [hP] at hre
    have hMP : ∀ (wr : World), MarkRow wr b N (fun j => memB (j : Nat) xs) → ∀ k, k < N → wr.cell? ⟨b, k, none⟩ = some (.bool (!P k)) := fun wr h k hk => by
      rw [World.rowIs.cell h hk, ← hP]; simp
    have hb8 : w.heap.size < b := by have : w.heap.size + 1 ≤ b := by have := hb1; simpa using this
                                     omega
    have hob : (Value.slice (some ⟨w.heap.size, 0, none⟩) 0 0).ownBlock ≠ some b := by intro e; injection e with e; dsimp only at e; omega
    replace hM := Lib.hid hM
    replace hMP := Lib.hid hMP
    replace hP := Lib.hid hP
    go_wp2_with fail
    go_loopw [6, 8] (fun v s wr => ∃ k : Nat, k ≤ N ∧ s = .int .i64 k ∧ Hid (OwnL wr w.heap.size v (mkL P k)) ∧ Hid (MarkRow wr b N (fun j => memB (j : Nat) xs)) ∧ Hid (v.ownBlock ≠ some b) ∧ Hid (Below w.heap.size w wr)) (fun _ s _ => N - (intOf s).toNat)
    case atStart => exact ⟨0, by omega, rfl, hou2, hM, Lib.hid hob, hbw⟩
    case round =>
      obtain ⟨k, hk, rfl, hown, hMr, hvb, hbel⟩ := hrel
      have hsz := hbel.out.size
      by_cases hlt : k < N
      · have k1 : (0 : Int) ≤ (k : Int) := by omega
        have k2 : (k : Int) < (N : Nat) := by omega
        have e1 := hMP.out wr hMr.out k hlt; have hblt := World.rowIs.lt hMr.out
        have hlen : (mkL P k).length ≤ 1073741824 := by have := mkL_len P k; omega
        have hsu := mkL_succ P k
        rcases (by cases P k <;> simp : P k = true ∨ P k = false) with hp | hp
        · have hs : mkL P k ++ [(k : Int)] = mkL P (k + 1) := by rw [hsu, if_pos hp]
          obtain ⟨ys, hys⟩ : ∃ ys, mkL P k = ys := ⟨_, rfl⟩
          rw [hys] at hown hs hlen
          obtain ⟨a', c', rfl⟩ := hown.out.form
          have hB1 : w.heap.size ≤ (wr.alloc (.cells #[.int .i64 (k : Int)] 3)).heap.size := by rw [World.size_alloc]; omega
          clear hsu
          rw [hp] at e1
          replace hp := Lib.hid hp
          replace hys := Lib.hid hys
          replace hs := Lib.hid hs
          go_wp2_with ((at_builtin; refine app_int_at rfl _ _ rfl w.heap.size _ ys rfl (hown.out.alloc _) (k : Int) wr.heap.size rfl (cell_new _ _ _) hlen hB1 ?_; intro v' w1 hown1 hg1 hat1))
          rw [hs.out] at hown1
          replace hown1 := Lib.hid hown1
          have hb2 := Lib.hid (below_own (hbel.out.alloc hsz _) hg1 (hown.out.alloc _) hB1)
          have hM2 := Lib.hid (MarkRow.grown (World.rowIs.alloc hMr.out _) hg1 hvb.out)
          have hv2 := Lib.hid (show v'.ownBlock ≠ some b from fun e => by
            rcases hat1 with h | h
            · exact hvb.out (h.symm.trans e)
            · rw [h] at e; injection e with e; rw [World.size_alloc] at e; omega)
          go_roundw
          case rel => exact ⟨k + 1, by omega, by go_num, hown1, hM2, hv2, hb2⟩
          case measure => simp [intOf]; omega
        · have hs : mkL P k = mkL P (k + 1) := by rw [hsu, if_neg (by simp [hp]), List.append_nil]
          rw [hs] at hown
          obtain ⟨ys, hys⟩ : ∃ ys, mkL P (k + 1) = ys := ⟨_, rfl⟩
          rw [hys] at hown
          obtain ⟨a', c', rfl⟩ := hown.out.form
          clear hsu hs hlen
          rw [hp] at e1
          replace hp := Lib.hid hp
          replace hys := Lib.hid hys
          go_wp2_with fail
          go_roundw
          case rel => exact ⟨k + 1, by omega, by go_num, by rw [hys.out]; exact hown, hMr, hvb, hbel⟩
          case measure => simp [intOf]; omega
      · obtain rfl : k = N := by omega
        obtain ⟨a', c', rfl⟩ := hown.out.form
        have hO := hown.out.own
        replace hO := Lib.hid hO
        clear hown
        go_wp2_with fail
        go_ret2
        exact ⟨_, rfl, by rw [hL.out, ← hre.out]; exact hO.out, hbel.out⟩

  · rw [f1] at h1 ⊢
    replace h1 := Lib.hid h1
    replace f1 := Lib.hid f1
    clear hx ha
    go_enter Try.func43, Try.ntmps43
    go_wp2_with fail
    refine h1.out.mono ?_
    rintro e w1 ⟨rfl, q, rfl⟩
    go_wp2_with fail
    go_ret2
    exact ⟨_, rfl, own_empty0 _ _ _ _ _, (below_drewN ((Below.refl _ w).alloc (Nat.le_refl _) _) q)⟩
end Go.Proofs.Ytapijjfhdhkakaa
