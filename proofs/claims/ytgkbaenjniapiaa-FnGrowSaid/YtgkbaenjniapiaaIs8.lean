/- IntersectGrow: the program's call, the model, the law. -/
import Derived.Test.YtgkbaenjniapiaaIs7
import Derived.Test.YtgkbaenjniapiaaFLaws
namespace Go.Proofs.Ytgkbaenjniapiaa
open Go.ChangeShapes Go.WideShapes Go.ChangeAt Go.RowKit Go.Proofs

set_option maxHeartbeats 4000000 in
theorem grow_fam (n : Int) (n1 : 1 ≤ n) (n2 : n ≤ 8) (Bn : Nat) (xs : List Int) (w : World) (hB : Bn < w.heap.size) (hc : w.cell? ⟨Bn, 0, none⟩ = some (.int .i64 n)) (hf : famB n xs = true) :
    RowMap 27 #[.pointer (some ⟨Bn, 0, none⟩)] xs (grL xs (2 ^ n.toNat)) w := fun W lv hb hx => by
  have hBW : Bn < W.heap.size := by have := hb.size; omega
  have hcW : W.cell? ⟨Bn, 0, none⟩ = some (.int .i64 n) := (hb.cell (p := ⟨Bn, 0, none⟩) hB).trans hc
  obtain ⟨a, cap, rfl, _⟩ := id hx
  obtain ⟨W2, hW2⟩ : ∃ W2, (W.alloc (.cells #[.slice a xs.length cap, (Value.func (.func 71) #[] #[])] 43)).alloc (.cells #[.slice none 0 0, .nilFunc] 43) = W2 := ⟨_, rfl⟩
  have hbw := ((Below.refl W.heap.size W).alloc (Nat.le_refl _) (.cells #[.slice a xs.length cap, (Value.func (.func 71) #[] #[])] 43)).alloc (by simp) (.cells #[.slice none 0 0, .nilFunc] 43)
  have hn1 := new_cell2 W #[.slice a xs.length cap, (Value.func (.func 71) #[] #[])] 43 (.cells #[.slice none 0 0, .nilFunc] 43)
  have hn2 := new_cell1 W #[.slice none 0 0, .nilFunc] 43 (.cells #[.slice a xs.length cap, (Value.func (.func 71) #[] #[])] 43)
  have hs2 : W2.heap.size = W.heap.size + 2 := by rw [← hW2]; simp
  rw [hW2] at hbw hn1 hn2
  obtain ⟨l0, l1⟩ := fam_cells6 hn1
  have hcn : W2.cell? ⟨Bn, 0, none⟩ = some (.int .i64 n) := (hbw.cell (p := ⟨Bn, 0, none⟩) hBW).trans hcW
  have hk := Lib.hid (grown_at n n1 n2 _ xs W2 ((hx.below hbw (Nat.le_refl _)).mono (by omega)) (famB_asc hf) (famB_lt hf))
  obtain ⟨ys, hys⟩ : ∃ ys, grL xs (2 ^ n.toNat) = ys := ⟨_, rfl⟩
  rw [hys] at hk ⊢
  rw [← hW2] at l0 l1 hcn
  replace hys := Lib.hid hys
  replace hbw := Lib.hid hbw
  replace hf := Lib.hid hf
  replace hW2 := Lib.hid hW2
  replace hn1 := Lib.hid hn1
  replace hn2 := Lib.hid hn2
  clear hx hcW hc hb
  show Calls Try.prog 27 #[.agg #[.slice a xs.length cap, (Value.func (.func 71) #[] #[])], .pointer (some ⟨Bn, 0, none⟩)] W _
  go_enter Try.func27, Try.ntmps27
  go_wp2_with fail
  rw [hW2.out]
  refine hk.out.mono ?_
  rintro e w2 ⟨v, rfl, hS2, hb2⟩
  obtain ⟨a', c', rfl, _⟩ := id hS2
  have hr := (hb2.block (W.heap.size + 1) (by omega)).trans hn2.out
  obtain ⟨d0, d1⟩ := fam_cells6 hr
  obtain ⟨f0, f1⟩ := fam_frozen6 hr
  have rr := two_cells (.slice a' ys.length c') (Value.func (.func 71) #[] #[]) d0 d1
  have hbb := hbw.out.trans (hb2.mono (by omega))
  have hfin := Lib.hid (show SRow ((w2.setCell ⟨W.heap.size + 1, 0, none⟩ (.slice a' ys.length c')).setCell ⟨W.heap.size + 1, 1, none⟩ (Value.func (.func 71) #[] #[])) w2.heap.size (.slice a' ys.length c') ys ∧ Below W.heap.size W ((w2.setCell ⟨W.heap.size + 1, 0, none⟩ (.slice a' ys.length c')).setCell ⟨W.heap.size + 1, 1, none⟩ (Value.func (.func 71) #[] #[])) from
    ⟨hS2.stored6 hr (fun _ => by simp) _ _, below_setCell (below_setCell hbb (p := ⟨W.heap.size + 1, 0, none⟩) (Nat.le_succ _) _) (p := ⟨W.heap.size + 1, 1, none⟩) (Nat.le_succ _) _⟩)
  have hsz := Lib.hid (show w2.heap.size ≤ ((w2.setCell ⟨W.heap.size + 1, 0, none⟩ (.slice a' ys.length c')).setCell ⟨W.heap.size + 1, 1, none⟩ (Value.func (.func 71) #[] #[])).heap.size by simp [World.setCell])
  clear hS2 hk
  go_wp2_with fail
  exact bodyPost_ret (v := .agg #[.slice a' ys.length c', (Value.func (.func 71) #[] #[])]) (by simp [results, Try.results27, go_sem, rr.1, rr.2]) rfl ⟨_, rfl, hfin.out.1.mono hsz.out, hfin.out.2⟩
theorem crs_fam {n : Int} {xs zs : List Int} (h : crsB n xs zs = true) : famB n xs = true ∧ famB n zs = true ∧ crossB xs zs = true := by
  unfold crsB at h
  simp only [Bool.and_eq_true] at h
  exact ⟨h.1.1, h.1.2, h.2⟩
theorem gr_len2 {n : Int} {xs : List Int} (hf : famB n xs = true) : (grL xs (2 ^ n.toNat)).length ≤ 256 := by
  obtain ⟨n1, n2, _⟩ := famB_all hf
  exact gr_len (famB_asc hf) (famB_lt hf) (pow_nat n1 n2).1
theorem gr_lt2 {n : Int} {xs : List Int} (hf : famB n xs = true) : ∀ z ∈ grL xs (2 ^ n.toNat), 0 ≤ z ∧ z < 256 := by
  obtain ⟨n1, n2, _⟩ := famB_all hf
  exact gr_lt (famB_lt hf) (pow_nat n1 n2).1
set_option maxHeartbeats 4000000 in
theorem im_IntersectGrow (n : Int) (lv : Value) (xs : List Int) (S : Nat) (w : World) (hx : Row w S lv xs) (hS : S ≤ w.heap.size) (hl : xs.length ≤ 100000000) :
    Calls Try.prog 8 #[.int .i64 n, lv] w (ListPost (ifL (crsB n xs xs) (grL xs (2 ^ n.toNat))) (crsB n xs xs) w) := by
  have hmf := mkfunc
  have hba := (Below.refl w.heap.size w).alloc (Nat.le_refl _) (.cells #[.int .i64 n] 3)
  have hx' := hx.below hba hS
  have hin := im_IntersectIn n lv xs S (w.alloc (.cells #[.int .i64 n] 3)) hx' (by simp; omega) hl
  obtain ⟨la, lc, rfl, _⟩ := id hx
  rcases (by cases crsB n xs xs <;> simp : crsB n xs xs = true ∨ crsB n xs xs = false) with hf | hf
  · obtain ⟨ff, _, _⟩ := crs_fam hf
    obtain ⟨n1, n2, _⟩ := famB_all ff
    rw [hf] at hin ⊢
    show Calls Try.prog 8 #[.int .i64 n, .slice la xs.length lc] w (ListPost (grL xs (2 ^ n.toNat)) true w)
    have hmd := Lib.hid (fun (W : World) (hW : Below (w.heap.size + 1) (w.alloc (.cells #[.int .i64 n] 3)) W) => made_row 27 (enters_of Try.func27 (by kernel_rfl) rfl) #[.pointer (some ⟨w.heap.size, 0, none⟩)] n _ xs (grL xs (2 ^ n.toNat)) S W (hx'.below hW (by omega)) (by have := hW.size; simp at this; omega) hl
      (fun hff => ⟨grow_fam n n1 n2 w.heap.size xs W (by have := hW.size; simp at this; omega) ((hW.cell (p := ⟨w.heap.size, 0, none⟩) (by simp)).trans (new_cell_int w n)) hff, gr_lt2 hff, by have := gr_len2 hff; omega⟩))
    obtain ⟨ys, hys⟩ : ∃ ys, grL xs (2 ^ n.toNat) = ys := ⟨_, rfl⟩
    rw [ff, hys] at hmd
    rw [hys]
    have hmd2 : Hid (∀ (W : World), Below (w.heap.size + 1) (w.alloc (.cells #[.int .i64 n] 3)) W → Calls Try.prog 26 #[.int .i64 n, .slice la xs.length lc, .func (.func 27) #[] #[.pointer (some ⟨w.heap.size, 0, none⟩)]] W (ListPost ys true W)) := hmd
    have hcn := new_cell_int w n
    replace hba := Lib.hid hba
    replace hin := Lib.hid hin
    replace hf := Lib.hid hf
    replace ff := Lib.hid ff
    replace hys := Lib.hid hys
    clear hmd hx hx'
    go_enter Try.func8, Try.ntmps8
    go_wp2_with fail
    refine hin.out.mono ?_
    rintro e w1 ⟨rfl, hb1⟩
    rw [World.size_alloc] at hb1
    have hz1 := hb1.size
    rw [World.size_alloc] at hz1
    have hm := Lib.hid (hmd2.out w1 hb1)
    have hcc : w1.cell? ⟨w.heap.size, 0, none⟩ = some (.int .i64 n) := (hb1.cell (p := ⟨w.heap.size, 0, none⟩) (by simp)).trans hcn
    replace hb1 := Lib.hid (hba.out.trans (hb1.mono (by omega)))
    clear hmd2 hcn hin
    go_wp2_with fail
    refine hm.out.mono ?_
    rintro e w3 ⟨v, rfl, hO, hb3⟩
    obtain ⟨ua, uc, rfl, _⟩ := id hO
    replace hb3 := Lib.hid (hb1.out.trans (hb3.mono (by omega)))
    replace hO := Lib.hid (hO.mono (show w.heap.size ≤ w1.heap.size by omega) (Nat.le_refl _))
    go_wp2_with fail
    go_ret2
    exact ⟨_, rfl, hO.out, hb3.out⟩
  · rw [hf] at hin ⊢
    replace hba := Lib.hid hba
    replace hin := Lib.hid hin
    replace hf := Lib.hid hf
    clear hx hx'
    go_enter Try.func8, Try.ntmps8
    go_wp2_with fail
    refine hin.out.mono ?_
    rintro e w1 ⟨rfl, hb1⟩
    rw [World.size_alloc] at hb1
    have hz1 := hb1.size
    rw [World.size_alloc] at hz1
    replace hb1 := Lib.hid (hba.out.trans (hb1.mono (by omega)))
    go_wp2_with fail
    go_ret2
    exact ⟨_, rfl, own_empty _ _ _ _ _, hb1.out.alloc (by omega) _⟩
/-- the model's list: each set from 1 on that meets all. -/
def gmL (xs : List Int) : Nat → List Int
  | 0 => xs
  | k + 1 => if (gmL xs k).all (fun z => meetB z ((k + 1 : Nat) : Int)) then gmL xs k ++ [((k + 1 : Nat) : Int)] else gmL xs k
theorem gm_len (xs : List Int) : ∀ k, (gmL xs k).length ≤ xs.length + k
  | 0 => by simp [gmL]
  | k + 1 => by
    have ih := gm_len xs k
    unfold gmL
    split
    · simp; omega
    · omega
theorem gm_mem {xs : List Int} {z : Int} : ∀ k, z ∈ gmL xs k → z ∈ xs ∨ (1 ≤ z ∧ z ≤ k)
  | 0, h => .inl h
  | k + 1, h => by
    unfold gmL at h
    split at h
    · rcases List.mem_append.1 h with h | h
      · rcases gm_mem k h with h | h
        · exact .inl h
        · exact .inr (by omega)
      · simp at h; exact .inr (by omega)
    · rcases gm_mem k h with h | h
      · exact .inl h
      · exact .inr (by omega)
theorem all_sort (xs : List Int) (p : Int → Bool) : (sortL xs).all p = xs.all p := by
  rw [Bool.eq_iff_iff, List.all_eq_true, List.all_eq_true]
  constructor
  · intro h z hz; exact h z (mem_sortL.2 hz)
  · intro h z hz; exact h z (mem_sortL.1 hz)
theorem gm_gr {xs : List Int} (hA : Asc xs) : ∀ k, sortL (gmL xs k) = grL xs (k + 1)
  | 0 => by
    show sortL xs = grS xs 0
    rw [sortL_asc hA, grS_no0]
  | k + 1 => by
    have ih := gm_gr hA k
    have hst : gmL xs (k + 1) = if (gmL xs k).all (fun z => meetB z ((k + 1 : Nat) : Int)) then gmL xs k ++ [((k + 1 : Nat) : Int)] else gmL xs k := rfl
    show _ = grS (grL xs (k + 1)) ((k + 1 : Nat) : Int)
    rw [← ih]
    have e : (sortL (gmL xs k)).all (meetB ((k + 1 : Nat) : Int)) = (gmL xs k).all (fun z => meetB z ((k + 1 : Nat) : Int)) := by
      rw [all_sort]
      congr
      funext z
      exact meet_comm _ _
    rcases (by cases (gmL xs k).all (fun z => meetB z ((k + 1 : Nat) : Int)) <;> simp : (gmL xs k).all (fun z => meetB z ((k + 1 : Nat) : Int)) = true ∨ (gmL xs k).all (fun z => meetB z ((k + 1 : Nat) : Int)) = false) with h | h
    · rw [grS_yes (by omega) (e.trans h), ← sortL_snoc, hst, if_pos h]
    · rw [grS_no (e.trans h), hst, h, if_neg (by simp)]
theorem cross_one (xs : List Int) (s : Int) : crossB xs [s] = xs.all (fun z => meetB z s) := by
  unfold crossB
  congr
  funext z
  simp
theorem one_rowI (w : World) (x : Int) : Row (w.alloc (.cells #[.int .i64 x] 3)) (w.alloc (.cells #[.int .i64 x] 3)).heap.size (.slice (some ⟨w.heap.size, 0, none⟩) 1 1) [x] := by
  refine ⟨_, 1, rfl, fun _ => ⟨w.heap.size, 0, rfl, by simp, fun i hi => ?_⟩⟩
  simp at hi
  subst hi
  exact cell_new _ _ _
set_option maxHeartbeats 8000000 in
theorem sp_IntersectGrow (n : Int) (lv : Value) (xs : List Int) (S : Nat) (w : World) (hx : Row w S lv xs) (hS : S ≤ w.heap.size) (hl : xs.length ≤ 100000000) :
    Calls Try.prog 9 #[.int .i64 n, lv] w (ListPost (ifL (crsB n xs xs) (grL xs (2 ^ n.toNat))) (crsB n xs xs) w) := by
  have h1 := sp_IntersectIn n lv xs S w hx hS hl
  obtain ⟨a, cap, rfl, ha⟩ := id hx
  rcases (by cases crsB n xs xs <;> simp : crsB n xs xs = true ∨ crsB n xs xs = false) with hf | hf
  · obtain ⟨ff, _, _⟩ := crs_fam hf
    obtain ⟨n1, n2, hall⟩ := famB_all ff
    have hlen := famB_len ff
    have hlt := famB_lt ff
    rw [hf] at h1 ⊢
    show Calls Try.prog 9 #[.int .i64 n, .slice a xs.length cap] w (ListPost (grL xs (2 ^ n.toNat)) true w)
    obtain ⟨p1, p2, p3⟩ := pow_nat n1 n2
    have hset : ∀ k : Nat, k + 1 ≤ 2 ^ n.toNat → ∀ z ∈ gmL xs k, setB n z = true := fun k hk z hz => by
      rcases gm_mem k hz with h | h
      · exact hall z h
      · refine setB_mk ⟨n1, n2, by omega, ?_⟩
        have : ((2 ^ n.toNat : Nat) : Int) = 2 ^ n.toNat := by simp
        omega
    have hEq := gm_gr (famB_asc ff)
    obtain ⟨N, hN⟩ : ∃ N : Nat, 2 ^ n.toNat = N := ⟨_, rfl⟩
    have hNi : (2 : Int) ^ n.toNat = (N : Nat) := by rw [← hN]; simp
    have hn0 : (0 : Int) ≤ n := by omega
    have hn64 : n < 64 := by omega
    rw [hN] at p1 p2 p3 hset ⊢
    have hrow := Lib.hid (fun q => (hx.drewN q).below ((Below.refl (w.drewN q).heap.size (w.drewN q)).alloc (Nat.le_refl _) (.cells #[] 3)) (show S ≤ (w.drewN q).heap.size from hS))
    have h0 : ([] : List Int).length ≤ 1073741824 := by simp
    have hl1 : xs.length ≤ 1073741824 := by omega
    have hfin := fun W u S h1 h2 h3 h4 => family_at n u (gmL xs (N - 1)) S W h1 h2 h3 n1 n2 h4
    have hallN : allB n (gmL xs (N - 1)) = true := List.all_eq_true.2 (hset (N - 1) (by omega))
    have hEqN := Lib.hid (show sortL (gmL xs (N - 1)) = grL xs N by rw [hEq]; congr; omega)
    replace hallN := Lib.hid hallN
    replace hfin := Lib.hid hfin
    replace hN := Lib.hid hN
    replace hNi := Lib.hid hNi
    replace hall := Lib.hid hall
    replace hlt := Lib.hid hlt
    replace hset := Lib.hid hset
    replace h1 := Lib.hid h1
    replace hf := Lib.hid hf
    replace ff := Lib.hid ff
    replace hEq := Lib.hid hEq
    clear hx ha
    go_enter Try.func9, Try.ntmps9
    go_wp2_with fail
    refine h1.out.mono ?_
    rintro e w1 ⟨rfl, q, rfl⟩
    have hlit := Lib.hid (OwnL.lit (w.drewN q) (show w.heap.size ≤ (w.drewN q).heap.size from Nat.le_refl _))
    have hqs : w.heap.size ≤ ((w.drewN q).alloc (.cells #[] 3)).heap.size := by rw [World.size_alloc]; exact Nat.le_succ w.heap.size
    have hbq := Lib.hid (show Below w.heap.size w ((w.drewN q).alloc (.cells #[] 3)) from (below_drewN (Below.refl _ w) q).alloc (Nat.le_refl _) _)
    clear h1
    go_wp2_with (at_builtin; refine app_ints rfl _ _ rfl w.heap.size _ [] rfl hlit.out a cap S xs rfl (hrow.out q) h0 hl1 hqs ?_; intro v1 w1 hO1 hb1; rw [List.nil_append] at hO1; obtain ⟨u1, u2, rfl⟩ := hO1.form; replace hO1 := Lib.hid hO1; replace hb1 := Lib.hid (hbq.out.trans hb1))
    go_loopw [6, 7] (fun v s wr => ∃ k : Nat, k + 1 ≤ N ∧ s = .int .i64 ((k + 1 : Nat) : Int) ∧ Hid (OwnL wr w.heap.size v (gmL xs k)) ∧ Hid (Below w.heap.size w wr)) (fun _ s _ => N - (intOf s).toNat)
    case atStart => exact ⟨0, by omega, rfl, hO1, hb1⟩
    case round =>
      obtain ⟨k, hk, rfl, hown, hbel⟩ := hrel
      obtain ⟨m, hm⟩ : ∃ m : Nat, k + 1 = m := ⟨_, rfl⟩
      rw [hm]
      have hsz := hbel.out.size
      by_cases hlt2 : m < N
      · have k1 : (0 : Int) ≤ (m : Int) := by omega
        have k2 : (m : Int) < (N : Nat) := by omega
        have m256 : (m : Int) < 256 := by omega
        have hgl := gm_len xs k
        have hst : gmL xs (k + 1) = if (gmL xs k).all (fun z => meetB z ((k + 1 : Nat) : Int)) then gmL xs k ++ [((k + 1 : Nat) : Int)] else gmL xs k := rfl
        rw [hm] at hst
        have hcr := cross_one (gmL xs k) (m : Int)
        have hzk : ∀ z ∈ gmL xs k, 0 ≤ z ∧ z < 256 := fun z hz => setB_lt (hset.out k (by omega) z hz)
        obtain ⟨L, hL⟩ : ∃ L, gmL xs k = L := ⟨_, rfl⟩
        rw [hL] at hown hgl hst hcr hzk
        obtain ⟨a', c', rfl⟩ := hown.out.form
        have hown2 := hown.out.alloc (.cells #[.int .i64 (m : Int)] 3)
        have hsp := sp_meets _ _ L [(m : Int)] _ _ hown2.own.row (one_rowI wr (m : Int)) (by omega) (by simp) hzk (fun z hz => by simp at hz; subst hz; exact ⟨k1, m256⟩)
        rw [hcr] at hsp
        have hB1 : ∀ q, w.heap.size ≤ (((wr.alloc (.cells #[.int .i64 (m : Int)] 3)).drewN q).alloc (.cells #[.int .i64 (m : Int)] 3)).heap.size := fun q => by
          rw [World.size_alloc]
          have : ((wr.alloc (.cells #[.int .i64 (m : Int)] 3)).drewN q).heap.size = wr.heap.size + 1 := by show (wr.alloc _).heap.size = _; rw [World.size_alloc]
          omega
        have hown3 := Lib.hid (fun q => (hown2.drewN q).alloc (.cells #[.int .i64 (m : Int)] 3))
        have hLl : L.length ≤ 1073741824 := by omega
        have hb2 := Lib.hid (fun q => below_drewN (hbel.out.alloc hsz (.cells #[.int .i64 (m : Int)] 3)) q)
        replace hown2 := Lib.hid (fun q => hown2.drewN q)
        replace hL := Lib.hid hL
        replace hcr := Lib.hid hcr
        replace hzk := Lib.hid hzk
        replace hB1 := Lib.hid hB1
        replace hown := Lib.hid hown
        obtain ⟨b, hbb⟩ : ∃ b, L.all (fun z => meetB z (m : Int)) = b := ⟨_, rfl⟩
        rw [hbb] at hsp hst
        replace hbb := Lib.hid hbb
        replace hsp := Lib.hid hsp
        cases b with
        | false =>
          rw [if_neg (by simp)] at hst
          replace hst := Lib.hid hst
          replace hm := Lib.hid hm
          go_wp2_with fail
          refine hsp.out.mono ?_
          rintro e w2 ⟨rfl, q2, rfl⟩
          have hO2 := Lib.hid (hown2.out q2)
          have hb3 := Lib.hid (hb2.out q2)
          go_wp2_with fail
          go_roundw
          case rel => exact ⟨m, by omega, by go_num, by rw [hst.out]; exact hO2, hb3⟩
          case measure => simp [intOf]; omega
        | true =>
          rw [if_pos rfl] at hst
          replace hst := Lib.hid hst
          replace hm := Lib.hid hm
          go_wp2_with fail
          refine hsp.out.mono ?_
          rintro e w2 ⟨rfl, q2, rfl⟩
          have hO2 := Lib.hid (hown3.out q2)
          have hb3 := Lib.hid (hb2.out q2)
          have hB2 := hB1.out q2
          have hcn := cell_new ((wr.alloc (.cells #[.int .i64 (m : Int)] 3)).drewN q2) (.int .i64 (m : Int)) 3
          obtain ⟨W6, hW6⟩ : ∃ W6, (wr.alloc (.cells #[.int .i64 (m : Int)] 3)).drewN q2 = W6 := ⟨_, rfl⟩
          rw [hW6] at hO2 hb3 hB2 hcn ⊢
          replace hW6 := Lib.hid hW6
          go_wp2_with (at_builtin; refine app_int rfl _ _ rfl w.heap.size _ L rfl hO2.out (m : Int) W6.heap.size rfl hcn hLl hB2 ?_; intro v' w3 hown4 hb4)
          rw [← hst.out] at hown4
          replace hown4 := Lib.hid hown4
          replace hb4 := Lib.hid ((hb3.out.alloc (by rw [World.size_alloc] at hB2; exact hb3.out.size) _).trans hb4)
          go_roundw
          case rel => exact ⟨m, by omega, by go_num, hown4, hb4⟩
          case measure => simp [intOf]; omega
      · have hkN : k = N - 1 := by omega
        have hO := hown.out
        rw [hkN] at hO
        obtain ⟨a', c', rfl⟩ := hO.form
        have hgl := gm_len xs (N - 1)
        have hfa := hfin.out wr _ wr.heap.size hO.own.row (Nat.le_refl _) (by omega) hallN.out
        rw [hEqN.out] at hfa
        replace hfa := Lib.hid hfa
        have hge : ¬ ((m : Int) < (N : Nat)) := by omega
        obtain ⟨L, hL⟩ : ∃ L, gmL xs (N - 1) = L := ⟨_, rfl⟩
        rw [hL] at hfa ⊢
        replace hL := Lib.hid hL
        replace hm := Lib.hid hm
        clear hown hO hkN hgl
        go_wp2_with fail
        refine hfa.out.mono ?_
        rintro e w4 ⟨v, rfl, hO4, hb4⟩
        obtain ⟨t1, t2, rfl⟩ := hO4.form
        replace hO4 := Lib.hid ((hO4.mono hsz).own)
        replace hb4 := Lib.hid (hbel.out.trans (hb4.mono hsz))
        go_wp2_with fail
        go_ret2
        exact ⟨_, rfl, hO4.out, hb4.out⟩
  · rw [hf] at h1 ⊢
    replace h1 := Lib.hid h1
    replace hf := Lib.hid hf
    clear hx ha
    go_enter Try.func9, Try.ntmps9
    go_wp2_with fail
    refine h1.out.mono ?_
    rintro e w1 ⟨rfl, q, rfl⟩
    go_wp2_with fail
    go_ret2
    exact ⟨_, rfl, own_empty0 _ _ _ _ _, (below_drewN (Below.refl _ w) q).alloc (Nat.le_refl _) _⟩
end Go.Proofs.Ytgkbaenjniapiaa
