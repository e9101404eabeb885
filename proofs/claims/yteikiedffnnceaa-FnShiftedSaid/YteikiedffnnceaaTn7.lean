/- The program's shifts and pressings. -/
import Derived.Test.YteikiedffnnceaaTn6
import Derived.Deep.RegionWith
namespace Go.Proofs.Yteikiedffnnceaa
open Go.ChangeShapes Go.WideShapes Go.ChangeAt Go.RowKit Go.Proofs

set_option maxHeartbeats 2000000 in
theorem made_read (g : Nat) (eg : EntersG g) (cs : Array Value) (n : Int) (lv : Value) (xs ys : List Int) (S : Nat) (w : World) (hx : Row w S lv xs) (hS : S ≤ w.heap.size) (hl : xs.length ≤ 100000000)
    (hF : famB n xs = true → (∀ (W : World) (lv : Value), Below w.heap.size w W → SRow W W.heap.size lv xs → Calls Try.prog g (#[.agg #[lv, (Value.func (.func 71) #[] #[])]] ++ cs) W (FamR W ys)) ∧ (∀ z ∈ ys, 0 ≤ z ∧ z < 256) ∧ ys.length ≤ 1000) :
    Calls Try.prog 16 #[.int .i64 n, lv, .func (.func g) #[] cs] w (ListPost (ifL (famB n xs) ys) (famB n xs) w) := by
  have eg1 : ∀ args w, (callFunc g args).run Try.prog w = .ok (.enter g args) w := eg
  have hr := Lib.hid (read_any n lv xs S w hx hS hl)
  obtain ⟨la, lc, rfl, _⟩ := id hx
  replace hF := Lib.hid hF
  clear hx
  go_enter Try.func16, Try.ntmps16
  go_wp2_with fail
  refine hr.out.mono ?_
  rintro e w1 (⟨hf, v, rfl, hS1, hb1⟩ | ⟨hf, rfl, hb1⟩)
  · obtain ⟨a', c', rfl⟩ := hS1.form
    have hz1 := hb1.size
    obtain ⟨hM, hzz, hlen⟩ := hF.out hf
    have hb2 := hb1.alloc hz1 (.cells #[.slice a' xs.length c', (Value.func (.func 71) #[] #[])] 39)
    have hS2 := hS1.alloc (.cells #[.slice a' xs.length c', (Value.func (.func 71) #[] #[])] 39)
    have hm := Lib.hid (hM _ _ hb2 hS2.row)
    have hL := Lib.hid (show ys = ifL (famB n xs) ys by unfold ifL; rw [if_pos hf])
    replace hf := Lib.hid hf.symm
    replace hb2 := Lib.hid hb2
    replace hzz := Lib.hid hzz
    clear hr hS1 hb1 hS2 hM hF
    go_wp2_with fail
    refine hm.out.mono ?_
    rintro e w2 ⟨u, rfl, hS3, hb3⟩
    obtain ⟨a3, c3, rfl, _⟩ := id hS3
    have hnum := Lib.hid (numbers_at _ _ _ _ hS3 (Nat.le_refl _) (by omega) hzz.out)
    rw [World.size_alloc] at hb3
    have hz3 := hb3.size
    rw [World.size_alloc] at hz3
    replace hb3 := Lib.hid (hb2.out.trans (hb3.mono (by omega)))
    clear hS3
    go_wp2_with fail
    refine hnum.out.mono ?_
    rintro e w3 ⟨t, rfl, hO, hb4⟩
    obtain ⟨ua, uc, rfl, _⟩ := id hO
    replace hb4 := Lib.hid (hb3.out.trans (hb4.mono (by omega)))
    replace hO := Lib.hid (hO.mono (show w.heap.size ≤ w2.heap.size by omega) (Nat.le_refl _))
    go_wp2_with fail
    go_ret2
    exact ⟨_, ret_vb hf.out, hL.out ▸ hO.out, hb4.out⟩
  · have hz1 := hb1.size
    have hL := Lib.hid (show [] = ifL (famB n xs) ys by unfold ifL; rw [hf]; rfl)
    replace hf := Lib.hid hf.symm
    replace hb1 := Lib.hid hb1
    clear hr hF
    go_wp2_with fail
    go_ret2
    exact ⟨_, ret_vb hf.out, hL.out ▸ own_empty _ _ _ _ _, (hb1.out.alloc hz1 _).alloc (by simp; omega) _⟩
theorem fam_bounds {n : Int} {ys : List Int} (h : famB n ys = true) : (∀ z ∈ ys, 0 ≤ z ∧ z < 256) ∧ ys.length ≤ 1000 := ⟨famB_lt h, by have := famB_len h; omega⟩
theorem made_turn (n : Int) (u lv : Value) (φ : Int → Int) (bs : List (Nat × Obj)) (hu : TurnV n u φ bs) (hs : SetT n φ) (xs : List Int) (S : Nat) (w : World) (hbs : Has w bs) (hx : Row w S lv xs) (hS : S ≤ w.heap.size) (hl : xs.length ≤ 100000000) :
    Calls Try.prog 16 #[.int .i64 n, lv, u] w (ListPost (ifL (famB n xs) (tnL φ xs)) (famB n xs) w) := by
  obtain ⟨g, cs, rfl, eg, hcall⟩ := hu
  exact made_read g eg cs n lv xs (tnL φ xs) S w hx hS hl (fun hf => ⟨fun W lv hb hr => hcall W lv xs hf (hbs.below hb) hr, fam_bounds (tn_fam hs hf)⟩)

set_option maxRecDepth 100000 in
set_option maxHeartbeats 2000000 in
theorem im_ShiftOf (n : Int) (lv : Value) (xs : List Int) (i k : Int) (S : Nat) (w : World) (hx : Row w S lv xs) (hS : S ≤ w.heap.size) (hl : xs.length ≤ 100000000) :
    Calls Try.prog 8 #[.int .i64 n, lv, .int .i64 i, .int .i64 k] w (ListPost (ifL (famB n xs && (ptB n i && ptB n k)) (tnL (fun x => movedI x i k) xs)) (famB n xs && (ptB n i && ptB n k)) w) := by
  have hpi := pt_in n i
  have hpk := pt_in n k
  obtain ⟨la, lc, rfl, _⟩ := id hx
  rcases ptB_cases n i with hi | hi
  · rcases ptB_cases n k with hk | hk
    · have hsh := Lib.hid (shift_at n i k hi hk w)
      rw [hi] at hpi ⊢
      rw [hk] at hpk ⊢
      rw [Bool.true_and, Bool.and_true]
      replace hpi := Lib.hid hpi
      replace hpk := Lib.hid hpk
      replace hx := Lib.hid hx
      have hset := Lib.hid (mv_set hi hk)
      replace hi := Lib.hid hi
      replace hk := Lib.hid hk
      go_enter Try.func8, Try.ntmps8
      go_wp2_with (go_at_call 19; first | ((with_reducible refine (hpi.out _).mono ?_); rintro e w' ⟨rfl, rfl⟩) | ((with_reducible refine (hpk.out _).mono ?_); rintro e w' ⟨rfl, rfl⟩))
      refine hsh.out.mono ?_
      rintro e w1 ⟨u, bs, rfl, hu, hH, hno, hb1⟩
      have hm := Lib.hid (made_turn n u (.slice la xs.length lc) _ bs hu hset.out xs S w1 hH (hx.out.below hb1 hS) (by have := hb1.size; omega) hl)
      replace hb1 := Lib.hid hb1
      obtain ⟨g, cs, rfl, _⟩ := hu
      go_wp2_with fail
      refine hm.out.mono ?_
      rintro e w2 ⟨v, rfl, hO, hb2⟩
      obtain ⟨ua, uc, rfl, _⟩ := id hO
      replace hO := Lib.hid (hO.mono hb1.out.size (Nat.le_refl _))
      replace hb2 := Lib.hid (hb1.out.trans (hb2.mono hb1.out.size))
      go_wp2_with fail
      go_ret2
      exact ⟨_, rfl, hO.out, hb2.out⟩
    · rw [hi] at hpi ⊢
      rw [hk] at hpk ⊢
      rw [Bool.and_false, Bool.and_false]
      replace hpi := Lib.hid hpi
      replace hpk := Lib.hid hpk
      replace hi := Lib.hid hi
      replace hk := Lib.hid hk
      clear hx
      go_enter Try.func8, Try.ntmps8
      go_wp2_with (go_at_call 19; first | ((with_reducible refine (hpi.out _).mono ?_); rintro e w' ⟨rfl, rfl⟩) | ((with_reducible refine (hpk.out _).mono ?_); rintro e w' ⟨rfl, rfl⟩))
      go_ret2
      exact ⟨_, rfl, own_empty _ _ _ _ _, (Below.refl _ _).alloc (Nat.le_refl _) _⟩
  · rw [hi] at hpi ⊢
    rw [Bool.false_and, Bool.and_false]
    replace hpi := Lib.hid hpi
    replace hi := Lib.hid hi
    clear hx hpk
    go_enter Try.func8, Try.ntmps8
    go_wp2_with (go_at_call 19; ((with_reducible refine (hpi.out _).mono ?_); rintro e w' ⟨rfl, rfl⟩))
    go_ret2
    exact ⟨_, rfl, own_empty _ _ _ _ _, (Below.refl _ _).alloc (Nat.le_refl _) _⟩
theorem shL_len {n : Int} (n1 : 1 ≤ n) (n2 : n ≤ 8) : (shL n).length ≤ 1000 := by
  have := shTo_le n.toNat (by omega)
  unfold shL; omega
theorem prL_len {n : Int} (n1 : 1 ≤ n) (n2 : n ≤ 8) : (prL n).length ≤ 1000 := by
  unfold prL; rw [prTo_len]; omega
set_option maxRecDepth 100000 in
set_option maxHeartbeats 2000000 in
theorem shifts_fam (n : Int) (Bn : Nat) (xs : List Int) (lv : Value) (W : World) (hc : W.cell? ⟨Bn, 0, none⟩ = some (.int .i64 n)) (hB : Bn < W.heap.size) (hf : famB n xs = true) (hx : SRow W W.heap.size lv xs) :
    Calls Try.prog 17 #[.agg #[lv, (Value.func (.func 71) #[] #[])], .pointer (some ⟨Bn, 0, none⟩)] W (FamR W (stL (shL n) xs)) := by
  obtain ⟨n1, n2, _⟩ := famB_all hf
  obtain ⟨a, cap, rfl, _⟩ := id hx
  have hbw := ((Below.refl W.heap.size W).alloc (Nat.le_refl _) (.cells #[.slice a xs.length cap, (Value.func (.func 71) #[] #[])] 39)).alloc (by simp) (.cells #[.slice none 0 0, .nilFunc] 39)
  have hcW := (hbw.cell (p := ⟨Bn, 0, none⟩) hB).trans hc
  obtain ⟨l0, l1⟩ := fam_cells (new_cell2 W #[.slice a xs.length cap, (Value.func (.func 71) #[] #[])] 39 (.cells #[.slice none 0 0, .nilFunc] 39))
  have hnew := new_cell1 W #[.slice none 0 0, .nilFunc] 39 (.cells #[.slice a xs.length cap, (Value.func (.func 71) #[] #[])] 39)
  have hxr := hx.below hbw (Nat.le_refl _)
  have hz0 : ((W.alloc (.cells #[.slice a xs.length cap, (Value.func (.func 71) #[] #[])] 39)).alloc (.cells #[.slice none 0 0, .nilFunc] 39)).heap.size = W.heap.size + 1 + 1 := by simp
  have hlS := shL_len n1 n2
  have hTS := Lib.hid (shL_turns n)
  have hsf := Lib.hid (st_in (shL_turns n) hf)
  obtain ⟨φs, hφs⟩ : ∃ φs, shL n = φs := ⟨_, rfl⟩
  rw [hφs] at hlS hTS hsf ⊢
  obtain ⟨W0, hW0⟩ : ∃ W0, (W.alloc (.cells #[.slice a xs.length cap, (Value.func (.func 71) #[] #[])] 39)).alloc (.cells #[.slice none 0 0, .nilFunc] 39) = W0 := ⟨_, rfl⟩
  rw [hW0] at hbw hcW l0 l1 hnew hxr hz0
  have hc1 := shifts_at n n1 n2 W0.drew
  rw [hφs] at hc1
  have hlt : W.heap.size < W0.heap.size := by omega
  have hlt1 : W.heap.size + 1 < W0.heap.size := by omega
  have hle : W.heap.size ≤ W0.heap.size := by omega
  replace hc1 := Lib.hid hc1
  replace hφs := Lib.hid hφs
  replace hbw := Lib.hid hbw
  replace hnew := Lib.hid hnew
  replace hxr := Lib.hid hxr
  replace hz0 := Lib.hid hz0
  replace hf := Lib.hid hf
  clear hx
  go_enter Try.func17, Try.ntmps17
  go_wp2_with fail
  replace hW0 := Lib.hid hW0
  go_region_with (first
    | (go_at_call 12; (with_reducible refine hc1.out.mono ?_); rintro e w2 ⟨v2, rfl, hT2, hb2⟩; obtain ⟨a2, c2, rfl, _⟩ := id hT2; have m0 : w2.cell? ⟨W.heap.size, 0, none⟩ = some (.slice a xs.length cap) := (hb2.cell (p := ⟨W.heap.size, 0, none⟩) hlt).trans l0; have m1 : w2.cell? ⟨W.heap.size, 1, none⟩ = some (Value.func (.func 71) #[] #[]) := (hb2.cell (p := ⟨W.heap.size, 1, none⟩) hlt).trans l1; have hz2 := hb2.size; have hx2 := Lib.hid ((hxr.out.drew.below hb2 hle).mono (Nat.le_trans hle hz2)); replace hT2 := Lib.hid hT2; replace hb2 := Lib.hid hb2)
    | (go_at_call 18; (with_reducible refine (settled_at n _ _ φs xs _ hf.out hTS.out hT2.out hx2.out hlS).mono ?_); rintro e w3 ⟨v3, rfl, hS3, hb3⟩; obtain ⟨a3, c3, rfl, _⟩ := id hS3; have hn3 := (hb3.block (W.heap.size + 1) (Nat.lt_of_lt_of_le hlt1 hz2)).trans ((hb2.out.block (W.heap.size + 1) hlt1).trans hnew.out); obtain ⟨d0, d1⟩ := fam_cells hn3; obtain ⟨f0, f1⟩ := fam_frozen hn3; replace hn3 := Lib.hid hn3; replace hS3 := Lib.hid hS3; replace hb3 := Lib.hid hb3))
  all_goals
    have rr := two_cells (.slice a3 (stL φs xs).length c3) (Value.func (.func 71) #[] #[]) d0 d1
    have hfin := Lib.hid (show SRow ((w3.setCell ⟨W.heap.size + 1, 0, none⟩ (.slice a3 (stL φs xs).length c3)).setCell ⟨W.heap.size + 1, 1, none⟩ (Value.func (.func 71) #[] #[])) w3.heap.size (.slice a3 (stL φs xs).length c3) (stL φs xs) ∧ Below W.heap.size W ((w3.setCell ⟨W.heap.size + 1, 0, none⟩ (.slice a3 (stL φs xs).length c3)).setCell ⟨W.heap.size + 1, 1, none⟩ (Value.func (.func 71) #[] #[])) from
      ⟨hS3.out.stored hn3.out (fun _ => by simp) _ _, below_setCell (below_setCell (hbw.out.trans ((Below.refl W.heap.size W0).drew.trans ((hb2.out.mono hle).trans (hb3.out.mono (Nat.le_trans hle hz2))))) (p := ⟨W.heap.size + 1, 0, none⟩) (Nat.le_succ _) _) (p := ⟨W.heap.size + 1, 1, none⟩) (Nat.le_succ _) _⟩)
    go_wp2_with fail
    exact bodyPost_ret (v := .agg #[.slice a3 (stL φs xs).length c3, (Value.func (.func 71) #[] #[])]) (by simp [results, Try.results17, go_sem, rr.1, rr.2]) rfl ⟨_, rfl, hfin.out.1.mono (by simp [World.setCell]), hfin.out.2⟩
set_option maxRecDepth 100000 in
set_option maxHeartbeats 1000000 in
theorem im_ShiftAll (n : Int) (lv : Value) (xs : List Int) (S : Nat) (w : World) (hx : Row w S lv xs) (hS : S ≤ w.heap.size) (hl : xs.length ≤ 100000000) :
    Calls Try.prog 7 #[.int .i64 n, lv] w (ListPost (ifL (famB n xs) (stL (shL n) xs)) (famB n xs) w) := by
  have hbw := (Below.refl w.heap.size w).alloc (Nat.le_refl _) (.cells #[.int .i64 n] 3)
  have hc := cell_new w (.int .i64 n) 3
  have hk := Lib.hid (made_read 17 (enters_of Try.func17 (by kernel_rfl) rfl) #[.pointer (some ⟨w.heap.size, 0, none⟩)] n lv xs (stL (shL n) xs) S (w.alloc (.cells #[.int .i64 n] 3)) (hx.below hbw hS) (by simp; omega) hl
    (fun hf => ⟨fun W lv hb hr => shifts_fam n w.heap.size xs lv W ((hb.cell (p := ⟨w.heap.size, 0, none⟩) (by simp)).trans hc) (by have := hb.size; simp at this; omega) hf hr, fam_bounds (st_in (shL_turns n) hf)⟩))
  have hmf := mkfunc
  replace hbw := Lib.hid hbw
  obtain ⟨la, lc, rfl, _⟩ := id hx
  clear hx
  go_enter Try.func7, Try.ntmps7
  go_wp2_with fail
  refine hk.out.mono ?_
  rintro e w2 ⟨v, rfl, hO, hb2⟩
  rw [World.size_alloc] at hO hb2
  obtain ⟨ua, uc, rfl, _⟩ := id hO
  replace hO := Lib.hid (hO.mono (Nat.le_succ _) (Nat.le_refl _))
  replace hb2 := Lib.hid (hbw.out.trans (hb2.mono (Nat.le_succ _)))
  go_wp2_with fail
  go_ret2
  exact ⟨_, rfl, hO.out, hb2.out⟩
end Go.Proofs.Yteikiedffnnceaa
