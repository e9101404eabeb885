/- The model's ShiftOf, ShiftPress, ShiftedIn, PressedIn, ShiftAll, PressAll. -/
import Derived.Test.YteikiedffnnceaaTs2
import Derived.Test.YteikiedffnnceaaSpec7
namespace Go.Proofs.Yteikiedffnnceaa
open Go.ChangeShapes Go.WideShapes Go.ChangeAt Go.RowKit Go.Proofs

theorem sp_pt {n p : Int} {b : Bool} (h : ptB n p = b) (W : World) : Calls Try.prog 44 #[.int .i64 p, .int .i64 0, .int .i64 (n - 1)] W fun e w' => e = .returned (.bool b) ∧ W = w' :=
  (l6in p 0 (n - 1) W).mono fun _ _ h2 => ⟨by rw [h2.1, inB_pt, h], h2.2⟩
set_option maxRecDepth 100000 in
set_option maxHeartbeats 2000000 in
theorem sp_ShiftedIn (n : Int) (lv : Value) (xs : List Int) (S : Nat) (w : World) (hx : Row w S lv xs) (hS : S ≤ w.heap.size) (hl : xs.length ≤ 100000000) :
    Calls Try.prog 6 #[.int .i64 n, lv] w fun e w' => e = .returned (.bool (famB n xs && sameB xs (rdL (shL n) xs))) ∧ Below w.heap.size w w' := by
  have h1 := sp_FamilyIn n lv xs S w hx (by omega)
  obtain ⟨a, cap, rfl, _⟩ := id hx
  rcases (by cases famB n xs <;> simp : famB n xs = true ∨ famB n xs = false) with f1 | f1
  · rw [f1] at h1 ⊢
    rw [Bool.true_and]
    have hl1 := famB_len f1
    have hl2 := famB_len (rd_fam_t (shL_turns n) f1)
    have hrd := Lib.hid (fun q => l4round_at n _ xs S (w.drewN q) (hx.drewN q) hS f1)
    obtain ⟨ys, hys⟩ : ∃ ys, rdL (shL n) xs = ys := ⟨_, rfl⟩
    rw [hys] at hrd hl2 ⊢
    replace h1 := Lib.hid h1
    replace f1 := Lib.hid f1
    replace hys := Lib.hid hys
    replace hx := Lib.hid hx
    go_enter Try.func6, Try.ntmps6
    go_wp2_with fail
    refine h1.out.mono ?_
    rintro e w1 ⟨rfl, q, rfl⟩
    go_wp2_with fail
    refine (hrd.out q).mono ?_
    rintro e w2 ⟨v, rfl, _, hr, hb2⟩
    obtain ⟨va, vc, rfl, _⟩ := id hr
    have hb3 := Lib.hid ((below_drewN (Below.refl w.heap.size w) q).trans hb2)
    have hz2 : w.heap.size ≤ w2.heap.size := hb3.out.size
    have hsm := Lib.hid (same_ints (.slice a xs.length cap) _ xs ys w2.heap.size w2 ((hx.out.below hb3.out hS).mono (by omega)) hr (by omega) (by omega))
    clear hb2 hr
    go_wp2_with fail
    refine hsm.out.mono ?_
    rintro e w' ⟨rfl, m, rfl⟩
    go_wp2_with fail
    go_ret
    exact ⟨rfl, below_drewN hb3.out m⟩
  · rw [f1] at h1 ⊢
    rw [Bool.false_and]
    replace h1 := Lib.hid h1
    replace f1 := Lib.hid f1
    clear hx
    go_enter Try.func6, Try.ntmps6
    go_wp2_with fail
    refine h1.out.mono ?_
    rintro e w1 ⟨rfl, q, rfl⟩
    go_wp2_with fail
    go_ret
    exact ⟨rfl, below_drewN (Below.refl _ w) q⟩
set_option maxRecDepth 100000 in
set_option maxHeartbeats 4000000 in
theorem sp_ShiftAll (n : Int) (lv : Value) (xs : List Int) (S : Nat) (w : World) (hx : Row w S lv xs) (hS : S ≤ w.heap.size) (hl : xs.length ≤ 100000000) :
    Calls Try.prog 22 #[.int .i64 n, lv] w (ListPost (ifL (famB n xs) (stL (shL n) xs)) (famB n xs) w) := by
  have h1 := sp_FamilyIn n lv xs S w hx (by omega)
  obtain ⟨a, cap, rfl, _⟩ := id hx
  rcases (by cases famB n xs <;> simp : famB n xs = true ∨ famB n xs = false) with f1 | f1
  · rw [f1] at h1 ⊢
    have hl1 := famB_len f1
    have hT := Lib.hid (shL_turns n)
    have hrd := Lib.hid (fun v ys (W : World) hr hf => l4round_at n v ys W.heap.size W hr (Nat.le_refl _) hf)
    obtain ⟨φs, hφs⟩ : ∃ φs, shL n = φs := ⟨_, rfl⟩
    rw [hφs] at hrd hT ⊢
    replace h1 := Lib.hid h1
    replace f1 := Lib.hid f1
    replace hφs := Lib.hid hφs
    replace hx := Lib.hid hx
    show Calls Try.prog 22 #[.int .i64 n, .slice a xs.length cap] w (ListPost (stL φs xs) true w)
    go_enter Try.func22, Try.ntmps22
    go_wp2_with fail
    refine h1.out.mono ?_
    rintro e w1 ⟨rfl, q, rfl⟩
    have hlit := Lib.hid (OwnL.lit (w.drewN q) (Nat.le_refl w.heap.size))
    have hbl := Lib.hid ((below_drewN (Below.refl w.heap.size w) q).alloc (Nat.le_refl _) (.cells #[] 3))
    have hrx := Lib.hid (hx.out.below hbl.out hS)
    have hqs : w.heap.size ≤ ((w.drewN q).alloc (.cells #[] 3)).heap.size := by rw [World.size_alloc]; exact Nat.le_succ _
    have h0 : ([] : List Int).length ≤ 1073741824 := by simp
    have hl1' : xs.length ≤ 1073741824 := by omega
    go_wp2_with (at_builtin; refine app_ints rfl _ _ rfl w.heap.size _ [] rfl hlit.out a cap S xs rfl hrx.out h0 hl1' hqs ?_; intro v1 w1 hO1 hb1; rw [List.nil_append] at hO1; obtain ⟨u1, u2, rfl⟩ := hO1.form; replace hO1 := Lib.hid hO1; replace hb1 := Lib.hid (hbl.out.trans hb1))
    go_loopg [6] ((smI xs).toNat) (fun g v wr => ∃ (j : Nat) (ys : List Int), Hid (itR φs j xs = ys) ∧ Hid (g = (smI ys).toNat) ∧ Hid (OwnL wr w.heap.size v ys) ∧ Hid (Below w.heap.size w wr))
    case atStart => exact ⟨0, xs, Lib.hid rfl, Lib.hid rfl, hO1, hb1⟩
    case round =>
      obtain ⟨j, ys, hit, hg, hO, hb⟩ := hrel
      obtain ⟨va, vc, rfl⟩ := hO.out.form
      have hzz := hb.out.size
      have hfy := hit.out ▸ it_fam hT.out f1.out j
      have hfz := rd_fam_t hT.out hfy
      have hly := famB_len hfy
      have hlz := famB_len hfz
      have hcl := Lib.hid (hrd.out (.slice va ys.length vc) ys wr hO.out.own.row hfy)
      have hlt := fun hne : rdL φs ys ≠ ys => rd_lt hT.out hfy (Classical.byContradiction fun hc => hne (rd_same fun φ hφ => Classical.byContradiction fun hn => hc ⟨φ, hφ, hn⟩))
      have hnn := smI_nonneg (xs := rdL φs ys) (fun z hz => (famB_lt hfz z hz).1)
      have hst : rdL φs ys = ys → stL φs xs = ys := fun h => by
        rw [← hit.out]
        refine (st_eq ?_).symm
        rw [hit.out]; exact h
      have hnx : rdL φs ys = itR φs (j + 1) xs := by rw [← hit.out]; rfl
      obtain ⟨zs, hzs⟩ : ∃ zs, rdL φs ys = zs := ⟨_, rfl⟩
      rw [hzs] at hcl hlt hnn hst hnx hlz
      replace hzs := Lib.hid hzs
      replace hfy := Lib.hid hfy
      replace hfz := Lib.hid hfz
      replace hnx := Lib.hid hnx
      replace hst := Lib.hid hst
      replace hlt := Lib.hid hlt
      replace hnn := Lib.hid hnn
      go_wp2_with fail
      refine hcl.out.mono ?_
      rintro e w2 ⟨v2, rfl, hO2, hr2, hb2⟩
      obtain ⟨a2, c2, rfl, _⟩ := id hr2
      have hz2 := hb2.size
      have hO3 := Lib.hid (hO.out.below hb2 (Nat.le_refl _))
      have hsm := same_ints _ (.slice va ys.length vc) zs ys w2.heap.size w2 hr2 hO3.out.own.row (by omega) (by omega)
      replace hb2 := Lib.hid (hb.out.trans (hb2.mono hzz))
      replace hO2 := Lib.hid hO2
      replace hr2 := Lib.hid hr2
      rcases (by cases sameB zs ys <;> simp : sameB zs ys = true ∨ sameB zs ys = false) with hs | hs
      · rw [hs] at hsm
        have hfin := Lib.hid (hst.out (of_decide_eq_true hs))
        replace hs := Lib.hid hs
        replace hsm := Lib.hid hsm
        go_wp2_with fail
        refine hsm.out.mono ?_
        rintro e w' ⟨rfl, m, rfl⟩
        go_wp2_with fail
        go_ret2
        exact ⟨_, rfl, by rw [hfin.out]; exact (hO3.out.drewN m).own, below_drewN hb2.out m⟩
      · rw [hs] at hsm
        have hne : zs ≠ ys := of_decide_eq_false hs
        have hmea := Lib.hid (show (smI zs).toNat < (smI ys).toNat by have := hlt.out hne; have := hnn.out; omega)
        have hOz := Lib.hid (show OwnL w2 w.heap.size (.slice a2 zs.length c2) zs from hO2.out.elim (fun h => h.mono hzz) (fun h => absurd h.2 hne))
        replace hs := Lib.hid hs
        replace hsm := Lib.hid hsm
        go_wp2_with fail
        refine hsm.out.mono ?_
        rintro e w' ⟨rfl, m, rfl⟩
        go_wp2_with fail
        go_roundg ((smI zs).toNat)
        case measure => rw [hg.out]; exact hmea.out
        case rel => exact ⟨j + 1, zs, Lib.hid hnx.out.symm, Lib.hid rfl, Lib.hid (hOz.out.drewN m), Lib.hid (below_drewN hb2.out m)⟩
  · rw [f1] at h1 ⊢
    replace h1 := Lib.hid h1
    replace f1 := Lib.hid f1
    clear hx
    go_enter Try.func22, Try.ntmps22
    go_wp2_with fail
    refine h1.out.mono ?_
    rintro e w1 ⟨rfl, q, rfl⟩
    go_wp2_with fail
    go_ret2
    exact ⟨_, rfl, own_empty0 _ _ _ _ _, ((below_drewN (Below.refl _ w) q).alloc (Nat.le_refl _) _)⟩
set_option maxRecDepth 100000 in
set_option maxHeartbeats 4000000 in
theorem sp_PressAll (n : Int) (lv : Value) (xs : List Int) (S : Nat) (w : World) (hx : Row w S lv xs) (hS : S ≤ w.heap.size) (hl : xs.length ≤ 100000000) :
    Calls Try.prog 23 #[.int .i64 n, lv] w (ListPost (ifL (famB n xs) (stL (prL n) xs)) (famB n xs) w) := by
  have h1 := sp_FamilyIn n lv xs S w hx (by omega)
  obtain ⟨a, cap, rfl, _⟩ := id hx
  rcases (by cases famB n xs <;> simp : famB n xs = true ∨ famB n xs = false) with f1 | f1
  · rw [f1] at h1 ⊢
    have hl1 := famB_len f1
    have hT := Lib.hid (prL_turns n)
    have hrd := Lib.hid (fun v ys (W : World) hr hf => l4down_at n v ys W.heap.size W hr (Nat.le_refl _) hf)
    obtain ⟨φs, hφs⟩ : ∃ φs, prL n = φs := ⟨_, rfl⟩
    rw [hφs] at hrd hT ⊢
    replace h1 := Lib.hid h1
    replace f1 := Lib.hid f1
    replace hφs := Lib.hid hφs
    replace hx := Lib.hid hx
    show Calls Try.prog 23 #[.int .i64 n, .slice a xs.length cap] w (ListPost (stL φs xs) true w)
    go_enter Try.func23, Try.ntmps23
    go_wp2_with fail
    refine h1.out.mono ?_
    rintro e w1 ⟨rfl, q, rfl⟩
    have hlit := Lib.hid (OwnL.lit (w.drewN q) (Nat.le_refl w.heap.size))
    have hbl := Lib.hid ((below_drewN (Below.refl w.heap.size w) q).alloc (Nat.le_refl _) (.cells #[] 3))
    have hrx := Lib.hid (hx.out.below hbl.out hS)
    have hqs : w.heap.size ≤ ((w.drewN q).alloc (.cells #[] 3)).heap.size := by rw [World.size_alloc]; exact Nat.le_succ _
    have h0 : ([] : List Int).length ≤ 1073741824 := by simp
    have hl1' : xs.length ≤ 1073741824 := by omega
    go_wp2_with (at_builtin; refine app_ints rfl _ _ rfl w.heap.size _ [] rfl hlit.out a cap S xs rfl hrx.out h0 hl1' hqs ?_; intro v1 w1 hO1 hb1; rw [List.nil_append] at hO1; obtain ⟨u1, u2, rfl⟩ := hO1.form; replace hO1 := Lib.hid hO1; replace hb1 := Lib.hid (hbl.out.trans hb1))
    go_loopg [6] ((smI xs).toNat) (fun g v wr => ∃ (j : Nat) (ys : List Int), Hid (itR φs j xs = ys) ∧ Hid (g = (smI ys).toNat) ∧ Hid (OwnL wr w.heap.size v ys) ∧ Hid (Below w.heap.size w wr))
    case atStart => exact ⟨0, xs, Lib.hid rfl, Lib.hid rfl, hO1, hb1⟩
    case round =>
      obtain ⟨j, ys, hit, hg, hO, hb⟩ := hrel
      obtain ⟨va, vc, rfl⟩ := hO.out.form
      have hzz := hb.out.size
      have hfy := hit.out ▸ it_fam hT.out f1.out j
      have hfz := rd_fam_t hT.out hfy
      have hly := famB_len hfy
      have hlz := famB_len hfz
      have hcl := Lib.hid (hrd.out (.slice va ys.length vc) ys wr hO.out.own.row hfy)
      have hlt := fun hne : rdL φs ys ≠ ys => rd_lt hT.out hfy (Classical.byContradiction fun hc => hne (rd_same fun φ hφ => Classical.byContradiction fun hn => hc ⟨φ, hφ, hn⟩))
      have hnn := smI_nonneg (xs := rdL φs ys) (fun z hz => (famB_lt hfz z hz).1)
      have hst : rdL φs ys = ys → stL φs xs = ys := fun h => by
        rw [← hit.out]
        refine (st_eq ?_).symm
        rw [hit.out]; exact h
      have hnx : rdL φs ys = itR φs (j + 1) xs := by rw [← hit.out]; rfl
      obtain ⟨zs, hzs⟩ : ∃ zs, rdL φs ys = zs := ⟨_, rfl⟩
      rw [hzs] at hcl hlt hnn hst hnx hlz
      replace hzs := Lib.hid hzs
      replace hfy := Lib.hid hfy
      replace hfz := Lib.hid hfz
      replace hnx := Lib.hid hnx
      replace hst := Lib.hid hst
      replace hlt := Lib.hid hlt
      replace hnn := Lib.hid hnn
      go_wp2_with fail
      refine hcl.out.mono ?_
      rintro e w2 ⟨v2, rfl, hO2, hr2, hb2⟩
      obtain ⟨a2, c2, rfl, _⟩ := id hr2
      have hz2 := hb2.size
      have hO3 := Lib.hid (hO.out.below hb2 (Nat.le_refl _))
      have hsm := same_ints _ (.slice va ys.length vc) zs ys w2.heap.size w2 hr2 hO3.out.own.row (by omega) (by omega)
      replace hb2 := Lib.hid (hb.out.trans (hb2.mono hzz))
      replace hO2 := Lib.hid hO2
      replace hr2 := Lib.hid hr2
      rcases (by cases sameB zs ys <;> simp : sameB zs ys = true ∨ sameB zs ys = false) with hs | hs
      · rw [hs] at hsm
        have hfin := Lib.hid (hst.out (of_decide_eq_true hs))
        replace hs := Lib.hid hs
        replace hsm := Lib.hid hsm
        go_wp2_with fail
        refine hsm.out.mono ?_
        rintro e w' ⟨rfl, m, rfl⟩
        go_wp2_with fail
        go_ret2
        exact ⟨_, rfl, by rw [hfin.out]; exact (hO3.out.drewN m).own, below_drewN hb2.out m⟩
      · rw [hs] at hsm
        have hne : zs ≠ ys := of_decide_eq_false hs
        have hmea := Lib.hid (show (smI zs).toNat < (smI ys).toNat by have := hlt.out hne; have := hnn.out; omega)
        have hOz := Lib.hid (show OwnL w2 w.heap.size (.slice a2 zs.length c2) zs from hO2.out.elim (fun h => h.mono hzz) (fun h => absurd h.2 hne))
        replace hs := Lib.hid hs
        replace hsm := Lib.hid hsm
        go_wp2_with fail
        refine hsm.out.mono ?_
        rintro e w' ⟨rfl, m, rfl⟩
        go_wp2_with fail
        go_roundg ((smI zs).toNat)
        case measure => rw [hg.out]; exact hmea.out
        case rel => exact ⟨j + 1, zs, Lib.hid hnx.out.symm, Lib.hid rfl, Lib.hid (hOz.out.drewN m), Lib.hid (below_drewN hb2.out m)⟩
  · rw [f1] at h1 ⊢
    replace h1 := Lib.hid h1
    replace f1 := Lib.hid f1
    clear hx
    go_enter Try.func23, Try.ntmps23
    go_wp2_with fail
    refine h1.out.mono ?_
    rintro e w1 ⟨rfl, q, rfl⟩
    go_wp2_with fail
    go_ret2
    exact ⟨_, rfl, own_empty0 _ _ _ _ _, ((below_drewN (Below.refl _ w) q).alloc (Nat.le_refl _) _)⟩
end Go.Proofs.Yteikiedffnnceaa
