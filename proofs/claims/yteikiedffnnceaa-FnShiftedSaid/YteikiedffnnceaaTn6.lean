/- Rounds until nothing changes any more: a labelled loop. What is made of a family to be read. -/
import Derived.Test.YteikiedffnnceaaTn5
import Derived.WalkMore
namespace Go.Proofs.Yteikiedffnnceaa
open Go.ChangeShapes Go.WideShapes Go.ChangeAt Go.RowKit Go.Proofs

theorem same_of {xs ys : List Int} (h : sameB xs ys = true) : xs = ys := of_decide_eq_true h
theorem take_all {φs : List (Int → Int)} {k : Nat} {φ : Int → Int} {ys : List Int} (hk : φs[k]? = some φ) (h : ∀ ψ ∈ φs.take k, tnL ψ ys = ys) (h2 : tnL φ ys = ys) : ∀ ψ ∈ φs.take (k + 1), tnL ψ ys = ys := by
  intro ψ hψ
  rw [List.take_add_one, hk] at hψ
  rcases List.mem_append.1 hψ with h3 | h3
  · exact h ψ h3
  · simp at h3; subst h3; exact h2
set_option maxRecDepth 100000 in
set_option maxHeartbeats 4000000 in
theorem settled_at (n : Int) (lt lv : Value) (φs : List (Int → Int)) (xs : List Int) (w : World) (hf : famB n xs = true) (hφ : TurnsT n φs) (hT : TRow n w w.heap.size lt φs)
    (hx : SRow w w.heap.size lv xs) (hl : φs.length ≤ 1000) :
    Calls Try.prog 18 #[.agg #[lv, (Value.func (.func 71) #[] #[])], lt] w (FamR w (stL φs xs)) := by
  obtain ⟨a, cap, rfl, _⟩ := id hx
  obtain ⟨ta, tc, rfl, _⟩ := id hT
  have hmf := mkfunc
  have egr : ∀ args w, (callFunc 48 args).run Try.prog w = .ok (.enter 48 args) w := enters_of Try.func48 (by kernel_rfl) rfl
  have hbw := (((Below.refl w.heap.size w).alloc (Nat.le_refl _) (.cells #[.slice a xs.length cap, (Value.func (.func 71) #[] #[])] 39)).alloc (by simp) (.cells #[.slice none 0 0, .nilFunc] 39)).alloc (by simp; omega) (.cells #[.slice ta φs.length tc] 41)
  have h0 := new_cell3a w #[.slice a xs.length cap, (Value.func (.func 71) #[] #[])] 39 (.cells #[.slice none 0 0, .nilFunc] 39) (.cells #[.slice ta φs.length tc] 41)
  have h1 := new_cell3b w #[.slice none 0 0, .nilFunc] 39 (.cells #[.slice a xs.length cap, (Value.func (.func 71) #[] #[])] 39) (.cells #[.slice ta φs.length tc] 41)
  have h2 := new_cell3c w #[.slice ta φs.length tc] 41 (.cells #[.slice a xs.length cap, (Value.func (.func 71) #[] #[])] 39) (.cells #[.slice none 0 0, .nilFunc] 39)
  have hs2 : w.heap.size + 1 + 1 + 1 ≤ (((w.alloc (.cells #[.slice a xs.length cap, (Value.func (.func 71) #[] #[])] 39)).alloc (.cells #[.slice none 0 0, .nilFunc] 39)).alloc (.cells #[.slice ta φs.length tc] 41)).heap.size := by simp
  have hx2 := (hx.below hbw (Nat.le_refl _)).mono hbw.size
  replace hT := Lib.hid hT
  replace hbw := Lib.hid hbw
  replace h0 := Lib.hid h0
  replace h1 := Lib.hid h1
  replace h2 := Lib.hid h2
  replace hx2 := Lib.hid hx2
  replace hs2 := Lib.hid hs2
  replace hf := Lib.hid hf
  replace hφ := Lib.hid hφ
  clear hx
  go_enter Try.func18, Try.ntmps18
  go_wp2_with fail
  go_step3
  go_wp2_with (go_at_call 32; go_in)
  go_step3
  go_wp2_with fail
  go_loopg [] ((smI xs).toNat) (fun g wr => ∃ (j : Nat) (ys : List Int) (v : Value), Hid (itR φs j xs = ys) ∧ Hid (g = (smI ys).toNat) ∧ Hid (wr.heap[w.heap.size]? = some (.cells #[v, (Value.func (.func 71) #[] #[])] 39 (0, 0))) ∧ Hid (wr.heap[w.heap.size + 1]? = some (.cells #[.slice none 0 0, .nilFunc] 39 (0, 0)))
    ∧ Hid (wr.heap[w.heap.size + 1 + 1]? = some (.cells #[.slice ta φs.length tc] 41 (0, 0))) ∧ Hid (SRow wr wr.heap.size v ys) ∧ Hid (Below w.heap.size w wr) ∧ Hid (w.heap.size + 1 + 1 + 1 ≤ wr.heap.size))
  case atStart => exact ⟨0, xs, _, Lib.hid rfl, Lib.hid rfl, h0, h1, h2, hx2, hbw, hs2⟩
  case round =>
    obtain ⟨j, ys, v, hit, hg, hv0, hr, hrt, hS, hb, hz⟩ := hrel
    obtain ⟨va, vc, rfl, _⟩ := id hS.out
    have hfy := Lib.hid (hit.out ▸ it_fam hφ.out hf.out j : famB n ys = true)
    have hTr := Lib.hid (hT.out.below hb.out (Nat.le_refl _))
    have hzz := hz.out
    have hB0 : w.heap.size < wr.heap.size := by omega
    have hB1 : w.heap.size + 1 < wr.heap.size := by omega
    have hB2 : w.heap.size + 1 + 1 < wr.heap.size := by omega
    go_wp2_with fail
    go_loopg [12] φs.length (fun g2 q wq => ∃ k : Nat, k + g2 = φs.length ∧ q = .int .i64 k ∧ Hid (∀ ψ ∈ φs.take k, tnL ψ ys = ys) ∧ Hid (Below wr.heap.size wr wq))
    case atStart => exact ⟨0, by omega, rfl, Lib.hid (fun ψ hψ => by simp at hψ), Lib.hid (Below.refl _ _)⟩
    case round =>
      obtain ⟨k, hk, rfl, hall, hbq⟩ := hrel
      have hzq := hbq.out.size
      obtain ⟨l0, l1⟩ := fam_cells ((hbq.out.block w.heap.size hB0).trans hv0.out)
      cases gk with
      | zero =>
        have hkz : ¬ ((k : Int) < (φs.length : Nat)) := by omega
        have hfix : stL φs xs = ys := by
          rw [← hit.out]
          refine (st_eq ?_).symm
          rw [hit.out]
          refine rd_same fun ψ hψ => hall.out ψ ?_
          rw [List.take_of_length_le (by omega)]; exact hψ
        have hr2 := (hbq.out.block (w.heap.size + 1) hB1).trans hr.out
        obtain ⟨d0, d1⟩ := fam_cells hr2
        obtain ⟨f0, f1⟩ := fam_frozen hr2
        have rr := two_cells (.slice va ys.length vc) (Value.func (.func 71) #[] #[]) d0 d1
        have hfin := Lib.hid (show SRow ((wr.setCell ⟨w.heap.size + 1, 0, none⟩ (.slice va ys.length vc)).setCell ⟨w.heap.size + 1, 1, none⟩ (Value.func (.func 71) #[] #[])) wr.heap.size (.slice va ys.length vc) ys ∧ Below w.heap.size w ((wr.setCell ⟨w.heap.size + 1, 0, none⟩ (.slice va ys.length vc)).setCell ⟨w.heap.size + 1, 1, none⟩ (Value.func (.func 71) #[] #[])) from
          ⟨((hS.out.below hbq.out (Nat.le_refl _)).mono hzq).stored hr2 (fun _ => by simp) _ _, below_setCell (below_setCell (hb.out.trans (hbq.out.mono hb.out.size)) (p := ⟨w.heap.size + 1, 0, none⟩) (Nat.le_succ _) _) (p := ⟨w.heap.size + 1, 1, none⟩) (Nat.le_succ _) _⟩)
        replace hfix := Lib.hid hfix
        go_wp2_with fail
        exact bodyPost_ret (v := .agg #[.slice va ys.length vc, (Value.func (.func 71) #[] #[])]) (by simp [results, Try.results18, go_sem, rr.1, rr.2]) rfl ⟨_, rfl, hfix.out ▸ hfin.out.1.mono (by simp [World.setCell]), hfin.out.2⟩
      | succ g2 =>
        have hkz : (k : Int) < (φs.length : Nat) := by omega
        have hk0 : (0 : Int) ≤ (k : Int) := by omega
        obtain ⟨φ, hφk⟩ : ∃ φ, φs[k]? = some φ := ⟨_, List.getElem?_eq_getElem (by omega)⟩
        have hmem := List.mem_of_getElem? hφk
        have hTq := hTr.out.below hbq.out (by omega)
        obtain ⟨a', c', e, hTc⟩ := hTq
        injection e with e1 e2 e3
        subst e1 e3
        obtain ⟨b1, o1, rfl, s1, c1⟩ := hTc (by omega)
        obtain ⟨u, bs, e1, hTV, hH⟩ := c1 k φ hφk
        have hSq := (hS.out.below hbq.out (Nat.le_refl _)).mono hzq
        have hch := changes_at n u φ bs hTV (hφ.out φ hmem).1 (.slice va ys.length vc) ys wr hfy.out hH hSq
        obtain ⟨g, cs, rfl, _⟩ := hTV
        rcases (by cases sameB (tnL φ ys) ys <;> simp : sameB (tnL φ ys) ys = true ∨ sameB (tnL φ ys) ys = false) with hsm | hsm
        · rw [hsm] at hch
          have hall2 := Lib.hid (take_all hφk hall.out (same_of hsm))
          replace hch := Lib.hid hch
          replace hsm := Lib.hid hsm
          replace hφk := Lib.hid hφk
          replace hmem := Lib.hid hmem
          clear hTc c1 hH hSq
          go_wp2_with fail
          refine hch.out.mono ?_
          rintro e w2 ⟨rfl, hb2⟩
          replace hb2 := Lib.hid (hbq.out.trans (hb2.mono hzq))
          go_wp2_with fail
          go_roundg g2
          case measure => omega
          case rel => exact ⟨k + 1, by omega, by go_num, hall2, hb2⟩
        · rw [hsm] at hch
          have hlt := rd_lt hφ.out hfy.out ⟨φ, hmem, fun e => by rw [e] at hsm; simp [sameB] at hsm⟩
          have hnn := smI_nonneg (xs := rdL φs ys) (fun z hz => (famB_lt (rd_fam (fun φ hφ' => (hφ.out φ hφ').1) hfy.out) z hz).1)
          have hmea := Lib.hid (show (smI (rdL φs ys)).toNat < (smI ys).toNat by omega)
          replace hch := Lib.hid hch
          replace hsm := Lib.hid hsm
          replace hφk := Lib.hid hφk
          replace hmem := Lib.hid hmem
          replace hSq := Lib.hid hSq
          have hTq := Lib.hid (hTr.out.below hbq.out (by omega))
          clear hTc c1 hH hlt hnn
          go_wp2_with fail
          refine hch.out.mono ?_
          rintro e w2 ⟨rfl, hb2⟩
          have hz2 := hb2.size
          have hbq2 := hbq.out.trans (hb2.mono hzq)
          have hv2 := (hbq2.block w.heap.size hB0).trans hv0.out
          obtain ⟨m0, m1⟩ := fam_cells hv2
          have hra := Lib.hid (round_at n _ _ φs (w.heap.size + 1 + 1) ys w2 hfy.out (fun φ hφ' => (hφ.out φ hφ').1) ((hTq.out.below hb2 (by omega)).mono (by omega)) ((hbq2.block (w.heap.size + 1 + 1) hB2).trans hrt.out) ((hSq.out.below hb2 (Nat.le_refl _)).mono hz2) hl)
          replace hbq2 := Lib.hid hbq2
          replace hv2 := Lib.hid hv2
          clear hb2
          go_wp2_with fail
          refine hra.out.mono ?_
          rintro e w3 ⟨v3, rfl, hS3, hb3⟩
          obtain ⟨a3, c3, rfl, _⟩ := id hS3
          have hz3 := hb3.size
          have hv3 := (hb3.block w.heap.size (by omega)).trans hv2.out
          obtain ⟨n0, n1⟩ := fam_cells hv3
          obtain ⟨f0, f1⟩ := fam_frozen hv3
          have hst := Lib.hid (fam_stored hv3 (.slice a3 (rdL φs ys).length c3) (Value.func (.func 71) #[] #[]))
          have hrs := Lib.hid (hS3.stored hv3 (fun _ => by simp) (.slice a3 (rdL φs ys).length c3) (Value.func (.func 71) #[] #[]))
          have hbq3 := hbq2.out.trans (hb3.mono (by omega))
          have hr3 := Lib.hid ((hbq3.block (w.heap.size + 1) hB1).trans hr.out)
          have hrt3 := Lib.hid ((hbq3.block (w.heap.size + 1 + 1) hB2).trans hrt.out)
          have hbf := Lib.hid (below_setCell (below_setCell (hb.out.trans (hbq3.mono (by omega))) (p := ⟨w.heap.size, 0, none⟩) (Nat.le_refl _) (.slice a3 (rdL φs ys).length c3)) (p := ⟨w.heap.size, 1, none⟩) (Nat.le_refl _) (Value.func (.func 71) #[] #[]))
          replace hv3 := Lib.hid hv3
          clear hS3 hbq3 hra
          go_wp2_with fail
          go_roundg ((smI (rdL φs ys)).toNat)
          case measure => rw [hg.out]; exact hmea.out
          case rel =>
            refine ⟨j + 1, rdL φs ys, _, Lib.hid ?_, Lib.hid rfl, hst, Lib.hid ?_, Lib.hid ?_, Lib.hid ?_, hbf, Lib.hid (by simp [World.setCell]; omega)⟩
            · show rdL φs (itR φs j xs) = _
              rw [hit.out]
            · rw [Below.heap_setCell _ _ _ _ (by simp), Below.heap_setCell _ _ _ _ (by simp)]
              exact hr3.out
            · rw [Below.heap_setCell _ _ _ _ (by simp; omega), Below.heap_setCell _ _ _ _ (by simp; omega)]
              exact hrt3.out
            · exact hrs.out.mono (by simp [World.setCell])
end Go.Proofs.Yteikiedffnnceaa
