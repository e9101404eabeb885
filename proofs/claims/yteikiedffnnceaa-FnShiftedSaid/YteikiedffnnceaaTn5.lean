/- Turns one behind the other, and rounds until nothing changes any more. -/
import Derived.Test.YteikiedffnnceaaTn4
import Derived.Deep.RegionHeld
namespace Go.Proofs.Yteikiedffnnceaa
open Go.ChangeShapes Go.WideShapes Go.ChangeAt Go.RowKit Go.Proofs

theorem fam_frozen {w : World} {c : Nat} {lv u : Value} (h : w.heap[c]? = some (.cells #[lv, u] 39 (0, 0))) : w.frozen? ⟨c, 0, none⟩ = false ∧ w.frozen? ⟨c, 1, none⟩ = false := ⟨frozen_of h 0, frozen_of h 1⟩
theorem fam_stored {w : World} {c : Nat} {p q : Value} (h : w.heap[c]? = some (.cells #[p, q] 39 (0, 0))) (X Y : Value) : ((w.setCell ⟨c, 0, none⟩ X).setCell ⟨c, 1, none⟩ Y).heap[c]? = some (.cells #[X, Y] 39 (0, 0)) := by
  have h1 := heap_setCell_same w c 0 _ 39 X h
  have h2 := heap_setCell_same _ c 1 _ 39 Y h1
  rw [h2]; rfl
/-- a store into a box that holds a family leaves a list of sets. -/
theorem SRow.stored {w : World} {S c n k : Nat} {v q : Value} {a : Option Addr} {xs : List Int} (h : SRow w S v xs) (hc : w.heap[c]? = some (.cells #[.slice a n k, q] 39 (0, 0))) (hq : ∀ x, q ≠ .int .u64 x) (X Y : Value) :
    SRow ((w.setCell ⟨c, 0, none⟩ X).setCell ⟨c, 1, none⟩ Y) S v xs := by
  obtain ⟨a, cap, rfl, h⟩ := h
  refine ⟨a, cap, rfl, fun hl => ?_⟩
  obtain ⟨b, off, rfl, hs, hx⟩ := h hl
  have hne : c ≠ b := by
    intro e
    subst e
    have h0 := hx 0 hl
    rw [cell_of_row w c (off + 0) _ 39 (0, 0) hc] at h0
    match off, h0 with
    | 0, h0 => cases h0
    | 1, h0 => exact hq _ (Option.some.inj h0)
    | off + 2, h0 => simp at h0
  refine ⟨b, off, rfl, hs, fun i hi => ?_⟩
  rw [World.cell?_setCell_far _ _ _ _ hne, World.cell?_setCell_far _ _ _ _ hne]
  exact hx i hi
theorem rd_take {φs : List (Int → Int)} {k : Nat} {φ : Int → Int} (h : φs[k]? = some φ) (xs : List Int) : rdL (φs.take (k + 1)) xs = tnL φ (rdL (φs.take k) xs) := by
  rw [List.take_add_one, h]
  exact rd_snoc φ _ xs
theorem rd_fam_take {n : Int} {φs : List (Int → Int)} {xs : List Int} (h : ∀ φ ∈ φs, SetT n φ) (hf : famB n xs = true) (k : Nat) : famB n (rdL (φs.take k) xs) = true := rd_fam (fun φ hφ => h φ (List.mem_of_mem_take hφ)) hf

set_option maxRecDepth 100000 in
set_option maxHeartbeats 2000000 in
theorem round_at (n : Int) (lt lv : Value) (φs : List (Int → Int)) (Bn : Nat) (xs : List Int) (w : World) (hf : famB n xs = true) (hφ : ∀ φ ∈ φs, SetT n φ) (hT : TRow n w w.heap.size lt φs)
    (hc : w.heap[Bn]? = some (.cells #[lt] 41 (0, 0))) (hx : SRow w w.heap.size lv xs) (hl : φs.length ≤ 1000) :
    Calls Try.prog 48 #[.agg #[lv, (Value.func (.func 71) #[] #[])], .pointer (some ⟨Bn, 0, none⟩)] w (FamR w (rdL φs xs)) := by
  obtain ⟨a, cap, rfl, _⟩ := id hx
  obtain ⟨ta, tc, rfl, _⟩ := id hT
  have hBn := (Array.getElem?_eq_some_iff.1 hc).1
  have hbw := ((Below.refl w.heap.size w).alloc (Nat.le_refl _) (.cells #[.slice a xs.length cap, (Value.func (.func 71) #[] #[])] 39)).alloc (by simp) (.cells #[.slice none 0 0, .nilFunc] 39)
  have hc0 := one_cell_at ((hbw.block Bn hBn).trans hc)
  have h0 := new_cell2 w #[.slice a xs.length cap, (Value.func (.func 71) #[] #[])] 39 (.cells #[.slice none 0 0, .nilFunc] 39)
  have h1 := new_cell1 w #[.slice none 0 0, .nilFunc] 39 (.cells #[.slice a xs.length cap, (Value.func (.func 71) #[] #[])] 39)
  have hx2 := (hx.below hbw (Nat.le_refl _)).mono (show w.heap.size ≤ ((w.alloc (.cells #[.slice a xs.length cap, (Value.func (.func 71) #[] #[])] 39)).alloc (.cells #[.slice none 0 0, .nilFunc] 39)).heap.size by simp; omega)
  have hs2 : ((w.alloc (.cells #[.slice a xs.length cap, (Value.func (.func 71) #[] #[])] 39)).alloc (.cells #[.slice none 0 0, .nilFunc] 39)).heap.size = w.heap.size + 1 + 1 := by simp
  replace hT := Lib.hid hT
  replace hbw := Lib.hid hbw
  replace h0 := Lib.hid h0
  replace h1 := Lib.hid h1
  replace hx2 := Lib.hid hx2
  replace hs2 := Lib.hid hs2
  replace hf := Lib.hid hf
  replace hφ := Lib.hid hφ
  clear hx hc
  go_enter Try.func48, Try.ntmps48
  go_wp2_with fail
  go_loopw [8] (fun q wr => ∃ k : Nat, k ≤ φs.length ∧ q = .int .i64 k ∧ Hid (∃ v, wr.heap[w.heap.size]? = some (.cells #[v, (Value.func (.func 71) #[] #[])] 39 (0, 0)) ∧ SRow wr wr.heap.size v (rdL (φs.take k) xs)) ∧ Hid (wr.heap[w.heap.size + 1]? = some (.cells #[.slice none 0 0, .nilFunc] 39 (0, 0))) ∧ Hid (Below w.heap.size w wr) ∧ Hid (w.heap.size + 1 + 1 ≤ wr.heap.size)) (fun q _ => φs.length - (intOf q).toNat)
  case atStart => exact ⟨0, by omega, rfl, Lib.hid ⟨_, h0.out, hx2.out⟩, h1, hbw, Lib.hid (by rw [hs2.out]; omega)⟩
  case round =>
    obtain ⟨k, hk, rfl, hv, hr, hb, hz⟩ := hrel
    obtain ⟨v, hv0, hv1⟩ := hv.out
    obtain ⟨va, vc, rfl, _⟩ := id hv1
    obtain ⟨l0, l1⟩ := fam_cells hv0
    have hzz := hz.out
    clear hv
    by_cases hlt : k < φs.length
    · have k1 : (0 : Int) ≤ (k : Int) := by omega
      have k2 : (k : Int) < (φs.length : Nat) := by omega
      obtain ⟨φ, hφk⟩ : ∃ φ, φs[k]? = some φ := ⟨_, List.getElem?_eq_getElem hlt⟩
      have hTr := hT.out.below hb.out (Nat.le_refl _)
      obtain ⟨a', c', e, hTc⟩ := hTr
      injection e with e1 e2 e3
      subst e1 e3
      obtain ⟨b1, o1, rfl, s1, c1⟩ := hTc (by omega)
      obtain ⟨u, bs, e1, ⟨g, cs, rfl, eg, hcall⟩, hH⟩ := c1 k φ hφk
      have eg1 : ∀ args w, (callFunc g args).run Try.prog w = .ok (.enter g args) w := eg
      have hfy := rd_fam_take hφ.out hf.out k
      have hcl := Lib.hid (hcall wr _ _ hfy hH hv1)
      have hrt := Lib.hid (rd_take hφk xs)
      have hB0 : w.heap.size < wr.heap.size := by omega
      have hB1 : w.heap.size + 1 < wr.heap.size := by omega
      replace hv0 := Lib.hid hv0
      replace hv1 := Lib.hid hv1
      replace hφk := Lib.hid hφk
      replace hfy := Lib.hid hfy
      clear hcall hTc c1 hH
      obtain ⟨ys, hys⟩ : ∃ ys, rdL (φs.take k) xs = ys := ⟨_, rfl⟩
      rw [hys] at l0 hcl hrt hv0 hv1
      replace hys := Lib.hid hys
      go_wp2_with fail
      refine hcl.out.mono ?_
      rintro e w2 ⟨v2, rfl, hS2, hb2⟩
      obtain ⟨a2, c2, rfl, _⟩ := id hS2
      have hh2 := (hb2.block w.heap.size hB0).trans hv0.out
      obtain ⟨m0, m1⟩ := fam_cells hh2
      obtain ⟨f0, f1⟩ := fam_frozen hh2
      have hst := Lib.hid (fam_stored hh2 (.slice a2 (tnL φ ys).length c2) (Value.func (.func 71) #[] #[]))
      have hrs := Lib.hid (hS2.stored hh2 (fun _ => by simp) (.slice a2 (tnL φ ys).length c2) (Value.func (.func 71) #[] #[]))
      have hr2 := Lib.hid ((hb2.block (w.heap.size + 1) hB1).trans hr.out)
      have hsz2 := hb2.size
      replace hb2 := Lib.hid (below_setCell (below_setCell (hb.out.trans (hb2.mono (by omega))) (p := ⟨w.heap.size, 0, none⟩) (Nat.le_refl _) (.slice a2 (tnL φ ys).length c2)) (p := ⟨w.heap.size, 1, none⟩) (Nat.le_refl _) (Value.func (.func 71) #[] #[]))
      replace hh2 := Lib.hid hh2
      clear hS2 hcl
      go_wp2_with fail
      go_roundw
      case rel =>
        refine ⟨k + 1, by omega, by go_num, Lib.hid ⟨_, hst.out, ?_⟩, Lib.hid ?_, hb2, Lib.hid (by simp [World.setCell]; omega)⟩
        · rw [hrt.out]
          exact hrs.out.mono (by simp [World.setCell])
        · rw [Below.heap_setCell _ _ _ _ (by simp), Below.heap_setCell _ _ _ _ (by simp)]
          exact hr2.out
      case measure => simp [intOf]; omega
    · obtain rfl : k = φs.length := by omega
      rw [List.take_length] at hv1 l0
      obtain ⟨d0, d1⟩ := fam_cells hr.out
      obtain ⟨f0, f1⟩ := fam_frozen hr.out
      have rr := two_cells (.slice va (rdL φs xs).length vc) (Value.func (.func 71) #[] #[]) d0 d1
      have hfin := Lib.hid (show SRow ((wr.setCell ⟨w.heap.size + 1, 0, none⟩ (.slice va (rdL φs xs).length vc)).setCell ⟨w.heap.size + 1, 1, none⟩ (Value.func (.func 71) #[] #[])) wr.heap.size (.slice va (rdL φs xs).length vc) (rdL φs xs) ∧ Below w.heap.size w ((wr.setCell ⟨w.heap.size + 1, 0, none⟩ (.slice va (rdL φs xs).length vc)).setCell ⟨w.heap.size + 1, 1, none⟩ (Value.func (.func 71) #[] #[])) from
        ⟨hv1.stored hr.out (fun _ => by simp) _ _, below_setCell (below_setCell hb.out (p := ⟨w.heap.size + 1, 0, none⟩) (Nat.le_succ _) _) (p := ⟨w.heap.size + 1, 1, none⟩) (Nat.le_succ _) _⟩)
      clear hv1
      replace hv0 := Lib.hid hv0
      go_wp2_with fail
      exact bodyPost_ret (v := .agg #[.slice va (rdL φs xs).length vc, (Value.func (.func 71) #[] #[])]) (by simp [results, Try.results48, go_sem, rr.1, rr.2]) rfl ⟨_, rfl, hfin.out.1.mono (by simp [World.setCell]), hfin.out.2⟩
end Go.Proofs.Yteikiedffnnceaa
