/- The exact law of ChainAll. -/
import Derived.Test.YtffnpignkimkhaaDoorCa3
namespace Go.Proofs.YtffnpignkimkhaaDoor
open Go.ChangeShapes Go.WideShapes Go.ChangeAt Go.RowKit Go.Proofs

theorem RW.opened {w : World} {B : Nat} {v : Value} {Ls : List (List Int)} (h : RW w B v Ls) : ∃ a c V K, v = .slice a Ls.length c ∧ Tbl w w.heap.size a Ls.length V ∧ OwnR w B w.heap.size V K Ls ∧ (∀ i j, i < Ls.length → j < Ls.length → i ≠ j → K i ≠ K j) ∧ ∀ b off, a = some ⟨b, off, none⟩ → ∀ i, i < Ls.length → K i ≠ b := by
  obtain ⟨V, K, h1, h2, h3⟩ := h
  have hinj : ∀ i j, i < Ls.length → j < Ls.length → i ≠ j → K i ≠ K j := fun i j hi hj hij e => by
    rcases Nat.lt_or_gt_of_ne hij with hlt | hlt
    · have := h3 i j hlt hj; omega
    · have := h3 j i hlt hi; omega
  have hown : OwnR w B w.heap.size V K Ls := fun i hi => by
    obtain ⟨h4, h5⟩ := h2 i hi
    refine ⟨h4.own, ?_⟩
    rcases id h4.2 with ⟨hv, _⟩ | ⟨g, cap, cur, hv, _⟩
    · rw [hv] at h5; cases h5
    · rw [hv] at h5 ⊢
      cases h5
      exact ⟨0, cap, rfl⟩
  rcases id h1.2 with ⟨rfl, hn⟩ | ⟨g, cap, cur, rfl, hg, hh, k1, k2, k3, k4⟩
  · exact ⟨none, 0, V, K, by rw [hn], fun hp => by omega, hown, hinj, fun b off e => by cases e⟩
  · refine ⟨_, cap, V, K, rfl, fun _ => ⟨g, 0, rfl, (Array.getElem?_eq_some_iff.1 hh).1, fun j hj => ?_⟩, hown, hinj, fun b off e i hi hk => ?_⟩
    · rw [cell_of_row w g _ _ 25 (0, 0) hh]
      have h5 : (cur.toList.take Ls.length)[j]? = some (V j) := by rw [Nat.mul_one] at k4; rw [k4, List.getElem?_map, List.getElem?_range hj]; rfl
      rw [List.getElem?_take, if_pos hj] at h5
      simpa using h5
    · cases e
      obtain ⟨cur', hc⟩ := owns_blk (h2 i hi).1 (h2 i hi).2
      rw [hk, hh] at hc
      injection hc with hc
      injection hc with _ hc
      exact absurd hc (by decide)
theorem OwnR.rows {w : World} {B S : Nat} {V : Nat → Value} {K : Nat → Nat} {Ls : List (List Int)} (h : OwnR w B S V K Ls) : RowsR w S V Ls := fun i hi => (h i hi).1.row
theorem OwnR.drewN {w : World} {B S : Nat} {V : Nat → Value} {K : Nat → Nat} {Ls : List (List Int)} (h : OwnR w B S V K Ls) (q : Nat) : OwnR (w.drewN q) B S V K Ls := h
set_option maxHeartbeats 4000000 in
theorem law_ChainAll (n : Int) (Ls : List (List Int)) (b : Bool) (hL : Short Ls)
    (hi : ∀ W, Tab W → Calls Tryd.prog 15 #[.int .i64 n] W (SSP Ls b W)) (hs : ∀ W, Calls Tryd.prog 14 #[.int .i64 n] W (SSP Ls b W)) (w : World) (hT : Tab w) :
    Calls Tryd.prog 5 #[.int .i64 n] w fun e w' => e = .returned (.bool true) ∧ Below w.heap.size w w' := by
  have htl := hT.lt
  have hbb : (b != b) = false := by simp
  obtain ⟨o1, o2⟩ := ofs_bd 1 Ls hL Ls.length (Nat.le_refl _)
  obtain ⟨X, hX⟩ : ∃ X, ofsI 1 Ls Ls.length = X := ⟨_, rfl⟩
  rw [hX] at o1 o2
  have hX1 : ¬ (X < 0) := by omega
  have hXX : (X != X) = false := by simp
  replace hX := Lib.hid hX
  have hLh := Lib.hid hL
  replace hi := Lib.hid hi
  replace hs := Lib.hid hs
  replace hT := Lib.hid hT
  clear hL
  go_enter Tryd.func5, Tryd.ntmps5
  go_wp2_with fail
  refine (hs.out _).mono ?_
  rintro e w1 ⟨v0, rfl, hR0, hb1⟩
  obtain ⟨a0, c0, V0, K0, rfl, t0, r0, -, -⟩ := hR0.opened
  have r0' := r0.rows
  have hT1 := hT.out.below hb1 htl
  have s1 := hb1.size
  replace hb1 := Lib.hid hb1
  clear r0 hR0
  go_wp2_with fail
  refine (hi.out _ hT1).mono ?_
  rintro e w2 ⟨v1, rfl, hR1, hb2⟩
  obtain ⟨a1, c1, V1, K1, rfl, t1, r1, j1, x1⟩ := hR1.opened
  have s2 := hb2.size
  have t02 := (t0.below hb2 (Nat.le_refl _)).mono s2
  have r02 := (r0'.below hb2 (Nat.le_refl _)).mono s2
  have he := Lib.hid (eq_rows Ls a1 a0 c1 c0 V1 V0 w2.heap.size w2 hLh.out t1 t02 r1.rows r02)
  have hmk := Lib.hid (fun q => mark_rows Ls a1 c1 V1 K1 1 w1.heap.size w2.heap.size (w2.drewN q) hLh.out (by omega) (by omega) (t1.drewN q) x1 (r1.drewN q) j1)
  have hb12 := Lib.hid (hb1.out.trans (hb2.mono s1))
  replace hb2 := Lib.hid hb2
  replace t0 := Lib.hid t0
  replace r0' := Lib.hid r0'
  clear hR1 t1 r1 j1 x1 t02 r02
  go_wp2_with fail
  refine he.out.mono ?_
  rintro e w' ⟨rfl, q1, rfl⟩
  go_wp2_with fail
  refine (hmk.out q1).mono ?_
  rintro e w3 ⟨rfl, t3, m3, hb3⟩
  have hh3 := held_rows Ls a1 c1 V1 1 w2.heap.size w3 hLh.out (by omega) (by omega) t3 m3
  rw [hX.out] at hh3 ⊢
  have s3 : w2.heap.size ≤ w3.heap.size := hb3.size
  have hb13 := Lib.hid (hb2.out.trans ((below_drewN (Below.refl w1.heap.size w2) q1).trans hb3))
  have hb03 := Lib.hid (hb1.out.trans (hb13.out.mono s1))
  have hT3 := hT.out.below hb03.out htl
  replace hh3 := Lib.hid hh3
  replace t3 := Lib.hid t3
  replace m3 := Lib.hid m3
  clear hb3
  go_wp2_with (go_at_call 18; refine hh3.out.mono ?_; rintro e w' ⟨rfl, rfl⟩)
  refine (hi.out _ hT3).mono ?_
  rintro e w4 ⟨v4, rfl, hR4, hb4⟩
  obtain ⟨a4, c4, V4, K4, rfl, t4, r4, -, -⟩ := hR4.opened
  have s4 := hb4.size
  have t04 := (t0.out.below (hb13.out.trans (hb4.mono (by omega))) (Nat.le_refl _)).mono (show w1.heap.size ≤ w4.heap.size by omega)
  have r04 := (r0'.out.below (hb13.out.trans (hb4.mono (by omega))) (Nat.le_refl _)).mono (show w1.heap.size ≤ w4.heap.size by omega)
  have he4 := Lib.hid (eq_rows Ls a4 a0 c4 c0 V4 V0 w4.heap.size w4 hLh.out t4 t04 r4.rows r04)
  have hh5 := fun q => held_rows Ls a1 c1 V1 1 w2.heap.size (w4.drewN q) hLh.out (by omega) (by omega) ((t3.out.below hb4 s3).drewN q) ((m3.out.below hb4 s3).drewN q)
  rw [hX.out] at hh5
  replace hh5 := Lib.hid hh5
  have hb04 := Lib.hid (hb03.out.trans (hb4.mono (by omega)))
  clear hR4 t4 r4 t04 r04 hb4
  go_wp2_with fail
  refine he4.out.mono ?_
  rintro e w' ⟨rfl, q5, rfl⟩
  go_wp2_with (go_at_call 18; refine (hh5.out _).mono ?_; rintro e w' ⟨rfl, rfl⟩)
  go_ret
  exact ⟨rfl, below_drewN hb04.out q5⟩
theorem allC_short (n : Int) : Short (allC n) := by
  unfold allC
  split
  · rename_i h
    obtain ⟨n1, n2⟩ := ptsB_yes h
    exact acL_short (by omega) (Nat.le_refl _)
  · exact ⟨by simp, fun i hi => absurd hi (Nat.not_lt_zero i)⟩
theorem Law_ChainAll (n : Int) (w : World) (hT : Tab w) : Calls Tryd.prog 5 #[.int .i64 n] w fun e w' => e = .returned (.bool true) ∧ Below w.heap.size w w' :=
  law_ChainAll n _ _ (allC_short n) (fun W h => im_ChainAll n W h) (fun W => sp_ChainAll n W) w hT
end Go.Proofs.YtffnpignkimkhaaDoor
