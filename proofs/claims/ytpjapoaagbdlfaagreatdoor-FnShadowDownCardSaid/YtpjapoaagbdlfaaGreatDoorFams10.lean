/- Families: all sets, common sets, what is left, unions. -/
import Derived.Test.YtpjapoaagbdlfaaGreatDoorFams9
import Derived.Deep.RegionWith
namespace Go.Proofs.YtpjapoaagbdlfaaGreatDoor
open Go.ChangeShapes Go.WideShapes Go.ChangeAt Go.RowKit Go.Proofs

theorem common_clo (lu : Value) (xs zs : List Int) (S : Nat) (w : World) (hy : SRow w S lu zs) (hS : S ≤ w.heap.size) (hA : Asc zs) (hl : zs.length ≤ 100000) :
    PredV 68 #[.agg #[lu, (Value.func (.func 57) #[] #[])]] #[] (fun x => memB x zs) xs w := fun W x _ hb => has_any lu zs x S W (hy.below hb hS) hA hl (by have := hb.size; omega)
theorem less_clo (lu : Value) (xs zs : List Int) (S B : Nat) (w : World) (hy : SRow w S lu zs) (hS : S ≤ w.heap.size) (hA : Asc zs) (hl : zs.length ≤ 100000) (hB : B < w.heap.size) (h0 : w.cell? ⟨B, 0, none⟩ = some lu) (h1 : w.cell? ⟨B, 1, none⟩ = some (Value.func (.func 57) #[] #[])) :
    PredV 96 #[] #[.pointer (some ⟨B, 0, none⟩)] (fun x => !memB x zs) xs w := fun W x _ hb => by
  have e0 := (hb.cell (p := ⟨B, 0, none⟩) hB).trans h0
  have e1 := (hb.cell (p := ⟨B, 1, none⟩) hB).trans h1
  have hh := Lib.hid (has_any lu zs x S W (hy.below hb hS) hA hl (by have := hb.size; omega))
  obtain ⟨a, c, rfl, _⟩ := hy
  show Calls Tryz.prog 96 #[.int .u64 x, .pointer (some ⟨B, 0, none⟩)] W fun e w' => e = .returned (.bool (!memB x zs)) ∧ Below W.heap.size W w'
  obtain ⟨r, hr⟩ : ∃ r, memB x zs = r := ⟨_, rfl⟩
  rw [hr] at hh ⊢
  replace hr := Lib.hid hr
  replace hA := Lib.hid hA
  clear h0 h1 hb
  go_enter Tryz.func96, Tryz.ntmps96
  go_wp2_with fail
  refine hh.out.mono ?_
  rintro e w2 ⟨rfl, hb2⟩
  replace hb2 := Lib.hid hb2
  go_wp2_with fail
  go_ret
  exact ⟨rfl, hb2.out⟩

/-- what a function of two families needs of them. -/
structure TwoFam (xs zs : List Int) : Prop where
  ax : Asc xs
  az : Asc zs
  lx : ∀ z ∈ xs, 0 ≤ z ∧ z < 256
  lz : ∀ z ∈ zs, 0 ≤ z ∧ z < 256
theorem TwoFam.len {xs zs : List Int} (h : TwoFam xs zs) : xs.length ≤ 256 ∧ zs.length ≤ 256 := ⟨asc_len256 h.ax h.lx, asc_len256 h.az h.lz⟩
set_option maxHeartbeats 1000000 in
theorem common_fam (xs zs : List Int) (w : World) (hT : TwoFam xs zs) : FamMap2 38 #[] xs zs (sortL (xs.filter (fun x => memB x zs))) w := fun W lv lu _ hx hy => by
  obtain ⟨hl1, hl2⟩ := hT.len
  have hmf := mkfunc
  obtain ⟨a, cap, rfl, _⟩ := id hx
  obtain ⟨b, cbp, rfl, _⟩ := id hy
  have hbw := (((Below.refl W.heap.size W).alloc (Nat.le_refl _) (.cells #[.slice a xs.length cap, (Value.func (.func 57) #[] #[])] 44)).alloc (by simp) (.cells #[.slice b zs.length cbp, (Value.func (.func 57) #[] #[])] 44)).alloc (by simp; omega) (.cells #[.slice none 0 0, .nilFunc] 44)
  have hk := Lib.hid (kept_any 68 (enters_of Tryz.func68 (by kernel_rfl) rfl) #[.agg #[.slice b zs.length cbp, (Value.func (.func 57) #[] #[])]] #[] (fun x => memB x zs) _ xs _ _ (hx.below hbw (Nat.le_refl _)) (by simp; omega) (by omega) hT.lx
    (common_clo _ xs zs _ _ (hy.below hbw (Nat.le_refl _)) (by simp; omega) hT.az (by omega)))
  replace hbw := Lib.hid hbw
  clear hx hy
  show Calls Tryz.prog 38 #[.agg #[.slice a xs.length cap, (Value.func (.func 57) #[] #[])], .agg #[.slice b zs.length cbp, (Value.func (.func 57) #[] #[])]] W _
  go_enter Tryz.func38, Tryz.ntmps38
  go_wp2_with fail
  refine hk.out.mono ?_
  rintro e w2 ⟨v, rfl, hS2, hb2⟩
  obtain ⟨a', c', rfl⟩ := hS2.form
  rw [World.size_alloc, World.size_alloc, World.size_alloc] at hS2 hb2
  obtain ⟨d0, d1, df0, df1⟩ := res_cells (new_cell3c W _ _ _ _) hb2
  have rr := two_cells (.slice a' (sortL (xs.filter (fun x => memB x zs))).length c') (Value.func (.func 57) #[] #[]) d0 d1
  have hff := Lib.hid (fam_fin hS2 (hbw.out.trans (hb2.mono (by omega))) (by omega))
  clear hS2 hb2 hk
  go_wp2_with fail
  exact bodyPost_ret (v := .agg #[.slice a' (sortL (xs.filter (fun x => memB x zs))).length c', (Value.func (.func 57) #[] #[])]) (by simp [results, Tryz.results38, go_sem, rr.1, rr.2]) rfl ⟨_, rfl, hff.out⟩
set_option maxHeartbeats 1000000 in
theorem less_fam (xs zs : List Int) (w : World) (hT : TwoFam xs zs) : FamMap2 74 #[] xs zs (sortL (xs.filter (fun x => !memB x zs))) w := fun W lv lu _ hx hy => by
  obtain ⟨hl1, hl2⟩ := hT.len
  have hmf := mkfunc
  obtain ⟨a, cap, rfl, _⟩ := id hx
  obtain ⟨b, cbp, rfl, _⟩ := id hy
  have hbw := (((Below.refl W.heap.size W).alloc (Nat.le_refl _) (.cells #[.slice a xs.length cap, (Value.func (.func 57) #[] #[])] 44)).alloc (by simp) (.cells #[.slice b zs.length cbp, (Value.func (.func 57) #[] #[])] 44)).alloc (by simp; omega) (.cells #[.slice none 0 0, .nilFunc] 44)
  obtain ⟨q0, q1⟩ := pair_cells (new_cell3b W #[.slice b zs.length cbp, (Value.func (.func 57) #[] #[])] 44 (.cells #[.slice a xs.length cap, (Value.func (.func 57) #[] #[])] 44) (.cells #[.slice none 0 0, .nilFunc] 44)) (Below.refl (W.heap.size + 3) _) (by omega)
  have hk := Lib.hid (kept_any 96 (enters_of Tryz.func96 (by kernel_rfl) rfl) #[] #[.pointer (some ⟨W.heap.size + 1, 0, none⟩)] (fun x => !memB x zs) _ xs _ _ (hx.below hbw (Nat.le_refl _)) (by simp; omega) (by omega) hT.lx
    (less_clo _ xs zs _ (W.heap.size + 1) _ (hy.below hbw (Nat.le_refl _)) (by simp; omega) hT.az (by omega) (by simp) q0 q1))
  replace hbw := Lib.hid hbw
  clear hx hy q0 q1
  show Calls Tryz.prog 74 #[.agg #[.slice a xs.length cap, (Value.func (.func 57) #[] #[])], .agg #[.slice b zs.length cbp, (Value.func (.func 57) #[] #[])]] W _
  go_enter Tryz.func74, Tryz.ntmps74
  go_wp2_with fail
  refine hk.out.mono ?_
  rintro e w2 ⟨v, rfl, hS2, hb2⟩
  obtain ⟨a', c', rfl⟩ := hS2.form
  rw [World.size_alloc, World.size_alloc, World.size_alloc] at hS2 hb2
  obtain ⟨d0, d1, df0, df1⟩ := res_cells (new_cell3c W _ _ _ _) hb2
  have rr := two_cells (.slice a' (sortL (xs.filter (fun x => !memB x zs))).length c') (Value.func (.func 57) #[] #[]) d0 d1
  have hff := Lib.hid (fam_fin hS2 (hbw.out.trans (hb2.mono (by omega))) (by omega))
  clear hS2 hb2 hk
  go_wp2_with fail
  exact bodyPost_ret (v := .agg #[.slice a' (sortL (xs.filter (fun x => !memB x zs))).length c', (Value.func (.func 57) #[] #[])]) (by simp [results, Tryz.results74, go_sem, rr.1, rr.2]) rfl ⟨_, rfl, hff.out⟩

theorem ins_up (k : Nat) : insI (k : Int) (sortL (upI k)) = sortL (upI (k + 1)) := by rw [upI_succ, sortL_snoc]
set_option maxHeartbeats 2000000 in
theorem all_sets (n : Int) (n1 : 1 ≤ n) (n2 : n ≤ 8) (w : World) : Calls Tryz.prog 59 #[.int .i64 n] w (FamPost w (sortL (upI (2 ^ n.toNat)))) := by
  obtain ⟨N, hN⟩ : ∃ N : Nat, 2 ^ n.toNat = N := ⟨_, rfl⟩
  have hp := pow_le256 n1 n2
  have hNi : (2 : Int) ^ n.toNat = (N : Nat) := by rw [← hN]; simp
  have hall := all_pts n n1 n2
  rw [hNi] at hp hall
  rw [hN]
  have hN1 : N ≤ 256 := by omega
  have hN2 : 2 ≤ N := by omega
  replace hall := Lib.hid hall
  replace hN := Lib.hid hN
  replace hNi := Lib.hid hNi
  have hfn := Lib.hid (family_nil (w.alloc (.cells #[.slice none 0 0, .nilFunc] 44)))
  clear hp
  go_enter Tryz.func59, Tryz.ntmps59
  go_wp2_with fail
  refine hfn.out.mono ?_
  rintro e w1 ⟨v1, rfl, hS1, hb1⟩
  obtain ⟨a', c', rfl⟩ := hS1.form
  rw [World.size_alloc] at hS1 hb1
  have hz1 := hb1.size
  simp at hz1
  have hF1 := Lib.hid (fbox_new hS1 hz1)
  replace hS1 := Lib.hid hS1
  replace hb1 := Lib.hid hb1
  clear hfn
  go_wp2_with fail
  go_loopw [4] (fun q wr => ∃ k : Nat, k ≤ N ∧ q = .int .u64 k ∧ Hid (FBox wr (w.heap.size + 1) w1.heap.size (sortL (upI k))) ∧ Hid (Below (w.heap.size + 1) (w.alloc (.cells #[.slice none 0 0, .nilFunc] 44)) wr)) (fun q _ => N - (intOf q).toNat)
  case atStart => exact ⟨0, by omega, rfl, hF1, Lib.hid (hb1.out.alloc hz1 _)⟩
  case round =>
    obtain ⟨k, hk, rfl, hF, hb⟩ := hrel
    have hz := hb.out.size
    simp at hz
    have hFlt := hF.out.lt
    by_cases hlt : k < N
    · have hle : (k : Int) ≤ (N : Int) - 1 := by omega
      have hp := put_at (w.heap.size + 1) w1.heap.size _ (k : Int) wr hF.out (asc_sortL _) (by rw [sortL_asc (asc_upI k), upI_len]; omega) (by omega)
      rw [ins_up] at hp
      replace hp := Lib.hid hp
      clear hF
      go_wp2_with (go_at_call 86; refine (hall.out _).mono ?_; rintro e w' ⟨rfl, rfl⟩)
      refine hp.out.mono ?_
      rintro e w' ⟨⟨v, rfl⟩, hF', hb', hz'⟩
      replace hb' := Lib.hid (hb.out.trans hb')
      replace hF' := Lib.hid hF'
      go_wp2_with fail
      go_roundw
      case rel => exact ⟨k + 1, by omega, by go_num, hF', hb'⟩
      case measure => simp [intOf]; omega
    · obtain rfl : k = N := by omega
      obtain ⟨a2, c2, b0, b1, hS⟩ := box_cells hF.out
      obtain ⟨d0, d1, df0, df1⟩ := res_cells (new_cell w _ _) hb.out
      have rr := two_cells (.slice a2 (sortL (upI k)).length c2) (Value.func (.func 57) #[] #[]) d0 d1
      have hff := Lib.hid (fam_fin hS (((Below.refl _ w).alloc (Nat.le_refl _) _).trans (hb.out.mono (by omega))) (Nat.le_refl _))
      have hle : ¬ (k : Int) ≤ (k : Int) - 1 := by omega
      clear hF hS
      go_wp2_with (go_at_call 86; refine (hall.out _).mono ?_; rintro e w' ⟨rfl, rfl⟩)
      exact bodyPost_ret (v := .agg #[.slice a2 (sortL (upI k)).length c2, (Value.func (.func 57) #[] #[])]) (by simp [results, Tryz.results59, go_sem, rr.1, rr.2]) rfl ⟨_, rfl, hff.out⟩
end Go.Proofs.YtpjapoaagbdlfaaGreatDoor
