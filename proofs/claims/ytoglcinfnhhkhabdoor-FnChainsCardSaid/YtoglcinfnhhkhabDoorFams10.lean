/- Families: all sets, common sets, what is left, unions. -/
import Derived.Test.YtoglcinfnhhkhabDoorFams9
import Derived.Deep.RegionWith
namespace Go.Proofs.YtoglcinfnhhkhabDoor
open Go.ChangeShapes Go.WideShapes Go.ChangeAt Go.RowKit Go.Proofs

/-- what a function of two families needs of them. -/
structure TwoFam (xs zs : List Int) : Prop where
  ax : Asc xs
  az : Asc zs
  lx : ∀ z ∈ xs, 0 ≤ z ∧ z < 256
  lz : ∀ z ∈ zs, 0 ≤ z ∧ z < 256
theorem TwoFam.len {xs zs : List Int} (h : TwoFam xs zs) : xs.length ≤ 256 ∧ zs.length ≤ 256 := ⟨asc_len256 h.ax h.lx, asc_len256 h.az h.lz⟩
theorem ins_up (k : Nat) : insI (k : Int) (sortL (upI k)) = sortL (upI (k + 1)) := by rw [upI_succ, sortL_snoc]
set_option maxHeartbeats 2000000 in
theorem all_sets (n : Int) (n1 : 1 ≤ n) (n2 : n ≤ 8) (w : World) : Calls Tryd.prog 12 #[.int .i64 n] w (FamPost w (sortL (upI (2 ^ n.toNat)))) := by
  obtain ⟨N, hN⟩ : ∃ N : Nat, 2 ^ n.toNat = N := ⟨_, rfl⟩
  have hp := pow_le256 n1 n2
  have hNi : (2 : Int) ^ n.toNat = (N : Nat) := by rw [← hN]; simp
  have hall := all_pts n n1 n2
  rw [hNi] at hp hall
  rw [hN]
  have hN1 : N ≤ 256 := by omega
  have hN2 : 2 ≤ N := by omega
  replace hall := Lib.hid hall
  replace hN := Lib.hid hN
  replace hNi := Lib.hid hNi
  have hfn := Lib.hid (family_nil (w.alloc (.cells #[.slice none 0 0, .nilFunc] 39)))
  clear hp
  go_enter Tryd.func12, Tryd.ntmps12
  go_wp2_with fail
  refine hfn.out.mono ?_
  rintro e w1 ⟨v1, rfl, hS1, hb1⟩
  obtain ⟨a', c', rfl⟩ := hS1.form
  rw [World.size_alloc] at hS1 hb1
  have hz1 := hb1.size
  simp at hz1
  have hF1 := Lib.hid (fbox_new hS1 hz1)
  replace hS1 := Lib.hid hS1
  replace hb1 := Lib.hid hb1
  clear hfn
  go_wp2_with fail
  go_loopw [4] (fun q wr => ∃ k : Nat, k ≤ N ∧ q = .int .u64 k ∧ Hid (FBox wr (w.heap.size + 1) w1.heap.size (sortL (upI k))) ∧ Hid (Below (w.heap.size + 1) (w.alloc (.cells #[.slice none 0 0, .nilFunc] 39)) wr)) (fun q _ => N - (intOf q).toNat)
  case atStart => exact ⟨0, by omega, rfl, hF1, Lib.hid (hb1.out.alloc hz1 _)⟩
  case round =>
    obtain ⟨k, hk, rfl, hF, hb⟩ := hrel
    have hz := hb.out.size
    simp at hz
    have hFlt := hF.out.lt
    by_cases hlt : k < N
    · have hle : (k : Int) ≤ (N : Int) - 1 := by omega
      have hp := put_at (w.heap.size + 1) w1.heap.size _ (k : Int) wr hF.out (asc_sortL _) (by rw [sortL_asc (asc_upI k), upI_len]; omega) (by omega)
      rw [ins_up] at hp
      replace hp := Lib.hid hp
      clear hF
      go_wp2_with (go_at_call 21; refine (hall.out _).mono ?_; rintro e w' ⟨rfl, rfl⟩)
      refine hp.out.mono ?_
      rintro e w' ⟨⟨v, rfl⟩, hF', hb', hz'⟩
      replace hb' := Lib.hid (hb.out.trans hb')
      replace hF' := Lib.hid hF'
      go_wp2_with fail
      go_roundw
      case rel => exact ⟨k + 1, by omega, by go_num, hF', hb'⟩
      case measure => simp [intOf]; omega
    · obtain rfl : k = N := by omega
      obtain ⟨a2, c2, b0, b1, hS⟩ := box_cells hF.out
      obtain ⟨d0, d1, df0, df1⟩ := res_cells (new_cell w _ _) hb.out
      have rr := two_cells (.slice a2 (sortL (upI k)).length c2) (Value.func (.func 32) #[] #[]) d0 d1
      have hff := Lib.hid (fam_fin hS (((Below.refl _ w).alloc (Nat.le_refl _) _).trans (hb.out.mono (by omega))) (Nat.le_refl _))
      have hle : ¬ (k : Int) ≤ (k : Int) - 1 := by omega
      clear hF hS
      go_wp2_with (go_at_call 21; refine (hall.out _).mono ?_; rintro e w' ⟨rfl, rfl⟩)
      exact bodyPost_ret (v := .agg #[.slice a2 (sortL (upI k)).length c2, (Value.func (.func 32) #[] #[])]) (by simp [results, Tryd.results12, go_sem, rr.1, rr.2]) rfl ⟨_, rfl, hff.out⟩
end Go.Proofs.YtoglcinfnhhkhabDoor
