/- Families: all sets, common sets, what is left, unions. -/
import Derived.Test.YtojfamjgghikoaaGreatDoorFams9
import Derived.Deep.RegionWith
namespace Go.Proofs.YtojfamjgghikoaaGreatDoor
open Go.ChangeShapes Go.WideShapes Go.ChangeAt Go.RowKit Go.Proofs

theorem common_clo (lu : Value) (xs zs : List Int) (S : Nat) (w : World) (hy : SRow w S lu zs) (hS : S ≤ w.heap.size) (hA : Asc zs) (hl : zs.length ≤ 100000) :
    PredV 276 #[.agg #[lu, (Value.func (.func 188) #[] #[])]] #[] (fun x => memB x zs) xs w := fun W x _ hb => has_any lu zs x S W (hy.below hb hS) hA hl (by have := hb.size; omega)
/-- what a function of two families needs of them. -/
structure TwoFam (xs zs : List Int) : Prop where
  ax : Asc xs
  az : Asc zs
  lx : ∀ z ∈ xs, 0 ≤ z ∧ z < 256
  lz : ∀ z ∈ zs, 0 ≤ z ∧ z < 256
theorem TwoFam.len {xs zs : List Int} (h : TwoFam xs zs) : xs.length ≤ 256 ∧ zs.length ≤ 256 := ⟨asc_len256 h.ax h.lx, asc_len256 h.az h.lz⟩
theorem joins_clo (n : Int) (xs zs : List Int) (w : World) (hx : ∀ z ∈ xs, setB n z = true) (hz : ∀ z ∈ zs, setB n z = true) : PairV 272 #[] #[] orI xs zs w := fun W x y h1 h2 _ => by
  obtain ⟨x1, x2⟩ := setB_lt (hx x h1)
  obtain ⟨y1, y2⟩ := setB_lt (hz y h2)
  have ho := u64_orI x1 x2 y1 y2
  show Calls Tryz.prog 272 #[.int .u64 x, .int .u64 y] W _
  obtain ⟨r, hr⟩ : ∃ r, orI x y = r := ⟨_, rfl⟩
  rw [hr] at ho ⊢
  replace hr := Lib.hid hr
  clear h1 h2 hx hz
  go_enter Tryz.func272, Tryz.ntmps272
  go_wp2
  go_ret
  exact ⟨rfl, Below.refl _ _⟩
theorem ins_up (k : Nat) : insI (k : Int) (sortL (upI k)) = sortL (upI (k + 1)) := by rw [upI_succ, sortL_snoc]
set_option maxHeartbeats 2000000 in
theorem all_sets (n : Int) (n1 : 1 ≤ n) (n2 : n ≤ 8) (w : World) : Calls Tryz.prog 64 #[.int .i64 n] w (FamPost w (sortL (upI (2 ^ n.toNat)))) := by
  obtain ⟨N, hN⟩ : ∃ N : Nat, 2 ^ n.toNat = N := ⟨_, rfl⟩
  have hp := pow_le256 n1 n2
  have hNi : (2 : Int) ^ n.toNat = (N : Nat) := by rw [← hN]; simp
  have hall := all_pts n n1 n2
  rw [hNi] at hp hall
  rw [hN]
  have hN1 : N ≤ 256 := by omega
  have hN2 : 2 ≤ N := by omega
  replace hall := Lib.hid hall
  replace hN := Lib.hid hN
  replace hNi := Lib.hid hNi
  have hfn := Lib.hid (family_nil (w.alloc (.cells #[.slice none 0 0, .nilFunc] 64)))
  clear hp
  go_enter Tryz.func64, Tryz.ntmps64
  go_wp2_with fail
  refine hfn.out.mono ?_
  rintro e w1 ⟨v1, rfl, hS1, hb1⟩
  obtain ⟨a', c', rfl⟩ := hS1.form
  rw [World.size_alloc] at hS1 hb1
  have hz1 := hb1.size
  simp at hz1
  have hF1 := Lib.hid (fbox_new hS1 hz1)
  replace hS1 := Lib.hid hS1
  replace hb1 := Lib.hid hb1
  clear hfn
  go_wp2_with fail
  go_loopw [4] (fun q wr => ∃ k : Nat, k ≤ N ∧ q = .int .u64 k ∧ Hid (FBox wr (w.heap.size + 1) w1.heap.size (sortL (upI k))) ∧ Hid (Below (w.heap.size + 1) (w.alloc (.cells #[.slice none 0 0, .nilFunc] 64)) wr)) (fun q _ => N - (intOf q).toNat)
  case atStart => exact ⟨0, by omega, rfl, hF1, Lib.hid (hb1.out.alloc hz1 _)⟩
  case round =>
    obtain ⟨k, hk, rfl, hF, hb⟩ := hrel
    have hz := hb.out.size
    simp at hz
    have hFlt := hF.out.lt
    by_cases hlt : k < N
    · have hle : (k : Int) ≤ (N : Int) - 1 := by omega
      have hp := put_at (w.heap.size + 1) w1.heap.size _ (k : Int) wr hF.out (asc_sortL _) (by rw [sortL_asc (asc_upI k), upI_len]; omega) (by omega)
      rw [ins_up] at hp
      replace hp := Lib.hid hp
      clear hF
      go_wp2_with (go_at_call 70; refine (hall.out _).mono ?_; rintro e w' ⟨rfl, rfl⟩)
      refine hp.out.mono ?_
      rintro e w' ⟨⟨v, rfl⟩, hF', hb', hz'⟩
      replace hb' := Lib.hid (hb.out.trans hb')
      replace hF' := Lib.hid hF'
      go_wp2_with fail
      go_roundw
      case rel => exact ⟨k + 1, by omega, by go_num, hF', hb'⟩
      case measure => simp [intOf]; omega
    · obtain rfl : k = N := by omega
      obtain ⟨a2, c2, b0, b1, hS⟩ := box_cells hF.out
      obtain ⟨d0, d1, df0, df1⟩ := res_cells (new_cell w _ _) hb.out
      have rr := two_cells (.slice a2 (sortL (upI k)).length c2) (Value.func (.func 188) #[] #[]) d0 d1
      have hff := Lib.hid (fam_fin hS (((Below.refl _ w).alloc (Nat.le_refl _) _).trans (hb.out.mono (by omega))) (Nat.le_refl _))
      have hle : ¬ (k : Int) ≤ (k : Int) - 1 := by omega
      clear hF hS
      go_wp2_with (go_at_call 70; refine (hall.out _).mono ?_; rintro e w' ⟨rfl, rfl⟩)
      exact bodyPost_ret (v := .agg #[.slice a2 (sortL (upI k)).length c2, (Value.func (.func 188) #[] #[])]) (by simp [results, Tryz.results64, go_sem, rr.1, rr.2]) rfl ⟨_, rfl, hff.out⟩
end Go.Proofs.YtojfamjgghikoaaGreatDoor
