/- TraceMost: all sets of at most so many points. -/
import Derived.Test.YtpepcjffolbdcaaDoorTr1
namespace Go.Proofs.YtpepcjffolbdcaaDoor
open Go.ChangeShapes Go.WideShapes Go.ChangeAt Go.RowKit Go.Proofs

theorem most_clo (d : Int) (Bk : Nat) (xs : List Int) (w : World) (hB : Bk < w.heap.size) (hc : w.cell? ⟨Bk, 0, none⟩ = some (.int .i64 d)) (hx : ∀ z ∈ xs, 0 ≤ z ∧ z < 256) :
    PredV 74 #[] #[.pointer (some ⟨Bk, 0, none⟩)] (fun x => decide (cntI x ≤ d)) xs w := fun W x hm hb => by
  have hcW : W.cell? ⟨Bk, 0, none⟩ = some (.int .i64 d) := (hb.cell (p := ⟨Bk, 0, none⟩) hB).trans hc
  obtain ⟨x1, x2⟩ := hx x hm
  have hs := fun w => (set_size x x1 x2 w).mono (fun _ _ h => (⟨h.1, h.2.symm⟩ : _ ∧ _))
  show Calls Tryd.prog 74 #[.int .u64 x, .pointer (some ⟨Bk, 0, none⟩)] W fun e w' => e = .returned (.bool (decide (cntI x ≤ d))) ∧ Below W.heap.size W w'
  obtain ⟨r, hr⟩ : ∃ r, cntI x = r := ⟨_, rfl⟩
  rw [hr] at hs ⊢
  replace hs := Lib.hid hs
  replace hr := Lib.hid hr
  replace hm := Lib.hid hm
  clear hx hc hb
  go_enter Tryd.func74, Tryd.ntmps74
  go_wp2_with fail
  go_quiet ((go_at_call 51; exact Calls.quiet_of_same (hs.out _)))
  go_wp2_with fail
  go_ret
  exact ⟨rfl, below_drewN (Below.refl _ _) _⟩
set_option maxHeartbeats 2000000 in
theorem im_TraceMost (n k : Int) (w : World) :
    Calls Tryd.prog 31 #[.int .i64 n, .int .i64 k] w (ListPost (ifL (dimB n k) (sortL ((sortL (upI (2 ^ n.toNat))).filter (fun x => decide (cntI x ≤ k))))) (dimB n k) w) := by
  have hmf := mkfunc
  have hdi := fun W => dim_in n k W
  rcases dimB_cases n k with hb | hb
  · obtain ⟨n1, n2, d1, d2⟩ := dimB_yes hb
    rw [hb] at hdi
    replace hdi := Lib.hid hdi
    rw [hb]
    have hall := all_sets n n1 n2
    have husz := upI_lt n1 n2
    obtain ⟨us, hus⟩ : ∃ us, sortL (upI (2 ^ n.toNat)) = us := ⟨_, rfl⟩
    have huA : us.length ≤ 256 := asc_len256 (hus ▸ asc_sortL _) (fun z hz => setB_lt (husz z (hus ▸ hz)))
    rw [hus] at hall husz ⊢
    have hk := fun (W : World) (lv : Value) (h0 : w.heap.size < W.heap.size) (hc : W.cell? ⟨w.heap.size, 0, none⟩ = some (.int .i64 k)) (hx : SRow W W.heap.size lv us) => kept_any 74 (enters_of Tryd.func74 (by kernel_rfl) rfl) #[] #[.pointer (some ⟨w.heap.size, 0, none⟩)] (fun x => decide (cntI x ≤ k)) lv us _ W hx (Nat.le_refl _) (by omega) (fun z hz => setB_lt (husz z hz)) (most_clo k w.heap.size us W h0 hc (fun z hz => setB_lt (husz z hz)))
    obtain ⟨ys, hys⟩ : ∃ ys, sortL (us.filter (fun x => decide (cntI x ≤ k))) = ys := ⟨_, rfl⟩
    have hyz : ∀ z ∈ ys, 0 ≤ z ∧ z < 256 := fun z hz => setB_lt (husz z (List.mem_filter.1 (mem_sortL.1 (hys ▸ hz))).1)
    have hyl : ys.length ≤ 256 := asc_len256 (hys ▸ asc_sortL _) hyz
    rw [hys] at hk ⊢
    have hbb := (Below.refl w.heap.size w).alloc (Nat.le_refl _) (.cells #[.int .i64 k] 3)
    have hci := new_cell_int w k
    replace hall := Lib.hid hall
    replace hk := Lib.hid hk
    replace hus := Lib.hid hus
    replace hys := Lib.hid hys
    replace hyz := Lib.hid hyz
    replace husz := Lib.hid husz
    replace hb := Lib.hid hb
    replace hbb := Lib.hid hbb
    replace hci := Lib.hid hci
    go_enter Tryd.func31, Tryd.ntmps31
    go_wp2_with (go_at_call 64; refine (hdi.out _).mono ?_; rintro e w' ⟨rfl, rfl⟩)
    refine (hall.out _).mono ?_
    rintro e w2 ⟨v2, rfl, hS2, hb2⟩
    obtain ⟨a2, c2, rfl⟩ := hS2.form
    rw [World.size_alloc] at hS2 hb2
    have hz2 := hb2.size
    rw [World.size_alloc] at hz2
    have hk2 := Lib.hid (hk.out w2 _ (by omega) ((hb2.cell (p := ⟨w.heap.size, 0, none⟩) (by simp)).trans hci.out) hS2.row)
    replace hb2 := Lib.hid (hbb.out.trans (hb2.mono (by omega)))
    clear hS2
    go_wp2_with fail
    refine hk2.out.mono ?_
    rintro e w3 ⟨v3, rfl, hS3, hb3⟩
    obtain ⟨a3, c3, rfl⟩ := hS3.form
    have hz3 := hb3.size
    have hnum := Lib.hid (numbers_at _ _ _ _ hS3.row (Nat.le_refl _) (by omega) hyz.out)
    replace hb3 := Lib.hid (hb2.out.trans (hb3.mono (by omega)))
    clear hS3 hk2 hk hall
    go_wp2_with fail
    refine hnum.out.mono ?_
    rintro e w5 ⟨t, rfl, hO, hb5⟩
    obtain ⟨ua, uc, rfl, _⟩ := id hO
    replace hb5 := Lib.hid (hb3.out.trans (hb5.mono (by omega)))
    replace hO := Lib.hid (hO.mono (show w.heap.size ≤ w3.heap.size by omega) (Nat.le_refl _))
    go_wp2_with fail
    go_ret2
    exact ⟨_, rfl, hO.out, hb5.out⟩
  · rw [hb] at hdi
    replace hdi := Lib.hid hdi
    rw [hb]
    replace hb := Lib.hid hb
    go_enter Tryd.func31, Tryd.ntmps31
    go_wp2_with (go_at_call 64; refine (hdi.out _).mono ?_; rintro e w' ⟨rfl, rfl⟩)
    go_ret2
    exact ⟨_, rfl, own_empty _ _ _ _ _, ((Below.refl _ _).alloc (Nat.le_refl _) _).alloc (by simp) _⟩
theorem most_eq (N : Nat) (d : Int) : mkL (fun j : Nat => decide (cntI (j : Nat) ≤ d)) N = sortL ((sortL (upI N)).filter (fun x => decide (cntI x ≤ d))) := by
  rw [up_sort, sortL_asc (asc_filter (asc_upI N) _)]
  unfold mkL
  exact List.filter_congr fun z hz => by show decide (cntI ((z.toNat : Nat) : Int) ≤ d) = _; rw [Int.toNat_of_nonneg (mem_upI.1 hz).1]
end Go.Proofs.YtpepcjffolbdcaaDoor
