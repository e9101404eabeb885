/- A list of sets sorted in place: slices.Sort, on lists that the call owns. -/
import Derived.Test.YtgfmfecalhmplaaDoorSrt8
namespace Go.Proofs.YtgfmfecalhmplaaDoor
open Go.ChangeShapes Go.WideShapes Go.ChangeAt Go.RowKit Go.Proofs

set_option maxRecDepth 1000000 in
theorem len64_nil (w : World) : Calls Tryd.prog 120 #[.int .u64 0] w fun e w' => e = .returned (.int .i64 0) ∧ w = w' := by
  go_enter Tryd.func120, Tryd.ntmps120
  go_wp2
  go_ret
  exact ⟨ret_int (by decide +kernel), rfl⟩
theorem len_nil (w : World) : Calls Tryd.prog 109 #[.int .u64 0] w fun e w' => e = .returned (.int .i64 0) ∧ w = w' := by
  have h := Lib.hid len64_nil
  go_enter Tryd.func109, Tryd.ntmps109
  go_wp2_with (go_at_call 120; refine (h.out _).mono ?_; rintro e w' ⟨rfl, rfl⟩)
  go_ret
  exact ⟨rfl, rfl⟩
theorem insertion_nil (a : Option Addr) (cap : Nat) (w : World) : Calls Tryd.prog 110 #[.slice a 0 cap, .int .i64 0, .int .i64 0] w fun e w' => (∃ v, e = .returned v) ∧ w = w' := by
  go_enter Tryd.func110, Tryd.ntmps110
  go_wp2_with fail
  go_loopw [6] (fun q wr => q = .int .i64 1 ∧ w = wr) (fun _ _ => 0)
  case atStart => exact ⟨rfl, rfl⟩
  case round =>
    obtain ⟨rfl, rfl⟩ := hrel
    go_wp2_with fail
    go_end0
    exact ⟨⟨_, rfl⟩, rfl⟩
set_option maxRecDepth 100000 in
theorem pdq_nil (a : Option Addr) (cap : Nat) (w : World) : Calls Tryd.prog 108 #[.slice a 0 cap, .int .i64 0, .int .i64 0, .int .i64 0] w fun e w' => (∃ v, e = .returned v) ∧ w = w' := by
  have hc := Lib.hid (insertion_nil a cap)
  go_enter Tryd.func108, Tryd.ntmps108
  go_wp2_with fail
  go_loopg [1, 2, 3, 8, 9] 0 (fun k s1 s2 s3 s8 s9 wr => s1 = .int .i64 0 ∧ s2 = .int .i64 0 ∧ s3 = .int .i64 0 ∧ s8 = .bool true ∧ s9 = .bool true ∧ k = 0 ∧ w = wr)
  case atStart => exact ⟨rfl, rfl, rfl, rfl, rfl, rfl, rfl⟩
  case round =>
    obtain ⟨rfl, rfl, rfl, rfl, rfl, hk, rfl⟩ := hrel
    replace hk := Lib.hid hk
    go_wp2_with fail
    refine (hc.out _).mono ?_
    rintro e w2 ⟨⟨v, rfl⟩, rfl⟩
    go_wp2_with fail
    refine bodyPost_ret (results_none rfl _ _ _) rfl ?_
    exact ⟨⟨_, rfl⟩, rfl⟩
set_option maxRecDepth 100000 in
theorem sort_nil (a : Option Addr) (cap : Nat) (w : World) : Calls Tryd.prog 102 #[.slice a 0 cap] w fun e w' => (∃ v, e = .returned v) ∧ w = w' := by
  have hc := Lib.hid (pdq_nil a cap)
  have hl := Lib.hid len_nil
  go_enter Tryd.func102, Tryd.ntmps102
  go_wp2_with fail
  refine (hl.out _).mono ?_
  rintro e w2 ⟨rfl, rfl⟩
  go_wp2_with fail
  refine (hc.out _).mono ?_
  rintro e w2 ⟨⟨v, rfl⟩, rfl⟩
  go_wp2_with fail
  go_end0
  exact ⟨⟨_, rfl⟩, rfl⟩
set_option maxRecDepth 100000 in
theorem sort_st (g cap : Nat) (xs : List Int) (hl : xs.length ≤ 256) (h0 : 1 ≤ xs.length) (w : World) (h : Lst w g cap xs) : Calls Tryd.prog 102 #[.slice (some ⟨g, 0, none⟩) xs.length cap] w (DoneSt g cap xs w) := by
  have hc := Lib.hid (fun w' (lim : Int) (hs : St g cap xs w w') h1 h2 => pdq_st xs.length xs hl w w' 0 xs.length lim hs (Nat.zero_le _) (Nat.le_refl _) (by omega) h1 h2)
  have hn := Lib.hid (fun W => len_ok (xs.length : Nat) (by omega) (by omega) W)
  have hw : IntKind.u64.wrap ((xs.length : Nat) : Int) = (xs.length : Nat) := by rw [IntKind.wrap_u64]; omega
  have hs := Lib.hid (St.start h)
  clear h
  go_enter Tryd.func102, Tryd.ntmps102
  go_wp2_with fail
  refine (hn.out _).mono ?_
  rintro e w2 ⟨r, rfl, r1, r2, rfl⟩
  go_wp2_with fail
  refine (hc.out _ _ hs.out (by omega) (by omega)).mono ?_
  rintro e w2 ⟨⟨v, rfl⟩, hs2⟩
  replace hs2 := Lib.hid hs2
  go_wp2_with fail
  go_end0
  exact ⟨⟨_, rfl⟩, hs2.out⟩
/-- a list sorted in place: the same sets in some order, nothing below turned. -/
def SortPost (B : Nat) (v : Value) (xs : List Int) (w : World) (e : Ending) (w' : World) : Prop := (∃ u, e = .returned u) ∧ (∃ ys, ys.Perm xs ∧ SetL w' B v ys) ∧ w.grownBy w' v.ownBlock
theorem sort_set (B : Nat) (v : Value) (xs : List Int) (hl : xs.length ≤ 256) (w : World) (h : SetL w B v xs) : Calls Tryd.prog 102 #[v] w (SortPost B v xs w) := by
  by_cases h0 : xs = []
  · subst h0
    obtain ⟨a, cap, rfl⟩ := h.form
    refine (sort_nil a cap w).mono ?_
    rintro e w' ⟨he, rfl⟩
    exact ⟨he, ⟨[], List.Perm.refl _, h⟩, grown_refl _ _⟩
  · rcases h.out with ⟨_, rfl⟩ | ⟨g, cap, cur, rfl, hB, hg, hn, hm, hs, hc⟩
    · exact absurd rfl h0
    · have h1 : 1 ≤ xs.length := List.length_pos_iff.2 h0
      have hL : Lst w g cap xs := ⟨cur, hg, hs, hn, fun j hj => by rw [← cell_of_row w g j cur 64 (0, 0) hg]; exact hc j hj⟩
      refine (sort_st g cap xs hl h1 w hL).mono ?_
      rintro e w' ⟨he, ys, hp, hL2, hgr⟩
      obtain ⟨cur2, hg2, hs2, hn2, hc2⟩ := hL2
      refine ⟨he, ⟨ys, hp, ?_⟩, hgr⟩
      rw [← hp.length_eq]
      exact SetL.mk hB hg2 hn2 hm hs2 (fun j hj => by rw [cell_of_row w' g j cur2 64 (0, 0) hg2]; exact hc2 j hj)
end Go.Proofs.YtgfmfecalhmplaaDoor
