/- KernelOf and KernelSame: the program. -/
import Derived.Test.YtjhjmbiecihjhaaDoorKe3
import Derived.Test.YtjhjmbiecihjhaaDoorLawBool
import Derived.Test.YtjhjmbiecihjhaaDoorLawTwo
namespace Go.Proofs.YtjhjmbiecihjhaaDoor
open Go.ChangeShapes Go.WideShapes Go.ChangeAt Go.RowKit Go.Proofs

/-- KernelOf's answers. -/
def kofB (n : Int) (xs : List Int) (s : Int) : Bool := famB n xs && setB n s
def kofI (n : Int) (xs : List Int) (s : Int) : Int := if kofB n xs s then kerI n xs s else 0
theorem kept_at {n : Int} {xs : List Int} (hf : famB n xs = true) (j : Nat) : keptK n xs (upI (2 ^ n.toNat)).reverse j = if j < 2 ^ n.toNat then kerI n xs j else 0 := by
  have h := kept_ker hf (2 ^ n.toNat) 0 (Nat.zero_add _) j
  rw [List.drop_zero] at h
  rw [h]
  simp
theorem ker_le (xs : List Int) (s : Int) : ∀ (a : Int), 0 ≤ a → 0 ≤ xs.foldl (fun a x => if partB s x then andI a x else a) a ∧ xs.foldl (fun a x => if partB s x then andI a x else a) a ≤ a := by
  induction xs with
  | nil => intro a h; exact ⟨h, Int.le_refl _⟩
  | cons x xs ih =>
    intro a h
    rw [List.foldl_cons]
    by_cases e : partB s x
    · rw [if_pos e]
      have h1 := and_le a x h
      have h2 := ih (andI a x) h1.1
      omega
    · rw [if_neg e]; exact ih a h
theorem ker_lt {n : Int} {xs : List Int} (hf : famB n xs = true) (s : Int) : 0 ≤ kerI n xs s ∧ kerI n xs s < 256 := by
  obtain ⟨n1, n2, _⟩ := famB_all hf
  obtain ⟨a1, a2⟩ := all_pow n1 n2
  have h := ker_le xs s (2 ^ n.toNat - 1) a1
  have h2 : kerI n xs s = xs.foldl (fun a x => if partB s x then andI a x else a) (2 ^ n.toNat - 1) := rfl
  rw [h2]
  omega
theorem im_set_in (n s : Int) (W : World) : Calls Tryd.prog 32 #[.int .i64 n, .int .i64 s] W fun e w' => e = .returned (.bool (setB n s)) ∧ W = w' := by
  rcases set_in_cases n s with h | h
  · rw [h]; exact set_in_yes n s h W
  · rw [h]; exact set_in_no n s h W
theorem ker_under : Tryd.prog.underlying 57 = some (.array 256 55) := by kernel_rfl
theorem set_under : Tryd.prog.underlying 55 = some (.int .u64) := by kernel_rfl
theorem set_plain : Tryd.prog.plainKey 55 = true := by kernel_rfl
theorem set_cells : Tryd.prog.cellsOf 55 = 1 := by kernel_rfl
theorem set_info : ∃ i, Tryd.prog.info? 55 = some i := by
  have h : (Tryd.prog.info? 55).isSome = true := by kernel_rfl
  exact Option.isSome_iff_exists.1 h
theorem part_set (K : Nat → Int) {s : Nat} (hs : s < 256) (w : World) : (part 55 (arrV K) (s * 1)).run Tryd.prog w = .ok (.int .u64 (K s)) w :=
  run_part_plain w set_plain (by rw [Nat.mul_one]; exact arr_get K hs)
theorem index_arr (K : Nat → Int) {s : Int} (h1 : 0 ≤ s) (h2 : s < 256) (w : World) : (Instr.index 57 (.agg (arrV K)) (.int .i64 s)).run Tryd.prog w = .ok (.int .u64 (K s.toNat)) w := by
  obtain ⟨i, hi⟩ := set_info
  have hp := part_set K (show s.toNat < 256 by omega) w
  have h3 : 0 ≤ s ∧ s < ((256 : Nat) : Int) := by omega
  simp only [Instr.index, asIntOf, Sem.run_bind, Sem.run_pure, Result.andThen, run_underlying ker_under, run_sizeOf w hi, if_pos h3, set_cells, hp]
theorem eq_items (K L : Nat → Int) (w : World) : ∀ is : List Nat, (∀ i ∈ is, i < 256) → (Op.eqItems 9999 55 1 (arrV K) (arrV L) is).run Tryd.prog w = .ok (is.all fun i => K i == L i) w
  | [], _ => by simp only [Op.eqItems, Sem.run_pure, List.all_nil]
  | i :: is, h => by
    have ih := eq_items K L w is (fun j hj => h j (List.mem_cons_of_mem _ hj))
    have p1 := part_set K (h i List.mem_cons_self) w
    have p2 := part_set L (h i List.mem_cons_self) w
    have p3 := run_equalIn_int (P := Tryd.prog) w 9998 55 .u64 .u64 (K i) (L i) set_under
    simp only [Op.eqItems, Sem.run_bind, p1, p2, p3, Result.andThen, List.all_cons]
    cases K i == L i
    · simp
    · simpa using ih
theorem equal_arr (K L : Nat → Int) (w : World) : (Op.equalIn 10000 57 (.agg (arrV K)) (.agg (arrV L))).run Tryd.prog w = .ok ((List.range 256).all fun i => K i == L i) w := by
  obtain ⟨i, hi⟩ := set_info
  have h := run_equalIn_array (P := Tryd.prog) w 9999 (arrV K) (arrV L) ker_under hi
  rw [set_cells, eq_items K L w _ (fun j hj => List.mem_range.1 hj)] at h
  exact h
set_option maxHeartbeats 4000000 in
theorem im_KernelOf (n s : Int) (lv : Value) (xs : List Int) (S : Nat) (w : World) (hx : Row w S lv xs) (hS : S ≤ w.heap.size) (hl : xs.length ≤ 100000000) (hT : Tab w) :
    Calls Tryd.prog 14 #[.int .i64 n, lv, .int .i64 s] w fun e w' => e = .returned (.tuple #[.int .i64 (kofI n xs s), .bool (kofB n xs s)]) ∧ Below w.heap.size w w' := by
  have h1 := read_any n lv xs S w hx hS hl
  have hs := Lib.hid (im_set_in n s)
  obtain ⟨a, cap, rfl, _⟩ := id hx
  clear hx
  unfold kofI
  rcases (by cases famB n xs <;> simp : famB n xs = true ∨ famB n xs = false) with hf | hf
  · rcases set_in_cases n s with hse | hse
    · have hb : kofB n xs s = true := by unfold kofB; rw [hf, hse]; rfl
      obtain ⟨n1, n2, s1, s2⟩ := setB_yes hse
      rw [hse] at hs
      rw [hb, if_pos rfl]
      have hk := fun v W (h : SRow W W.heap.size v xs) (h2 : Tab W) => kernels_by n v xs W.heap.size W h (Nat.le_refl _) hf h2
      have hst : s.toNat < 2 ^ n.toNat := by have : ((2 ^ n.toNat : Nat) : Int) = 2 ^ n.toNat := by simp
                                             omega
      have hat := kept_at hf s.toNat
      rw [if_pos hst, Int.toNat_of_nonneg s1] at hat
      have hkb := ker_lt hf s
      obtain ⟨k, hke⟩ : ∃ k, kerI n xs s = k := ⟨_, rfl⟩
      rw [hke] at hat hkb ⊢
      have hb256 := setB_lt hse
      replace hk := Lib.hid hk
      replace h1 := Lib.hid h1
      replace hb := Lib.hid hb
      replace hf := Lib.hid hf
      replace hse := Lib.hid hse
      try replace hke := Lib.hid hke
      go_enter Tryd.func14, Tryd.ntmps14
      go_wp2_with fail
      refine h1.out.mono ?_
      rintro e w1 h
      rcases h with ⟨_, v, rfl, hS1, hb1⟩ | ⟨h, _⟩
      · obtain ⟨a2, c2, rfl⟩ := hS1.form
        have hS3 := Lib.hid hS1
        have hb3 := Lib.hid hb1
        clear hS1 hb1
        go_wp2_with (go_at_call 32; refine (hs.out _).mono ?_; rintro e w' ⟨rfl, rfl⟩)
        refine (hk.out _ _ (SetL.row (SetL.below hS3.out ((Below.refl _ _).alloc (Nat.le_refl _) _) (Nat.le_refl _))) (hT.below ((hb3.out.alloc hb3.out.size _)) hT.lt)).mono ?_
        rintro e w2 ⟨rfl, hb2⟩
        obtain ⟨K, hK⟩ : ∃ K, keptK n xs (upI (2 ^ n.toNat)).reverse = K := ⟨_, rfl⟩
        rw [hK] at hat ⊢
        have hidx := index_arr K hb256.1 hb256.2
        rw [hat] at hidx
        have hbb := Lib.hid ((hb3.out.alloc hb3.out.size (.cells #[.slice a2 xs.length c2, (Value.func (.func 87) #[] #[])] 51)).trans (hb2.mono (by simp; have := hb3.out.size; omega)))
        clear hb2 hb3 hS3 hat
        go_wp2_with fail
        go_ret2
        exact ⟨rfl, hbb.out⟩
      · rw [hf.out] at h; cases h
    · have hb : kofB n xs s = false := by unfold kofB; rw [hse, Bool.and_false]
      rw [hse] at hs
      rw [hb, if_neg (by simp)]
      replace h1 := Lib.hid h1
      replace hb := Lib.hid hb
      replace hf := Lib.hid hf
      replace hse := Lib.hid hse
      go_enter Tryd.func14, Tryd.ntmps14
      go_wp2_with fail
      refine h1.out.mono ?_
      rintro e w1 h
      rcases h with ⟨_, v, rfl, hS1, hb1⟩ | ⟨h, _⟩
      · obtain ⟨a2, c2, rfl⟩ := hS1.form
        have hb3 := Lib.hid (hb1.alloc hb1.size (.cells #[.slice a2 xs.length c2, (Value.func (.func 87) #[] #[])] 51))
        clear hS1 hb1
        go_wp2_with (go_at_call 32; refine (hs.out _).mono ?_; rintro e w' ⟨rfl, rfl⟩)
        go_ret2
        exact ⟨rfl, hb3.out⟩
      · rw [hf.out] at h; cases h
  · have hb : kofB n xs s = false := by unfold kofB; rw [hf, Bool.false_and]
    rw [hb, if_neg (by simp)]
    replace h1 := Lib.hid h1
    replace hb := Lib.hid hb
    replace hf := Lib.hid hf
    go_enter Tryd.func14, Tryd.ntmps14
    go_wp2_with fail
    refine h1.out.mono ?_
    rintro e w1 h
    rcases h with ⟨h, _⟩ | ⟨_, rfl, hb1⟩
    · rw [hf.out] at h; cases h
    · have hb3 := Lib.hid (hb1.alloc hb1.size (.cells #[.slice none 0 0, .nilFunc] 51))
      clear hb1
      go_wp2_with fail
      go_ret2
      exact ⟨rfl, hb3.out⟩
end Go.Proofs.YtjhjmbiecihjhaaDoor
