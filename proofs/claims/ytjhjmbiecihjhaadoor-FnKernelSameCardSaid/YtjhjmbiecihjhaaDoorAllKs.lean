/- Texts merged: XKe4 XKe5 XKe6 XKe7. -/
import Derived.Test.YtjhjmbiecihjhaaDoorKe3
import Derived.Test.YtjhjmbiecihjhaaDoorLawBool
import Derived.Test.YtjhjmbiecihjhaaDoorLawTwo
namespace Go.Proofs.YtjhjmbiecihjhaaDoor
section
/- KernelOf and KernelSame: the program. -/
open Go.ChangeShapes Go.WideShapes Go.ChangeAt Go.RowKit Go.Proofs

/-- KernelOf's answers. -/
def kofB (n : Int) (xs : List Int) (s : Int) : Bool := famB n xs && setB n s
def kofI (n : Int) (xs : List Int) (s : Int) : Int := if kofB n xs s then kerI n xs s else 0
theorem kept_at {n : Int} {xs : List Int} (hf : famB n xs = true) (j : Nat) : keptK n xs (upI (2 ^ n.toNat)).reverse j = if j < 2 ^ n.toNat then kerI n xs j else 0 := by
  have h := kept_ker hf (2 ^ n.toNat) 0 (Nat.zero_add _) j
  rw [List.drop_zero] at h
  rw [h]
  simp
theorem ker_le (xs : List Int) (s : Int) : ∀ (a : Int), 0 ≤ a → 0 ≤ xs.foldl (fun a x => if partB s x then andI a x else a) a ∧ xs.foldl (fun a x => if partB s x then andI a x else a) a ≤ a := by
  induction xs with
  | nil => intro a h; exact ⟨h, Int.le_refl _⟩
  | cons x xs ih =>
    intro a h
    rw [List.foldl_cons]
    by_cases e : partB s x
    · rw [if_pos e]
      have h1 := and_le a x h
      have h2 := ih (andI a x) h1.1
      omega
    · rw [if_neg e]; exact ih a h
theorem ker_lt {n : Int} {xs : List Int} (hf : famB n xs = true) (s : Int) : 0 ≤ kerI n xs s ∧ kerI n xs s < 256 := by
  obtain ⟨n1, n2, _⟩ := famB_all hf
  obtain ⟨a1, a2⟩ := all_pow n1 n2
  have h := ker_le xs s (2 ^ n.toNat - 1) a1
  have h2 : kerI n xs s = xs.foldl (fun a x => if partB s x then andI a x else a) (2 ^ n.toNat - 1) := rfl
  rw [h2]
  omega
theorem im_set_in (n s : Int) (W : World) : Calls Tryd.prog 32 #[.int .i64 n, .int .i64 s] W fun e w' => e = .returned (.bool (setB n s)) ∧ W = w' := by
  rcases set_in_cases n s with h | h
  · rw [h]; exact set_in_yes n s h W
  · rw [h]; exact set_in_no n s h W
theorem ker_under : Tryd.prog.underlying 57 = some (.array 256 55) := by kernel_rfl
theorem set_under : Tryd.prog.underlying 55 = some (.int .u64) := by kernel_rfl
theorem set_plain : Tryd.prog.plainKey 55 = true := by kernel_rfl
theorem set_cells : Tryd.prog.cellsOf 55 = 1 := by kernel_rfl
theorem set_info : ∃ i, Tryd.prog.info? 55 = some i := by
  have h : (Tryd.prog.info? 55).isSome = true := by kernel_rfl
  exact Option.isSome_iff_exists.1 h
theorem part_set (K : Nat → Int) {s : Nat} (hs : s < 256) (w : World) : (part 55 (arrV K) (s * 1)).run Tryd.prog w = .ok (.int .u64 (K s)) w :=
  run_part_plain w set_plain (by rw [Nat.mul_one]; exact arr_get K hs)
theorem index_arr (K : Nat → Int) {s : Int} (h1 : 0 ≤ s) (h2 : s < 256) (w : World) : (Instr.index 57 (.agg (arrV K)) (.int .i64 s)).run Tryd.prog w = .ok (.int .u64 (K s.toNat)) w := by
  obtain ⟨i, hi⟩ := set_info
  have hp := part_set K (show s.toNat < 256 by omega) w
  have h3 : 0 ≤ s ∧ s < ((256 : Nat) : Int) := by omega
  simp only [Instr.index, asIntOf, Sem.run_bind, Sem.run_pure, Result.andThen, run_underlying ker_under, run_sizeOf w hi, if_pos h3, set_cells, hp]
theorem eq_items (K L : Nat → Int) (w : World) : ∀ is : List Nat, (∀ i ∈ is, i < 256) → (Op.eqItems 9999 55 1 (arrV K) (arrV L) is).run Tryd.prog w = .ok (is.all fun i => K i == L i) w
  | [], _ => by simp only [Op.eqItems, Sem.run_pure, List.all_nil]
  | i :: is, h => by
    have ih := eq_items K L w is (fun j hj => h j (List.mem_cons_of_mem _ hj))
    have p1 := part_set K (h i List.mem_cons_self) w
    have p2 := part_set L (h i List.mem_cons_self) w
    have p3 := run_equalIn_int (P := Tryd.prog) w 9998 55 .u64 .u64 (K i) (L i) set_under
    simp only [Op.eqItems, Sem.run_bind, p1, p2, p3, Result.andThen, List.all_cons]
    cases K i == L i
    · simp
    · simpa using ih
theorem equal_arr (K L : Nat → Int) (w : World) : (Op.equalIn 10000 57 (.agg (arrV K)) (.agg (arrV L))).run Tryd.prog w = .ok ((List.range 256).all fun i => K i == L i) w := by
  obtain ⟨i, hi⟩ := set_info
  have h := run_equalIn_array (P := Tryd.prog) w 9999 (arrV K) (arrV L) ker_under hi
  rw [set_cells, eq_items K L w _ (fun j hj => List.mem_range.1 hj)] at h
  exact h
set_option maxHeartbeats 4000000 in
theorem im_KernelOf (n s : Int) (lv : Value) (xs : List Int) (S : Nat) (w : World) (hx : Row w S lv xs) (hS : S ≤ w.heap.size) (hl : xs.length ≤ 100000000) (hT : Tab w) :
    Calls Tryd.prog 14 #[.int .i64 n, lv, .int .i64 s] w fun e w' => e = .returned (.tuple #[.int .i64 (kofI n xs s), .bool (kofB n xs s)]) ∧ Below w.heap.size w w' := by
  have h1 := read_any n lv xs S w hx hS hl
  have hs := Lib.hid (im_set_in n s)
  obtain ⟨a, cap, rfl, _⟩ := id hx
  clear hx
  unfold kofI
  rcases (by cases famB n xs <;> simp : famB n xs = true ∨ famB n xs = false) with hf | hf
  · rcases set_in_cases n s with hse | hse
    · have hb : kofB n xs s = true := by unfold kofB; rw [hf, hse]; rfl
      obtain ⟨n1, n2, s1, s2⟩ := setB_yes hse
      rw [hse] at hs
      rw [hb, if_pos rfl]
      have hk := fun v W (h : SRow W W.heap.size v xs) (h2 : Tab W) => kernels_by n v xs W.heap.size W h (Nat.le_refl _) hf h2
      have hst : s.toNat < 2 ^ n.toNat := by have : ((2 ^ n.toNat : Nat) : Int) = 2 ^ n.toNat := by simp
                                             omega
      have hat := kept_at hf s.toNat
      rw [if_pos hst, Int.toNat_of_nonneg s1] at hat
      have hkb := ker_lt hf s
      obtain ⟨k, hke⟩ : ∃ k, kerI n xs s = k := ⟨_, rfl⟩
      rw [hke] at hat hkb ⊢
      have hb256 := setB_lt hse
      replace hk := Lib.hid hk
      replace h1 := Lib.hid h1
      replace hb := Lib.hid hb
      replace hf := Lib.hid hf
      replace hse := Lib.hid hse
      try replace hke := Lib.hid hke
      go_enter Tryd.func14, Tryd.ntmps14
      go_wp2_with fail
      refine h1.out.mono ?_
      rintro e w1 h
      rcases h with ⟨_, v, rfl, hS1, hb1⟩ | ⟨h, _⟩
      · obtain ⟨a2, c2, rfl⟩ := hS1.form
        have hS3 := Lib.hid hS1
        have hb3 := Lib.hid hb1
        clear hS1 hb1
        go_wp2_with (go_at_call 32; refine (hs.out _).mono ?_; rintro e w' ⟨rfl, rfl⟩)
        refine (hk.out _ _ (SetL.row (SetL.below hS3.out ((Below.refl _ _).alloc (Nat.le_refl _) _) (Nat.le_refl _))) (hT.below ((hb3.out.alloc hb3.out.size _)) hT.lt)).mono ?_
        rintro e w2 ⟨rfl, hb2⟩
        obtain ⟨K, hK⟩ : ∃ K, keptK n xs (upI (2 ^ n.toNat)).reverse = K := ⟨_, rfl⟩
        rw [hK] at hat ⊢
        have hidx := index_arr K hb256.1 hb256.2
        rw [hat] at hidx
        have hbb := Lib.hid ((hb3.out.alloc hb3.out.size (.cells #[.slice a2 xs.length c2, (Value.func (.func 87) #[] #[])] 51)).trans (hb2.mono (by simp; have := hb3.out.size; omega)))
        clear hb2 hb3 hS3 hat
        go_wp2_with fail
        go_ret2
        exact ⟨rfl, hbb.out⟩
      · rw [hf.out] at h; cases h
    · have hb : kofB n xs s = false := by unfold kofB; rw [hse, Bool.and_false]
      rw [hse] at hs
      rw [hb, if_neg (by simp)]
      replace h1 := Lib.hid h1
      replace hb := Lib.hid hb
      replace hf := Lib.hid hf
      replace hse := Lib.hid hse
      go_enter Tryd.func14, Tryd.ntmps14
      go_wp2_with fail
      refine h1.out.mono ?_
      rintro e w1 h
      rcases h with ⟨_, v, rfl, hS1, hb1⟩ | ⟨h, _⟩
      · obtain ⟨a2, c2, rfl⟩ := hS1.form
        have hb3 := Lib.hid (hb1.alloc hb1.size (.cells #[.slice a2 xs.length c2, (Value.func (.func 87) #[] #[])] 51))
        clear hS1 hb1
        go_wp2_with (go_at_call 32; refine (hs.out _).mono ?_; rintro e w' ⟨rfl, rfl⟩)
        go_ret2
        exact ⟨rfl, hb3.out⟩
      · rw [hf.out] at h; cases h
  · have hb : kofB n xs s = false := by unfold kofB; rw [hf, Bool.false_and]
    rw [hb, if_neg (by simp)]
    replace h1 := Lib.hid h1
    replace hb := Lib.hid hb
    replace hf := Lib.hid hf
    go_enter Tryd.func14, Tryd.ntmps14
    go_wp2_with fail
    refine h1.out.mono ?_
    rintro e w1 h
    rcases h with ⟨h, _⟩ | ⟨_, rfl, hb1⟩
    · rw [hf.out] at h; cases h
    · have hb3 := Lib.hid (hb1.alloc hb1.size (.cells #[.slice none 0 0, .nilFunc] 51))
      clear hb1
      go_wp2_with fail
      go_ret2
      exact ⟨rfl, hb3.out⟩

end
section
/- KernelSame: the program; comparisons of all kernels. -/
open Go.ChangeShapes Go.WideShapes Go.ChangeAt Go.RowKit Go.Proofs

/-- each set has the same kernel by both. -/
def kersB (n : Int) (xs zs : List Int) : Bool := (List.range (2 ^ n.toNat)).all fun (j : Nat) => kerI n xs j == kerI n zs j
def ksaB (n : Int) (xs zs : List Int) : Bool := (famB n xs && famB n zs) && kersB n xs zs
theorem kers_all {n : Int} {xs zs : List Int} (hf : famB n xs = true) (hg : famB n zs = true) :
    ((List.range 256).all fun i => keptK n xs (upI (2 ^ n.toNat)).reverse i == keptK n zs (upI (2 ^ n.toNat)).reverse i) = kersB n xs zs := by
  obtain ⟨n1, n2, _⟩ := famB_all hf
  have hp : 2 ^ n.toNat ≤ 256 := by
    have : 2 ^ n.toNat ≤ 2 ^ 8 := Nat.pow_le_pow_right (by omega) (by omega)
    omega
  unfold kersB
  rw [Bool.eq_iff_iff, List.all_eq_true, List.all_eq_true]
  constructor
  · intro h j hj
    have h1 := List.mem_range.1 hj
    have h2 := h j (List.mem_range.2 (by omega))
    rw [kept_at hf, kept_at hg, if_pos h1, if_pos h1] at h2
    exact h2
  · intro h j _
    rw [kept_at hf, kept_at hg]
    by_cases h1 : j < 2 ^ n.toNat
    · rw [if_pos h1, if_pos h1]; exact h j (List.mem_range.2 h1)
    · rw [if_neg h1, if_neg h1]; rfl
attribute [local irreducible] arrV
set_option maxRecDepth 100000 in
set_option maxHeartbeats 4000000 in
theorem im_KernelSame (n : Int) (lv lu : Value) (xs zs : List Int) (S : Nat) (w : World) (hx : Row w S lv xs) (hy : Row w S lu zs) (hS : S ≤ w.heap.size) (hl : xs.length ≤ 100000000) (hm : zs.length ≤ 100000000) (hT : Tab w) :
    Calls Tryd.prog 16 #[.int .i64 n, lv, lu] w fun e w' => e = .returned (.bool (ksaB n xs zs)) ∧ Below w.heap.size w w' := by
  have h1 := read_any n lv xs S w hx hS hl
  have h2 := Lib.hid (fun W (h : Row W S lu zs) h2 => read_any n lu zs S W h h2 hm)
  have hy2 := Lib.hid hy
  obtain ⟨a, cap, rfl, _⟩ := id hx
  obtain ⟨b, cbp, rfl, _⟩ := id hy
  clear hx hy
  rcases (by cases famB n xs <;> simp : famB n xs = true ∨ famB n xs = false) with hf | hf
  · rcases (by cases famB n zs <;> simp : famB n zs = true ∨ famB n zs = false) with hg | hg
    · have hka := kers_all hf hg
      have hb : ksaB n xs zs = kersB n xs zs := by unfold ksaB; rw [hf, hg]; rfl
      rw [hb, ← hka]
      obtain ⟨K, hK⟩ : ∃ K, keptK n xs (upI (2 ^ n.toNat)).reverse = K := ⟨_, rfl⟩
      obtain ⟨L, hL⟩ : ∃ L, keptK n zs (upI (2 ^ n.toNat)).reverse = L := ⟨_, rfl⟩
      have hk := Lib.hid (fun v W (h : SRow W W.heap.size v xs) (h2 : Tab W) => hK ▸ kernels_by n v xs W.heap.size W h (Nat.le_refl _) hf h2)
      have hk2 := Lib.hid (fun v W (h : SRow W W.heap.size v zs) (h2 : Tab W) => hL ▸ kernels_by n v zs W.heap.size W h (Nat.le_refl _) hg h2)
      rw [hK, hL]
      have heq := equal_arr K L
      obtain ⟨r, hr⟩ : ∃ r, ((List.range 256).all fun i => K i == L i) = r := ⟨_, rfl⟩
      rw [hr] at heq ⊢
      replace h1 := Lib.hid h1
      replace hb := Lib.hid hb
      replace hf := Lib.hid hf
      replace hg := Lib.hid hg
      replace hK := Lib.hid hK
      replace hL := Lib.hid hL
      replace hr := Lib.hid hr
      clear hka
      go_enter Tryd.func16, Tryd.ntmps16
      go_wp2_with fail
      refine h1.out.mono ?_
      rintro e w1 h
      rcases h with ⟨_, v, rfl, hS1, hb1⟩ | ⟨h, _⟩
      · obtain ⟨a2, c2, rfl⟩ := hS1.form
        have hb3 := hb1.alloc hb1.size (.cells #[.slice a2 xs.length c2, (Value.func (.func 87) #[] #[])] 51)
        have hS2 := SetL.below hS1 ((Below.refl _ _).alloc (Nat.le_refl _) (.cells #[.slice a2 xs.length c2, (Value.func (.func 87) #[] #[])] 51)) (Nat.le_refl _)
        replace hb3 := Lib.hid hb3
        replace hS2 := Lib.hid hS2
        have hyy := Lib.hid (hy2.out.below hb1 hS)
        have hz9 := hb1.size
        clear hS1 hb1
        go_wp2_with fail
        have z1 : (w1.alloc (.cells #[.slice a2 xs.length c2, (Value.func (.func 87) #[] #[])] 51)).heap.size = w1.heap.size + 1 := by simp
        refine (h2.out _ (hyy.out.below ((Below.refl _ _).alloc (Nat.le_refl _) _) (by omega)) (by rw [z1]; omega)).mono ?_
        rintro e w2 h
        rcases h with ⟨_, v, rfl, hS4, hb4⟩ | ⟨h, _⟩
        · obtain ⟨a4, c4, rfl⟩ := hS4.form
          have z4 := hb4.size
          have z5 := hb3.out.size
          obtain ⟨W1, hW1⟩ : ∃ W1, w2.alloc (.cells #[.slice a4 zs.length c4, (Value.func (.func 87) #[] #[])] 51) = W1 := ⟨_, rfl⟩
          have hal : Below w2.heap.size w2 (w2.alloc (.cells #[.slice a4 zs.length c4, (Value.func (.func 87) #[] #[])] 51)) := (Below.refl _ _).alloc (Nat.le_refl _) _
          have hbw := (hb3.out.trans (hb4.mono z5)).alloc (by omega) (.cells #[.slice a4 zs.length c4, (Value.func (.func 87) #[] #[])] 51)
          have hS5 := SetL.below hS4 hal (Nat.le_refl _)
          have hS6 := SetL.below (SetL.below hS2.out hb4 (Nat.le_refl _)) hal (Nat.le_refl _)
          have hc1 := heap_alloc_new w1 (.cells #[.slice a2 xs.length c2, (Value.func (.func 87) #[] #[])] 51 (0, 0))
          have hc2 := heap_alloc_new w2 (.cells #[.slice a4 zs.length c4, (Value.func (.func 87) #[] #[])] 51 (0, 0))
          have hs1 : W1.heap.size = w2.heap.size + 1 := by rw [← hW1]; simp
          rw [← hb4.block _ (by rw [z1]; omega)] at hc1
          rw [← hal.block _ (by omega)] at hc1
          rw [hW1] at hbw hS5 hS6 hc1 hc2
          have hlt1 : w1.heap.size < W1.heap.size := by omega
          have hlt2 : w2.heap.size < W1.heap.size := by omega
          obtain ⟨l0, l1⟩ := pair_cells hc1 (Below.refl W1.heap.size W1) hlt1
          obtain ⟨l2, l3⟩ := pair_cells hc2 (Below.refl W1.heap.size W1) hlt2
          have hbd : Below W1.heap.size W1 W1.drew := (Below.refl _ W1).drew
          have hle0 : w.heap.size ≤ W1.heap.size := by omega
          have hk1 : Calls Tryd.prog 33 #[.int .i64 n, .agg #[.slice a2 xs.length c2, (Value.func (.func 87) #[] #[])]] W1.drew fun e w' => e = .returned (.agg (arrV K)) ∧ Below W1.heap.size W1.drew w' := hk.out _ _ (SetL.row (SetL.below hS6 hbd (Nat.le_refl _))) (hT.below (hbw.trans (hbd.mono hle0)) hT.lt)
          have hk3 : ∀ W, Below W1.heap.size W1.drew W → Calls Tryd.prog 33 #[.int .i64 n, .agg #[.slice a4 zs.length c4, (Value.func (.func 87) #[] #[])]] W fun e w' => e = .returned (.agg (arrV L)) ∧ Below W1.heap.size W w' := fun W h => by
            have h9 := hbd.trans h
            exact (hk2.out _ _ (SetL.row (SetL.below hS5 h9 (Nat.le_refl _))) (hT.below (hbw.trans (h9.mono hle0)) hT.lt)).mono (fun _ _ h => ⟨h.1, h.2.mono (h9.size)⟩)
          have hcs : ∀ W, Below W1.heap.size W1.drew W → W.cell? ⟨w2.heap.size, 0, none⟩ = some (.slice a4 zs.length c4) ∧ W.cell? ⟨w2.heap.size, 1, none⟩ = some (Value.func (.func 87) #[] #[]) := fun W h => pair_cells hc2 (hbd.trans h) hlt2
          have hfin : ∀ W, Below W1.heap.size W1.drew W → Below w.heap.size w W := fun W h => hbw.trans ((hbd.trans h).mono hle0)
          replace hk1 := Lib.hid hk1
          replace hk3 := Lib.hid hk3
          replace hcs := Lib.hid hcs
          replace hfin := Lib.hid hfin
          replace hW1 := Lib.hid hW1
          clear hS4 hb4 hS2 hb3 hyy hk hk2 h1 h2 hbw hS5 hS6 hc1 hc2 hbd hal
          go_wp2_with fail
          rw [hW1.out]
          go_region_with (first
            | (go_at_call 33; ((with_reducible refine hk1.out.mono ?_)); rintro e w3 ⟨rfl, hb6⟩; obtain ⟨q0, q1⟩ := hcs.out _ hb6)
            | (go_at_call 33; refine (hk3.out _ (by assumption)).mono ?_; rintro e w4 ⟨rfl, hb8⟩))
          all_goals
            go_wp2_with fail
            go_ret
            exact ⟨rfl, hfin.out _ (Below.trans (by assumption) (by assumption))⟩
        · rw [hg.out] at h; cases h
      · rw [hf.out] at h; cases h
    · have hb : ksaB n xs zs = false := by unfold ksaB; rw [hf, hg]; rfl
      rw [hb]
      replace h1 := Lib.hid h1
      replace hb := Lib.hid hb
      replace hf := Lib.hid hf
      replace hg := Lib.hid hg
      go_enter Tryd.func16, Tryd.ntmps16
      go_wp2_with fail
      refine h1.out.mono ?_
      rintro e w1 h
      rcases h with ⟨_, v, rfl, hS1, hb1⟩ | ⟨h, _⟩
      · obtain ⟨a2, c2, rfl⟩ := hS1.form
        have hb3 := hb1.alloc hb1.size (.cells #[.slice a2 xs.length c2, (Value.func (.func 87) #[] #[])] 51)
        replace hb3 := Lib.hid hb3
        have hyy := Lib.hid (hy2.out.below hb1 hS)
        have hz9 := hb1.size
        clear hS1 hb1
        go_wp2_with fail
        have z1 : (w1.alloc (.cells #[.slice a2 xs.length c2, (Value.func (.func 87) #[] #[])] 51)).heap.size = w1.heap.size + 1 := by simp
        refine (h2.out _ (hyy.out.below ((Below.refl _ _).alloc (Nat.le_refl _) _) (by omega)) (by rw [z1]; omega)).mono ?_
        rintro e w2 h
        rcases h with ⟨h, _⟩ | ⟨_, rfl, hb4⟩
        · rw [hg.out] at h; cases h
        · have hb5 := Lib.hid ((hb3.out.trans (hb4.mono (hb3.out.size))).alloc (by have := hb3.out.size; have := hb4.size; omega) (.cells #[.slice none 0 0, .nilFunc] 51))
          clear hb4 hb3 hyy
          go_wp2_with fail
          go_region
          all_goals
            go_wp2_with fail
            go_ret
            exact ⟨rfl, hb5.out.drew⟩
      · rw [hf.out] at h; cases h
  · have hb : ksaB n xs zs = false := by unfold ksaB; rw [hf]; rfl
    rw [hb]
    replace h1 := Lib.hid h1
    replace hb := Lib.hid hb
    replace hf := Lib.hid hf
    go_enter Tryd.func16, Tryd.ntmps16
    go_wp2_with fail
    refine h1.out.mono ?_
    rintro e w1 h
    rcases h with ⟨h, _⟩ | ⟨_, rfl, hb1⟩
    · rw [hf.out] at h; cases h
    · have hb3 := Lib.hid (hb1.alloc hb1.size (.cells #[.slice none 0 0, .nilFunc] 51))
      have hyy := Lib.hid (hy2.out.below hb1 hS)
      have z1 : (w1.alloc (.cells #[.slice none 0 0, .nilFunc] 51)).heap.size = w1.heap.size + 1 := by simp
      have hz := hb1.size
      clear hb1
      go_wp2_with fail
      refine (h2.out _ (hyy.out.below ((Below.refl _ _).alloc (Nat.le_refl _) _) (by omega)) (by rw [z1]; omega)).mono ?_
      rintro e w2 h
      rcases h with ⟨_, v, rfl, hS4, hb4⟩ | ⟨_, rfl, hb4⟩
      · obtain ⟨a4, c4, rfl⟩ := hS4.form
        have hb5 := Lib.hid ((hb3.out.trans (hb4.mono (hb3.out.size))).alloc (by have := hb3.out.size; have := hb4.size; omega) (.cells #[.slice a4 zs.length c4, (Value.func (.func 87) #[] #[])] 51))
        clear hb4 hb3 hyy hS4
        go_wp2_with fail
        go_region
        all_goals
          go_wp2_with fail
          go_ret
          exact ⟨rfl, hb5.out.drew⟩
      · have hb5 := Lib.hid ((hb3.out.trans (hb4.mono (hb3.out.size))).alloc (by have := hb3.out.size; have := hb4.size; omega) (.cells #[.slice none 0 0, .nilFunc] 51))
        clear hb4 hb3 hyy
        go_wp2_with fail
        go_region
        all_goals
          go_wp2_with fail
          go_ret
          exact ⟨rfl, hb5.out.drew⟩

end
section
/- KernelOf and KernelSame: the model. -/
open Go.ChangeShapes Go.WideShapes Go.ChangeAt Go.RowKit Go.Proofs

/-- a kernel by the sets of a list up to a place. -/
def kerTo (n : Int) (xs : List Int) (s : Int) (k : Nat) : Int := kerI n (xs.take k) s
theorem kerTo_zero (n : Int) (xs : List Int) (s : Int) : kerTo n xs s 0 = 2 ^ n.toNat - 1 := rfl
theorem kerTo_succ {n : Int} {xs : List Int} {s x : Int} {k : Nat} (h : k < xs.length) (hx : xs.getD k 0 = x) : kerTo n xs s (k + 1) = if partB s x then andI (kerTo n xs s k) x else kerTo n xs s k := by
  unfold kerTo kerI
  rw [List.take_succ_eq_append_getElem h, List.foldl_append]
  have : xs[k] = x := by rw [← hx, List.getD_eq_getElem?_getD, List.getElem?_eq_getElem h]; rfl
  rw [this]
  rfl
theorem kerTo_all (n : Int) (xs : List Int) (s : Int) : kerTo n xs s xs.length = kerI n xs s := by unfold kerTo; rw [List.take_length]
theorem kerTo_bd {n : Int} (n1 : 1 ≤ n) (n2 : n ≤ 8) (xs : List Int) (s : Int) (k : Nat) : 0 ≤ kerTo n xs s k ∧ kerTo n xs s k < 256 := by
  obtain ⟨a1, a2⟩ := all_pow n1 n2
  have h := ker_le (xs.take k) s (2 ^ n.toNat - 1) a1
  have h2 : kerTo n xs s k = (xs.take k).foldl (fun a x => if partB s x then andI a x else a) (2 ^ n.toNat - 1) := rfl
  rw [h2]
  omega
set_option maxHeartbeats 4000000 in
theorem l9kernel (n s : Int) (lv : Value) (xs : List Int) (S : Nat) (w : World) (hx : Row w S lv xs) (hf : famB n xs = true) (hs : setB n s = true) :
    Calls Tryd.prog 30 #[.int .i64 n, lv, .int .i64 s] w fun e w' => e = .returned (.int .i64 (kerI n xs s)) ∧ w' = w := by
  obtain ⟨a, cap, rfl, ha⟩ := id hx
  obtain ⟨n1, n2, hset⟩ := famB_all hf
  have hl2 := famB_len hf
  have hlt := famB_lt hf
  obtain ⟨s1, s2⟩ := setB_lt hs
  have hn0 : (0 : Int) ≤ n := by omega
  have hn64 : n < 64 := by omega
  have hbd := Lib.hid (kerTo_bd n1 n2 xs s)
  have hz := kerTo_zero n xs s
  have ht := Lib.hid (kerTo_all n xs s)
  have hst := Lib.hid (fun k x h hx => kerTo_succ (n := n) (xs := xs) (s := s) (k := k) (x := x) h hx)
  obtain ⟨p1, p2⟩ := all_pow n1 n2
  replace ha := Lib.hid ha
  replace hf := Lib.hid hf
  replace hset := Lib.hid hset
  replace hlt := Lib.hid hlt
  clear hx
  go_enter Tryd.func30, Tryd.ntmps30
  go_wp2_with fail
  go_loopw [7, 8] (fun o p wr => ∃ k : Nat, k ≤ xs.length ∧ o = .int .i64 (kerTo n xs s k) ∧ p = .int .i64 k ∧ wr = w) (fun _ p _ => xs.length - (intOf p).toNat)
  case atStart => exact ⟨0, by omega, by rw [hz], rfl, rfl⟩
  case round =>
    obtain ⟨k, hk, rfl, rfl, rfl⟩ := hrel
    obtain ⟨o1, o2⟩ := hbd.out k
    by_cases hlk : k < xs.length
    · obtain ⟨b1, f1, rfl, q1, c1⟩ := ha.out (by omega)
      have k1 : (0 : Int) ≤ (k : Int) := by omega
      have k2 : (k : Int) < (xs.length : Nat) := by omega
      obtain ⟨x, hx0⟩ : ∃ x, xs.getD k 0 = x := ⟨_, rfl⟩
      have hmx : x ∈ xs := by rw [← hx0]; exact getD_mem hlk
      have hcx := c1 k hlk
      rw [hx0] at hcx
      obtain ⟨x1, x2⟩ := hlt.out x hmx
      have hsu := hst.out k x hlk hx0
      have hp := Lib.hid (l5part s x s1 s2 x1 x2)
      obtain ⟨o, ho⟩ : ∃ o, kerTo n xs s k = o := ⟨_, rfl⟩
      rw [ho] at hsu o1 o2
      rw [ho]
      have hao := i64_andI o1 o2 x1 x2
      obtain ⟨r, hr⟩ : ∃ r, andI o x = r := ⟨_, rfl⟩
      rw [hr] at hsu hao
      replace hr := Lib.hid hr
      replace ho := Lib.hid ho
      replace hx0 := Lib.hid hx0
      clear c1
      rcases (by cases partB s x <;> simp : partB s x = true ∨ partB s x = false) with hb | hb
      · rw [hb] at hp
        rw [hb, if_pos rfl] at hsu
        replace hb := Lib.hid hb
        replace hsu := Lib.hid hsu
        go_wp2_with (go_at_call 50; refine (hp.out _).mono ?_; rintro e w' ⟨rfl, rfl⟩)
        go_roundw
        case rel => exact ⟨k + 1, by omega, by rw [hsu.out], by go_num, by first | rfl | trivial⟩
        case measure => simp [intOf]; omega
      · rw [hb] at hp
        rw [hb, if_neg (by simp)] at hsu
        replace hb := Lib.hid hb
        replace hsu := Lib.hid hsu
        go_wp2_with (go_at_call 50; refine (hp.out _).mono ?_; rintro e w' ⟨rfl, rfl⟩)
        go_roundw
        case rel => exact ⟨k + 1, by omega, by rw [hsu.out], by go_num, by first | rfl | trivial⟩
        case measure => simp [intOf]; omega
    · obtain rfl : k = xs.length := by omega
      rw [ht.out]
      go_wp2_with fail
      go_ret
      exact ⟨rfl, by first | rfl | trivial⟩
theorem sp_set_in_at (n s : Int) (W : World) : Calls Tryd.prog 29 #[.int .i64 n, .int .i64 s] W fun e w' => e = .returned (.bool (setB n s)) ∧ W = w' := by
  rcases set_in_cases n s with h | h
  · rw [h]; exact sp_set_in_yes n s h W
  · rw [h]; exact sp_set_in_no n s h W
set_option maxHeartbeats 4000000 in
theorem sp_KernelOf (n s : Int) (lv : Value) (xs : List Int) (S : Nat) (w : World) (hx : Row w S lv xs) (_ : S ≤ w.heap.size) (hl : xs.length ≤ 100000000) :
    Calls Tryd.prog 13 #[.int .i64 n, lv, .int .i64 s] w fun e w' => e = .returned (.tuple #[.int .i64 (kofI n xs s), .bool (kofB n xs s)]) ∧ Below w.heap.size w w' := by
  have h1 := sp_FamilyIn n lv xs S w hx (by omega)
  have hs := Lib.hid (sp_set_in_at n s)
  have hx2 := Lib.hid hx
  obtain ⟨a, cap, rfl, _⟩ := id hx
  clear hx
  unfold kofI
  rcases (by cases famB n xs <;> simp : famB n xs = true ∨ famB n xs = false) with hf | hf
  · rcases set_in_cases n s with hse | hse
    · have hb : kofB n xs s = true := by unfold kofB; rw [hf, hse]; rfl
      have hk := fun q => l9kernel n s _ xs S (w.drewN q) (hx2.out.drewN q) hf hse
      rw [hse] at hs
      rw [hf] at h1
      rw [hb, if_pos rfl]
      obtain ⟨k, hke⟩ : ∃ k, kerI n xs s = k := ⟨_, rfl⟩
      rw [hke] at hk ⊢
      replace hk := Lib.hid hk
      replace h1 := Lib.hid h1
      replace hb := Lib.hid hb
      replace hf := Lib.hid hf
      replace hse := Lib.hid hse
      replace hke := Lib.hid hke
      go_enter Tryd.func13, Tryd.ntmps13
      go_wp2_with fail
      refine h1.out.mono ?_
      rintro e w1 ⟨rfl, q, rfl⟩
      go_wp2_with (go_at_call 29; refine (hs.out _).mono ?_; rintro e w' ⟨rfl, rfl⟩)
      refine (hk.out q).mono ?_
      rintro e w2 ⟨rfl, rfl⟩
      go_wp2_with fail
      go_ret2
      exact ⟨rfl, below_drewN (Below.refl _ _) _⟩
    · have hb : kofB n xs s = false := by unfold kofB; rw [hse, Bool.and_false]
      rw [hse] at hs
      rw [hf] at h1
      rw [hb, if_neg (by simp)]
      replace h1 := Lib.hid h1
      replace hb := Lib.hid hb
      replace hf := Lib.hid hf
      replace hse := Lib.hid hse
      go_enter Tryd.func13, Tryd.ntmps13
      go_wp2_with fail
      refine h1.out.mono ?_
      rintro e w1 ⟨rfl, q, rfl⟩
      go_wp2_with (go_at_call 29; refine (hs.out _).mono ?_; rintro e w' ⟨rfl, rfl⟩)
      go_ret2
      exact ⟨rfl, below_drewN (Below.refl _ _) _⟩
  · have hb : kofB n xs s = false := by unfold kofB; rw [hf, Bool.false_and]
    rw [hf] at h1
    rw [hb, if_neg (by simp)]
    replace h1 := Lib.hid h1
    replace hb := Lib.hid hb
    replace hf := Lib.hid hf
    go_enter Tryd.func13, Tryd.ntmps13
    go_wp2_with fail
    refine h1.out.mono ?_
    rintro e w1 ⟨rfl, q, rfl⟩
    go_wp2_with fail
    go_ret2
    exact ⟨rfl, below_drewN (Below.refl _ _) _⟩

end
section
/- KernelSame: the model; the exact laws of KernelOf and KernelSame. -/
open Go.ChangeShapes Go.WideShapes Go.ChangeAt Go.RowKit Go.Proofs

/-- the kernels of the sets below k are the same. -/
def kersTo (n : Int) (xs zs : List Int) (k : Nat) : Bool := (List.range k).all fun (j : Nat) => kerI n xs j == kerI n zs j
theorem kersTo_zero (n : Int) (xs zs : List Int) : kersTo n xs zs 0 = true := rfl
theorem kersTo_succ (n : Int) (xs zs : List Int) (k : Nat) : kersTo n xs zs (k + 1) = (kersTo n xs zs k && (kerI n xs k == kerI n zs k)) := by
  unfold kersTo; rw [List.range_succ, List.all_append]; simp
theorem kersTo_no {n : Int} {xs zs : List Int} {k m : Nat} (h : (kerI n xs k == kerI n zs k) = false) (hm : k < m) : kersTo n xs zs m = false := by
  unfold kersTo
  rw [List.all_eq_false]
  exact ⟨k, List.mem_range.2 hm, by rw [h]; simp⟩
set_option maxHeartbeats 4000000 in
theorem sp_KernelSame (n : Int) (lv lu : Value) (xs zs : List Int) (S : Nat) (w : World) (hx : Row w S lv xs) (hy : Row w S lu zs) (_ : S ≤ w.heap.size) (hl : xs.length ≤ 100000000) (hm : zs.length ≤ 100000000) :
    Calls Tryd.prog 15 #[.int .i64 n, lv, lu] w fun e w' => e = .returned (.bool (ksaB n xs zs)) ∧ Below w.heap.size w w' := by
  have h1 := sp_both n lv lu xs zs S w hx hy (by omega) (by omega)
  have hx2 := Lib.hid hx
  have hy2 := Lib.hid hy
  obtain ⟨a, cap, rfl, _⟩ := id hx
  obtain ⟨b, cbp, rfl, _⟩ := id hy
  clear hx hy
  rcases (by cases (famB n xs && famB n zs) <;> simp : (famB n xs && famB n zs) = true ∨ (famB n xs && famB n zs) = false) with hB | hB
  · have hf : famB n xs = true := by simp at hB; exact hB.1
    have hg : famB n zs = true := by simp at hB; exact hB.2
    rw [hB] at h1
    obtain ⟨n1, n2, _⟩ := famB_all hf
    obtain ⟨p1, p2, _⟩ := pow_nat n1 n2
    obtain ⟨N, hN⟩ : ∃ N, 2 ^ n.toNat = N := ⟨_, rfl⟩
    have hNi : (2 : Int) ^ n.toNat = (N : Int) := by rw [← hN]; simp
    have hb : ksaB n xs zs = kersTo n xs zs N := by unfold ksaB kersB kersTo; rw [hB, Bool.true_and, hN]
    have hset : ∀ k : Nat, k < N → setB n (k : Int) = true := fun k hk => setB_mk ⟨n1, n2, by omega, by omega⟩
    have hk1 := fun (q k : Nat) (hk : k < N) => l9kernel n k _ xs S (w.drewN q) (hx2.out.drewN q) hf (hset k hk)
    have hk2 := fun (q k : Nat) (hk : k < N) => l9kernel n k _ zs S (w.drewN q) (hy2.out.drewN q) hg (hset k hk)
    have hz := kersTo_zero n xs zs
    have hsu := Lib.hid (kersTo_succ n xs zs)
    have hno := Lib.hid (fun k h => kersTo_no (n := n) (xs := xs) (zs := zs) (k := k) (m := N) h)
    rw [hb]
    rw [hN] at p1 p2
    replace hk1 := Lib.hid hk1
    replace hk2 := Lib.hid hk2
    replace h1 := Lib.hid h1
    replace hb := Lib.hid hb
    replace hB := Lib.hid hB
    replace hset := Lib.hid hset
    replace hf := Lib.hid hf
    replace hg := Lib.hid hg
    replace hN := Lib.hid hN
    have hn0 : (0 : Int) ≤ n := by omega
    have hn64 : n < 64 := by omega
    go_enter Tryd.func15, Tryd.ntmps15
    go_wp2_with fail
    refine h1.out.mono ?_
    rintro e w1 ⟨rfl, q, rfl⟩
    go_wp2_with fail
    go_loopw [7] (fun p wr => ∃ k : Nat, k ≤ N ∧ p = .int .i64 k ∧ wr = w.drewN q ∧ Hid (kersTo n xs zs k = true)) (fun p _ => N - (intOf p).toNat)
    case atStart => exact ⟨0, by omega, rfl, rfl, Lib.hid hz⟩
    case round =>
      obtain ⟨k, hk, rfl, rfl, ht⟩ := hrel
      by_cases hlk : k < N
      · have k1 : (0 : Int) ≤ (k : Int) := by omega
        have k2 : (k : Int) < (N : Nat) := by omega
        have c1 := Lib.hid (hk1.out q k hlk)
        have c2 := Lib.hid (hk2.out q k hlk)
        have hsk := Lib.hid (hsu.out k)
        have hnk := Lib.hid (hno.out k)
        obtain ⟨x, hx⟩ : ∃ x, kerI n xs k = x := ⟨_, rfl⟩
        obtain ⟨z, hzz⟩ : ∃ z, kerI n zs k = z := ⟨_, rfl⟩
        rw [hx] at c1 hsk hnk
        rw [hzz] at c2 hsk hnk
        replace hx := Lib.hid hx
        replace hzz := Lib.hid hzz
        rcases (by cases (x == z) <;> simp : (x == z) = true ∨ (x == z) = false) with hxz | hxz
        · have hxn : (x != z) = false := by rw [bne, hxz]; rfl
          rw [hxz, ht.out] at hsk
          have hsk2 := Lib.hid hsk.out
          clear hsk hnk
          replace hxz := Lib.hid hxz
          go_wp2_with fail
          refine c1.out.mono ?_
          rintro e w' ⟨rfl, rfl⟩
          go_wp2_with fail
          refine c2.out.mono ?_
          rintro e w' ⟨rfl, rfl⟩
          go_wp2_with fail
          go_roundw
          case rel => exact ⟨k + 1, by omega, by go_num, by first | rfl | trivial, Lib.hid hsk2.out⟩
          case measure => simp [intOf]; omega
        · have hxn : (x != z) = true := by rw [bne, hxz]; rfl
          have hf9 := Lib.hid (hnk.out hxz (by omega))
          clear hsk hnk
          replace hxz := Lib.hid hxz
          go_wp2_with fail
          refine c1.out.mono ?_
          rintro e w' ⟨rfl, rfl⟩
          go_wp2_with fail
          refine c2.out.mono ?_
          rintro e w' ⟨rfl, rfl⟩
          go_wp2_with fail
          go_ret
          exact ⟨ret_bool hf9.out.symm, below_drewN (Below.refl _ _) _⟩
      · obtain rfl : k = N := by omega
        go_wp2_with fail
        go_ret
        exact ⟨ret_bool ht.out.symm, below_drewN (Below.refl _ _) _⟩
  · have hb : ksaB n xs zs = false := by unfold ksaB; rw [hB, Bool.false_and]
    rw [hB] at h1
    rw [hb]
    replace h1 := Lib.hid h1
    replace hb := Lib.hid hb
    replace hB := Lib.hid hB
    go_enter Tryd.func15, Tryd.ntmps15
    go_wp2_with fail
    refine h1.out.mono ?_
    rintro e w1 ⟨rfl, q, rfl⟩
    go_wp2_with fail
    go_ret
    exact ⟨rfl, below_drewN (Below.refl _ _) _⟩
set_option maxHeartbeats 4000000 in
theorem law_KernelOf (n k : Int) (v : Value) (xs : List Int) (w : World) (hx : Row w w.heap.size v xs) (hl : xs.length ≤ 9223372036854775807) (c : Int) (b : Bool)
    (hi : ∀ (W : World) (u : Value) (S : Nat), Row W S u xs → S ≤ W.heap.size → xs.length ≤ 100000000 → Tab W → Calls Tryd.prog 14 #[.int .i64 n, u, .int .i64 k] W fun e w' => e = .returned (.tuple #[.int .i64 c, .bool b]) ∧ Below W.heap.size W w')
    (hs : ∀ (W : World) (u : Value) (S : Nat), Row W S u xs → S ≤ W.heap.size → xs.length ≤ 100000000 → Calls Tryd.prog 13 #[.int .i64 n, u, .int .i64 k] W fun e w' => e = .returned (.tuple #[.int .i64 c, .bool b]) ∧ Below W.heap.size W w') :
    Tab w → Calls Tryd.prog 4 #[.int .i64 n, v, .int .i64 k] w fun e w' => e = .returned (.bool true) ∧ Below w.heap.size w w' := by
  intro hT
  have hx' := hx
  obtain ⟨a, cap, rfl, _⟩ := hx'
  by_cases hbig : 1048576 < xs.length
  · go_enter Tryd.func4, Tryd.ntmps4
    go_wp2_with fail
    go_ret
    exact ⟨rfl, Below.refl _ _⟩
  · have hl2 : xs.length ≤ 1048576 := by omega
    have hl3 : xs.length ≤ 100000000 := by omega
    have hR := Lib.hid hx
    replace hi := Lib.hid (fun W u S h1 h2 h3 => hi W u S h1 h2 hl3 h3)
    replace hs := Lib.hid (fun W u S h1 h2 => hs W u S h1 h2 hl3)
    have hcc : (c != c) = false := by simp
    have hbb : (b != b) = false := by simp
    have hsamx := Lib.hid (same_self xs)
    clear hx hbig
    go_enter Tryd.func4, Tryd.ntmps4
    go_wp2_with fail
    refine (to_ints _ xs _ _ hR.out (by omega) (Nat.le_refl _)).mono ?_
    rintro e w1 ⟨u, rfl, hu, hb1⟩
    obtain ⟨ua, uc, rfl, _⟩ := id hu
    have z1 := hb1.size
    have c2 := Lib.hid (hs.out _ _ _ hu.row (Nat.le_refl _))
    have hR1 := Lib.hid (hR.out.below hb1 (Nat.le_refl _))
    replace hb1 := Lib.hid hb1
    clear hu hs
    go_wp2_with fail
    refine c2.out.mono ?_
    rintro e w2 ⟨rfl, hb2⟩
    have z2 := hb2.size
    have hR2 := Lib.hid (hR1.out.below hb2 z1)
    replace hb2 := Lib.hid (hb1.out.trans (hb2.mono z1))
    clear c2
    go_wp2_with fail
    refine (to_ints _ xs _ _ hR2.out (by omega) (by omega)).mono ?_
    rintro e w3 ⟨x1, rfl, hX3, hb3⟩
    obtain ⟨xa, xc, rfl, _⟩ := id hX3
    have z3 : w2.heap.size ≤ w3.heap.size := hb3.size
    have c4 := Lib.hid (hi.out _ _ _ hX3.row (Nat.le_refl _) (hT.below (hb2.out.trans (hb3.mono (by omega))) hT.lt))
    have hR3 := Lib.hid (hR2.out.below hb3 (by omega))
    have hX3' := Lib.hid hX3.row
    replace hb3 := Lib.hid (hb2.out.trans (hb3.mono (by omega)))
    clear hX3
    go_wp2_with fail
    refine c4.out.mono ?_
    rintro e w4 ⟨rfl, hb4⟩
    have z4 := hb4.size
    have hR4 := Lib.hid (hR3.out.below hb4 (by omega))
    have hX4 := Lib.hid (hX3'.out.below hb4 (Nat.le_refl _))
    replace hb4 := Lib.hid (hb3.out.trans (hb4.mono (by omega)))
    clear c4
    go_wp2_with fail
    refine (to_ints _ xs _ _ hR4.out (by omega) (by omega)).mono ?_
    rintro e w6 ⟨t, rfl, hT6, hb6⟩
    obtain ⟨ta, tc, rfl, _⟩ := id hT6
    have z6 := hb6.size
    have hX6 := Lib.hid (hX4.out.below hb6 (by omega))
    have hT6' := Lib.hid hT6.row
    replace hb6 := Lib.hid (hb4.out.trans (hb6.mono (by omega)))
    clear hT6
    go_wp2_with fail
    refine (eq_ints _ _ xs xs w6.heap.size _ (hX6.out.mono (by omega)) hT6'.out (by omega) (by omega)).mono ?_
    rintro e w' ⟨rfl, n7, rfl⟩
    rw [hsamx.out]
    go_wp2_with fail
    go_ret
    exact ⟨rfl, below_drewN hb6.out n7⟩
set_option maxHeartbeats 4000000 in
theorem law_KernelSame (n : Int) (v v2 : Value) (xs zs : List Int) (w : World) (hx : Row w w.heap.size v xs) (hy : Row w w.heap.size v2 zs) (hl : xs.length ≤ 9223372036854775807) (hm : zs.length ≤ 9223372036854775807) (b : Bool)
    (hi : ∀ (W : World) (u u2 : Value) (S : Nat), Row W S u xs → Row W S u2 zs → S ≤ W.heap.size → xs.length ≤ 100000000 → zs.length ≤ 100000000 → Tab W → Calls Tryd.prog 16 #[.int .i64 n, u, u2] W fun e w' => e = .returned (.bool b) ∧ Below W.heap.size W w')
    (hs : ∀ (W : World) (u u2 : Value) (S : Nat), Row W S u xs → Row W S u2 zs → S ≤ W.heap.size → xs.length ≤ 100000000 → zs.length ≤ 100000000 → Calls Tryd.prog 15 #[.int .i64 n, u, u2] W fun e w' => e = .returned (.bool b) ∧ Below W.heap.size W w') :
    Tab w → Calls Tryd.prog 5 #[.int .i64 n, v, v2] w fun e w' => e = .returned (.bool true) ∧ Below w.heap.size w w' := by
  intro hT
  have hx' := hx
  obtain ⟨a, cap, rfl, _⟩ := hx'
  have hy' := hy
  obtain ⟨a9, cap9, rfl, _⟩ := hy'
  by_cases hbig : 1048576 < xs.length
  · go_enter Tryd.func5, Tryd.ntmps5
    go_wp2_with fail
    go_ret
    exact ⟨rfl, Below.refl _ _⟩
  by_cases hbig2 : 1048576 < zs.length
  · have hnb : xs.length ≤ 1048576 := by omega
    clear hbig
    go_enter Tryd.func5, Tryd.ntmps5
    go_wp2_with fail
    go_ret
    exact ⟨rfl, Below.refl _ _⟩
  · have hm2 : zs.length ≤ 1048576 := by omega
    have hm3 : zs.length ≤ 100000000 := by omega
    have hl2 : xs.length ≤ 1048576 := by omega
    have hl3 : xs.length ≤ 100000000 := by omega
    have hR := Lib.hid hx
    have hY := Lib.hid hy
    replace hi := Lib.hid (fun W u u2 S h1 h2 h3 h4 => hi W u u2 S h1 h2 h3 hl3 hm3 h4)
    replace hs := Lib.hid (fun W u u2 S h1 h2 h3 => hs W u u2 S h1 h2 h3 hl3 hm3)
    have hbb : (b != b) = false := by simp
    have hsamx := Lib.hid (same_self xs)
    have hsamz := Lib.hid (same_self zs)
    clear hx hy hbig hbig2
    go_enter Tryd.func5, Tryd.ntmps5
    go_wp2_with fail
    refine (to_ints _ xs _ _ hR.out (by omega) (Nat.le_refl _)).mono ?_
    rintro e w1 ⟨u, rfl, hu, hb1⟩
    obtain ⟨ua, uc, rfl, _⟩ := id hu
    have z1 := hb1.size
    have hR1 := Lib.hid (hR.out.below hb1 (Nat.le_refl _))
    have hY1 := Lib.hid (hY.out.below hb1 (Nat.le_refl _))
    have hu1 := Lib.hid hu.row
    replace hb1 := Lib.hid hb1
    clear hu
    go_wp2_with fail
    refine (to_ints _ zs _ _ hY1.out (by omega) (by omega)).mono ?_
    rintro e w1 ⟨u2, rfl, hu, hb1'⟩
    obtain ⟨ub, ud, rfl, _⟩ := id hu
    have z1' := hb1'.size
    have z0 := z1
    replace z1 := Nat.le_trans z1 z1'
    have c2 := Lib.hid (hs.out _ _ _ _ ((hu1.out.below hb1' (Nat.le_refl _)).mono z1') hu.row (Nat.le_refl _))
    replace hR1 := Lib.hid (hR1.out.below hb1' (by omega))
    replace hY1 := Lib.hid (hY1.out.below hb1' (by omega))
    replace hb1 := Lib.hid (hb1.out.trans (hb1'.mono (by omega)))
    clear hu hs hb1' hu1
    go_wp2_with fail
    refine c2.out.mono ?_
    rintro e w2 ⟨rfl, hb2⟩
    have z2 := hb2.size
    have hR2 := Lib.hid (hR1.out.below hb2 z1)
    have hY2 := Lib.hid (hY1.out.below hb2 z1)
    replace hb2 := Lib.hid (hb1.out.trans (hb2.mono z1))
    clear c2
    go_wp2_with fail
    refine (to_ints _ xs _ _ hR2.out (by omega) (by omega)).mono ?_
    rintro e w3 ⟨x1, rfl, hX3, hb3⟩
    obtain ⟨xa, xc, rfl, _⟩ := id hX3
    have z3 : w2.heap.size ≤ w3.heap.size := hb3.size
    have hR3 := Lib.hid (hR2.out.below hb3 (by omega))
    have hY3 := Lib.hid (hY2.out.below hb3 (by omega))
    replace hX3 := Lib.hid hX3.row
    replace hb3 := Lib.hid (hb2.out.trans (hb3.mono (by omega)))
    go_wp2_with fail
    refine (to_ints _ zs _ _ hY3.out (by omega) (by omega)).mono ?_
    rintro e w4 ⟨x2, rfl, hX4, hb4⟩
    obtain ⟨ya, yc, rfl, _⟩ := id hX4
    have z4 : w3.heap.size ≤ w4.heap.size := hb4.size
    have hR4 := Lib.hid (hR3.out.below hb4 (by omega))
    have hY4 := Lib.hid (hY3.out.below hb4 (by omega))
    replace hX3 := Lib.hid ((hX3.out.below hb4 (Nat.le_refl _)).mono z4)
    replace hX4 := Lib.hid hX4.row
    replace hb4 := Lib.hid (hb3.out.trans (hb4.mono (by omega)))
    have c5 := Lib.hid (hi.out _ _ _ _ hX3.out hX4.out (Nat.le_refl _) (hT.below hb4.out hT.lt))
    go_wp2_with fail
    refine c5.out.mono ?_
    rintro e w5 ⟨rfl, hb5⟩
    have z5 := hb5.size
    have hR5 := Lib.hid (hR4.out.below hb5 (by omega))
    have hY5 := Lib.hid (hY4.out.below hb5 (by omega))
    replace hX3 := Lib.hid (hX3.out.below hb5 (Nat.le_refl _))
    replace hX4 := Lib.hid (hX4.out.below hb5 (Nat.le_refl _))
    replace hb5 := Lib.hid (hb4.out.trans (hb5.mono (by omega)))
    clear c5 hi
    go_wp2_with fail
    refine (to_ints _ xs _ _ hR5.out (by omega) (by omega)).mono ?_
    rintro e w6 ⟨t, rfl, hT6, hb6⟩
    obtain ⟨ta, tc, rfl, _⟩ := id hT6
    have z6 : w5.heap.size ≤ w6.heap.size := hb6.size
    have hY6 := Lib.hid (hY5.out.below hb6 (by omega))
    have hX6 := Lib.hid (hX3.out.below hb6 (by omega))
    replace hX4 := Lib.hid (hX4.out.below hb6 (by omega))
    have hT6' := Lib.hid hT6.row
    replace hb6 := Lib.hid (hb5.out.trans (hb6.mono (by omega)))
    clear hT6
    go_wp2_with fail
    refine (eq_ints _ _ xs xs w6.heap.size _ (hX6.out.mono (by omega)) hT6'.out (by omega) (by omega)).mono ?_
    rintro e w' ⟨rfl, n7, rfl⟩
    rw [hsamx.out]
    go_wp2_with fail
    refine (to_ints _ zs _ _ (hY6.out.drewN n7) (by omega) (show w.heap.size ≤ w6.heap.size by omega)).mono ?_
    rintro e w8 ⟨t2, rfl, hT8, hb8⟩
    obtain ⟨tb, td, rfl, _⟩ := id hT8
    have z8 : w6.heap.size ≤ w8.heap.size := hb8.size
    have hX8 := Lib.hid ((hX4.out.drewN n7).below hb8 (show w4.heap.size ≤ w6.heap.size by omega))
    have hT8' := Lib.hid hT8.row
    replace hb8 := Lib.hid ((below_drewN hb6.out n7).trans (hb8.mono (show w.heap.size ≤ w6.heap.size by omega)))
    clear hT8
    go_wp2_with fail
    refine (eq_ints _ _ zs zs w8.heap.size _ (hX8.out.mono (by omega)) hT8'.out (by omega) (by omega)).mono ?_
    rintro e w' ⟨rfl, n9, rfl⟩
    rw [hsamz.out]
    go_wp2_with fail
    go_ret
    exact ⟨rfl, below_drewN hb8.out n9⟩
theorem Law_KernelOf (n s : Int) (v : Value) (xs : List Int) (w : World) (hx : Row w w.heap.size v xs) (hl : xs.length ≤ 9223372036854775807) (hT : Tab w) : Calls Tryd.prog 4 #[.int .i64 n, v, .int .i64 s] w fun e w' => e = .returned (.bool true) ∧ Below w.heap.size w w' :=
  law_KernelOf n s v xs w hx hl _ _ (fun W u S h1 h2 h3 h4 => im_KernelOf n s u xs S W h1 h2 h3 h4) (fun W u S h1 h2 h3 => sp_KernelOf n s u xs S W h1 h2 h3) hT
theorem Law_KernelSame (n : Int) (v v2 : Value) (xs zs : List Int) (w : World) (hx : Row w w.heap.size v xs) (hy : Row w w.heap.size v2 zs) (hl : xs.length ≤ 9223372036854775807) (hm : zs.length ≤ 9223372036854775807) (hT : Tab w) :
    Calls Tryd.prog 5 #[.int .i64 n, v, v2] w fun e w' => e = .returned (.bool true) ∧ Below w.heap.size w w' :=
  law_KernelSame n v v2 xs zs w hx hy hl hm _ (fun W u u2 S h1 h2 h3 h4 h5 h6 => im_KernelSame n u u2 xs zs S W h1 h2 h3 h4 h5 h6) (fun W u u2 S h1 h2 h3 h4 h5 => sp_KernelSame n u u2 xs zs S W h1 h2 h3 h4 h5) hT

end
end Go.Proofs.YtjhjmbiecihjhaaDoor
