/- KernelSame: the program; comparisons of all kernels. -/
import Derived.Test.YtjhjmbiecihjhaaDoorKe4
namespace Go.Proofs.YtjhjmbiecihjhaaDoor
open Go.ChangeShapes Go.WideShapes Go.ChangeAt Go.RowKit Go.Proofs

/-- each set has the same kernel by both. -/
def kersB (n : Int) (xs zs : List Int) : Bool := (List.range (2 ^ n.toNat)).all fun (j : Nat) => kerI n xs j == kerI n zs j
def ksaB (n : Int) (xs zs : List Int) : Bool := (famB n xs && famB n zs) && kersB n xs zs
theorem kers_all {n : Int} {xs zs : List Int} (hf : famB n xs = true) (hg : famB n zs = true) :
    ((List.range 256).all fun i => keptK n xs (upI (2 ^ n.toNat)).reverse i == keptK n zs (upI (2 ^ n.toNat)).reverse i) = kersB n xs zs := by
  obtain ⟨n1, n2, _⟩ := famB_all hf
  have hp : 2 ^ n.toNat ≤ 256 := by
    have : 2 ^ n.toNat ≤ 2 ^ 8 := Nat.pow_le_pow_right (by omega) (by omega)
    omega
  unfold kersB
  rw [Bool.eq_iff_iff, List.all_eq_true, List.all_eq_true]
  constructor
  · intro h j hj
    have h1 := List.mem_range.1 hj
    have h2 := h j (List.mem_range.2 (by omega))
    rw [kept_at hf, kept_at hg, if_pos h1, if_pos h1] at h2
    exact h2
  · intro h j _
    rw [kept_at hf, kept_at hg]
    by_cases h1 : j < 2 ^ n.toNat
    · rw [if_pos h1, if_pos h1]; exact h j (List.mem_range.2 h1)
    · rw [if_neg h1, if_neg h1]; rfl
attribute [local irreducible] arrV
set_option maxRecDepth 100000 in
set_option maxHeartbeats 4000000 in
theorem im_KernelSame (n : Int) (lv lu : Value) (xs zs : List Int) (S : Nat) (w : World) (hx : Row w S lv xs) (hy : Row w S lu zs) (hS : S ≤ w.heap.size) (hl : xs.length ≤ 100000000) (hm : zs.length ≤ 100000000) (hT : Tab w) :
    Calls Tryd.prog 16 #[.int .i64 n, lv, lu] w fun e w' => e = .returned (.bool (ksaB n xs zs)) ∧ Below w.heap.size w w' := by
  have h1 := read_any n lv xs S w hx hS hl
  have h2 := Lib.hid (fun W (h : Row W S lu zs) h2 => read_any n lu zs S W h h2 hm)
  have hy2 := Lib.hid hy
  obtain ⟨a, cap, rfl, _⟩ := id hx
  obtain ⟨b, cbp, rfl, _⟩ := id hy
  clear hx hy
  rcases (by cases famB n xs <;> simp : famB n xs = true ∨ famB n xs = false) with hf | hf
  · rcases (by cases famB n zs <;> simp : famB n zs = true ∨ famB n zs = false) with hg | hg
    · have hka := kers_all hf hg
      have hb : ksaB n xs zs = kersB n xs zs := by unfold ksaB; rw [hf, hg]; rfl
      rw [hb, ← hka]
      obtain ⟨K, hK⟩ : ∃ K, keptK n xs (upI (2 ^ n.toNat)).reverse = K := ⟨_, rfl⟩
      obtain ⟨L, hL⟩ : ∃ L, keptK n zs (upI (2 ^ n.toNat)).reverse = L := ⟨_, rfl⟩
      have hk := Lib.hid (fun v W (h : SRow W W.heap.size v xs) (h2 : Tab W) => hK ▸ kernels_by n v xs W.heap.size W h (Nat.le_refl _) hf h2)
      have hk2 := Lib.hid (fun v W (h : SRow W W.heap.size v zs) (h2 : Tab W) => hL ▸ kernels_by n v zs W.heap.size W h (Nat.le_refl _) hg h2)
      rw [hK, hL]
      have heq := equal_arr K L
      obtain ⟨r, hr⟩ : ∃ r, ((List.range 256).all fun i => K i == L i) = r := ⟨_, rfl⟩
      rw [hr] at heq ⊢
      replace h1 := Lib.hid h1
      replace hb := Lib.hid hb
      replace hf := Lib.hid hf
      replace hg := Lib.hid hg
      replace hK := Lib.hid hK
      replace hL := Lib.hid hL
      replace hr := Lib.hid hr
      clear hka
      go_enter Tryd.func16, Tryd.ntmps16
      go_wp2_with fail
      refine h1.out.mono ?_
      rintro e w1 h
      rcases h with ⟨_, v, rfl, hS1, hb1⟩ | ⟨h, _⟩
      · obtain ⟨a2, c2, rfl⟩ := hS1.form
        have hb3 := hb1.alloc hb1.size (.cells #[.slice a2 xs.length c2, (Value.func (.func 87) #[] #[])] 51)
        have hS2 := SetL.below hS1 ((Below.refl _ _).alloc (Nat.le_refl _) (.cells #[.slice a2 xs.length c2, (Value.func (.func 87) #[] #[])] 51)) (Nat.le_refl _)
        replace hb3 := Lib.hid hb3
        replace hS2 := Lib.hid hS2
        have hyy := Lib.hid (hy2.out.below hb1 hS)
        have hz9 := hb1.size
        clear hS1 hb1
        go_wp2_with fail
        have z1 : (w1.alloc (.cells #[.slice a2 xs.length c2, (Value.func (.func 87) #[] #[])] 51)).heap.size = w1.heap.size + 1 := by simp
        refine (h2.out _ (hyy.out.below ((Below.refl _ _).alloc (Nat.le_refl _) _) (by omega)) (by rw [z1]; omega)).mono ?_
        rintro e w2 h
        rcases h with ⟨_, v, rfl, hS4, hb4⟩ | ⟨h, _⟩
        · obtain ⟨a4, c4, rfl⟩ := hS4.form
          have z4 := hb4.size
          have z5 := hb3.out.size
          obtain ⟨W1, hW1⟩ : ∃ W1, w2.alloc (.cells #[.slice a4 zs.length c4, (Value.func (.func 87) #[] #[])] 51) = W1 := ⟨_, rfl⟩
          have hal : Below w2.heap.size w2 (w2.alloc (.cells #[.slice a4 zs.length c4, (Value.func (.func 87) #[] #[])] 51)) := (Below.refl _ _).alloc (Nat.le_refl _) _
          have hbw := (hb3.out.trans (hb4.mono z5)).alloc (by omega) (.cells #[.slice a4 zs.length c4, (Value.func (.func 87) #[] #[])] 51)
          have hS5 := SetL.below hS4 hal (Nat.le_refl _)
          have hS6 := SetL.below (SetL.below hS2.out hb4 (Nat.le_refl _)) hal (Nat.le_refl _)
          have hc1 := heap_alloc_new w1 (.cells #[.slice a2 xs.length c2, (Value.func (.func 87) #[] #[])] 51 (0, 0))
          have hc2 := heap_alloc_new w2 (.cells #[.slice a4 zs.length c4, (Value.func (.func 87) #[] #[])] 51 (0, 0))
          have hs1 : W1.heap.size = w2.heap.size + 1 := by rw [← hW1]; simp
          rw [← hb4.block _ (by rw [z1]; omega)] at hc1
          rw [← hal.block _ (by omega)] at hc1
          rw [hW1] at hbw hS5 hS6 hc1 hc2
          have hlt1 : w1.heap.size < W1.heap.size := by omega
          have hlt2 : w2.heap.size < W1.heap.size := by omega
          obtain ⟨l0, l1⟩ := pair_cells hc1 (Below.refl W1.heap.size W1) hlt1
          obtain ⟨l2, l3⟩ := pair_cells hc2 (Below.refl W1.heap.size W1) hlt2
          have hbd : Below W1.heap.size W1 W1.drew := (Below.refl _ W1).drew
          have hle0 : w.heap.size ≤ W1.heap.size := by omega
          have hk1 : Calls Tryd.prog 33 #[.int .i64 n, .agg #[.slice a2 xs.length c2, (Value.func (.func 87) #[] #[])]] W1.drew fun e w' => e = .returned (.agg (arrV K)) ∧ Below W1.heap.size W1.drew w' := hk.out _ _ (SetL.row (SetL.below hS6 hbd (Nat.le_refl _))) (hT.below (hbw.trans (hbd.mono hle0)) hT.lt)
          have hk3 : ∀ W, Below W1.heap.size W1.drew W → Calls Tryd.prog 33 #[.int .i64 n, .agg #[.slice a4 zs.length c4, (Value.func (.func 87) #[] #[])]] W fun e w' => e = .returned (.agg (arrV L)) ∧ Below W1.heap.size W w' := fun W h => by
            have h9 := hbd.trans h
            exact (hk2.out _ _ (SetL.row (SetL.below hS5 h9 (Nat.le_refl _))) (hT.below (hbw.trans (h9.mono hle0)) hT.lt)).mono (fun _ _ h => ⟨h.1, h.2.mono (h9.size)⟩)
          have hcs : ∀ W, Below W1.heap.size W1.drew W → W.cell? ⟨w2.heap.size, 0, none⟩ = some (.slice a4 zs.length c4) ∧ W.cell? ⟨w2.heap.size, 1, none⟩ = some (Value.func (.func 87) #[] #[]) := fun W h => pair_cells hc2 (hbd.trans h) hlt2
          have hfin : ∀ W, Below W1.heap.size W1.drew W → Below w.heap.size w W := fun W h => hbw.trans ((hbd.trans h).mono hle0)
          replace hk1 := Lib.hid hk1
          replace hk3 := Lib.hid hk3
          replace hcs := Lib.hid hcs
          replace hfin := Lib.hid hfin
          replace hW1 := Lib.hid hW1
          clear hS4 hb4 hS2 hb3 hyy hk hk2 h1 h2 hbw hS5 hS6 hc1 hc2 hbd hal
          go_wp2_with fail
          rw [hW1.out]
          go_region_with (first
            | (go_at_call 33; ((with_reducible refine hk1.out.mono ?_)); rintro e w3 ⟨rfl, hb6⟩; obtain ⟨q0, q1⟩ := hcs.out _ hb6)
            | (go_at_call 33; refine (hk3.out _ (by assumption)).mono ?_; rintro e w4 ⟨rfl, hb8⟩))
          all_goals
            go_wp2_with fail
            go_ret
            exact ⟨rfl, hfin.out _ (Below.trans (by assumption) (by assumption))⟩
        · rw [hg.out] at h; cases h
      · rw [hf.out] at h; cases h
    · have hb : ksaB n xs zs = false := by unfold ksaB; rw [hf, hg]; rfl
      rw [hb]
      replace h1 := Lib.hid h1
      replace hb := Lib.hid hb
      replace hf := Lib.hid hf
      replace hg := Lib.hid hg
      go_enter Tryd.func16, Tryd.ntmps16
      go_wp2_with fail
      refine h1.out.mono ?_
      rintro e w1 h
      rcases h with ⟨_, v, rfl, hS1, hb1⟩ | ⟨h, _⟩
      · obtain ⟨a2, c2, rfl⟩ := hS1.form
        have hb3 := hb1.alloc hb1.size (.cells #[.slice a2 xs.length c2, (Value.func (.func 87) #[] #[])] 51)
        replace hb3 := Lib.hid hb3
        have hyy := Lib.hid (hy2.out.below hb1 hS)
        have hz9 := hb1.size
        clear hS1 hb1
        go_wp2_with fail
        have z1 : (w1.alloc (.cells #[.slice a2 xs.length c2, (Value.func (.func 87) #[] #[])] 51)).heap.size = w1.heap.size + 1 := by simp
        refine (h2.out _ (hyy.out.below ((Below.refl _ _).alloc (Nat.le_refl _) _) (by omega)) (by rw [z1]; omega)).mono ?_
        rintro e w2 h
        rcases h with ⟨h, _⟩ | ⟨_, rfl, hb4⟩
        · rw [hg.out] at h; cases h
        · have hb5 := Lib.hid ((hb3.out.trans (hb4.mono (hb3.out.size))).alloc (by have := hb3.out.size; have := hb4.size; omega) (.cells #[.slice none 0 0, .nilFunc] 51))
          clear hb4 hb3 hyy
          go_wp2_with fail
          go_region
          all_goals
            go_wp2_with fail
            go_ret
            exact ⟨rfl, hb5.out.drew⟩
      · rw [hf.out] at h; cases h
  · have hb : ksaB n xs zs = false := by unfold ksaB; rw [hf]; rfl
    rw [hb]
    replace h1 := Lib.hid h1
    replace hb := Lib.hid hb
    replace hf := Lib.hid hf
    go_enter Tryd.func16, Tryd.ntmps16
    go_wp2_with fail
    refine h1.out.mono ?_
    rintro e w1 h
    rcases h with ⟨h, _⟩ | ⟨_, rfl, hb1⟩
    · rw [hf.out] at h; cases h
    · have hb3 := Lib.hid (hb1.alloc hb1.size (.cells #[.slice none 0 0, .nilFunc] 51))
      have hyy := Lib.hid (hy2.out.below hb1 hS)
      have z1 : (w1.alloc (.cells #[.slice none 0 0, .nilFunc] 51)).heap.size = w1.heap.size + 1 := by simp
      have hz := hb1.size
      clear hb1
      go_wp2_with fail
      refine (h2.out _ (hyy.out.below ((Below.refl _ _).alloc (Nat.le_refl _) _) (by omega)) (by rw [z1]; omega)).mono ?_
      rintro e w2 h
      rcases h with ⟨_, v, rfl, hS4, hb4⟩ | ⟨_, rfl, hb4⟩
      · obtain ⟨a4, c4, rfl⟩ := hS4.form
        have hb5 := Lib.hid ((hb3.out.trans (hb4.mono (hb3.out.size))).alloc (by have := hb3.out.size; have := hb4.size; omega) (.cells #[.slice a4 zs.length c4, (Value.func (.func 87) #[] #[])] 51))
        clear hb4 hb3 hyy hS4
        go_wp2_with fail
        go_region
        all_goals
          go_wp2_with fail
          go_ret
          exact ⟨rfl, hb5.out.drew⟩
      · have hb5 := Lib.hid ((hb3.out.trans (hb4.mono (hb3.out.size))).alloc (by have := hb3.out.size; have := hb4.size; omega) (.cells #[.slice none 0 0, .nilFunc] 51))
        clear hb4 hb3 hyy
        go_wp2_with fail
        go_region
        all_goals
          go_wp2_with fail
          go_ret
          exact ⟨rfl, hb5.out.drew⟩
end Go.Proofs.YtjhjmbiecihjhaaDoor
