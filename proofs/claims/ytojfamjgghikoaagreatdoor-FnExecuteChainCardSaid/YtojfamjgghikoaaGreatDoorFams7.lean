/- What is made of one family or of two, read from lists. -/
import Derived.Test.YtojfamjgghikoaaGreatDoorFams6
namespace Go.Proofs.YtojfamjgghikoaaGreatDoor
open Go.ChangeShapes Go.WideShapes Go.ChangeAt Go.RowKit Go.Proofs

/-- the function value g, bound to cs, makes ys of the family xs. -/
def FamMap (g : Nat) (cs : Array Value) (xs ys : List Int) (w : World) : Prop :=
  ∀ (W : World) (lv : Value), Below w.heap.size w W → SRow W W.heap.size lv xs → Calls Tryz.prog g (#[.agg #[lv, (Value.func (.func 188) #[] #[])]] ++ cs) W (FamPost W ys)
/-- the function value g makes ys of two families. -/
def FamMap2 (g : Nat) (cs : Array Value) (xs zs ys : List Int) (w : World) : Prop :=
  ∀ (W : World) (lv lu : Value), Below w.heap.size w W → SRow W W.heap.size lv xs → SRow W W.heap.size lu zs → Calls Tryz.prog g (#[.agg #[lv, (Value.func (.func 188) #[] #[])], .agg #[lu, (Value.func (.func 188) #[] #[])]] ++ cs) W (FamPost W ys)
/-- the list if the bool holds. -/
def ifL (b : Bool) (ys : List Int) : List Int := if b then ys else []
theorem own_empty (w : World) (B S g c : Nat) : Own w B S (.slice (some ⟨g, 0, none⟩) 0 c) [] := ⟨_, c, rfl, fun h => by simp at h⟩
set_option maxHeartbeats 2000000 in
theorem made_one (g : Nat) (eg : EntersG g) (cs : Array Value) (n : Int) (lv : Value) (xs ys : List Int) (S : Nat) (w : World) (hx : Row w S lv xs) (hS : S ≤ w.heap.size) (hl : xs.length ≤ 100000000)
    (hF : famB n xs = true → FamMap g cs xs ys w ∧ (∀ z ∈ ys, 0 ≤ z ∧ z < 256) ∧ ys.length ≤ 1000) :
    Calls Tryz.prog 208 #[.int .i64 n, lv, .func (.func g) #[] cs] w (ListPost (ifL (famB n xs) ys) (famB n xs) w) := by
  have eg1 : ∀ args w, (callFunc g args).run Tryz.prog w = .ok (.enter g args) w := eg
  have hr := Lib.hid (read_any n lv xs S w hx hS hl)
  obtain ⟨la, lc, rfl, _⟩ := id hx
  replace hF := Lib.hid hF
  clear hx
  go_enter Tryz.func208, Tryz.ntmps208
  go_wp2_with fail
  refine hr.out.mono ?_
  rintro e w1 (⟨hf, v, rfl, hS1, hb1⟩ | ⟨hf, rfl, hb1⟩)
  · obtain ⟨a', c', rfl⟩ := hS1.form
    have hz1 := hb1.size
    obtain ⟨hM, hzz, hlen⟩ := hF.out hf
    have hb2 := hb1.alloc hz1 (.cells #[.slice a' xs.length c', (Value.func (.func 188) #[] #[])] 64)
    have hS2 := hS1.alloc (.cells #[.slice a' xs.length c', (Value.func (.func 188) #[] #[])] 64)
    have hm := Lib.hid (hM _ _ hb2 hS2.row)
    have hL := Lib.hid (show ys = ifL (famB n xs) ys by unfold ifL; rw [if_pos hf])
    replace hf := Lib.hid hf.symm
    replace hb2 := Lib.hid hb2
    replace hzz := Lib.hid hzz
    clear hr hS1 hb1 hS2 hM hF
    go_wp2_with fail
    refine hm.out.mono ?_
    rintro e w2 ⟨u, rfl, hS3, hb3⟩
    obtain ⟨a3, c3, rfl⟩ := hS3.form
    have hnum := Lib.hid (numbers_at _ _ _ _ hS3.row (Nat.le_refl _) (by omega) hzz.out)
    rw [World.size_alloc] at hb3
    have hz3 := hb3.size
    rw [World.size_alloc] at hz3
    replace hb3 := Lib.hid (hb2.out.trans (hb3.mono (by omega)))
    clear hS3
    go_wp2_with fail
    refine hnum.out.mono ?_
    rintro e w3 ⟨t, rfl, hO, hb4⟩
    obtain ⟨ua, uc, rfl, _⟩ := id hO
    replace hb4 := Lib.hid (hb3.out.trans (hb4.mono (by omega)))
    replace hO := Lib.hid (hO.mono (show w.heap.size ≤ w2.heap.size by omega) (Nat.le_refl _))
    go_wp2_with fail
    go_ret2
    exact ⟨_, ret_vb hf.out, hL.out ▸ hO.out, hb4.out⟩
  · have hz1 := hb1.size
    have hL := Lib.hid (show [] = ifL (famB n xs) ys by unfold ifL; rw [hf]; rfl)
    replace hf := Lib.hid hf.symm
    replace hb1 := Lib.hid hb1
    clear hr hF
    go_wp2_with fail
    go_ret2
    exact ⟨_, ret_vb hf.out, hL.out ▸ own_empty _ _ _ _ _, (hb1.out.alloc hz1 _).alloc (by simp; omega) _⟩
set_option maxHeartbeats 4000000 in
theorem made_two (g : Nat) (eg : EntersG g) (cs : Array Value) (n : Int) (lv lu : Value) (xs zs ys : List Int) (S : Nat) (w : World) (hx : Row w S lv xs) (hy : Row w S lu zs) (hS : S ≤ w.heap.size) (hl : xs.length ≤ 100000000) (hl2 : zs.length ≤ 100000000)
    (hF : famB n xs = true → famB n zs = true → FamMap2 g cs xs zs ys w ∧ (∀ z ∈ ys, 0 ≤ z ∧ z < 256) ∧ ys.length ≤ 1000) :
    Calls Tryz.prog 200 #[.int .i64 n, lv, lu, .func (.func g) #[] cs] w (ListPost (ifL (famB n xs && famB n zs) ys) (famB n xs && famB n zs) w) := by
  have eg1 : ∀ args w, (callFunc g args).run Tryz.prog w = .ok (.enter g args) w := eg
  have hr := Lib.hid (read_any n lv xs S w hx hS hl)
  obtain ⟨la, lc, rfl, _⟩ := id hx
  obtain ⟨lb, ld, rfl, _⟩ := id hy
  have hR2 := Lib.hid hy
  replace hF := Lib.hid hF
  clear hx hy
  go_enter Tryz.func200, Tryz.ntmps200
  go_wp2_with fail
  refine hr.out.mono ?_
  rintro e w1 (⟨hf, v, rfl, hS1, hb1⟩ | ⟨hf, rfl, hb1⟩)
  · obtain ⟨a', c', rfl⟩ := hS1.form
    have hz1 := hb1.size
    have hb2 := hb1.alloc hz1 (.cells #[.slice a' xs.length c', (Value.func (.func 188) #[] #[])] 64)
    have hS2 := hS1.alloc (.cells #[.slice a' xs.length c', (Value.func (.func 188) #[] #[])] 64)
    have hr2 := Lib.hid (read_any n _ zs _ _ (hR2.out.below hb2 hS) (by simp; omega) hl2)
    replace hb2 := Lib.hid hb2
    replace hS2 := Lib.hid hS2
    replace hf := Lib.hid hf
    clear hr hS1 hb1 hR2
    go_wp2_with fail
    refine hr2.out.mono ?_
    rintro e w2 (⟨hf2, v, rfl, hS3, hb3⟩ | ⟨hf2, rfl, hb3⟩)
    · obtain ⟨a3, c3, rfl⟩ := hS3.form
      have hz3 := hb3.size
      have hS2' := hS2.out.below hb3 (Nat.le_refl _)
      obtain ⟨hM, hzz, hlen⟩ := hF.out hf.out hf2
      have l01 := pair_cells (new_cell w1 #[.slice a' xs.length c', (Value.func (.func 188) #[] #[])] 64) hb3 (by simp)
      rw [World.size_alloc] at hb3 hz3
      have hb4 := hb2.out.trans (hb3.mono (show w.heap.size ≤ w1.heap.size + 1 by omega))
      have hb5 := hb4.alloc (by omega) (.cells #[.slice a3 zs.length c3, (Value.func (.func 188) #[] #[])] 64)
      have hS4 := hS3.alloc (.cells #[.slice a3 zs.length c3, (Value.func (.func 188) #[] #[])] 64)
      have hS5 := hS2'.alloc (.cells #[.slice a3 zs.length c3, (Value.func (.func 188) #[] #[])] 64)
      have hm := Lib.hid (hM _ _ _ hb5 hS5.row hS4.row)
      obtain ⟨l0, l1⟩ := l01
      have hlt0 : w1.heap.size < w2.heap.size := by omega
      have hL := Lib.hid (show ys = ifL (famB n xs && famB n zs) ys by unfold ifL; rw [hf.out, hf2]; rfl)
      have hff := Lib.hid (show true = (famB n xs && famB n zs) by rw [hf.out, hf2]; rfl)
      replace hb5 := Lib.hid hb5
      replace hzz := Lib.hid hzz
      clear hr2 hS3 hb3 hS2' hS4 hS5 hM hF hb4 hf2
      go_wp2_with fail
      refine hm.out.mono ?_
      rintro e w4 ⟨u, rfl, hS6, hb6⟩
      obtain ⟨a6, c6, rfl⟩ := hS6.form
      have hnum := Lib.hid (numbers_at _ _ _ _ hS6.row (Nat.le_refl _) (by omega) hzz.out)
      rw [World.size_alloc] at hb6
      have hz6 := hb6.size
      rw [World.size_alloc] at hz6
      replace hb6 := Lib.hid (hb5.out.trans (hb6.mono (by omega)))
      clear hS6
      go_wp2_with fail
      refine hnum.out.mono ?_
      rintro e w5 ⟨t, rfl, hO, hb7⟩
      obtain ⟨ua, uc, rfl, _⟩ := id hO
      replace hb7 := Lib.hid (hb6.out.trans (hb7.mono (by omega)))
      replace hO := Lib.hid (hO.mono (show w.heap.size ≤ w4.heap.size by omega) (Nat.le_refl _))
      go_wp2_with fail
      go_ret2
      exact ⟨_, ret_vb hff.out, hL.out ▸ hO.out, hb7.out⟩
    · have hz3 := hb3.size
      rw [World.size_alloc] at hb3 hz3
      have hL := Lib.hid (show [] = ifL (famB n xs && famB n zs) ys by unfold ifL; rw [hf2, Bool.and_false]; rfl)
      have hff := Lib.hid (show false = (famB n xs && famB n zs) by rw [hf2, Bool.and_false])
      replace hb3 := Lib.hid (hb2.out.trans (hb3.mono (show w.heap.size ≤ w1.heap.size + 1 by omega)))
      clear hr2 hF hf2
      go_wp2_with fail
      go_ret2
      exact ⟨_, ret_vb hff.out, hL.out ▸ own_empty _ _ _ _ _, (hb3.out.alloc (by omega) _).alloc (by simp; omega) _⟩
  · have hz1 := hb1.size
    have hb2 := hb1.alloc hz1 (.cells #[.slice none 0 0, .nilFunc] 64)
    have hr2 := Lib.hid (read_any n _ zs _ _ (hR2.out.below hb2 hS) (by simp; omega) hl2)
    have hL := Lib.hid (show [] = ifL (famB n xs && famB n zs) ys by unfold ifL; rw [hf, Bool.false_and]; rfl)
    have hff := Lib.hid (show false = (famB n xs && famB n zs) by rw [hf, Bool.false_and])
    replace hb2 := Lib.hid hb2
    clear hr hb1 hR2 hF hf
    go_wp2_with fail
    refine hr2.out.mono ?_
    rintro e w2 (⟨hf2, v, rfl, hS3, hb3⟩ | ⟨hf2, rfl, hb3⟩)
    · obtain ⟨a3, c3, rfl⟩ := hS3.form
      have hz3 := hb3.size
      rw [World.size_alloc] at hb3 hz3
      replace hb3 := Lib.hid (hb2.out.trans (hb3.mono (show w.heap.size ≤ w1.heap.size + 1 by omega)))
      clear hr2 hf2 hS3
      go_wp2_with fail
      go_ret2
      exact ⟨_, ret_vb hff.out, hL.out ▸ own_empty _ _ _ _ _, (hb3.out.alloc (by omega) _).alloc (by simp; omega) _⟩
    · have hz3 := hb3.size
      rw [World.size_alloc] at hb3 hz3
      replace hb3 := Lib.hid (hb2.out.trans (hb3.mono (show w.heap.size ≤ w1.heap.size + 1 by omega)))
      clear hr2 hf2
      go_wp2_with fail
      go_ret2
      exact ⟨_, ret_vb hff.out, hL.out ▸ own_empty _ _ _ _ _, (hb3.out.alloc (by omega) _).alloc (by simp; omega) _⟩
end Go.Proofs.YtojfamjgghikoaaGreatDoor
