/- Scripts: the law's way of writing lists. -/
import Derived.Test.YtojfamjgghikoaaGreatDoorEx10
namespace Go.Proofs.YtojfamjgghikoaaGreatDoor
open Go.ChangeShapes Go.WideShapes Go.ChangeAt Go.RowKit Go.Proofs Go.Shelf

/-- the first k numbers as they are written. -/
def spK (xs : List Int) (k : Nat) : List UInt8 := Lib.join ((xs.take k).map fun x => Lib.decDigits x.toNat) [32]
theorem spK_one (xs : List Int) (h : 0 < xs.length) : spK xs 1 = Lib.decDigits (xs.getD 0 0).toNat := by
  cases xs with
  | nil => simp at h
  | cons y r => simp [spK, Lib.join_one]
theorem spK_succ (xs : List Int) (k : Nat) (h : k + 1 < xs.length) : spK xs (k + 2) = (spK xs (k + 1) ++ [32]) ++ Lib.decDigits (xs.getD (k + 1) 0).toNat := by
  cases xs with
  | nil => simp at h
  | cons y r =>
    have hk : k < r.length := by simpa using h
    have hg : (r.map fun x => Lib.decDigits x.toNat)[k]? = some (Lib.decDigits (r.getD k 0).toNat) := by
      rw [List.getElem?_map, List.getElem?_eq_getElem hk]
      simp [List.getD, List.getElem?_eq_getElem hk]
    have e1 := Lib.joinTail_take_succ [32] (r.map fun x => Lib.decDigits x.toNat) k _ hg
    unfold spK
    rw [List.take_succ_cons, List.take_succ_cons, List.map_cons, List.map_cons, Lib.join_cons, Lib.join_cons, List.map_take, List.map_take, e1]
    have e2 : (y :: r).getD (k + 1) 0 = r.getD k 0 := rfl
    rw [e2]
    simp only [List.append_assoc]
theorem spK_full (xs : List Int) (h : 0 < xs.length) : spK xs xs.length = spB xs := by
  unfold spK spB
  rw [List.take_length, if_neg (by omega)]
theorem spB_ne (xs : List Int) (h : 0 < xs.length) : spB xs ≠ [] := by
  unfold spB
  rw [if_neg (by omega)]
  cases xs with
  | nil => simp at h
  | cons y r =>
    rw [List.map_cons, Lib.join_cons]
    intro e
    have := (List.append_eq_nil_iff.1 e).1
    rw [Lib.decDigits] at this
    split at this <;> simp at this
/-- the text of the first k numbers. -/
def spT (xs : List Int) (k : Nat) : ByteArray := ⟨(spK xs k).toArray⟩
theorem spT_zero (xs : List Int) : spT xs 0 = ⟨#[]⟩ := rfl
theorem spT_one (xs : List Int) (h : 0 < xs.length) : (⟨#[]⟩ : ByteArray) ++ ⟨(Lib.decDigits (xs.getD 0 0).toNat).toArray⟩ = spT xs 1 := by
  unfold spT; rw [spK_one xs h]; apply ByteArray.ext; simp
theorem spT_succ (xs : List Int) (k : Nat) (h : k + 1 < xs.length) : spT xs (k + 1) ++ ⟨#[32]⟩ ++ ⟨(Lib.decDigits (xs.getD (k + 1) 0).toNat).toArray⟩ = spT xs (k + 2) := by
  unfold spT; rw [spK_succ xs k h]; apply ByteArray.ext; simp
theorem spT_len (xs : List Int) (k : Nat) (hx : ∀ x ∈ xs, 0 ≤ x ∧ x < 100) (hl : xs.length ≤ 300) : (spT xs k).size ≤ 900 := by
  have h := join_le (xs.take k) (fun x h => hx x (List.mem_of_mem_take h))
  have h2 : (xs.take k).length ≤ xs.length := by rw [List.length_take]; omega
  show (spK xs k).toArray.size ≤ 900
  rw [List.size_toArray]
  unfold spK
  omega
set_option maxRecDepth 100000 in
set_option maxHeartbeats 4000000 in
theorem law_spaced (v : Value) (xs : List Int) (B : Nat) (w : World) (hR : Row w B v xs) (hB : B ≤ w.heap.size) (hx : ∀ x ∈ xs, 0 ≤ x ∧ x < 100) (hl : xs.length ≤ 300) :
    Calls Tryz.prog 19 #[v] w fun e w' => e = .returned (.string ⟨(spB xs).toArray⟩) ∧ Below w.heap.size w w' := by
  obtain ⟨a, c, rfl, _⟩ := id hR
  have hRh := Lib.hid hR
  clear hR
  replace hx := Lib.hid hx
  have hfull := Lib.hid (fun h => spK_full xs h)
  go_enter Tryz.func19, Tryz.ntmps19
  go_wp2_with fail
  go_loopw [3, 4] (fun o i wr => ∃ k : Nat, k ≤ xs.length ∧ i = .int .i64 k ∧ o = .string (spT xs k) ∧ Hid (Below w.heap.size w wr)) (fun _ i _ => xs.length - (intOf i).toNat)
  case atStart => exact ⟨0, by omega, rfl, rfl, Lib.hid (Below.refl _ _)⟩
  case round =>
  obtain ⟨k, hk, rfl, rfl, hb⟩ := hrel
  by_cases hlt : k < xs.length
  · obtain ⟨_, _, e', hcell⟩ := hRh.out.below hb.out hB
    injection e' with q1 q2 q3
    subst q1 q3
    obtain ⟨b1, o1, rfl, t2, c1⟩ := hcell (by omega)
    clear hcell
    have k1 : (0 : Int) ≤ (k : Int) := by omega
    have k2 : (k : Int) < (xs.length : Nat) := by omega
    have e1 := c1 k hlt
    obtain ⟨x, hxk⟩ : ∃ x, xs.getD k 0 = x := ⟨_, rfl⟩
    rw [hxk] at e1
    obtain ⟨x1, x2⟩ := hx.out x (by rw [← hxk]; exact getD_mem hlt)
    obtain ⟨u, rfl⟩ : ∃ u : Nat, x = (u : Int) := ⟨x.toNat, by omega⟩
    have hd := Lib.hid (fun W => law_digits u W (by omega))
    obtain ⟨D, hD⟩ : ∃ D : ByteArray, (⟨(Lib.decDigits u).toArray⟩ : ByteArray) = D := ⟨_, rfl⟩
    have hDs : D.size ≤ 2 := by
      rw [← hD]
      show (Lib.decDigits u).toArray.size ≤ 2
      rw [List.size_toArray]
      exact dec_len (by omega)
    have hSs := spT_len xs k hx.out hl
    rw [hD] at hd
    replace hxk := Lib.hid hxk
    clear c1
    rcases Nat.eq_zero_or_pos k with rfl | kp
    · have hs := spT_one xs hlt
      rw [hxk.out, Int.toNat_natCast, hD] at hs
      replace hD := Lib.hid hD
      rw [spT_zero]
      replace e1 : wr.cell? ⟨b1, o1, none⟩ = some (.int .i64 u) := by simpa using e1
      clear hSs
      go_wp2_with fail
      refine (hd.out _).mono ?_
      rintro e w' ⟨rfl, hbw⟩
      replace hb := Lib.hid (hb.out.trans (hbw.mono hb.out.size))
      clear hbw
      go_wp2_with fail
      go_roundw
      case rel => exact ⟨1, by omega, by go_num, by rw [← hs], hb⟩
      case measure => simp [intOf]; omega
    · obtain ⟨j, rfl⟩ : ∃ j, k = j + 1 := ⟨k - 1, by omega⟩
      have hs := spT_succ xs j hlt
      rw [hxk.out, Int.toNat_natCast, hD] at hs
      replace hD := Lib.hid hD
      have kp2 : ¬ ((j + 1 : Nat) : Int) ≤ 0 := by omega
      obtain ⟨S, hS⟩ : ∃ S, spT xs (j + 1) = S := ⟨_, rfl⟩
      rw [hS] at hs hSs ⊢
      have hS1 : (S ++ ⟨#[32]⟩ : ByteArray).size ≤ 901 := by rw [ByteArray.size_append]; show S.size + 1 ≤ 901; omega
      replace hS := Lib.hid hS
      replace hs := Lib.hid hs
      go_wp2_with fail
      refine (hd.out _).mono ?_
      rintro e w' ⟨rfl, hbw⟩
      replace hb := Lib.hid (hb.out.trans (hbw.mono hb.out.size))
      clear hbw
      go_wp2_with fail
      go_roundw
      case rel => exact ⟨j + 2, by omega, by go_num, by rw [hs.out], hb⟩
      case measure => simp [intOf]; omega
  obtain rfl : k = xs.length := by omega
  by_cases h0 : xs.length = 0
  · have hT : spT xs xs.length = ⟨#[]⟩ := by rw [h0]; rfl
    have hB0 : spB xs = [45] := by unfold spB; rw [if_pos h0]
    rw [hT]
    replace hB0 := Lib.hid hB0
    replace h0 := Lib.hid h0
    go_wp2_with fail
    go_ret
    exact ⟨by rw [hB0.out]; rfl, hb.out⟩
  · have hT : spT xs xs.length = ⟨(spB xs).toArray⟩ := by unfold spT; rw [hfull.out (by omega)]
    have hn := spB_ne xs (by omega)
    rw [hT]
    obtain ⟨S, hS⟩ : ∃ S : ByteArray, (⟨(spB xs).toArray⟩ : ByteArray) = S := ⟨_, rfl⟩
    have hne : S ≠ ⟨#[]⟩ := by
      rw [← hS]; intro e
      injection e with e
      exact hn (by simpa using e)
    have hne2 : ¬ S = ⟨#[]⟩ := hne
    have hne3 : S.toList.isEmpty = false := by
      rw [← hS, ByteArray.toList_mk]
      cases hE : spB xs with
      | nil => exact absurd hE hn
      | cons y r => rfl
    rw [hS]
    replace hS := Lib.hid hS
    replace hT := Lib.hid hT
    replace hn := Lib.hid hn
    replace hne := Lib.hid hne
    replace h0 := Lib.hid h0
    go_wp2_with fail
    go_ret
    exact ⟨by rw [hS.out]; rfl, hb.out⟩
end Go.Proofs.YtojfamjgghikoaaGreatDoor
