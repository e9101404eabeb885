/- FnSetOf: the order of points does not matter. -/
import Derived.Test.YtgimceanhmhgkaaDraw
import Derived.Test.YtgimceanhmhgkaaLawsF
namespace Go.Proofs.Ytgimceanhmhgkaa
open Go.ChangeShapes Go.WideShapes Go.ChangeAt Go.RowKit

/-- what a draw of a number and a list of numbers gives. -/
def DrawnList (N : Nat) (w : World) (e : Ending) (w' : World) : Prop := ∃ n u xs, e = .returned (.tuple #[.int .i64 n, u]) ∧ drawnPts n ∧ xs.length ≤ N ∧ Own w' w.heap.size w'.heap.size u xs ∧ Below w.heap.size w w'
set_option maxRecDepth 100000 in
theorem draw_SetOf (v : Value) (a : Option Addr) (len cap : Nat) (w : World) (hv : v = .slice a len cap) (hc : len ≤ cap) (hcap : cap ≤ 9223372036854775807) (hB : Bytes w w.heap.size a len) :
    Calls Try.prog 13 #[v] w (DrawnList 6 w) := by
  have h0 := Lib.hid (rd_open v a len cap w hv hc hcap hB)
  clear hv hc hcap hB
  go_enter Try.func13, Try.ntmps13
  go_wp2_with fail
  refine (h0.out).mono ?_
  rintro e w0 ⟨r, rfl, hr, hR0, hb0, hz0⟩
  replace hr := Lib.hid hr
  replace hz0 := Lib.hid hz0
  have hR0 := Lib.hid hR0
  have hb0 := Lib.hid hb0
  go_wp2_with fail
  refine (rd_points r _ 0 w0 hR0.out (by omega) (by omega)).mono ?_
  rintro e w1 ⟨n, rfl, hn, hR1, hO1⟩
  have hn := Lib.hid hn
  have hn1 : 0 ≤ n ∧ n ≤ 9 := by have := hn.out; unfold drawnPts at this; omega
  obtain ⟨hn1, hn2⟩ := hn1
  have hR1 := Lib.hid hR1
  have hb1 := Lib.hid (hO1.below hb0.out (by rw [hr.out]; exact Nat.le_refl _) hb0.out.size)
  have s1 := Lib.hid (show r < w1.heap.size from hR1.out.lt)
  go_wp2_with fail
  refine (rd_pick r _ (0 + 2) 6 _ (hR1.out.alloc _) (by omega) (by omega) (by omega)).mono ?_
  rintro e w2 ⟨m, rfl, ⟨m1, m2, m3, m4⟩, hR2, hO2⟩
  have m5 : m < 6 := m3 (by omega)
  clear m3 m4
  have hL2 := Lib.hid ((OwnL.lit w1 (B := r + 1) s1.out).only hO2 (Nat.lt_succ_self r))
  have hR2 := Lib.hid hR2
  have hb2 := Lib.hid (hO2.below (hb1.out.alloc hb1.out.size (.cells #[] 3)) (by rw [hr.out]; exact Nat.le_refl _) (by have := hb1.out.size; simp; omega))
  have hsz : Hid (r + 1 ≤ w2.heap.size) := Lib.hid (by have := hR2.out.lt; omega)
  clear hO1 hO2
  go_wp2_with fail
  go_loopw [6, 8] (fun u i wr => ∃ (k : Nat) (acc : List Int), (k : Int) ≤ m ∧ i = .int .i64 k ∧ acc.length = k ∧ Hid (OwnL wr (r + 1) u acc) ∧ Hid (Rdr wr r w.heap.size (3 + 2 * (k : Int))) ∧ Hid (Below w.heap.size w wr)) (fun _ i _ => (m - intOf i).toNat)
  case atStart => exact ⟨0, [], by omega, rfl, rfl, hL2, hR2, hb2⟩
  case round =>
    obtain ⟨k, acc, hk, rfl, hac, hown, hR, hbel⟩ := hrel
    replace hac := Lib.hid hac
    by_cases hlt : (k : Int) < m
    · obtain ⟨wo, hwo⟩ : ∃ wo : World, wo = wr := ⟨_, rfl⟩
      subst hwo
      have ew : 3 + 2 * (k : Int) + 1 + 1 = 3 + 2 * ((k + 1 : Nat) : Int) := by omega
      replace ew := Lib.hid ew
      go_wp2_with fail
      all_goals
        refine (rd_pick r _ (3 + 2 * (k : Int)) 20 _ hR.out (by omega) (by omega) (by omega)).mono ?_
        rintro e w3 ⟨y, rfl, ⟨y1, y2, y3, y4⟩, hR3, hO3⟩
        have y5 : y < 20 := y3 (by omega)
        replace hR3 := Lib.hid hR3
        replace hO3 := Lib.hid hO3
        clear y3 y4
        go_wp2_with fail
        refine (rd_pick r _ (3 + 2 * (k : Int) + 1) _ _ hR3.out (by omega) (by omega) (by omega)).mono ?_
        rintro e w4 ⟨z, rfl, hz, hR4, hO4⟩
        clear hz
        have hO := Lib.hid (hO3.out.trans hO4)
        replace hR4 := Lib.hid (show Rdr w4 r w.heap.size (3 + 2 * ((k + 1 : Nat) : Int)) from ew.out ▸ hR4)
        have hlt4 := Lib.hid hR4.out.lt
        have hown4 := Lib.hid (hown.out.only hO.out (Nat.lt_succ_self r))
        have hbel4 := Lib.hid (hO.out.below hbel.out (by rw [hr.out]; exact Nat.le_refl _) hbel.out.size)
        have hac5 : acc.length ≤ 5 := by have := hac.out; omega
        clear hO4
        go_wp2_with (at_builtin; refine app_int rfl _ _ rfl (r + 1) _ acc rfl (hown4.out.alloc _) z w4.heap.size rfl (cell_new _ _ _) (by omega) (by have := hlt4.out; simp; omega) ?_; intro v' w5 hown5 hb5)
        go_roundw
        case rel => exact ⟨k + 1, acc ++ [z], by omega, by go_num, by rw [List.length_append, hac.out]; rfl, Lib.hid hown5, Lib.hid ((hR4.out.alloc _).below hb5 (Nat.lt_succ_self r)), Lib.hid ((hbel4.out.alloc hbel4.out.size _).trans (hb5.mono (by have := hr.out; omega)))⟩
        case measure => simp [intOf]; omega
    · go_wp2_with fail
      go_ret2
      exact ⟨n, _, acc, rfl, hn.out, by have := hac.out; omega, hown.out.own.mono (by have := hr.out; omega) (Nat.le_refl _), hbel.out⟩

/-- the points of a list, put together. -/
def orN : List Int → Nat
  | [] => 0
  | x :: xs => orN xs ||| 2 ^ x.toNat
theorem orN_append (a b : List Int) : orN (a ++ b) = orN a ||| orN b := by
  induction a with
  | nil => simp [orN]
  | cons x xs ih => simp only [List.cons_append, orN, ih]; rw [Nat.or_assoc, Nat.or_comm (orN b), ← Nat.or_assoc]
theorem orN_reverse (a : List Int) : orN a.reverse = orN a := by
  induction a with
  | nil => rfl
  | cons x xs ih => rw [List.reverse_cons, orN_append, ih]; simp [orN]
theorem take_snoc' (xs : List Int) (k : Nat) (h : k < xs.length) : xs.take (k + 1) = xs.take k ++ [xs.getD k 0] := by
  rw [List.take_succ_eq_append_getElem h]; simp [List.getD_eq_getElem?_getD, h]
theorem sofTo_eq (n : Int) (xs : List Int) : ∀ k, k ≤ xs.length → sofTo n xs k = if (xs.take k).all (ptB n) then some ((orN (xs.take k) : Nat) : Int) else none := by
  intro k
  induction k with
  | zero => intro _; simp [sofTo, orN]
  | succ k ih =>
    intro hk
    unfold sofTo
    rw [ih (by omega), take_snoc' xs k (by omega), List.all_append]
    by_cases h : (xs.take k).all (ptB n) = true
    · rw [if_pos h]
      simp only [h, Bool.true_and]
      by_cases h2 : ptB n (xs.getD k 0) = true
      · rw [if_pos h2, if_pos (by simp only [List.all_cons, List.all_nil, h2]; rfl), orN_append]
        simp [withI, orN]
      · rw [if_neg h2, if_neg (by simp only [List.all_cons, List.all_nil, Bool.and_true]; exact h2)]
    · rw [if_neg h, if_neg (by simp only [Bool.and_eq_true]; exact fun x => h x.1)]
theorem sof_reverse (n : Int) (xs : List Int) : sofV n xs.reverse = sofV n xs ∧ sofB n xs.reverse = sofB n xs := by
  have e : sofTo n xs.reverse xs.reverse.length = sofTo n xs xs.length := by
    rw [sofTo_eq n _ _ (Nat.le_refl _), sofTo_eq n _ _ (Nat.le_refl _), List.take_length, List.take_length, List.all_reverse, orN_reverse]
  unfold sofV sofB
  rw [e]
  exact ⟨rfl, rfl⟩
theorem cnt_with : ∀ s : Fin 256, ∀ p : Fin 8, cntI (withI s.val p.val) ≤ cntI s.val + 1 := by decide +kernel
theorem sof_cnt {n : Int} (hn : n ≤ 8) (xs : List Int) : ∀ (k : Nat) (s : Int), sofTo n xs k = some s → cntI s ≤ k := by
  intro k
  induction k with
  | zero => intro s h; simp [sofTo] at h; subst h; decide +kernel
  | succ k ih =>
    intro s h
    unfold sofTo at h
    cases hr : sofTo n xs k with
    | none => rw [hr] at h; cases h
    | some y =>
      rw [hr] at h
      have a := ih y hr
      have b := sofTo_lt hn xs k y hr
      simp only at h
      split at h
      · rename_i hp
        have c := ptB_yes hp
        injection h with h
        subst h
        have := all256_8 (P := fun s p => cntI (withI s p) ≤ cntI s + 1) cnt_with b.1 b.2 c.1 (by omega : xs.getD k 0 ≤ 7)
        omega
      · cases h
theorem sof_fits {n : Int} {xs : List Int} (h : sofB n xs = true) : 0 ≤ sofV n xs ∧ sofV n xs < 256 ∧ cntI (sofV n xs) ≤ xs.length := by
  unfold sofB at h
  simp only [Bool.and_eq_true] at h
  obtain ⟨s, hs⟩ := Option.isSome_iff_exists.1 h.2
  have hn := ptsB_yes h.1
  have e : sofV n xs = s := by unfold sofV; rw [if_pos h.1, hs]; rfl
  rw [e]
  have a := sofTo_lt hn.2 xs _ s hs
  have b := sof_cnt hn.2 xs _ s hs
  exact ⟨a.1, a.2, b⟩
theorem bit20_dec : ∀ s : Fin 256, ∀ p : Fin 20, bits .and .i64 (((s.val : Nat) : Int) / 2 ^ p.val) 1 = if p.val < 8 ∧ hasB s.val p.val = true then 1 else 0 := by decide +kernel
theorem bit20 {s : Int} {p : Nat} (h1 : 0 ≤ s) (h2 : s < 256) (hp : p < 20) : bits .and .i64 (s / 2 ^ p) 1 = if p < 8 ∧ hasB s p = true then 1 else 0 := by
  have h := bit20_dec ⟨s.toNat, by omega⟩ ⟨p, hp⟩
  have e : ((s.toNat : Nat) : Int) = s := Int.toNat_of_nonneg h1
  simpa only [e] using h
theorem law_size (s : Int) (h1 : 0 ≤ s) (h2 : s < 256) (w : World) : Calls Try.prog 16 #[.int .i64 s] w fun e w' => e = .returned (.int .i64 (cntI s)) ∧ w = w' := by
  have h8 : Hid (((cntTo s (min 20 8) : Nat) : Int) = cntI s) := Lib.hid rfl
  go_enter Try.func16, Try.ntmps16
  go_wp2
  go_loop [3, 4] (fun n i => ∃ k : Nat, k ≤ 20 ∧ i = .int .i64 k ∧ n = .int .i64 (cntTo s (min k 8) : Nat)) (fun _ i => 20 - (intOf i).toNat)
  case atStart => exact ⟨0, by omega, rfl, rfl⟩
  case round =>
    obtain ⟨k, hk, rfl, rfl⟩ := hrel
    have hc := cnt_le s (min k 8)
    by_cases hlt : k < 20
    · have hb := bit20 (p := k) h1 h2 hlt
      have hn := Lib.hid (show ((cntTo s (min k 8) : Nat) : Int) + (if k < 8 ∧ hasB s k = true then 1 else 0) = ((cntTo s (min (k + 1) 8) : Nat) : Int) by
        by_cases h8 : k < 8
        · rw [show min k 8 = k by omega, show min (k + 1) 8 = k + 1 by omega]
          simp only [cntTo]
          by_cases hh : hasB s k = true <;> simp [h8, hh]
        · rw [show min k 8 = 8 by omega, show min (k + 1) 8 = 8 by omega, if_neg (fun x => h8 x.1)]
          omega)
      have hx : 0 ≤ bits .and .i64 (s / 2 ^ k) 1 ∧ bits .and .i64 (s / 2 ^ k) 1 ≤ 1 := by rw [hb]; split <;> omega
      obtain ⟨hx1, hx2⟩ := hx
      replace hb := Lib.hid hb
      go_wp2
      go_round
      case rel => exact ⟨k + 1, by omega, by go_num, by rw [← hn.out, hb.out]⟩
      case measure => simp [intOf]; omega
    · obtain rfl : k = 20 := by omega
      go_wp2
      go_ret
      exact ⟨ret_int h8.out, rfl⟩

theorem drop_rev (xs : List Int) (k : Nat) (h : k < xs.length) : (xs.drop k).reverse = (xs.drop (k + 1)).reverse ++ [xs.getD k 0] := by
  rw [List.drop_eq_getElem_cons h, List.reverse_cons]
  simp [List.getD_eq_getElem?_getD, h]
set_option maxRecDepth 100000 in
theorem law_FnSetOf (v : Value) (a : Option Addr) (len cap : Nat) (w : World) (hv : v = .slice a len cap) (hc : len ≤ cap) (hcap : cap ≤ 9223372036854775807) (hB : Bytes w w.heap.size a len) :
    Calls Try.prog 3 #[v] w fun e w' => e = .returned (.bool true) ∧ Below w.heap.size w w' := by
  have h0 := Lib.hid (draw_SetOf v a len cap w hv hc hcap hB)
  subst hv
  clear hB
  by_cases hbig : 1048576 < len
  · go_enter Try.func3, Try.ntmps3
    go_wp2_with fail
    go_ret
    exact ⟨rfl, Below.refl _ _⟩
  · go_enter Try.func3, Try.ntmps3
    go_wp2_with fail
    refine (h0.out).mono ?_
    rintro e w1 ⟨n, u, xs, rfl, hn, hl, hO, hb⟩
    obtain ⟨ua, uc, rfl, huc⟩ := id hO
    replace hO := Lib.hid hO
    replace hn := Lib.hid hn
    replace huc := Lib.hid huc
    have hi := Lib.hid (fun W (hW : Row W w1.heap.size (.slice ua xs.length uc) xs) => im_SetOf n _ xs _ W hW (by omega))
    have hs := Lib.hid (fun W (hW : Row W w1.heap.size (.slice ua xs.length uc) xs) => sp_SetOf n _ xs _ W hW (by omega))
    have hf := Lib.hid (@sof_fits n xs)
    have hrv := Lib.hid (sof_reverse n xs)
    have hbb : (sofB n xs != sofB n xs) = false := by simp
    have hvv : (sofV n xs != sofV n xs) = false := by simp
    go_wp2_with fail
    refine (hi.out _ hO.out.row).mono ?_
    rintro e w' ⟨rfl, rfl⟩
    go_wp2_with fail
    refine (hs.out _ hO.out.row).mono ?_
    rintro e w' ⟨rfl, rfl⟩
    rcases (by cases sofB n xs <;> simp : sofB n xs = true ∨ sofB n xs = false) with hk | hk
    · obtain ⟨f1, f2, f3⟩ := hf.out hk
      have hk' := Lib.hid hk
      rw [hk]
      clear hk hbb
      go_wp2_with fail
      go_loopw [9, 10] (fun z i wr => ∃ k : Nat, k ≤ xs.length ∧ i = .int .i64 ((k : Int) - 1) ∧ Hid (OwnL wr w1.heap.size z (xs.drop k).reverse) ∧ Hid (Below w1.heap.size w1 wr)) (fun _ i _ => (intOf i + 1).toNat)
      case atStart => exact ⟨xs.length, Nat.le_refl _, rfl, Lib.hid (by rw [List.drop_length]; exact OwnL.lit w1 (Nat.le_refl _)), Lib.hid ((Below.refl _ _).alloc (Nat.le_refl _) _)⟩
      case round =>
        obtain ⟨k, hk2, rfl, hown, hbel⟩ := hrel
        cases k with
        | zero =>
          have hR2 := Lib.hid ((hO.out.row.below hbel.out (Nat.le_refl _)))
          have hrow := Lib.hid (show Row wr wr.heap.size _ xs.reverse from by have := hown.out.own.row; simpa using this)
          have him := Lib.hid (im_SetOf n _ xs.reverse _ wr hrow.out (by rw [List.length_reverse]; omega))
          have hlb := Lib.hid hbel.out
          clear hown hbel
          go_wp2_with fail
          refine (him.out).mono ?_
          rintro e w' ⟨rfl, rfl⟩
          rw [hrv.out.1, hrv.out.2, hk'.out]
          go_wp2_with fail
          refine (law_size _ f1 f2 _).mono ?_
          rintro e w' ⟨rfl, rfl⟩
          go_wp2_with fail
          go_ret
          exact ⟨rfl, hb.trans (hlb.out.mono hb.size)⟩
        | succ k =>
          have hlt : k < xs.length := by omega
          obtain ⟨b1, o1, rfl, t1, t2, c1, _⟩ := huc.out (by omega)
          rw [show ((k + 1 : Nat) : Int) - 1 = (k : Int) by omega]
          have k1 : (0 : Int) ≤ (k : Int) := by omega
          have k2 : (k : Int) < (xs.length : Nat) := by omega
          have e1 : wr.cell? ⟨b1, o1 + k, none⟩ = some (.int .i64 (xs.getD k 0)) := (hbel.out.cell (p := ⟨b1, o1 + k, none⟩) t2).trans (c1 k hlt)
          have hd := Lib.hid (drop_rev xs k hlt)
          obtain ⟨x, hx⟩ : ∃ x, xs.getD k 0 = x := ⟨_, rfl⟩
          rw [hx] at e1 hd
          clear hx c1
          go_wp2_with (at_builtin; refine app_int rfl _ _ rfl w1.heap.size _ _ rfl (hown.out.alloc _) x wr.heap.size rfl (cell_new _ _ _) (by simp; omega) (by have := hbel.out.size; simp; omega) ?_; intro v' w5 hown5 hb5)
          go_roundw
          case rel => exact ⟨k, by omega, rfl, Lib.hid (hd.out ▸ hown5), Lib.hid ((hbel.out.alloc hbel.out.size _).trans hb5)⟩
          case measure => simp [intOf]
    · have hk0 := Lib.hid hk
      rw [hk]
      clear hk hbb
      go_wp2_with fail
      go_ret
      exact ⟨rfl, hb⟩
end Go.Proofs.Ytgimceanhmhgkaa
