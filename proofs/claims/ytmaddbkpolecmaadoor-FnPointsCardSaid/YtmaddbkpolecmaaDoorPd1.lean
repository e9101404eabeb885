/- Laws of chapter 1 over the program and the table of bits: sets, ranks, texts. -/
import Derived.Test.YtmaddbkpolecmaaDoorDrawS
import Derived.Test.YtmaddbkpolecmaaDoorSizeL
import Derived.Test.YtmaddbkpolecmaaDoorLawsF
import Derived.Test.YtmaddbkpolecmaaDoorLawsE
import Derived.Test.YtmaddbkpolecmaaDoorLawsH
import Derived.Test.YtmaddbkpolecmaaDoorLawsI
import Derived.Test.YtmaddbkpolecmaaDoorLawsJ
namespace Go.Proofs.YtmaddbkpolecmaaDoor
open Go.ChangeShapes Go.WideShapes Go.ChangeAt Go.RowKit

theorem sofp_dec : ∀ n : Fin 9, ∀ s : Fin 256, 1 ≤ n.val → s.val < 2 ^ n.val → sofTo n.val (ptsI s.val) (ptsI s.val).length = some ((s.val : Nat) : Int) := by decide +kernel
theorem sof_pts {n s : Int} (h : setB n s = true) : sofV n (ptsI s) = s ∧ sofB n (ptsI s) = true := by
  have s0 := setB_lt h
  obtain ⟨n1, n2, s1, s2⟩ := setB_yes h
  have e1 : ((s.toNat : Nat) : Int) = s := Int.toNat_of_nonneg s0.1
  have e2 : ((n.toNat : Nat) : Int) = n := Int.toNat_of_nonneg (by omega)
  have h1 := sofp_dec ⟨n.toNat, by omega⟩ ⟨s.toNat, by omega⟩ (by show 1 ≤ n.toNat; omega) (by
    show s.toNat < 2 ^ n.toNat
    have : ((s.toNat : Nat) : Int) < ((2 ^ n.toNat : Nat) : Int) := by rw [e1]; simpa using s2
    exact Int.ofNat_lt.1 this)
  simp only [e1, e2] at h1
  obtain ⟨a, b⟩ := sof_done (ptsB_mk n1 n2) h1
  exact ⟨a.symm, b.symm⟩
/-- the points below k of s, as a set. -/
def loI (s : Int) : Nat → Int
  | 0 => 0
  | k + 1 => if hasB s k then loI s k + 2 ^ k else loI s k
theorem lo_dec : ∀ n : Fin 9, ∀ s : Fin 256, s.val < 2 ^ n.val → loI s.val n.val = ((s.val : Nat) : Int) := by decide +kernel
theorem byte_txt (s : Int) (N k : Nat) (h : k < N) : byteAt (txt s N) k = if hasB s k then 49 else 48 := by
  unfold byteAt
  rw [dif_pos (by rw [txt_size]; exact h)]
  have e : (txt s N)[k]'(by rw [txt_size]; exact h) = sign s k := by
    show (txtL s N).toArray[k]'(by simp [txtL_len]; exact h) = _
    rw [List.getElem_toArray, txtL_get]
  rw [e]
  unfold sign
  split <;> rfl
theorem rd_txt (s : Int) (N : Nat) : ∀ k, k ≤ N → rdTo (txt s N) k = some (loI s k)
  | 0, _ => rfl
  | k + 1, h => by
    have h1 := rd_txt s N k (by omega)
    have hb := byte_txt s N k (by omega)
    unfold loI
    rcases (by cases hasB s k <;> simp : hasB s k = true ∨ hasB s k = false) with hh | hh
    · rw [hh, if_pos rfl] at hb
      rw [hh, if_pos rfl]
      exact rdTo_1 h1 hb
    · rw [hh, if_neg (by simp)] at hb
      rw [hh, if_neg (by simp)]
      exact rdTo_0 h1 hb
theorem read_txt {N : Nat} {s : Int} (h : setB N s = true) : readV (txt s N) = s ∧ readB (txt s N) = true := by
  have s0 := setB_lt h
  obtain ⟨n1, n2, s1, s2⟩ := setB_yes h
  have e1 : ((s.toNat : Nat) : Int) = s := Int.toNat_of_nonneg s0.1
  have h1 := lo_dec ⟨N, by omega⟩ ⟨s.toNat, by omega⟩ (by
    show s.toNat < 2 ^ N
    have : ((s.toNat : Nat) : Int) < ((2 ^ N : Nat) : Int) := by rw [e1]; simpa using s2
    exact Int.ofNat_lt.1 this)
  simp only [e1] at h1
  have h2 := rd_txt s N N (Nat.le_refl _)
  rw [h1] at h2
  obtain ⟨a, b⟩ := read_done (s := txt s N) (x := s) (by rw [txt_size]; exact h2)
  exact ⟨a.symm, b.symm⟩
theorem im_read_txt {N : Nat} {s : Int} (h : setB N s = true) (w : World) : Calls Tryd.prog 15 #[.int .i64 (N : Nat), .string (txt s N)] w fun e w' => e = .returned (.tuple #[.int .i64 s, .bool true]) ∧ w = w' := by
  obtain ⟨n1, n2, _, _⟩ := setB_yes h
  have hr := im_read_yes (txt s N) (by rw [txt_size]; omega) (by rw [txt_size]; omega) w
  rw [txt_size, (read_txt h).1, (read_txt h).2] at hr
  exact hr
set_option maxRecDepth 100000 in
set_option maxHeartbeats 2000000 in
theorem law_FnText (v : Value) (a : Option Addr) (len cap : Nat) (w : World) (hv : v = .slice a len cap) (hc : len ≤ cap) (hcap : cap ≤ 9223372036854775807) (hB : Bytes w w.heap.size a len) (hT : Tab w) :
    Calls Tryd.prog 7 #[v] w fun e w' => e = .returned (.bool true) ∧ Below w.heap.size w w' := by
  have h0 := Lib.hid (draw_SetText v a len cap w hv hc hcap hB)
  have htl := hT.lt
  replace hT := Lib.hid hT
  subst hv
  clear hB
  by_cases hbig : 1048576 < len
  · go_enter Tryd.func7, Tryd.ntmps7
    go_wp2_with fail
    go_ret
    exact ⟨rfl, Below.refl _ _⟩
  · go_enter Tryd.func7, Tryd.ntmps7
    go_wp2_with fail
    refine (h0.out).mono ?_
    rintro e w1 ⟨n, s, rfl, hb⟩
    have hz := hb.size
    have hT1 := Lib.hid (hT.out.below hb htl)
    replace hb := Lib.hid hb
    rcases (by cases setB n s <;> simp : setB n s = true ∨ setB n s = false) with h | h
    · obtain ⟨N, hN⟩ : ∃ N : Nat, n = (N : Int) := ⟨n.toNat, by have := setB_yes h; omega⟩
      subst hN
      have c1 := Lib.hid (fun W hW => im_text_yes N s h W hW)
      have c2 := Lib.hid (fun W => sp_text_yes N s h W)
      have c3 := Lib.hid (fun W => im_read_txt h W)
      have hsz := txt_size s N
      obtain ⟨T, hTx⟩ : ∃ T, txt s N = T := ⟨_, rfl⟩
      rw [hTx] at c1 c2 c3 hsz
      replace hTx := Lib.hid hTx
      replace h := Lib.hid h
      go_wp2_with fail
      refine (c1.out _ hT1.out).mono ?_
      rintro e w2 ⟨rfl, hb2⟩
      replace hb2 := Lib.hid (hb.out.trans (hb2.mono hz))
      go_wp2_with fail
      refine (c2.out _).mono ?_
      rintro e w3 ⟨rfl, hb3⟩
      replace hb3 := Lib.hid (hb2.out.trans (hb3.mono hb2.out.size))
      go_wp2_with (go_at_call 15; (with_reducible refine (c3.out _).mono ?_); rintro e w' ⟨rfl, rfl⟩)
      go_ret
      exact ⟨ret_bool (by simp), hb3.out⟩
    · have c1 := Lib.hid (fun W => im_text_no n s h W)
      have c2 := Lib.hid (fun W => sp_text_no n s h W)
      replace h := Lib.hid h
      go_wp2_with fail
      refine (c1.out _).mono ?_
      rintro e w2 ⟨rfl, hb2⟩
      replace hb2 := Lib.hid (hb.out.trans (hb2.mono hz))
      go_wp2_with fail
      refine (c2.out _).mono ?_
      rintro e w3 ⟨rfl, hb3⟩
      replace hb3 := Lib.hid (hb2.out.trans (hb3.mono hb2.out.size))
      go_wp2_with fail
      go_ret
      exact ⟨rfl, hb3.out⟩
set_option maxRecDepth 100000 in
set_option maxHeartbeats 2000000 in
theorem law_FnSet (v : Value) (a : Option Addr) (len cap : Nat) (w : World) (hv : v = .slice a len cap) (hc : len ≤ cap) (hcap : cap ≤ 9223372036854775807) (hB : Bytes w w.heap.size a len) (hT : Tab w) :
    Calls Tryd.prog 3 #[v] w fun e w' => e = .returned (.bool true) ∧ Below w.heap.size w w' := by
  have h0 := Lib.hid (draw_SetIn v a len cap w hv hc hcap hB)
  have htl := hT.lt
  replace hT := Lib.hid hT
  subst hv
  clear hB
  by_cases hbig : 1048576 < len
  · go_enter Tryd.func3, Tryd.ntmps3
    go_wp2_with fail
    go_ret
    exact ⟨rfl, Below.refl _ _⟩
  · go_enter Tryd.func3, Tryd.ntmps3
    go_wp2_with fail
    refine (h0.out).mono ?_
    rintro e w1 ⟨n, s, rfl, hb⟩
    have hz := hb.size
    have hT1 := Lib.hid (hT.out.below hb htl)
    replace hb := Lib.hid hb
    rcases (by cases setB n s <;> simp : setB n s = true ∨ setB n s = false) with h | h
    · obtain ⟨N, hN⟩ : ∃ N : Nat, n = (N : Int) := ⟨n.toNat, by have := setB_yes h; omega⟩
      subst hN
      have c0 := Lib.hid (fun W => set_in_yes N s h W)
      have c00 := Lib.hid (fun W => sp_set_in_yes N s h W)
      have c1 := Lib.hid (fun W hW => im_text_yes N s h W hW)
      have c2 := Lib.hid (im_points_yes N s h w1 hT1.out)
      have c3 := Lib.hid (fun W => im_read_txt h W)
      obtain ⟨g1, g2⟩ := sof_pts h
      have hpl := ptsTo_len' s 8
      have c4 := Lib.hid (fun v W S hR => im_SetOf N v (ptsI s) S W hR (by unfold ptsI; omega))
      rw [g1, g2] at c4
      obtain ⟨T, hTx⟩ : ∃ T, txt s N = T := ⟨_, rfl⟩
      rw [hTx] at c1 c3
      replace hTx := Lib.hid hTx
      replace h := Lib.hid h
      clear g1 g2 hpl
      go_wp2_with (first | (go_at_call 10; (with_reducible refine (c0.out _).mono ?_); rintro e w' ⟨rfl, rfl⟩) | (go_at_call 11; (with_reducible refine (c00.out _).mono ?_); rintro e w' ⟨rfl, rfl⟩))
      refine c2.out.mono ?_
      rintro e w2 ⟨v2, rfl, hO, hb2⟩
      obtain ⟨va, vc, rfl, _⟩ := id hO
      have hT2 := Lib.hid (hT1.out.below hb2 (by omega))
      have c5 := Lib.hid (c4.out _ _ _ hO.row)
      replace hb2 := Lib.hid (hb.out.trans (hb2.mono hz))
      replace hO := Lib.hid hO
      go_wp2_with (go_at_call 13; (with_reducible refine (c5.out).mono ?_); rintro e w' ⟨rfl, rfl⟩)
      refine (c1.out _ hT2.out).mono ?_
      rintro e w3 ⟨rfl, hb3⟩
      replace hb3 := Lib.hid (hb2.out.trans (hb3.mono hb2.out.size))
      go_wp2_with (go_at_call 15; (with_reducible refine (c3.out _).mono ?_); rintro e w' ⟨rfl, rfl⟩)
      go_ret
      exact ⟨ret_bool (by simp), hb3.out⟩
    · have c0 := Lib.hid (fun W => set_in_no n s h W)
      have c00 := Lib.hid (fun W => sp_set_in_no n s h W)
      replace h := Lib.hid h
      go_wp2_with (first | (go_at_call 10; (with_reducible refine (c0.out _).mono ?_); rintro e w' ⟨rfl, rfl⟩) | (go_at_call 11; (with_reducible refine (c00.out _).mono ?_); rintro e w' ⟨rfl, rfl⟩))
      go_ret
      exact ⟨rfl, hb.out⟩
theorem cnt_fits_dec : ∀ n : Fin 9, ∀ s : Fin 256, s.val < 2 ^ n.val → 0 ≤ cntI s.val ∧ cntI s.val ≤ n.val := by decide +kernel
theorem cnt_fits {n s : Int} (h : setB n s = true) : 0 ≤ cntI s ∧ cntI s ≤ n := by
  have s0 := setB_lt h
  obtain ⟨n1, n2, s1, s2⟩ := setB_yes h
  have e1 : ((s.toNat : Nat) : Int) = s := Int.toNat_of_nonneg s0.1
  have e2 : ((n.toNat : Nat) : Int) = n := Int.toNat_of_nonneg (by omega)
  have h1 := cnt_fits_dec ⟨n.toNat, by omega⟩ ⟨s.toNat, by omega⟩ (by
    show s.toNat < 2 ^ n.toNat
    have : ((s.toNat : Nat) : Int) < ((2 ^ n.toNat : Nat) : Int) := by rw [e1]; simpa using s2
    exact Int.ofNat_lt.1 this)
  simpa only [e1, e2] using h1
theorem rank_back {n s : Int} (h : setB n s = true) : unrankOk n (cntI s) (rankI s) ∧ unrI 0 (rankI s) (cntI s).toNat = s := by
  obtain ⟨n1, n2, s1, s2⟩ := setB_yes h
  have s0 := setB_lt h
  have hf := rank_fits n1 n2 s1 s2
  have hc := cnt_fits h
  exact ⟨⟨n1, n2, hc.1, hc.2, hf.1, hf.2⟩, (rank_only s0.1 s0.2).symm⟩
set_option maxRecDepth 100000 in
set_option maxHeartbeats 2000000 in
theorem law_FnRank (v : Value) (a : Option Addr) (len cap : Nat) (w : World) (hv : v = .slice a len cap) (hc : len ≤ cap) (hcap : cap ≤ 9223372036854775807) (hB : Bytes w w.heap.size a len) (hT : Tab w) :
    Calls Tryd.prog 5 #[v] w fun e w' => e = .returned (.bool true) ∧ Below w.heap.size w w' := by
  have h0 := Lib.hid (draw_SetRank v a len cap w hv hc hcap hB)
  have htl := hT.lt
  replace hT := Lib.hid hT
  subst hv
  clear hB
  by_cases hbig : 1048576 < len
  · go_enter Tryd.func5, Tryd.ntmps5
    go_wp2_with fail
    go_ret
    exact ⟨rfl, Below.refl _ _⟩
  · go_enter Tryd.func5, Tryd.ntmps5
    go_wp2_with fail
    refine (h0.out).mono ?_
    rintro e w1 ⟨n, s, rfl, hb⟩
    have hz := hb.size
    have hT1 := Lib.hid (hT.out.below hb htl)
    replace hb := Lib.hid hb
    rcases (by cases setB n s <;> simp : setB n s = true ∨ setB n s = false) with h | h
    · obtain ⟨f1, f2⟩ := rank_back h
      obtain ⟨s1, s2⟩ := setB_lt h
      have f3 : 0 ≤ rankI s := f1.2.2.2.2.1
      have c1 := Lib.hid (im_SetRank_yes n s h w1 hT1.out)
      have c2 := Lib.hid (fun W => sp_SetRank_yes n s h W)
      have c3 := Lib.hid (fun W => im_unrank_yes n _ _ f1 W)
      rw [f2] at c3
      have c4 := Lib.hid (fun W => law_size s s1 s2 W)
      obtain ⟨r, hr⟩ : ∃ r, rankI s = r := ⟨_, rfl⟩
      obtain ⟨k, hk⟩ : ∃ k, cntI s = k := ⟨_, rfl⟩
      rw [hr] at c1 c2 c3 f3
      rw [hk] at c3 c4
      replace hr := Lib.hid hr
      replace hk := Lib.hid hk
      replace h := Lib.hid h
      replace f1 := Lib.hid f1
      clear f2
      go_wp2_with fail
      refine c1.out.mono ?_
      rintro e w2 ⟨rfl, hb2⟩
      replace hb2 := Lib.hid (hb.out.trans (hb2.mono hz))
      go_wp2_with (first | (go_at_call 22; (with_reducible refine (c2.out _).mono ?_); rintro e w' ⟨rfl, rfl⟩) | (go_at_call 24; (with_reducible refine (c4.out _).mono ?_); rintro e w' ⟨rfl, rfl⟩) | (go_at_call 23; (with_reducible refine (c3.out _).mono ?_); rintro e w' ⟨rfl, rfl⟩))
      go_ret
      exact ⟨ret_bool (by simp), hb2.out⟩
    · have c1 := Lib.hid (im_SetRank_no n s h w1)
      have c2 := Lib.hid (fun W => sp_SetRank_no n s h W)
      replace h := Lib.hid h
      go_wp2_with fail
      refine c1.out.mono ?_
      rintro e w2 ⟨rfl, hb2⟩
      replace hb2 := Lib.hid (hb.out.trans (hb2.mono hz))
      go_wp2_with (go_at_call 22; (with_reducible refine (c2.out _).mono ?_); rintro e w' ⟨rfl, rfl⟩)
      go_ret
      exact ⟨rfl, hb2.out⟩
end Go.Proofs.YtmaddbkpolecmaaDoor
