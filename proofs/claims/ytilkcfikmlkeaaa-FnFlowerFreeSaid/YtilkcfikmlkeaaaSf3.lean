/- Families without flowers: the law. -/
import Derived.Test.YtilkcfikmlkeaaaSf2
import Derived.Test.YtilkcfikmlkeaaaFl7
import Derived.Test.YtilkcfikmlkeaaaDrawF
import Derived.Test.YtilkcfikmlkeaaaAllSL
import Derived.Test.YtilkcfikmlkeaaaEvB
import Derived.Test.YtilkcfikmlkeaaaPf1
namespace Go.Proofs.Ytilkcfikmlkeaaa
open Go.ChangeShapes Go.WideShapes Go.ChangeAt Go.RowKit Go.Proofs

set_option maxRecDepth 100000 in
set_option maxHeartbeats 4000000 in
theorem Rdr.at61f {w : World} {r S : Nat} {p : Int} (h : Rdr w r S p) (q : Int) : Rdr (w.setCell ⟨r, 1, none⟩ (.int .i64 q)) r S q := by
  obtain ⟨h1, h2, h3, h4, a, len, cap, h5, h6, h7⟩ := h
  have g1 : (w.setCell ⟨r, 1, none⟩ (.int .i64 q)).cell? ⟨r, 1, none⟩ = some (.int .i64 q) := World.cell?_setCell_same _ _ _ h4
  have g0 : (w.setCell ⟨r, 1, none⟩ (.int .i64 q)).cell? ⟨r, 0, none⟩ = some (.slice a len cap) := by
    rw [World.cell?_setCell_other _ _ _ _ (by intro e; injection e; omega)]; exact h5
  have h7' : Bytes (w.setCell ⟨r, 1, none⟩ (.int .i64 q)) S a len := fun hl => by
    obtain ⟨b, off, ha, hbS, hc⟩ := h7 hl
    refine ⟨b, off, ha, hbS, fun i hi => ?_⟩
    obtain ⟨x, x1, x2, hx⟩ := hc i hi
    exact ⟨x, x1, x2, by rw [World.cell?_setCell_other _ _ _ _ (by intro e; injection e; omega)]; exact hx⟩
  exact ⟨h1, by rw [World.frozen?_setCell]; exact h2, by rw [World.frozen?_setCell]; exact h3, g1, a, len, cap, g0, h6, h7'⟩
set_option maxRecDepth 100000 in
set_option maxHeartbeats 4000000 in
theorem Rdr.cells61f {w : World} {r S : Nat} {p : Int} (h : Rdr w r S p) : w.cell? ⟨r, 1, none⟩ = some (.int .i64 p) ∧ w.frozen? ⟨r, 1, none⟩ = false := ⟨h.2.2.2.1, h.2.2.1⟩
set_option maxRecDepth 100000 in
set_option maxHeartbeats 4000000 in
theorem bytes_laterf {w w' : World} {S B : Nat} {a : Option Addr} {len : Nat} (h : Bytes w S a len) (hb : Below B w w') (hS : S ≤ B) : Bytes w' B a len := fun hl => by
  obtain ⟨b, off, ha, hbS, hc⟩ := h hl
  refine ⟨b, off, ha, by omega, fun i hi => ?_⟩
  obtain ⟨x, x1, x2, hx⟩ := hc i hi
  exact ⟨x, x1, x2, (hb.cell (p := ⟨b, off + i, none⟩) (show b < B by omega)).trans hx⟩
set_option maxRecDepth 100000 in
set_option maxHeartbeats 4000000 in
theorem bytes_widef {w : World} {S S' : Nat} {a : Option Addr} {len : Nat} (h : Bytes w S a len) (hS : S ≤ S') : Bytes w S' a len := fun hl => by
  obtain ⟨b, off, ha, hbS, hc⟩ := h hl
  exact ⟨b, off, ha, by omega, hc⟩
/-- what a draw of a number, a family and a number of leaves gives. -/
def LeavesDrawf (w : World) (e : Ending) (w' : World) : Prop := ∃ n u xs k, e = .returned (.tuple #[.int .i64 n, u, .int .i64 k]) ∧ xs.length ≤ 300 ∧ -3 ≤ k ∧ k ≤ 4 ∧ Own w' w.heap.size w'.heap.size u xs ∧ Below w.heap.size w w'
set_option maxRecDepth 100000 in
set_option maxHeartbeats 1000000 in
set_option maxRecDepth 100000 in
set_option maxHeartbeats 4000000 in
theorem draw_leavesf (v : Value) (a : Option Addr) (len cap : Nat) (w : World) (hv : v = .slice a len cap) (hc : len ≤ cap) (hcap : cap ≤ 9223372036854775807) (hB : Bytes w w.heap.size a len) :
    Calls Try.prog 9 #[v] w (LeavesDrawf w) := by
  have h0 := Lib.hid (draw_given v a len cap w hv hc hcap hB)
  have h1 := Lib.hid (fun w1 (hb : Below w.heap.size w w1) => rd_open v a len cap w1 hv hc hcap (bytes_widef (bytes_laterf hB hb (Nat.le_refl _)) hb.size))
  clear hv hc hcap hB
  go_enter Try.func9, Try.ntmps9
  go_wp2_with fail
  refine (h0.out).mono ?_
  rintro e w1 ⟨n, u, xs, rfl, hl, hO, hb⟩
  obtain ⟨ua, uc, rfl, _⟩ := id hO
  have z1 := hb.size
  have h2 := Lib.hid (h1.out w1 hb)
  replace hO := Lib.hid hO
  replace hb := Lib.hid hb
  clear h0 h1
  go_wp2_with fail
  refine (h2.out).mono ?_
  rintro e w2 ⟨r, rfl, hr, hR0, hb2, hz0⟩
  obtain ⟨c1, c2⟩ := hR0.cells61f
  have hrw : w1.heap.size ≤ r := by omega
  replace hr := Lib.hid hr
  replace hz0 := Lib.hid hz0
  have hR1 := Lib.hid (hR0.at61f 61)
  have hb3 := Lib.hid (below_setCell (p := ⟨r, 1, none⟩) hb2 hrw (.int .i64 61))
  clear hR0 hb2
  go_wp2_with fail
  refine (rd_pick r _ 61 4 _ hR1.out (by omega) (by omega) (by omega)).mono ?_
  rintro e w4 ⟨i, rfl, ⟨i1, i2, i3, i4⟩, hR3, hO3⟩
  have i5 : i < 4 := i3 (by omega)
  have hb4 := Lib.hid (hO3.below hb3.out hrw hb3.out.size)
  replace hR3 := Lib.hid hR3
  clear i3 i4 hO3 hR1
  go_wp2_with fail
  refine (rd_pick r _ (61 + 1) 20 w4 hR3.out (by omega) (by omega) (by omega)).mono ?_
  rintro e w5 ⟨y, rfl, ⟨y1, y2, y3, y4⟩, hR4, hO4⟩
  have y5 : y < 20 := y3 (by omega)
  have hb5 := Lib.hid (hO4.below hb4.out hrw hb4.out.size)
  clear y3 y4 hO4 hR3 hR4
  have hdv : 0 ≤ y / 19 ∧ y / 19 ≤ 1 := by omega
  obtain ⟨g, hg⟩ : ∃ g, y / 19 = g := ⟨_, rfl⟩
  go_wp2_with fail
  go_ret3
  exact ⟨_, _, xs, _, rfl, hl, by omega, by omega, (hO.out.below hb5.out (Nat.le_refl _)).mono (Nat.le_refl _) hb5.out.size, hb.out.trans (hb5.out.mono z1)⟩
set_option maxRecDepth 100000 in
set_option maxHeartbeats 4000000 in
theorem draw_FlowerFree (v : Value) (a : Option Addr) (len cap : Nat) (w : World) (hv : v = .slice a len cap) (hc : len ≤ cap) (hcap : cap ≤ 9223372036854775807) (hB : Bytes w w.heap.size a len) :
    Calls Try.prog 4 #[v] w (LeavesDrawf w) := by
  have h0 := Lib.hid (draw_leavesf v a len cap w hv hc hcap hB)
  clear hv hc hcap hB
  go_enter Try.func4, Try.ntmps4
  go_wp2_with fail
  refine (h0.out).mono ?_
  rintro e w1 ⟨n, u, xs, k, rfl, hl, k1, k2, hO, hb⟩
  obtain ⟨ua, uc, rfl, _⟩ := id hO
  replace hO := Lib.hid hO
  replace hb := Lib.hid hb
  go_wp2_with fail
  go_ret3
  exact ⟨_, _, xs, _, rfl, hl, k1, k2, hO.out, hb.out⟩
theorem fre_yes {n : Int} {xs : List Int} {k : Int} (h : freB n xs k = true) : famB n xs = true ∧ 1 ≤ k ∧ k ≤ 4 ∧ (srch pkB k.toNat xs []).isSome = false := by
  unfold freB at h
  rw [Bool.and_eq_true, Bool.and_eq_true] at h
  obtain ⟨⟨h1, h2⟩, h3⟩ := h
  obtain ⟨k1, k2⟩ := of_decide_eq_true h2
  unfold flO at h3
  rw [h1, h2] at h3
  replace h3 : (srch pkB k.toNat xs []).isNone = true := h3
  refine ⟨h1, k1, k2, ?_⟩
  cases he : srch pkB k.toNat xs [] with
  | none => rfl
  | some R => rw [he] at h3; cases h3
theorem fre_up {n : Int} {xs : List Int} {k : Int} (h : freB n xs k = true) (hk : k < 4) : freB n xs (k + 1) = true := by
  obtain ⟨h1, k1, _, h4⟩ := fre_yes h
  have hR : flR (k + 1) = true := decide_eq_true ⟨by omega, by omega⟩
  unfold freB
  rw [h1, hR]
  show (flO n xs (k + 1)).isNone = true
  cases he : flO n xs (k + 1) with
  | none => rfl
  | some R =>
    exfalso
    obtain ⟨_, _, _, r1, r2, r3⟩ := flo_some he
    have := srch_some k.toNat xs [] (R.take k.toNat) (by rw [List.length_take]; omega) ((List.take_sublist _ _).trans r3) (fun j => by
      rw [List.nil_append, List.take_take]
      exact flow_take (flow_out r2) _)
    rw [h4] at this
    cases this
theorem ev_yesf {n : Int} {xs : List Int} (h : evB n xs = true) : 0 < xs.length ∧ ∀ x ∈ xs, cntTo x 8 = cntTo (xs.getD 0 0) 8 := by
  unfold evB at h
  rw [Bool.and_eq_true, Bool.and_eq_true] at h
  obtain ⟨_, h2, h3⟩ := h
  refine ⟨of_decide_eq_true h2, fun x hx => ?_⟩
  unfold evN at h3
  rw [Bool.not_eq_true', List.any_eq_false] at h3
  have h4 := h3 x hx
  have h5 : cntI x = cntI (xs.getD 0 0) := by
    refine Classical.byContradiction fun hne => h4 ?_
    simpa using hne
  unfold cntI at h5
  omega
def vN (K j : Nat) : Nat := fctN j * (K - 1) ^ j
theorem vN_succ (K j : Nat) : vN K (j + 1) = vN K j * (j + 1) * (K - 1) := by
  unfold vN
  show (j + 1) * fctN j * (K - 1) ^ (j + 1) = _
  rw [Nat.pow_succ]
  ac_rfl
theorem vN_bd : ∀ K : Fin 5, ∀ j : Fin 9, vN K.val j.val ≤ 264539520 := by decide +kernel
theorem fre_bd {n : Int} {xs : List Int} {k : Int} (h : freB n xs k = true) (he : evB n xs = true) : xs.length ≤ vN k.toNat (cntTo (xs.getD 0 0) 8) := by
  obtain ⟨h1, k1, _, h4⟩ := fre_yes h
  obtain ⟨_, hk⟩ := ev_yesf he
  refine Classical.byContradiction fun hc => ?_
  obtain ⟨t, c, t1, t2, t3⟩ := sun k.toNat (by omega) (cntTo (xs.getD 0 0) 8) xs ((famB_asc h1).imp (fun h => by omega)) (fun x hx => ⟨(famB_lt h1 x hx).1, (famB_lt h1 x hx).2, hk x hx⟩) (by unfold vN at hc; omega)
  have hF : FlTo c t t.length := fun i hi j hj => by
    have := List.pairwise_iff_getElem.1 t3 j i (by omega) hi hj
    simpa [List.getD, hi, show j < t.length by omega] using this
  have := srch_some k.toNat xs [] t t2 t1 (fun j => by rw [List.nil_append]; exact flow_take hF j)
  rw [h4] at this
  cases this
set_option maxRecDepth 100000 in
set_option maxHeartbeats 4000000 in
theorem law_FnFlowerFree (v : Value) (a : Option Addr) (len cap : Nat) (w : World) (hv : v = .slice a len cap) (hc : len ≤ cap) (hcap : cap ≤ 9223372036854775807) (hB : Bytes w w.heap.size a len) :
    Calls Try.prog 3 #[v] w fun e w' => e = .returned (.bool true) ∧ Below w.heap.size w w' := by
  have h0 := Lib.hid (draw_FlowerFree v a len cap w hv hc hcap hB)
  subst hv
  clear hB
  by_cases hbig : 1048576 < len
  · go_enter Try.func3, Try.ntmps3
    go_wp2_with fail
    go_ret
    exact ⟨rfl, Below.refl _ _⟩
  · go_enter Try.func3, Try.ntmps3
    go_wp2_with fail
    refine (h0.out).mono ?_
    rintro e w1 ⟨n, u, xs, k, rfl, hl, kl, kh, hO, hb⟩
    obtain ⟨ua, uc, rfl, _⟩ := id hO
    have z1 := hb.size
    have hi := im_FlowerFree n k _ xs _ w1 hO.row (Nat.le_refl _) (by omega)
    have hs := fun (W : World) (hW : Below w1.heap.size w1 W) => sp_FlowerFree n k _ xs w1.heap.size W (hO.row.below hW (Nat.le_refl _)) hW.size (by omega)
    have hup := fun (W : World) (hW : Below w1.heap.size w1 W) => im_FlowerFree n (k + 1) _ xs w1.heap.size W (hO.row.below hW (Nat.le_refl _)) hW.size (by omega)
    have he := fun (W : World) (hW : Below w1.heap.size w1 W) => im_ShadowEven n _ xs w1.heap.size W (hO.row.below hW (Nat.le_refl _)) hW.size (by omega)
    have hR := Lib.hid hO.row
    have hb1 := Lib.hid hb
    clear hb hO
    obtain ⟨B, hBv⟩ : ∃ B, freB n xs k = B := ⟨_, rfl⟩
    rw [hBv] at hi hs
    rcases (by cases B <;> simp : B = true ∨ B = false) with rfl | rfl
    · obtain ⟨hf, k1, k4, _⟩ := fre_yes hBv
      obtain ⟨n1, n2, hset⟩ := famB_all hf
      have hfl := famB_len hf
      replace hup := Lib.hid (fun (hk : k < 4) (W : World) (hW : Below w1.heap.size w1 W) => (show Calls _ _ _ _ _ from (fre_up hBv hk) ▸ hup W hW))
      have hbd := fre_bd hBv
      replace hi := Lib.hid hi
      replace hs := Lib.hid hs
      replace hBv := Lib.hid hBv
      replace hf := Lib.hid hf
      go_wp2_with fail
      refine hi.out.mono ?_
      rintro e w2 ⟨rfl, hb2⟩
      have q2 := Lib.hid hb2
      have c2 := Lib.hid (hs.out w2 hb2)
      clear hb2
      go_wp2_with fail
      refine c2.out.mono ?_
      rintro e w3 ⟨rfl, hb3⟩
      have q3 := Lib.hid (q2.out.trans (hb3.mono q2.out.size))
      clear hb3
      rcases (by omega : k < 4 ∨ k = 4) with hk4 | hk4
      · have c3 := Lib.hid (hup.out hk4 w3 q3.out)
        go_wp2_with fail
        refine c3.out.mono ?_
        rintro e w4 ⟨rfl, hb4⟩
        have q4 := Lib.hid (q3.out.trans (hb4.mono q3.out.size))
        clear hb4 c3
        have c4 := he w4 q4.out
        obtain ⟨E, hE⟩ : ∃ E, evB n xs = E := ⟨_, rfl⟩
        rw [hE] at c4
        replace c4 := Lib.hid c4
        rcases (by cases E <;> simp : E = true ∨ E = false) with rfl | rfl
        · have hbd2 := hbd hE
          obtain ⟨hx0, _⟩ := ev_yesf hE
          obtain ⟨x, hx⟩ : ∃ x, xs.getD 0 0 = x := ⟨_, rfl⟩
          have hxs := hset _ (getD_mem hx0)
          rw [hx] at hbd2 hxs
          obtain ⟨x1, x2⟩ := setB_lt hxs
          obtain ⟨_, _, y1, y2⟩ := setB_yes hxs
          have eN : ((2 ^ n.toNat : Nat) : Int) = 2 ^ n.toNat := by simp
          have hs8 := cnt_le_n ⟨n.toNat, by omega⟩ ⟨x.toNat, by omega⟩ (by show x.toNat < 2 ^ n.toNat; omega)
          have ex : ((x.toNat : Nat) : Int) = x := Int.toNat_of_nonneg x1
          simp only [ex] at hs8
          obtain ⟨s, hss⟩ : ∃ s, cntTo x 8 = s := ⟨_, rfl⟩
          have hck : cntI x = (s : Nat) := by unfold cntI; rw [hss]
          rw [hss] at hbd2
          rw [hck] at hs8
          have s8 : s ≤ 8 := by omega
          have hsz := law_size x x1 x2
          rw [hck] at hsz
          obtain ⟨K, hK⟩ : ∃ K : Nat, k.toNat = K := ⟨_, rfl⟩
          rw [hK] at hbd2
          have hK1 : (K : Int) = k := by omega
          have hK5 : K < 5 := by omega
          have v0 : vN K 0 = 1 := by simp [vN, fctN]
          replace hsz := Lib.hid hsz
          replace hE := Lib.hid hE
          replace hset := Lib.hid hset
          replace hbd := Lib.hid hbd
          replace hck := Lib.hid hck
          replace hss := Lib.hid hss
          replace hxs := Lib.hid hxs
          replace eN := Lib.hid eN
          replace ex := Lib.hid ex
          replace hK := Lib.hid hK
          replace hK1 := Lib.hid hK1
          replace v0 := Lib.hid v0
          replace hbd2 := Lib.hid hbd2
          clear hs8
          go_wp2_with fail
          refine c4.out.mono ?_
          rintro e w5 ⟨rfl, hb5⟩
          have q5 := Lib.hid (q4.out.trans (hb5.mono q4.out.size))
          have hR5 := hR.out.below q5.out (Nat.le_refl _)
          obtain ⟨ra, rc, re, hcell⟩ := hR5
          injection re with r1 r2 r3
          subst r1 r3
          obtain ⟨bb, oo, rfl, t1, c1⟩ := hcell hx0
          have e1 := c1 0 hx0
          rw [Nat.add_zero, hx] at e1
          have kk1 : (0 : Int) < (xs.length : Nat) := by omega
          replace hx := Lib.hid hx
          clear hb5 c1 hcell
          go_wp2_with fail
          go_loopw [8, 9] (fun b i wr => ∃ j : Nat, j ≤ s ∧ b = .int .i64 ((vN K j : Nat) : Int) ∧ i = .int .i64 ((j : Int) + 1) ∧ w5 = wr) (fun _ i _ => s + 1 - (intOf i).toNat)
          case atStart => exact ⟨0, by omega, by rw [v0.out]; rfl, rfl, rfl⟩
          case round =>
          obtain ⟨j, hj, rfl, rfl, rfl⟩ := hrel
          have pb := vN_bd ⟨K, hK5⟩ ⟨j, by omega⟩
          simp only at pb
          obtain ⟨I, hI⟩ : ∃ I : Int, (j : Int) + 1 = I := ⟨_, rfl⟩
          have I1 : 1 ≤ I := by omega
          have I2 : I ≤ 9 := by omega
          obtain ⟨b, hb⟩ : ∃ b, vN K j = b := ⟨_, rfl⟩
          by_cases hlt : j < s
          · have pc : vN K j * (j + 1) ≤ 264539520 * 9 := Nat.mul_le_mul pb (by omega)
            have pd := vN_succ K j
            have pe := vN_bd ⟨K, hK5⟩ ⟨j + 1, by omega⟩
            simp only at pe
            obtain ⟨P, hP⟩ : ∃ P, vN K j * (j + 1) = P := ⟨_, rfl⟩
            obtain ⟨V, hV⟩ : ∃ V, vN K (j + 1) = V := ⟨_, rfl⟩
            rw [hP] at pc pd
            rw [hV] at pd pe
            have g1 : ((b : Nat) : Int) * I = (P : Nat) := by rw [← hP, ← hb, ← hI, Int.natCast_mul]; rfl
            have g2 : ((P : Nat) : Int) * (k - 1) = (V : Nat) := by
              rw [pd, Int.natCast_mul]
              have := hK1.out
              congr 1
              omega
            have hw1 : wrap64 (((b : Nat) : Int) * I) = (P : Nat) := by rw [g1]; unfold wrap64; omega
            have hw2 : wrap64 (((P : Nat) : Int) * (k - 1)) = (V : Nat) := by rw [g2]; unfold wrap64; omega
            have hle : I ≤ (s : Nat) := by omega
            rw [hI, hb]
            replace hI := Lib.hid hI
            replace hb := Lib.hid hb
            replace hV := Lib.hid hV
            replace hP := Lib.hid hP
            replace g1 := Lib.hid g1
            replace g2 := Lib.hid g2
            replace pd := Lib.hid pd
            clear pb
            go_wp2_with (go_at_call 8; (with_reducible refine (hsz.out _).mono ?_); rintro e w' ⟨rfl, rfl⟩)
            go_roundw
            case rel => exact ⟨j + 1, by omega, by rw [hV.out]; first | (rw [hw2]) | (have g := g2.out; congr 1 <;> omega) | (have g := g2.out; rw [hk4] at g; congr 1 <;> omega), by have := hI.out; go_num, by first | rfl | trivial⟩
            case measure => have := hI.out; simp [intOf]; omega
          · obtain rfl : j = s := by omega
            have hle : ¬ I ≤ (j : Nat) := by omega
            have hfl2 : ((xs.length : Nat) : Int) ≤ (b : Nat) := by have := hbd2.out; omega
            rw [hI, hb]
            replace hI := Lib.hid hI
            replace hb := Lib.hid hb
            clear pb
            go_wp2_with (go_at_call 8; (with_reducible refine (hsz.out _).mono ?_); rintro e w' ⟨rfl, rfl⟩)
            go_ret
            exact ⟨ret_bool (by first | rfl | (simp; done) | (simp; omega)), hb1.out.trans (q5.out.mono z1)⟩
        · replace hE := Lib.hid hE
          replace hset := Lib.hid hset
          replace hbd := Lib.hid hbd
          go_wp2_with fail
          refine c4.out.mono ?_
          rintro e w5 ⟨rfl, hb5⟩
          have q5 := Lib.hid (q4.out.trans (hb5.mono q4.out.size))
          clear hb5
          go_wp2_with fail
          go_ret
          exact ⟨rfl, hb1.out.trans (q5.out.mono z1)⟩
      · have q4 := q3
        have c4 := he w3 q4.out
        obtain ⟨E, hE⟩ : ∃ E, evB n xs = E := ⟨_, rfl⟩
        rw [hE] at c4
        replace c4 := Lib.hid c4
        rcases (by cases E <;> simp : E = true ∨ E = false) with rfl | rfl
        · have hbd2 := hbd hE
          obtain ⟨hx0, _⟩ := ev_yesf hE
          obtain ⟨x, hx⟩ : ∃ x, xs.getD 0 0 = x := ⟨_, rfl⟩
          have hxs := hset _ (getD_mem hx0)
          rw [hx] at hbd2 hxs
          obtain ⟨x1, x2⟩ := setB_lt hxs
          obtain ⟨_, _, y1, y2⟩ := setB_yes hxs
          have eN : ((2 ^ n.toNat : Nat) : Int) = 2 ^ n.toNat := by simp
          have hs8 := cnt_le_n ⟨n.toNat, by omega⟩ ⟨x.toNat, by omega⟩ (by show x.toNat < 2 ^ n.toNat; omega)
          have ex : ((x.toNat : Nat) : Int) = x := Int.toNat_of_nonneg x1
          simp only [ex] at hs8
          obtain ⟨s, hss⟩ : ∃ s, cntTo x 8 = s := ⟨_, rfl⟩
          have hck : cntI x = (s : Nat) := by unfold cntI; rw [hss]
          rw [hss] at hbd2
          rw [hck] at hs8
          have s8 : s ≤ 8 := by omega
          have hsz := law_size x x1 x2
          rw [hck] at hsz
          obtain ⟨K, hK⟩ : ∃ K : Nat, k.toNat = K := ⟨_, rfl⟩
          rw [hK] at hbd2
          have hK1 : (K : Int) = k := by omega
          have hK5 : K < 5 := by omega
          have v0 : vN K 0 = 1 := by simp [vN, fctN]
          replace hsz := Lib.hid hsz
          replace hE := Lib.hid hE
          replace hset := Lib.hid hset
          replace hbd := Lib.hid hbd
          replace hck := Lib.hid hck
          replace hss := Lib.hid hss
          replace hxs := Lib.hid hxs
          replace eN := Lib.hid eN
          replace ex := Lib.hid ex
          replace hK := Lib.hid hK
          replace hK1 := Lib.hid hK1
          replace v0 := Lib.hid v0
          replace hbd2 := Lib.hid hbd2
          clear hs8
          go_wp2_with fail
          refine c4.out.mono ?_
          rintro e w5 ⟨rfl, hb5⟩
          have q5 := Lib.hid (q4.out.trans (hb5.mono q4.out.size))
          have hR5 := hR.out.below q5.out (Nat.le_refl _)
          obtain ⟨ra, rc, re, hcell⟩ := hR5
          injection re with r1 r2 r3
          subst r1 r3
          obtain ⟨bb, oo, rfl, t1, c1⟩ := hcell hx0
          have e1 := c1 0 hx0
          rw [Nat.add_zero, hx] at e1
          have kk1 : (0 : Int) < (xs.length : Nat) := by omega
          replace hx := Lib.hid hx
          clear hb5 c1 hcell
          go_wp2_with fail
          go_loopw [8, 9] (fun b i wr => ∃ j : Nat, j ≤ s ∧ b = .int .i64 ((vN K j : Nat) : Int) ∧ i = .int .i64 ((j : Int) + 1) ∧ w5 = wr) (fun _ i _ => s + 1 - (intOf i).toNat)
          case atStart => exact ⟨0, by omega, by rw [v0.out]; rfl, rfl, rfl⟩
          case round =>
          obtain ⟨j, hj, rfl, rfl, rfl⟩ := hrel
          have pb := vN_bd ⟨K, hK5⟩ ⟨j, by omega⟩
          simp only at pb
          obtain ⟨I, hI⟩ : ∃ I : Int, (j : Int) + 1 = I := ⟨_, rfl⟩
          have I1 : 1 ≤ I := by omega
          have I2 : I ≤ 9 := by omega
          obtain ⟨b, hb⟩ : ∃ b, vN K j = b := ⟨_, rfl⟩
          by_cases hlt : j < s
          · have pc : vN K j * (j + 1) ≤ 264539520 * 9 := Nat.mul_le_mul pb (by omega)
            have pd := vN_succ K j
            have pe := vN_bd ⟨K, hK5⟩ ⟨j + 1, by omega⟩
            simp only at pe
            obtain ⟨P, hP⟩ : ∃ P, vN K j * (j + 1) = P := ⟨_, rfl⟩
            obtain ⟨V, hV⟩ : ∃ V, vN K (j + 1) = V := ⟨_, rfl⟩
            rw [hP] at pc pd
            rw [hV] at pd pe
            have g1 : ((b : Nat) : Int) * I = (P : Nat) := by rw [← hP, ← hb, ← hI, Int.natCast_mul]; rfl
            have g2 : ((P : Nat) : Int) * (k - 1) = (V : Nat) := by
              rw [pd, Int.natCast_mul]
              have := hK1.out
              congr 1
              omega
            have hw1 : wrap64 (((b : Nat) : Int) * I) = (P : Nat) := by rw [g1]; unfold wrap64; omega
            have hw2 : wrap64 (((P : Nat) : Int) * (k - 1)) = (V : Nat) := by rw [g2]; unfold wrap64; omega
            have hle : I ≤ (s : Nat) := by omega
            rw [hI, hb]
            replace hI := Lib.hid hI
            replace hb := Lib.hid hb
            replace hV := Lib.hid hV
            replace hP := Lib.hid hP
            replace g1 := Lib.hid g1
            replace g2 := Lib.hid g2
            replace pd := Lib.hid pd
            clear pb
            go_wp2_with (go_at_call 8; (with_reducible refine (hsz.out _).mono ?_); rintro e w' ⟨rfl, rfl⟩)
            go_roundw
            case rel => exact ⟨j + 1, by omega, by rw [hV.out]; first | (rw [hw2]) | (have g := g2.out; congr 1 <;> omega) | (have g := g2.out; rw [hk4] at g; congr 1 <;> omega), by have := hI.out; go_num, by first | rfl | trivial⟩
            case measure => have := hI.out; simp [intOf]; omega
          · obtain rfl : j = s := by omega
            have hle : ¬ I ≤ (j : Nat) := by omega
            have hfl2 : ((xs.length : Nat) : Int) ≤ (b : Nat) := by have := hbd2.out; omega
            rw [hI, hb]
            replace hI := Lib.hid hI
            replace hb := Lib.hid hb
            clear pb
            go_wp2_with (go_at_call 8; (with_reducible refine (hsz.out _).mono ?_); rintro e w' ⟨rfl, rfl⟩)
            go_ret
            exact ⟨ret_bool (by first | rfl | (simp; done) | (simp; omega)), hb1.out.trans (q5.out.mono z1)⟩
        · replace hE := Lib.hid hE
          replace hset := Lib.hid hset
          replace hbd := Lib.hid hbd
          go_wp2_with fail
          refine c4.out.mono ?_
          rintro e w5 ⟨rfl, hb5⟩
          have q5 := Lib.hid (q4.out.trans (hb5.mono q4.out.size))
          clear hb5
          go_wp2_with fail
          go_ret
          exact ⟨rfl, hb1.out.trans (q5.out.mono z1)⟩
    · replace hi := Lib.hid hi
      replace hs := Lib.hid hs
      replace hBv := Lib.hid hBv
      clear he hup
      go_wp2_with fail
      refine hi.out.mono ?_
      rintro e w2 ⟨rfl, hb2⟩
      have q2 := Lib.hid hb2
      have c2 := Lib.hid (hs.out w2 hb2)
      clear hb2
      go_wp2_with fail
      refine c2.out.mono ?_
      rintro e w3 ⟨rfl, hb3⟩
      have q3 := Lib.hid (q2.out.trans (hb3.mono q2.out.size))
      go_wp2_with fail
      go_ret
      exact ⟨rfl, hb1.out.trans (q3.out.mono z1)⟩
end Go.Proofs.Ytilkcfikmlkeaaa
