/- Families whose sets meet: the law. -/
import Derived.Test.YtcadlfljlobjjaaIx1
import Derived.Test.YtcadlfljlobjjaaIs2
import Derived.Test.YtcadlfljlobjjaaEvB
import Derived.Test.YtcadlfljlobjjaaIs8
import Derived.Test.YtcadlfljlobjjaaDrawF
import Derived.Test.YtcadlfljlobjjaaAllSL
import Derived.Test.YtcadlfljlobjjaaPf1
import Derived.Test.YtcadlfljlobjjaaAllSp
namespace Go.Proofs.Ytcadlfljlobjjaa
open Go.ChangeShapes Go.WideShapes Go.ChangeAt Go.RowKit Go.Proofs

/-- what a draw of a number and a family gives, and the number's bound. -/
def Given6 (w : World) (e : Ending) (w' : World) : Prop := ∃ n u xs, e = .returned (.tuple #[.int .i64 n, u]) ∧ (n ≤ 6 ∨ n = 9) ∧ xs.length ≤ 300 ∧ Own w' w.heap.size w'.heap.size u xs ∧ Below w.heap.size w w'
set_option maxRecDepth 100000 in
set_option maxHeartbeats 4000000 in
theorem one_row6 (w : World) (x : Int) : Row (w.alloc (.cells #[.int .i64 x] 3)) (w.alloc (.cells #[.int .i64 x] 3)).heap.size (.slice (some ⟨w.heap.size, 0, none⟩) 1 1) [x] := by
  refine ⟨_, 1, rfl, fun _ => ⟨w.heap.size, 0, rfl, by simp, fun i hi => ?_⟩⟩
  simp at hi
  subst hi
  exact cell_new _ _ _
set_option maxRecDepth 100000 in
set_option maxHeartbeats 1000000 in
theorem draw_given6 (v : Value) (a : Option Addr) (len cap : Nat) (w : World) (hv : v = .slice a len cap) (hc : len ≤ cap) (hcap : cap ≤ 9223372036854775807) (hB : Bytes w w.heap.size a len) :
    Calls Try.prog 32 #[v] w (Given6 w) := by
  have h0 := Lib.hid (rd_open v a len cap w hv hc hcap hB)
  clear hv hc hcap hB
  go_enter Try.func32, Try.ntmps32
  go_wp2_with fail
  refine (h0.out).mono ?_
  rintro e w0 ⟨r, rfl, hr, hR0, hb0, hz0⟩
  have hrw : w.heap.size ≤ r := by omega
  replace hr := Lib.hid hr
  replace hR0 := Lib.hid hR0
  replace hb0 := Lib.hid hb0
  go_wp2_with fail
  refine (rd_points r _ 0 w0 hR0.out (by omega) (by omega)).mono ?_
  rintro e w1 ⟨n, rfl, hn, hR1, hO1⟩
  have hn6 : n ≤ 6 ∨ n = 9 := by unfold drawnPts at hn; omega
  have hn1 : 0 ≤ n ∧ n ≤ 9 := by unfold drawnPts at hn; omega
  obtain ⟨hn1, hn2⟩ := hn1
  have hb1 := Lib.hid (hO1.below hb0.out hrw hb0.out.size)
  replace hR1 := Lib.hid hR1
  clear hn hO1 hR0
  go_wp2_with fail
  refine (draw_family r _ (0 + 2) n w1 hR1.out (by omega) (by omega) hn1 hn2).mono ?_
  rintro e w2 ⟨v2, L, p2, rfl, hL, hF2, hR2, q1, q2, hO2⟩
  obtain ⟨fa, fc, rfl, _⟩ := id hF2
  have hz01 := hb1.out.size
  have hb2 := Lib.hid (hO2.below hb1.out hrw hb1.out.size)
  replace hF2 := Lib.hid hF2
  clear hO2 hR1 hR2
  go_wp2_with fail
  go_ret2
  exact ⟨_, _, L, rfl, hn6, hL, hF2.out.mono (by omega) (Nat.le_refl _), hb2.out⟩
set_option maxRecDepth 100000 in
set_option maxHeartbeats 2000000 in
theorem draw_meets6 (v : Value) (a : Option Addr) (len cap : Nat) (w : World) (hv : v = .slice a len cap) (hc : len ≤ cap) (hcap : cap ≤ 9223372036854775807) (hB : Bytes w w.heap.size a len) :
    Calls Try.prog 26 #[v] w (Given6 w) := by
  have h0 := Lib.hid (draw_given6 v a len cap w hv hc hcap hB)
  subst hv
  clear hc hB
  go_enter Try.func26, Try.ntmps26
  go_wp2_with fail
  refine (h0.out).mono ?_
  rintro e w1 ⟨n, u, ys, rfl, hn6, hl2, hO2, hb⟩
  obtain ⟨va, vc, rfl, _⟩ := id hO2
  have z1 := hb.size
  have hf1 := Lib.hid (sp_FamilyIn n _ ys _ w1 hO2.row (by omega))
  replace hO2 := Lib.hid hO2
  replace hb := Lib.hid hb
  clear h0
  obtain ⟨b1, hb1⟩ : ∃ b, famB n ys = b := ⟨_, rfl⟩
  rw [hb1] at hf1
  go_wp2_with fail
  refine hf1.out.mono ?_
  rintro e w2 ⟨rfl, Q, rfl⟩
  have e2 : Given6 w (.returned (.tuple #[.int .i64 n, .slice va ys.length vc])) (w1.drewN Q) := ⟨n, _, ys, rfl, hn6, hl2, hO2.out.drewN Q, below_drewN hb.out Q⟩
  replace e2 := Lib.hid e2
  cases b1 with
  | false =>
    go_wp2_with fail
    exact bodyPost_ret (v := .tuple #[.int .i64 n, .slice va ys.length vc]) (by simp [results, Try.results26, go_sem]) rfl e2.out
  | true =>
    obtain ⟨b3, h3⟩ : ∃ b, (((len : Nat) : Int) % 4 == 0) = b := ⟨_, rfl⟩
    cases b3 with
    | true =>
      go_wp2_with fail
      exact bodyPost_ret (v := .tuple #[.int .i64 n, .slice va ys.length vc]) (by simp [results, Try.results26, go_sem]) rfl e2.out
    | false =>
      have hzy := Lib.hid (famB_lt hb1)
      have hcY := Lib.hid (show Row (w1.drewN Q) (w1.drewN Q).heap.size (.slice va ys.length vc) ys from (hO2.out.drewN Q).row)
      have hbW := Lib.hid (below_drewN hb.out Q)
      have zW : w.heap.size ≤ (w1.drewN Q).heap.size := z1
      obtain ⟨W, hW⟩ : ∃ W, w1.drewN Q = W := ⟨_, rfl⟩
      rw [hW] at hcY hbW zW e2 ⊢
      replace hW := Lib.hid hW
      replace hb1 := Lib.hid hb1
      have hlit := Lib.hid (OwnL.lit W (Nat.le_refl W.heap.size))
      clear e2 hf1 hO2 hb
      go_wp2_with fail
      go_loopw [6, 7] (fun o s wr => ∃ (k : Nat) (acc : List Int), k ≤ ys.length ∧ acc.length ≤ k ∧ s = .int .i64 k ∧ Hid (∀ y ∈ acc, 0 ≤ y ∧ y < 256) ∧ Hid (OwnL wr W.heap.size o acc) ∧ Hid (Below W.heap.size W wr)) (fun _ s _ => ys.length - (intOf s).toNat)
      case atStart => exact ⟨0, [], by omega, by simp, rfl, Lib.hid (by simp), hlit, Lib.hid ((Below.refl _ W).alloc (Nat.le_refl _) _)⟩
      case round =>
        obtain ⟨k, acc, hk, hacc, rfl, haz, hown, hbel⟩ := hrel
        have hsz := hbel.out.size
        obtain ⟨oa, oc, rfl⟩ := hown.out.form
        by_cases hlt : k < ys.length
        · have k1 : (0 : Int) ≤ (k : Int) := by omega
          have k2 : (k : Int) < (ys.length : Nat) := by omega
          obtain ⟨ya, yc, ye, yh⟩ := hcY.out
          injection ye with ye1 ye2 ye3
          subst ye1 ye3
          obtain ⟨bb, oo, rfl, t1, c1⟩ := yh (by omega)
          obtain ⟨z, hz0⟩ : ∃ z, ys.getD k 0 = z := ⟨_, rfl⟩
          have hmem : z ∈ ys := by rw [← hz0]; exact getD_mem hlt
          obtain ⟨u1, u2⟩ := hzy.out z hmem
          have e1 : wr.cell? ⟨bb, oo + k, none⟩ = some (.int .i64 z) := by rw [hbel.out.cell (p := ⟨bb, oo + k, none⟩) (show bb < W.heap.size by omega), ← hz0]; exact c1 k hlt
          by_cases hz00 : z = 0
          · subst hz00
            replace hz0 := Lib.hid hz0
            replace hmem := Lib.hid hmem
            clear c1 yh
            go_wp2_with fail
            go_roundw
            case rel => exact ⟨k + 1, acc, by omega, by omega, by go_num, haz, hown, hbel⟩
            case measure => simp [intOf]; omega
          · have hbA := hbel.out.alloc hsz (.cells #[.int .i64 z] 3)
            have hrowA : Row (wr.alloc (.cells #[.int .i64 z] 3)) (wr.alloc (.cells #[.int .i64 z] 3)).heap.size (.slice oa acc.length oc) acc := (hown.out.alloc (.cells #[.int .i64 z] 3)).own.row
            have hsp := sp_meets _ _ acc [z] _ _ hrowA (one_row6 wr z) (by omega) (by simp) haz.out (fun y hy => by simp at hy; subst hy; exact ⟨u1, u2⟩)
            have e3 : ∀ q, ((wr.alloc (.cells #[.int .i64 z] 3)).drewN q).cell? ⟨bb, oo + k, none⟩ = some (.int .i64 z) := fun q => by
              show (wr.alloc (.cells #[.int .i64 z] 3)).cell? ⟨bb, oo + k, none⟩ = _
              rw [World.cell?_alloc_lt _ _ ⟨bb, oo + k, none⟩ (show bb < wr.heap.size by omega)]; exact e1
            have hown2 := Lib.hid (fun q => (hown.out.alloc (.cells #[.int .i64 z] 3)).drewN q)
            have hown3 := Lib.hid (fun q => ((hown.out.alloc (.cells #[.int .i64 z] 3)).drewN q).alloc (.cells #[.int .i64 z] 3))
            have hb2' := Lib.hid (fun q => below_drewN hbA q)
            have hB1 : ∀ q, W.heap.size ≤ (((wr.alloc (.cells #[.int .i64 z] 3)).drewN q).alloc (.cells #[.int .i64 z] 3)).heap.size := fun q => by
              rw [World.size_alloc]
              have : ((wr.alloc (.cells #[.int .i64 z] 3)).drewN q).heap.size = wr.heap.size + 1 := by show (wr.alloc _).heap.size = _; rw [World.size_alloc]
              omega
            have hLl : acc.length ≤ 1073741824 := by omega
            have haz2 : ∀ y ∈ acc ++ [z], 0 ≤ y ∧ y < 256 := fun y hy => by
              rcases List.mem_append.1 hy with h | h
              · exact haz.out y h
              · simp at h; subst h; exact ⟨u1, u2⟩
            replace haz2 := Lib.hid haz2
            replace hB1 := Lib.hid hB1
            replace hz0 := Lib.hid hz0
            replace hmem := Lib.hid hmem
            replace e3 := Lib.hid e3
            obtain ⟨b, hbb⟩ : ∃ b, crossB acc [z] = b := ⟨_, rfl⟩
            rw [hbb] at hsp
            replace hbb := Lib.hid hbb
            replace hsp := Lib.hid hsp
            replace hown := Lib.hid hown
            clear c1 yh hbA hrowA
            cases b with
            | false =>
              go_wp2_with fail
              refine hsp.out.mono ?_
              rintro e w2 ⟨rfl, q2, rfl⟩
              have hO2 := Lib.hid (hown2.out q2)
              have hb3 := Lib.hid (hb2'.out q2)
              go_wp2_with fail
              go_roundw
              case rel => exact ⟨k + 1, acc, by omega, by omega, by go_num, haz, hO2, hb3⟩
              case measure => simp [intOf]; omega
            | true =>
              go_wp2_with fail
              refine hsp.out.mono ?_
              rintro e w2 ⟨rfl, q2, rfl⟩
              have hO2 := Lib.hid (hown3.out q2)
              have hb3 := Lib.hid (hb2'.out q2)
              have hB2 := hB1.out q2
              have e4 := e3.out q2
              have hcn := cell_new ((wr.alloc (.cells #[.int .i64 z] 3)).drewN q2) (.int .i64 z) 3
              obtain ⟨W6, hW6⟩ : ∃ W6, (wr.alloc (.cells #[.int .i64 z] 3)).drewN q2 = W6 := ⟨_, rfl⟩
              rw [hW6] at hO2 hb3 hB2 hcn e4 ⊢
              replace hW6 := Lib.hid hW6
              go_wp2_with (at_builtin; refine app_int rfl _ _ rfl W.heap.size _ acc rfl hO2.out z W6.heap.size rfl hcn hLl hB2 ?_; intro v' w3 hown4 hb4)
              replace hown4 := Lib.hid hown4
              replace hb4 := Lib.hid ((hb3.out.alloc hb3.out.size _).trans hb4)
              go_roundw
              case rel => exact ⟨k + 1, acc ++ [z], by omega, by simp; omega, by go_num, haz2, hown4, hb4⟩
              case measure => simp [intOf]; omega
        · have hfin : Given6 w (.returned (.tuple #[.int .i64 n, .slice oa acc.length oc])) wr := ⟨n, _, acc, rfl, hn6, by omega, hown.out.own.mono zW (Nat.le_refl _), hbW.out.trans (hbel.out.mono zW)⟩
          replace hfin := Lib.hid hfin
          go_wp2_with fail
          exact bodyPost_ret (v := .tuple #[.int .i64 n, .slice oa acc.length oc]) (by simp [results, Try.results26, go_sem]) rfl hfin.out
theorem draw_IntersectIn (v : Value) (a : Option Addr) (len cap : Nat) (w : World) (hv : v = .slice a len cap) (hc : len ≤ cap) (hcap : cap ≤ 9223372036854775807) (hB : Bytes w w.heap.size a len) :
    Calls Try.prog 10 #[v] w (Given6 w) := by
  have h0 := Lib.hid (draw_meets6 v a len cap w hv hc hcap hB)
  clear hv hc hcap hB
  go_enter Try.func10, Try.ntmps10
  go_wp2_with fail
  refine (h0.out).mono ?_
  rintro e w1 ⟨n, u, xs, rfl, hn6, hl, hO, hb⟩
  obtain ⟨fa, fc, rfl, _⟩ := id hO
  replace hO := Lib.hid hO
  replace hb := Lib.hid hb
  go_wp2_with fail
  go_ret2
  exact ⟨_, _, xs, rfl, hn6, hl, hO.out, hb.out⟩
theorem ev_yes {n : Int} {xs : List Int} (h : evB n xs = true) : famB n xs = true ∧ 0 < xs.length ∧ ∀ x ∈ xs, cntTo x 8 = cntTo (xs.getD 0 0) 8 := by
  unfold evB at h
  rw [Bool.and_eq_true, Bool.and_eq_true] at h
  obtain ⟨h1, h2, h3⟩ := h
  refine ⟨h1, of_decide_eq_true h2, fun x hx => ?_⟩
  unfold evN at h3
  rw [Bool.not_eq_true', List.any_eq_false] at h3
  have h4 := h3 x hx
  have h5 : cntI x = cntI (xs.getD 0 0) := by
    refine Classical.byContradiction fun hne => h4 ?_
    simpa using hne
  unfold cntI at h5
  omega
theorem ix_law {n : Int} {xs : List Int} (hc : crsB n xs xs = true) (n6 : n ≤ 6) (he : evB n xs = true) : mstB n (cntI (xs.getD 0 0)) = true ∧ ((xs.length : Nat) : Int) ≤ mstV n (cntI (xs.getD 0 0)) := by
  obtain ⟨hf, h0, hk⟩ := ev_yes he
  obtain ⟨n1, n2, hs⟩ := famB_all hf
  unfold crsB at hc
  rw [Bool.and_eq_true] at hc
  have hc := hc.2
  have hm : xs.getD 0 0 ∈ xs := getD_mem h0
  have hme := cross_yes hc _ hm _ hm
  obtain ⟨x1, x2⟩ := setB_lt (hs _ hm)
  obtain ⟨_, _, s1, s2⟩ := setB_yes (hs _ hm)
  obtain ⟨z, hz⟩ : ∃ z, xs.getD 0 0 = z := ⟨_, rfl⟩
  rw [hz] at hme hk x1 x2 s1 s2 ⊢
  have eN : ((2 ^ n.toNat : Nat) : Int) = 2 ^ n.toNat := by simp
  have ez : ((z.toNat : Nat) : Int) = z := Int.toNat_of_nonneg x1
  have en : ((n.toNat : Nat) : Int) = n := Int.toNat_of_nonneg (by omega)
  have h1 := cnt_one ⟨z.toNat, by omega⟩ (by
    show z.toNat ≠ 0
    intro e
    have : z = 0 := by omega
    subst this
    revert hme
    decide)
  simp only [ez] at h1
  have h2 := cnt_le_n ⟨n.toNat, by omega⟩ ⟨z.toNat, by omega⟩ (by show z.toNat < 2 ^ n.toNat; omega)
  simp only [ez, en] at h2
  obtain ⟨k, hkk⟩ : ∃ k : Nat, cntTo z 8 = k := ⟨_, rfl⟩
  have hck : cntI z = (k : Nat) := by unfold cntI; rw [hkk]
  rw [hkk] at hk
  rw [hck] at h1 h2 ⊢
  have hev := ix_even hf hc n6 (k := k) (by omega) h2 hk
  rcases mst_cases n (k : Nat) with ⟨hb, _⟩ | ⟨_, hno⟩
  · refine ⟨hb, ?_⟩
    unfold mstV
    rw [hb, if_pos rfl]
    by_cases h3 : 2 * k ≤ n.toNat
    · rw [if_pos h3] at hev
      rw [if_pos (by omega)]
      have := (ch_N (n := n.toNat - 1) (k := k - 1) (by omega) (by omega)).1
      rw [show ((n.toNat - 1 : Nat) : Int) = n - 1 by omega, show ((k - 1 : Nat) : Int) = (k : Int) - 1 by omega] at this
      omega
    · rw [if_neg h3] at hev
      rw [if_neg (by omega)]
      have := (ch_N (n := n.toNat) (k := k) (by omega) (by omega)).1
      rw [en] at this
      omega
  · exact absurd ⟨n1, n2, by omega, h2⟩ hno
set_option maxRecDepth 100000 in
set_option maxHeartbeats 4000000 in
theorem law_FnIntersecting (v : Value) (a : Option Addr) (len cap : Nat) (w : World) (hv : v = .slice a len cap) (hc : len ≤ cap) (hcap : cap ≤ 9223372036854775807) (hB : Bytes w w.heap.size a len) :
    Calls Try.prog 4 #[v] w fun e w' => e = .returned (.bool true) ∧ Below w.heap.size w w' := by
  have h0 := Lib.hid (draw_IntersectIn v a len cap w hv hc hcap hB)
  subst hv
  clear hB
  by_cases hbig : 1048576 < len
  · go_enter Try.func4, Try.ntmps4
    go_wp2_with fail
    go_ret
    exact ⟨rfl, Below.refl _ _⟩
  · go_enter Try.func4, Try.ntmps4
    go_wp2_with fail
    refine (h0.out).mono ?_
    rintro e w1 ⟨n, u, xs, rfl, hn6, hl, hO, hb⟩
    obtain ⟨ua, uc, rfl, _⟩ := id hO
    have z1 := hb.size
    have hi := im_IntersectIn n _ xs _ w1 hO.row (Nat.le_refl _) (by omega)
    have hs := fun (W : World) (hW : Below w1.heap.size w1 W) => sp_IntersectIn n _ xs w1.heap.size W (hO.row.below hW (Nat.le_refl _)) hW.size (by omega)
    have he := fun (W : World) (hW : Below w1.heap.size w1 W) => im_ShadowEven n _ xs w1.heap.size W (hO.row.below hW (Nat.le_refl _)) hW.size (by omega)
    have hR := Lib.hid hO.row
    have hb1 := Lib.hid hb
    clear hb hO
    obtain ⟨B, hBv⟩ : ∃ B, crsB n xs xs = B := ⟨_, rfl⟩
    rw [hBv] at hi hs
    rcases (by cases B <;> simp : B = true ∨ B = false) with rfl | rfl
    · have hf : famB n xs = true := by
        unfold crsB at hBv
        rw [Bool.and_eq_true, Bool.and_eq_true] at hBv
        exact hBv.1.1
      have hcr : crossB xs xs = true := by
        unfold crsB at hBv
        rw [Bool.and_eq_true] at hBv
        exact hBv.2
      obtain ⟨n1, n2, hset⟩ := famB_all hf
      have n6 : n ≤ 6 := by omega
      have hhalf := ix_half hf hcr
      have hlaw := ix_law hBv n6
      have hfl := famB_len hf
      obtain ⟨p1, p2, p3⟩ := pow_nat n1 n2
      obtain ⟨N, hN⟩ : ∃ N : Nat, 2 ^ n.toNat = N := ⟨_, rfl⟩
      have hn0 : (0 : Int) ≤ n := by omega
      have hn64 : n < 64 := by omega
      rw [hN] at p1 p2 p3 hhalf
      have hh : ¬ ((N : Int) < 2 * (xs.length : Nat)) := by omega
      replace hi := Lib.hid hi
      replace hs := Lib.hid hs
      replace hBv := Lib.hid hBv
      replace hf := Lib.hid hf
      replace hcr := Lib.hid hcr
      replace hN := Lib.hid hN
      go_wp2_with fail
      refine hi.out.mono ?_
      rintro e w2 ⟨rfl, hb2⟩
      have q2 := Lib.hid hb2
      have c2 := Lib.hid (hs.out w2 hb2)
      clear hb2
      go_wp2_with fail
      refine c2.out.mono ?_
      rintro e w3 ⟨rfl, q, rfl⟩
      have q3 := Lib.hid (below_drewN q2.out q)
      obtain ⟨w3, hw3⟩ : ∃ w3, w2.drewN q = w3 := ⟨_, rfl⟩
      rw [hw3] at q3 ⊢
      replace hw3 := Lib.hid hw3
      have c3 := he w3 q3.out
      obtain ⟨E, hE⟩ : ∃ E, evB n xs = E := ⟨_, rfl⟩
      rw [hE] at c3
      replace c3 := Lib.hid c3
      clear he
      rcases (by cases E <;> simp : E = true ∨ E = false) with rfl | rfl
      · obtain ⟨m1, m2⟩ := hlaw hE
        obtain ⟨_, hx0, _⟩ := ev_yes hE
        obtain ⟨x, hx⟩ : ∃ x, xs.getD 0 0 = x := ⟨_, rfl⟩
        obtain ⟨x1, x2⟩ := setB_lt (hset _ (getD_mem hx0))
        rw [hx] at m1 m2 x1 x2
        have hsz := law_size x x1 x2
        obtain ⟨k, hk⟩ : ∃ k, cntI x = k := ⟨_, rfl⟩
        rw [hk] at hsz m1 m2
        have hmo := fun W => im_IntersectMost n k W
        rw [m1] at hmo
        obtain ⟨M, hM⟩ : ∃ M, mstV n k = M := ⟨_, rfl⟩
        rw [hM] at hmo m2
        replace hsz := Lib.hid hsz
        replace hmo := Lib.hid hmo
        replace hM := Lib.hid hM
        replace hE := Lib.hid hE
        replace m1 := Lib.hid m1
        replace hlaw := Lib.hid hlaw
        replace hset := Lib.hid hset
        replace hk := Lib.hid hk
        go_wp2_with fail
        refine c3.out.mono ?_
        rintro e w4 ⟨rfl, hb4⟩
        have q4 := Lib.hid (q3.out.trans (hb4.mono q3.out.size))
        have hR4 := hR.out.below q4.out (Nat.le_refl _)
        obtain ⟨ra, rc, re, hcell⟩ := hR4
        injection re with r1 r2 r3
        subst r1 r3
        obtain ⟨bb, oo, rfl, t1, c1⟩ := hcell hx0
        have e1 := c1 0 hx0
        rw [Nat.add_zero, hx] at e1
        have k1 : (0 : Int) < (xs.length : Nat) := by omega
        replace hx := Lib.hid hx
        clear hb4 c1 hcell
        go_wp2_with (first | (go_at_call 15; (with_reducible refine (hsz.out _).mono ?_); rintro e w' ⟨rfl, rfl⟩) | (go_at_call 14; (with_reducible refine (hmo.out _).mono ?_); rintro e w' ⟨rfl, rfl⟩))
        go_ret
        exact ⟨ret_bool (by simp), hb1.out.trans (q4.out.mono z1)⟩
      · replace hE := Lib.hid hE
        replace hlaw := Lib.hid hlaw
        replace hset := Lib.hid hset
        go_wp2_with fail
        refine c3.out.mono ?_
        rintro e w4 ⟨rfl, hb4⟩
        have q4 := Lib.hid (q3.out.trans (hb4.mono q3.out.size))
        clear hb4
        go_wp2_with fail
        go_ret
        exact ⟨rfl, hb1.out.trans (q4.out.mono z1)⟩
    · replace hi := Lib.hid hi
      replace hs := Lib.hid hs
      replace hBv := Lib.hid hBv
      clear he
      go_wp2_with fail
      refine hi.out.mono ?_
      rintro e w2 ⟨rfl, hb2⟩
      have q2 := Lib.hid hb2
      have c2 := Lib.hid (hs.out w2 hb2)
      clear hb2
      go_wp2_with fail
      refine c2.out.mono ?_
      rintro e w3 ⟨rfl, q, rfl⟩
      have q3 := Lib.hid (below_drewN q2.out q)
      go_wp2_with fail
      go_ret
      exact ⟨rfl, hb1.out.trans (q3.out.mono z1)⟩
end Go.Proofs.Ytcadlfljlobjjaa
