/- The law FnCross. -/
import Derived.Test.YtaljnnjlhmlcoaaIs2
import Derived.Test.YtaljnnjlhmlcoaaDrawF
import Derived.Test.YtaljnnjlhmlcoaaAc1
import Derived.Test.YtaljnnjlhmlcoaaFLaws
namespace Go.Proofs.Ytaljnnjlhmlcoaa
open Go.ChangeShapes Go.WideShapes Go.ChangeAt Go.RowKit Go.Proofs

theorem one_row3 (w : World) (x : Int) : Row (w.alloc (.cells #[.int .i64 x] 3)) (w.alloc (.cells #[.int .i64 x] 3)).heap.size (.slice (some ⟨w.heap.size, 0, none⟩) 1 1) [x] := by
  refine ⟨_, 1, rfl, fun _ => ⟨w.heap.size, 0, rfl, by simp, fun i hi => ?_⟩⟩
  simp at hi
  subst hi
  exact cell_new _ _ _
theorem meet_pt3 {t x : Int} (hx : 0 ≤ x) (hx2 : x < 256) (h : meetB t x = true) : ∃ p : Nat, p < 8 ∧ hasB x (p : Nat) = true ∧ hasB t (p : Nat) = true := by
  unfold meetB andI at h
  have h1 : t.toNat &&& x.toNat ≠ 0 := by
    intro e; rw [e] at h; simp at h
  obtain ⟨i, hi⟩ := Nat.exists_testBit_of_ne_zero h1
  rw [Nat.testBit_and, Bool.and_eq_true] at hi
  refine ⟨i, ?_, ?_, ?_⟩
  · rcases Nat.lt_or_ge i 8 with h2 | h2
    · exact h2
    · have h3 : x.toNat < 2 ^ i := Nat.lt_of_lt_of_le (show x.toNat < 2 ^ 8 by omega) (Nat.pow_le_pow_right (by omega) h2)
      rw [Nat.testBit_lt_two_pow h3] at hi
      exact absurd hi.2 (by simp)
  · unfold hasB; rw [Int.toNat_natCast]; exact hi.2
  · unfold hasB; rw [Int.toNat_natCast]; exact hi.1
theorem oth_no : ∀ n : Fin 9, ∀ x : Fin 256, x.val < 2 ^ n.val → ∀ p : Fin 8, hasB (x.val : Nat) (p.val : Nat) = true → hasB (otherI (n.val : Nat) (x.val : Nat)) (p.val : Nat) = false := by decide +kernel
/-- a set that meets x is no part of the other points than x's. -/
theorem oth_part {n x z : Int} (hx : setB n x = true) (hz : setB n z = true) (h : meetB x z = true) : partB z (otherI n x) = false := by
  obtain ⟨n1, n2, x1, x2⟩ := setB_yes hx
  obtain ⟨z1, z2⟩ := setB_lt hz
  obtain ⟨x3, x4⟩ := setB_lt hx
  obtain ⟨p, p8, pz, px⟩ := meet_pt3 z1 z2 h
  have ho : hasB (otherI n x) (p : Nat) = false := by
    obtain ⟨N, rfl⟩ := Int.eq_ofNat_of_zero_le (show 0 ≤ n by omega)
    obtain ⟨X, rfl⟩ := Int.eq_ofNat_of_zero_le x1
    rw [Int.toNat_natCast] at x2
    have hh : ((2 ^ N : Nat) : Int) = (2 : Int) ^ N := by simp
    rw [← hh] at x2
    exact oth_no ⟨N, by omega⟩ ⟨X, by omega⟩ (Int.ofNat_lt.1 x2) ⟨p, p8⟩ px
  refine decide_eq_false fun e => ?_
  have h1 : (z.toNat &&& (otherI n x).toNat) = z.toNat := by unfold andI at e; omega
  have h2 : (z.toNat &&& (otherI n x).toNat).testBit (p : Int).toNat = true := by rw [h1]; exact pz
  rw [Nat.testBit_and, Bool.and_eq_true] at h2
  have h3 : (otherI n x).toNat.testBit (p : Int).toNat = true := h2.2
  unfold hasB at ho
  rw [h3] at ho
  cases ho
theorem cross_flip {n : Int} {xs zs : List Int} (h : crsB n xs zs = true) : crsB n zs xs = true := by
  unfold crsB at h ⊢
  simp only [Bool.and_eq_true] at h ⊢
  refine ⟨⟨h.1.2, h.1.1⟩, ?_⟩
  have h2 := h.2
  unfold crossB at h2 ⊢
  simp only [List.all_eq_true] at h2 ⊢
  exact fun z hz x hx => by rw [meet_comm]; exact h2 x hx z hz
theorem fam_oth3 {n : Int} {xs : List Int} (h : famB n xs = true) : famB n (sortL (xs.map (otherI n))) = true := by
  obtain ⟨n1, n2, hs⟩ := famB_all h
  refine famB_mk (ptsB_mk n1 n2) (fun z hz => ?_) (asc_sortL _)
  obtain ⟨a, ha, rfl⟩ := List.mem_map.1 (mem_sortL.1 hz)
  exact other_set (hs a ha)
theorem cross_oth {n : Int} {xs zs : List Int} (h : crsB n xs zs = true) : ∀ a ∈ sortL (xs.map (otherI n)), 0 ≤ a ∧ a < 256 ∧ ∀ z ∈ zs, 0 ≤ z ∧ z < 256 ∧ partB z a = false := by
  unfold crsB at h
  simp only [Bool.and_eq_true] at h
  intro a ha
  obtain ⟨x, hx, rfl⟩ := List.mem_map.1 (mem_sortL.1 ha)
  have sx := (famB_all h.1.1).2.2 x hx
  have hf := (famB_all (fam_oth3 h.1.1)).2.2 _ ha
  obtain ⟨a1, a2⟩ := setB_lt hf
  refine ⟨a1, a2, fun z hz => ?_⟩
  have sz := (famB_all h.1.2).2.2 z hz
  obtain ⟨z1, z2⟩ := setB_lt sz
  refine ⟨z1, z2, oth_part sx sz ?_⟩
  have h2 := h.2
  unfold crossB at h2
  rw [List.all_eq_true] at h2
  exact List.all_eq_true.1 (h2 x hx) z hz
set_option maxRecDepth 100000 in
set_option maxHeartbeats 2000000 in
theorem draw_Cross (v : Value) (a : Option Addr) (len cap : Nat) (w : World) (hv : v = .slice a len cap) (hc : len ≤ cap) (hcap : cap ≤ 9223372036854775807) (hB : Bytes w w.heap.size a len) :
    Calls Try.prog 19 #[v] w (TwoDraw w) := by
  have h0 := Lib.hid (draw_two v a len cap w hv hc hcap hB)
  subst hv
  clear hc hB
  go_enter Try.func19, Try.ntmps19
  go_wp2_with fail
  refine (h0.out).mono ?_
  rintro e w1 ⟨n, u, xs, v2, ys, rfl, hl1, hl2, hO1, hO2, hb⟩
  obtain ⟨ua, uc, rfl, _⟩ := id hO1
  obtain ⟨va, vc, rfl, _⟩ := id hO2
  have z1 := hb.size
  have hf1 := Lib.hid (sp_FamilyIn n _ xs _ w1 hO1.row (by omega))
  have hf2 := Lib.hid (fun q => sp_FamilyIn n _ ys _ (w1.drewN q) (hO2.row.drewN q) (by omega))
  replace hO1 := Lib.hid hO1
  replace hO2 := Lib.hid hO2
  replace hb := Lib.hid hb
  clear h0
  obtain ⟨b1, hb1⟩ : ∃ b, famB n xs = b := ⟨_, rfl⟩
  obtain ⟨b2, hb2⟩ : ∃ b, famB n ys = b := ⟨_, rfl⟩
  rw [hb1] at hf1
  rw [hb2] at hf2
  go_wp2_with fail
  refine hf1.out.mono ?_
  rintro e w2 ⟨rfl, q, rfl⟩
  have hend : ∀ q, TwoDraw w (.returned (.tuple #[.int .i64 n, .slice ua xs.length uc, .slice va ys.length vc])) (w1.drewN q) := fun q => ⟨n, _, xs, _, ys, rfl, hl1, hl2, hO1.out.drewN q, hO2.out.drewN q, below_drewN hb.out q⟩
  replace hend := Lib.hid hend
  cases b1 with
  | false =>
    go_wp2_with fail
    exact bodyPost_ret (v := .tuple #[.int .i64 n, .slice ua xs.length uc, .slice va ys.length vc]) (by simp [results, Try.results19, go_sem]) rfl (hend.out q)
  | true =>
    have d2 := Lib.hid (hf2.out q)
    go_wp2_with fail
    refine d2.out.mono ?_
    rintro e w2 ⟨rfl, q2, rfl⟩
    rw [World.drewN_drewN]
    obtain ⟨Q, hQ⟩ : ∃ Q, q + q2 = Q := ⟨_, rfl⟩
    rw [hQ]
    have e2 := Lib.hid (hend.out Q)
    cases b2 with
    | false =>
      go_wp2_with fail
      exact bodyPost_ret (v := .tuple #[.int .i64 n, .slice ua xs.length uc, .slice va ys.length vc]) (by simp [results, Try.results19, go_sem]) rfl e2.out
    | true =>
      obtain ⟨b3, h3⟩ : ∃ b, (((len : Nat) : Int) % 3 == 0) = b := ⟨_, rfl⟩
      cases b3 with
      | true =>
        go_wp2_with fail
        exact bodyPost_ret (v := .tuple #[.int .i64 n, .slice ua xs.length uc, .slice va ys.length vc]) (by simp [results, Try.results19, go_sem]) rfl e2.out
      | false =>
        have hzx := Lib.hid (famB_lt hb1)
        have hzy := Lib.hid (famB_lt hb2)
        have hcY := Lib.hid (show Row (w1.drewN Q) (w1.drewN Q).heap.size (.slice va ys.length vc) ys from (hO2.out.drewN Q).row)
        have hcX := Lib.hid (show Own (w1.drewN Q) w.heap.size (w1.drewN Q).heap.size (.slice ua xs.length uc) xs from hO1.out.drewN Q)
        have hbW := Lib.hid (below_drewN hb.out Q)
        have zW : w.heap.size ≤ (w1.drewN Q).heap.size := z1
        obtain ⟨W, hW⟩ : ∃ W, w1.drewN Q = W := ⟨_, rfl⟩
        rw [hW] at hcY hcX hbW zW e2 ⊢
        replace hW := Lib.hid hW
        replace hb1 := Lib.hid hb1
        replace hb2 := Lib.hid hb2
        have hlit := Lib.hid (OwnL.lit W (Nat.le_refl W.heap.size))
        clear e2 hend hf1 hf2 d2 hO1 hO2 hb
        go_wp2_with fail
        go_loopw [8, 9] (fun o s wr => ∃ (k : Nat) (acc : List Int), k ≤ ys.length ∧ acc.length ≤ k ∧ s = .int .i64 k ∧ Hid (OwnL wr W.heap.size o acc) ∧ Hid (Below W.heap.size W wr)) (fun _ s _ => ys.length - (intOf s).toNat)
        case atStart => exact ⟨0, [], by omega, by simp, rfl, hlit, Lib.hid ((Below.refl _ W).alloc (Nat.le_refl _) _)⟩
        case round =>
          obtain ⟨k, acc, hk, hacc, rfl, hown, hbel⟩ := hrel
          have hsz := hbel.out.size
          obtain ⟨oa, oc, rfl⟩ := hown.out.form
          by_cases hlt : k < ys.length
          · have k1 : (0 : Int) ≤ (k : Int) := by omega
            have k2 : (k : Int) < (ys.length : Nat) := by omega
            obtain ⟨ya, yc, ye, yh⟩ := hcY.out
            injection ye with ye1 ye2 ye3
            subst ye1 ye3
            obtain ⟨bb, oo, rfl, t1, c1⟩ := yh (by omega)
            obtain ⟨z, hz0⟩ : ∃ z, ys.getD k 0 = z := ⟨_, rfl⟩
            have hmem : z ∈ ys := by rw [← hz0]; exact getD_mem hlt
            obtain ⟨u1, u2⟩ := hzy.out z hmem
            have e1 : wr.cell? ⟨bb, oo + k, none⟩ = some (.int .i64 z) := by rw [hbel.out.cell (p := ⟨bb, oo + k, none⟩) (show bb < W.heap.size by omega), ← hz0]; exact c1 k hlt
            have hbA := hbel.out.alloc hsz (.cells #[.int .i64 z] 3)
            have hsp := sp_meets _ _ xs [z] _ _ ((hcX.out.row.below hbA (Nat.le_refl _)).mono (show W.heap.size ≤ (wr.alloc (.cells #[.int .i64 z] 3)).heap.size by rw [World.size_alloc]; omega)) (one_row3 wr z) (by omega) (by simp) hzx.out (fun y hy => by simp at hy; subst hy; exact ⟨u1, u2⟩)
            have e3 : ∀ q, ((wr.alloc (.cells #[.int .i64 z] 3)).drewN q).cell? ⟨bb, oo + k, none⟩ = some (.int .i64 z) := fun q => by
              show (wr.alloc (.cells #[.int .i64 z] 3)).cell? ⟨bb, oo + k, none⟩ = _
              rw [World.cell?_alloc_lt _ _ ⟨bb, oo + k, none⟩ (show bb < wr.heap.size by omega)]; exact e1
            have hown2 := Lib.hid (fun q => (hown.out.alloc (.cells #[.int .i64 z] 3)).drewN q)
            have hown3 := Lib.hid (fun q => ((hown.out.alloc (.cells #[.int .i64 z] 3)).drewN q).alloc (.cells #[.int .i64 z] 3))
            have hb2' := Lib.hid (fun q => below_drewN hbA q)
            have hB1 : ∀ q, W.heap.size ≤ (((wr.alloc (.cells #[.int .i64 z] 3)).drewN q).alloc (.cells #[.int .i64 z] 3)).heap.size := fun q => by
              rw [World.size_alloc]
              have : ((wr.alloc (.cells #[.int .i64 z] 3)).drewN q).heap.size = wr.heap.size + 1 := by show (wr.alloc _).heap.size = _; rw [World.size_alloc]
              omega
            have hLl : acc.length ≤ 1073741824 := by omega
            replace hB1 := Lib.hid hB1
            replace hz0 := Lib.hid hz0
            replace hmem := Lib.hid hmem
            replace e3 := Lib.hid e3
            obtain ⟨b, hbb⟩ : ∃ b, crossB xs [z] = b := ⟨_, rfl⟩
            rw [hbb] at hsp
            replace hbb := Lib.hid hbb
            replace hsp := Lib.hid hsp
            replace hown := Lib.hid hown
            clear c1 yh hbA
            cases b with
            | false =>
              go_wp2_with fail
              refine hsp.out.mono ?_
              rintro e w2 ⟨rfl, q2, rfl⟩
              have hO2 := Lib.hid (hown2.out q2)
              have hb3 := Lib.hid (hb2'.out q2)
              go_wp2_with fail
              go_roundw
              case rel => exact ⟨k + 1, acc, by omega, by omega, by go_num, hO2, hb3⟩
              case measure => simp [intOf]; omega
            | true =>
              go_wp2_with fail
              refine hsp.out.mono ?_
              rintro e w2 ⟨rfl, q2, rfl⟩
              have hO2 := Lib.hid (hown3.out q2)
              have hb3 := Lib.hid (hb2'.out q2)
              have hB2 := hB1.out q2
              have e4 := e3.out q2
              have hcn := cell_new ((wr.alloc (.cells #[.int .i64 z] 3)).drewN q2) (.int .i64 z) 3
              obtain ⟨W6, hW6⟩ : ∃ W6, (wr.alloc (.cells #[.int .i64 z] 3)).drewN q2 = W6 := ⟨_, rfl⟩
              rw [hW6] at hO2 hb3 hB2 hcn e4 ⊢
              replace hW6 := Lib.hid hW6
              go_wp2_with (at_builtin; refine app_int rfl _ _ rfl W.heap.size _ acc rfl hO2.out z W6.heap.size rfl hcn hLl hB2 ?_; intro v' w3 hown4 hb4)
              replace hown4 := Lib.hid hown4
              replace hb4 := Lib.hid ((hb3.out.alloc hb3.out.size _).trans hb4)
              go_roundw
              case rel => exact ⟨k + 1, acc ++ [z], by omega, by simp; omega, by go_num, hown4, hb4⟩
              case measure => simp [intOf]; omega
          · have hfin : TwoDraw w (.returned (.tuple #[.int .i64 n, .slice ua xs.length uc, .slice oa acc.length oc])) wr := ⟨n, _, xs, _, acc, rfl, hl1, by omega, (hcX.out.below hbel.out (Nat.le_refl _)).mono (Nat.le_refl _) hsz, hown.out.own.mono zW (Nat.le_refl _), hbW.out.trans (hbel.out.mono zW)⟩
            replace hfin := Lib.hid hfin
            go_wp2_with fail
            exact bodyPost_ret (v := .tuple #[.int .i64 n, .slice ua xs.length uc, .slice oa acc.length oc]) (by simp [results, Try.results19, go_sem]) rfl hfin.out
set_option maxRecDepth 100000 in
set_option maxHeartbeats 4000000 in
theorem law_FnCross (v : Value) (a : Option Addr) (len cap : Nat) (w : World) (hv : v = .slice a len cap) (hc : len ≤ cap) (hcap : cap ≤ 9223372036854775807) (hB : Bytes w w.heap.size a len) :
    Calls Try.prog 6 #[v] w fun e w' => e = .returned (.bool true) ∧ Below w.heap.size w w' := by
  have h0 := Lib.hid (draw_Cross v a len cap w hv hc hcap hB)
  subst hv
  clear hB
  by_cases hbig : 1048576 < len
  · go_enter Try.func6, Try.ntmps6
    go_wp2_with fail
    go_ret
    exact ⟨rfl, Below.refl _ _⟩
  · go_enter Try.func6, Try.ntmps6
    go_wp2_with fail
    refine (h0.out).mono ?_
    rintro e w1 ⟨n, u, xs, v2, ys, rfl, hl1, hl2, hO1, hO2, hb⟩
    obtain ⟨ua, uc, rfl, _⟩ := id hO1
    obtain ⟨va, vc, rfl, _⟩ := id hO2
    have s1 := hb.size
    have c1 := im_IntersectCross n _ _ xs ys _ w1 hO1.row hO2.row (Nat.le_refl _) (by omega) (by omega)
    have c2 := fun W (h : Below w1.heap.size w1 W) => sp_IntersectCross n _ _ xs ys w1.heap.size W (hO1.row.below h (Nat.le_refl _)) (hO2.row.below h (Nat.le_refl _)) h.size (by omega) (by omega)
    have c3 := fun W (h : Below w1.heap.size w1 W) => im_IntersectCross n _ _ ys xs w1.heap.size W (hO2.row.below h (Nat.le_refl _)) (hO1.row.below h (Nat.le_refl _)) h.size (by omega) (by omega)
    have c4 := fun W (h : Below w1.heap.size w1 W) => im_FamilyOther n _ xs w1.heap.size W (hO1.row.below h (Nat.le_refl _)) h.size (by omega)
    have hYr := Lib.hid (fun W (h : Below w1.heap.size w1 W) => hO2.row.below h (Nat.le_refl _))
    have hb1 := Lib.hid hb
    clear h0 hO1 hO2 hb
    obtain ⟨b, hb0⟩ : ∃ b, crsB n xs ys = b := ⟨_, rfl⟩
    rw [hb0] at c1 c2
    cases b with
    | false =>
      replace c1 := Lib.hid c1
      replace c2 := Lib.hid c2
      replace hb0 := Lib.hid hb0
      clear c3 c4
      go_wp2_with fail
      refine c1.out.mono ?_
      rintro e w2 ⟨rfl, hb2⟩
      have d2 := Lib.hid (c2.out w2 hb2)
      replace hb2 := Lib.hid hb2
      go_wp2_with fail
      refine d2.out.mono ?_
      rintro e w3 ⟨rfl, hb3⟩
      have hb5 := Lib.hid (hb1.out.trans ((hb2.out.trans (hb3.mono hb2.out.size)).mono s1))
      replace hb3 := Lib.hid hb3
      go_wp2_with fail
      go_ret
      exact ⟨rfl, hb5.out⟩
    | true =>
      have hx : famB n xs = true := by unfold crsB at hb0; simp only [Bool.and_eq_true] at hb0; exact hb0.1.1
      have hoth := cross_oth hb0
      rw [cross_flip hb0] at c3
      rw [hx] at c4
      have hol := famB_len (fam_oth3 hx)
      obtain ⟨O, hO⟩ : ∃ O, sortL (xs.map (otherI n)) = O := ⟨_, rfl⟩
      rw [hO] at hoth hol
      replace c4 := Lib.hid (show ∀ W (_ : Below w1.heap.size w1 W), Calls Try.prog 22 #[.int .i64 n, .slice ua xs.length uc] W (ListPost O true W) from fun W h => by
        have := c4 W h
        rw [← hO]
        exact this)
      replace c1 := Lib.hid c1
      replace c2 := Lib.hid c2
      replace c3 := Lib.hid c3
      replace hb0 := Lib.hid hb0
      replace hx := Lib.hid hx
      replace hO := Lib.hid hO
      replace hoth := Lib.hid hoth
      go_wp2_with fail
      refine c1.out.mono ?_
      rintro e w2 ⟨rfl, hb2⟩
      have d2 := Lib.hid (c2.out w2 hb2)
      replace hb2 := Lib.hid hb2
      go_wp2_with fail
      refine d2.out.mono ?_
      rintro e w3 ⟨rfl, hb3⟩
      have hb3' := Lib.hid (hb2.out.trans (hb3.mono hb2.out.size))
      have d3 := Lib.hid (c4.out w3 hb3'.out)
      clear hb3
      go_wp2_with fail
      refine d3.out.mono ?_
      rintro e w4 ⟨v4, rfl, hN, hb4⟩
      obtain ⟨oa, oc, rfl, _⟩ := id hN
      have hR4 := Lib.hid hN.row
      have hb4' := Lib.hid (hb3'.out.trans (hb4.mono hb3'.out.size))
      have hY4 := Lib.hid (hYr.out w4 hb4'.out)
      have c3' := Lib.hid (fun q => c3.out (w4.drewN q) (below_drewN hb4'.out q))
      have hend := Lib.hid (fun q W (h : Below (w4.drewN q).heap.size (w4.drewN q) W) => hb1.out.trans (((below_drewN hb4'.out q).trans (h.mono hb4'.out.size)).mono s1))
      have s4 := hb4'.out.size
      clear hN hb4 c1 c2 c4 d2 d3
      go_wp2_with fail
      go_loopw [10] (fun s wr => ∃ k : Nat, k ≤ O.length ∧ s = .int .i64 k ∧ Hid (∃ q, wr = w4.drewN q)) (fun s _ => O.length - (intOf s).toNat)
      case atStart => exact ⟨0, by omega, rfl, Lib.hid ⟨0, rfl⟩⟩
      case round =>
        obtain ⟨k, hk, rfl, hw⟩ := hrel
        by_cases hlt : k < O.length
        · obtain ⟨oa', oc', oe, oh⟩ := hR4.out
          injection oe with oe1 oe2 oe3
          subst oe1 oe3
          obtain ⟨b1, o1, rfl, t1, cc1⟩ := oh (by omega)
          have k1 : (0 : Int) ≤ (k : Int) := by omega
          have k2 : (k : Int) < (O.length : Nat) := by omega
          obtain ⟨x, hx0⟩ : ∃ x, O.getD k 0 = x := ⟨_, rfl⟩
          have hmx : x ∈ O := by rw [← hx0]; exact getD_mem hlt
          obtain ⟨a1, a2, haz⟩ := hoth.out x hmx
          replace cc1 := Lib.hid cc1
          replace hmx := Lib.hid hmx
          replace hx0 := Lib.hid hx0
          replace haz := Lib.hid haz
          clear oh
          go_wp2_with fail
          go_loopw [11] (fun j wq => ∃ m : Nat, m ≤ ys.length ∧ j = .int .i64 m ∧ Hid (∃ q, wq = w4.drewN q)) (fun j _ => ys.length - (intOf j).toNat)
          case atStart => exact ⟨0, by omega, rfl, hw⟩
          case round =>
            obtain ⟨m, hm, rfl, hw⟩ := hrel
            by_cases hlm : m < ys.length
            · obtain ⟨ya, yc, ye, yh⟩ := hY4.out
              injection ye with ye1 ye2 ye3
              subst ye1 ye3
              obtain ⟨b2, o2, rfl, t2, cc2⟩ := yh (by omega)
              have m1 : (0 : Int) ≤ (m : Int) := by omega
              have m2 : (m : Int) < (ys.length : Nat) := by omega
              have hwd : ∀ p, Hid (∃ q, wr.drewN p = w4.drewN q) := fun p => by
                obtain ⟨q, h⟩ := hw.out
                exact Lib.hid ⟨q + p, by rw [h]; exact World.drewN_drewN _ _ _⟩
              have e1 : wr.cell? ⟨b1, o1 + k, none⟩ = some (.int .i64 x) := by
                obtain ⟨q, h⟩ := hw.out
                rw [h, ← hx0.out]; exact cc1.out k hlt
              obtain ⟨z, hz0⟩ : ∃ z, ys.getD m 0 = z := ⟨_, rfl⟩
              have e2 : wr.cell? ⟨b2, o2 + m, none⟩ = some (.int .i64 z) := by
                obtain ⟨q, h⟩ := hw.out
                rw [h, ← hz0]; exact cc2 m hlm
              have hmz : z ∈ ys := by rw [← hz0]; exact getD_mem hlm
              obtain ⟨u1, u2, hp⟩ := haz.out z hmz
              obtain ⟨d, hd, d1, d2, d3⟩ := i64_part u1 u2 a1 a2
              rw [hp] at d3
              replace hz0 := Lib.hid hz0
              replace hmz := Lib.hid hmz
              replace hp := Lib.hid hp
              clear cc2 hw yh
              go_wp2_with fail
              go_quiet (fail)
              go_wp2_with fail
              go_roundw
              case rel => exact ⟨m + 1, by omega, by go_num, hwd _⟩
              case measure => simp [intOf]; omega
            · go_wp2_with fail
              go_roundw
              case rel => exact ⟨k + 1, by omega, by go_num, hw⟩
              case measure => simp [intOf]; omega
        · obtain ⟨q, rfl⟩ := hw.out
          have d5 := Lib.hid (c3'.out q)
          go_wp2_with fail
          refine d5.out.mono ?_
          rintro e w5 ⟨rfl, hb5⟩
          replace hb5 := Lib.hid (hend.out q _ hb5)
          go_wp2_with fail
          go_ret
          exact ⟨rfl, hb5.out⟩
end Go.Proofs.Ytaljnnjlhmlcoaa
