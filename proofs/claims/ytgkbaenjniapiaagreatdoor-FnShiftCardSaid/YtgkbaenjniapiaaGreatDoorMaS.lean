/- Laws over the program that ask for shadows: FnShift. -/
import Derived.Test.YtgkbaenjniapiaaGreatDoorMa0
import Derived.Test.YtgkbaenjniapiaaGreatDoorMa1
import Derived.Test.YtgkbaenjniapiaaGreatDoorAllD
import Derived.Test.YtgkbaenjniapiaaGreatDoorSameL
import Derived.Test.YtgkbaenjniapiaaGreatDoorAllSp
import Derived.Test.YtgkbaenjniapiaaGreatDoorAllShm
import Derived.Test.YtgkbaenjniapiaaGreatDoorAllTs
import Derived.Test.YtgkbaenjniapiaaGreatDoorAllTn
import Derived.Test.YtgkbaenjniapiaaGreatDoorFams14
namespace Go.Proofs.YtgkbaenjniapiaaGreatDoor
open Go.ChangeShapes Go.WideShapes Go.ChangeAt Go.RowKit Go.Proofs

/-- what a draw of a number, a family and two points gives. -/
def ShiftDraw (w : World) (e : Ending) (w' : World) : Prop := ∃ n u xs i k, e = .returned (.tuple #[.int .i64 n, u, .int .i64 i, .int .i64 k]) ∧ xs.length ≤ 300 ∧ Own w' w.heap.size w'.heap.size u xs ∧ Below w.heap.size w w'
set_option maxRecDepth 100000 in
set_option maxHeartbeats 1000000 in
theorem draw_ShiftOf (v : Value) (a : Option Addr) (len cap : Nat) (w : World) (hv : v = .slice a len cap) (hc : len ≤ cap) (hcap : cap ≤ 9223372036854775807) (hB : Bytes w w.heap.size a len) :
    Calls Tryz.prog 6 #[v] w (ShiftDraw w) := by
  have h0 := Lib.hid (rd_open v a len cap w hv hc hcap hB)
  clear hv hc hcap hB
  go_enter Tryz.func6, Tryz.ntmps6
  go_wp2_with fail
  refine (h0.out).mono ?_
  rintro e w0 ⟨r, rfl, hr, hR0, hb0, hz0⟩
  have hrw : w.heap.size ≤ r := by omega
  replace hr := Lib.hid hr
  replace hR0 := Lib.hid hR0
  replace hb0 := Lib.hid hb0
  go_wp2_with fail
  refine (rd_points r _ 0 w0 hR0.out (by omega) (by omega)).mono ?_
  rintro e w1 ⟨n, rfl, hn, hR1, hO1⟩
  have hn1 : 0 ≤ n ∧ n ≤ 9 := by unfold drawnPts at hn; omega
  obtain ⟨hn1, hn2⟩ := hn1
  have hz1 := hO1.size
  have hb1 := Lib.hid (hO1.below hb0.out hrw hb0.out.size)
  have hrl1 := hR1.lt
  replace hR1 := Lib.hid hR1
  clear hn hO1 hR0
  go_wp2_with fail
  refine (draw_family r _ (0 + 2) n w1 hR1.out (by omega) (by omega) hn1 hn2).mono ?_
  rintro e w2 ⟨v2, L, p2, rfl, hL, hF2, hR2, q1, q2, hO2⟩
  obtain ⟨fa, fc, rfl, _⟩ := id hF2
  have hz2 := hO2.size
  have hz01 := hb1.out.size
  have hb2 := Lib.hid (hO2.below hb1.out hrw hb1.out.size)
  replace hR2 := Lib.hid hR2
  replace hF2 := Lib.hid hF2
  clear hO2 hR1
  have hM1 : max 1 n ≤ 10 := by omega
  have hM0 : 1 ≤ max 1 n := by omega
  obtain ⟨M, hM⟩ : ∃ M : Int, max 1 n = M := ⟨_, rfl⟩
  rw [hM] at hM1 hM0
  go_wp2_with fail
  refine (rd_pick r _ p2 M w2 hR2.out q1 (by omega) (by omega)).mono ?_
  rintro e w3 ⟨i, rfl, hi, hR3, hO3⟩
  have hz3 := hO3.size
  have hF3 := Lib.hid (hF2.out.only hO3 hrl1 (Nat.le_refl _))
  have hb3 := Lib.hid (hO3.below hb2.out hrw hb2.out.size)
  replace hR3 := Lib.hid hR3
  clear hi hO3 hR2
  have q3 : 0 ≤ p2 + 1 := by omega
  go_wp2_with fail
  refine (rd_pick r _ (p2 + 1) 20 w3 hR3.out q3 (by omega) (by omega)).mono ?_
  rintro e w4 ⟨y, rfl, ⟨y1, y2, y3, y4⟩, hR4, hO4⟩
  have y5 : y < 20 := y3 (by omega)
  have hz4 := hO4.size
  have hF4 := Lib.hid (hF3.out.only hO4 hrl1 (by omega))
  have hb4 := Lib.hid (hO4.below hb3.out hrw hb3.out.size)
  replace hR4 := Lib.hid hR4
  clear y3 y4 hO4 hR3
  go_wp2_with fail
  have hm1 : M + y / 19 ≤ 1000000 := by omega
  have q4 : 0 ≤ p2 + 1 + 1 := by omega
  refine (rd_pick r _ (p2 + 1 + 1) (M + y / 19) w4 hR4.out q4 (by omega) hm1).mono ?_
  rintro e w5 ⟨k, rfl, hk, hR5, hO5⟩
  have hz5 := hO5.size
  have hF5 := Lib.hid (hF4.out.only hO5 hrl1 (by omega))
  have hb5 := Lib.hid (hO5.below hb4.out hrw hb4.out.size)
  clear hk hO5 hR4 hR5
  go_wp2_with fail
  exact bodyPost_ret (v := .tuple #[.int .i64 n, .slice fa L.length fc, .int .i64 i, .int .i64 k]) (by simp [results, Tryz.results6, go_sem]) rfl ⟨n, _, L, i, k, rfl, hL, hF5.out.mono (by omega) (by omega), hb5.out⟩
/-- what a shift does to a set's part without a point. -/
def shf (x i k p : Int) : Bool :=
  (!hasB x p || (movedI (lessI x p) i k == lessI x p || (hasB (movedI x i k) p && movedI (lessI x p) i k == lessI (movedI x i k) p) || (hasB x i && movedI (lessI x p) i k == lessI x i))) &&
  (movedI x i k == x || !hasB (movedI x i k) p || (movedI (lessI (movedI x i k) p) i k == lessI (movedI x i k) p && ((hasB x i && lessI (movedI x i k) p == lessI x i) || (hasB x p && movedI (lessI x p) i k == lessI (movedI x i k) p))))
theorem shf_dec : ∀ x : Fin 256, ∀ i k p : Fin 8, shf (x.val : Nat) (i.val : Nat) (k.val : Nat) (p.val : Nat) = true := by decide +kernel
theorem shf_all {x i k p : Int} (x1 : 0 ≤ x) (x2 : x < 256) (i1 : 0 ≤ i) (i2 : i ≤ 7) (k1 : 0 ≤ k) (k2 : k ≤ 7) (p1 : 0 ≤ p) (p2 : p ≤ 7) : shf x i k p = true := by
  obtain ⟨X, rfl⟩ := nat_of x1
  obtain ⟨I, rfl⟩ := nat_of i1
  obtain ⟨K, rfl⟩ := nat_of k1
  obtain ⟨P, rfl⟩ := nat_of p1
  exact shf_dec ⟨X, by omega⟩ ⟨I, by omega⟩ ⟨K, by omega⟩ ⟨P, by omega⟩
/-- the shadow of what is shifted is in the shifted shadow. -/
theorem dn_turn {n i k : Int} (hi : ptB n i = true) (hk : ptB n k = true) {xs : List Int} (hf : famB n xs = true) :
    ∀ z ∈ sortL (dnL (tnL (fun x => movedI x i k) xs)), z ∈ tnL (fun x => movedI x i k) (sortL (dnL xs)) := by
  obtain ⟨n1, n2, hs⟩ := famB_all hf
  obtain ⟨i1, i2⟩ := ptB_yes hi
  obtain ⟨k1, k2⟩ := ptB_yes hk
  intro z hz
  obtain ⟨t, ht, p, hp, rfl⟩ := mem_dn.1 hz
  obtain ⟨x, hx, hxt⟩ := List.mem_map.1 (mem_sortL.1 ht)
  obtain ⟨x1, x2⟩ := setB_lt (hs x hx)
  have hty : 0 ≤ t ∧ t < 256 := by
    have := setB_lt ((famB_all (tn_fam (mv_set hi hk) hf)).2.2 t ht)
    exact this
  obtain ⟨p1, p2, hpt⟩ := mem_pts hty.1 hty.2 hp
  have hF := shf_all x1 x2 i1 (show i ≤ 7 by omega) k1 (show k ≤ 7 by omega) p1 p2
  unfold shf at hF
  simp only [Bool.and_eq_true, Bool.or_eq_true, Bool.not_eq_true', beq_iff_eq] at hF
  obtain ⟨hA, hB⟩ := hF
  have hin : ∀ y q, y ∈ xs → 0 ≤ q → q ≤ 7 → hasB y q = true → lessI y q ∈ sortL (dnL xs) := fun y q hy q1 q2 hq => by
    obtain ⟨y1, y2⟩ := setB_lt (hs y hy)
    exact mem_dn.2 ⟨y, hy, q, pts_mk y1 y2 q1 q2 hq, rfl⟩
  unfold rpI at hxt
  split at hxt
  · next hm =>
    subst hxt
    have hφ := memB_yes hm
    refine in_turn (.inl ⟨hin x p hx p1 p2 hpt, ?_⟩)
    show movedI (lessI x p) i k ∈ _
    rcases hA with hA | (hA | hA) | hA
    · rw [hpt] at hA; cases hA
    · rw [hA]; exact hin x p hx p1 p2 hpt
    · rw [hA.2]; exact hin _ p hφ p1 p2 hA.1
    · rw [hA.2]; exact hin x i hx i1 (by omega) hA.1
  · next hm =>
    subst hxt
    rcases hB with (hB | hB) | hB
    · exact absurd (memB_mk (hB ▸ hx)) (by simpa using hm)
    · rw [hpt] at hB; cases hB
    · obtain ⟨h1, h2 | h2⟩ := hB
      · refine in_turn (.inl ⟨?_, ?_⟩)
        · rw [h2.2]; exact hin x i hx i1 (by omega) h2.1
        · show movedI _ i k ∈ _
          rw [h1, h2.2]; exact hin x i hx i1 (by omega) h2.1
      · exact in_turn (.inr ⟨h1, lessI x p, hin x p hx p1 p2 h2.1, h2.2⟩)
theorem prof_turn {n i k : Int} {xs : List Int} (hf : famB n xs = true) (hi : ptB n i = true) (hk : ptB n k = true) (N : Nat) : profL N (tnL (fun x => movedI x i k) xs) = profL N xs := by
  obtain ⟨n1, n2, hs⟩ := famB_all hf
  obtain ⟨i1, i2⟩ := ptB_yes hi
  obtain ⟨k1, k2⟩ := ptB_yes hk
  unfold profL
  refine List.map_congr_left fun j _ => ?_
  unfold cntP
  rw [tn_count (famB_asc hf) (fun x => cntI x == ((j : Nat) : Int)) fun x hx => by
    obtain ⟨x1, x2⟩ := setB_lt (hs x hx)
    rw [cnt_mv x1 x2 i1 (by omega) k1 (by omega)]]
theorem asc_sub : ∀ {ys xs : List Int}, Asc xs → Asc ys → (∀ z ∈ xs, z ∈ ys) → xs.Sublist ys
  | [], [], _, _, _ => List.Sublist.refl _
  | [], x :: xs, _, _, h => absurd (h x List.mem_cons_self) (by simp)
  | y :: ys, [], _, _, _ => List.nil_sublist _
  | y :: ys, x :: xs, hx, hy, h => by
    have hx' := List.pairwise_cons.1 hx
    have hy' := List.pairwise_cons.1 hy
    by_cases e : x = y
    · subst e
      exact (asc_sub hx'.2 hy'.2 fun z hz => (List.mem_cons.1 (h z (List.mem_cons_of_mem _ hz))).resolve_left fun e => by have := hx'.1 z hz; omega).cons_cons _
    · have hxy : y < x := hy'.1 x ((List.mem_cons.1 (h x List.mem_cons_self)).resolve_left e)
      refine (asc_sub hx hy'.2 fun z hz => (List.mem_cons.1 (h z hz)).resolve_left fun e2 => ?_).cons _
      rcases List.mem_cons.1 hz with h2 | h2
      · omega
      · have := hx'.1 z h2; omega
theorem sub_len {xs ys : List Int} (hx : Asc xs) (hy : Asc ys) (h : ∀ z ∈ xs, z ∈ ys) : xs.length ≤ ys.length := (asc_sub hx hy h).length_le
set_option maxRecDepth 100000 in
set_option maxHeartbeats 4000000 in
theorem law_FnShift (v : Value) (a : Option Addr) (len cap : Nat) (w : World) (hv : v = .slice a len cap) (hc : len ≤ cap) (hcap : cap ≤ 9223372036854775807) (hB : Bytes w w.heap.size a len) (hT0 : Tab w) :
    Calls Tryz.prog 3 #[v] w fun e w' => e = .returned (.bool true) ∧ Below w.heap.size w w' := by
  have h0 := Lib.hid (draw_ShiftOf v a len cap w hv hc hcap hB)
  have htl := hT0.lt
  replace hT0 := Lib.hid hT0
  subst hv
  clear hB
  by_cases hbig : 1048576 < len
  · go_enter Tryz.func3, Tryz.ntmps3
    go_wp2_with fail
    go_ret
    exact ⟨rfl, Below.refl _ _⟩
  · go_enter Tryz.func3, Tryz.ntmps3
    go_wp2_with fail
    refine (h0.out).mono ?_
    rintro e w1 ⟨n, u, xs, i, k, rfl, hl, hO, hb⟩
    obtain ⟨ua, uc, rfl, _⟩ := id hO
    have z1 := hb.size
    have hb1 := Lib.hid hb
    have hi := im_ShiftOf n _ xs i k _ w1 hO.row (Nat.le_refl _) (by omega)
    have hs := fun (W : World) (hW : Below w1.heap.size w1 W) => sp_ShiftOf n _ xs i k w1.heap.size W (hO.row.below hW (Nat.le_refl _)) hW.size (by omega)
    have RX1 := Lib.hid hO.row
    clear hb hO
    rcases (by cases (famB n xs && (ptB n i && ptB n k)) <;> simp : (famB n xs && (ptB n i && ptB n k)) = true ∨ (famB n xs && (ptB n i && ptB n k)) = false) with hbv | hbv
    · rw [hbv] at hi hs
      replace hi := Lib.hid (show Calls _ _ _ _ (ListPost (tnL (fun x => movedI x i k) xs) true w1) from hi)
      replace hs := fun (W : World) (hW : Below w1.heap.size w1 W) => (show Calls _ _ _ _ (ListPost (tnL (fun x => movedI x i k) xs) true W) from hs W hW)
      obtain ⟨T, hT⟩ : ∃ T, tnL (fun x => movedI x i k) xs = T := ⟨_, rfl⟩
      rw [hT] at hi hs
      have hsame : sameB T T = true := decide_eq_true rfl
      rw [Bool.and_eq_true, Bool.and_eq_true] at hbv
      obtain ⟨fx, fi, fk⟩ := hbv
      have lx := famB_len fx
      obtain ⟨n1, n2, _⟩ := famB_all fx
      have fT : famB n T = true := hT ▸ tn_fam (mv_set fi fk) fx
      have lT := famB_len fT
      have fP := dn_fam fT
      have lP := famB_len fP
      have fY := dn_fam fx
      have lY := famB_len fY
      have fZ := tn_fam (mv_set fi fk) fY
      have lZ := famB_len fZ
      have hE := prof_turn fx fi fk (n.toNat + 1)
      have hQ := dn_turn fi fk fx
      have hlz := tn_len (i := i) (k := k) (famB_asc fY)
      rw [hT] at hE hQ
      have hN := filt_all (asc_sortL _) hQ
      have hle : (sortL (dnL T)).length ≤ (tnL (fun x => movedI x i k) (sortL (dnL xs))).length := sub_len (asc_sortL _) (asc_sortL _) hQ
      rw [hlz] at hle
      have hc1 := fun (W : World) (v : Value) (h1 : Row W W.heap.size v xs) => im_FamilyProfile n v xs W.heap.size W h1 (Nat.le_refl _) (by omega)
      have hc2 := fun (W : World) (v : Value) (h1 : Row W W.heap.size v T) => im_FamilyProfile n v T W.heap.size W h1 (Nat.le_refl _) (by omega)
      rw [hE] at hc2
      have lA := profL_len (n.toNat + 1) xs
      obtain ⟨A, hA⟩ : ∃ A, profL (n.toNat + 1) xs = A := ⟨_, rfl⟩
      rw [hA] at hc1 hc2 lA
      have hsa : sameB A A = true := decide_eq_true rfl
      have hc3 := fun (W : World) (v : Value) (h1 : Row W W.heap.size v T) (h2 : Tab W) => im_ShadowOf n v T W.heap.size W h1 (Nat.le_refl _) (by omega) h2
      have hc4 := fun (W : World) (v : Value) (h1 : Row W W.heap.size v xs) (h2 : Tab W) => im_ShadowOf n v xs W.heap.size W h1 (Nat.le_refl _) (by omega) h2
      obtain ⟨P, hP⟩ : ∃ P, sortL (dnL T) = P := ⟨_, rfl⟩
      rw [hP] at hc3 hN fP lP hle
      have hsp : sameB P P = true := decide_eq_true rfl
      obtain ⟨Y, hY⟩ : ∃ Y, sortL (dnL xs) = Y := ⟨_, rfl⟩
      rw [hY] at hc4 hN fY lY hle fZ lZ
      have hc5 := fun (W : World) (v : Value) (h1 : Row W W.heap.size v Y) => im_ShiftOf n v Y i k W.heap.size W h1 (Nat.le_refl _) (by omega)
      obtain ⟨Z, hZ⟩ : ∃ Z, tnL (fun x => movedI x i k) Y = Z := ⟨_, rfl⟩
      rw [hZ] at hc5 hN fZ lZ
      have hc6 := fun (W : World) (v u : Value) (h1 : Row W W.heap.size v P) (h2 : Row W W.heap.size u Z) => im_FamilyCommon n v u P Z W.heap.size W h1 h2 (Nat.le_refl _) (by omega) (by omega)
      rw [hN] at hc6
      simp only [fx, fT, fP, fY, fZ, fi, fk, Bool.and_true] at hc1 hc2 hc3 hc4 hc5 hc6
      replace lA : A.length ≤ 9 := by omega
      have hle2 : ((P.length : Nat) : Int) ≤ ((Y.length : Nat) : Int) := by omega
      replace hc1 := Lib.hid (show ∀ (W : World) (v : Value), Row W W.heap.size v xs → Calls Tryz.prog 10 #[.int .i64 n, v] W (ListPost A true W) from hc1)
      replace hc2 := Lib.hid (show ∀ (W : World) (v : Value), Row W W.heap.size v T → Calls Tryz.prog 10 #[.int .i64 n, v] W (ListPost A true W) from hc2)
      replace hc3 := Lib.hid (show ∀ (W : World) (v : Value), Row W W.heap.size v T → Tab W → Calls Tryz.prog 11 #[.int .i64 n, v] W (ListPost P true W) from hc3)
      replace hc4 := Lib.hid (show ∀ (W : World) (v : Value), Row W W.heap.size v xs → Tab W → Calls Tryz.prog 11 #[.int .i64 n, v] W (ListPost Y true W) from hc4)
      replace hc5 := Lib.hid (show ∀ (W : World) (v : Value), Row W W.heap.size v Y → Calls Tryz.prog 7 #[.int .i64 n, v, .int .i64 i, .int .i64 k] W (ListPost Z true W) from hc5)
      replace hc6 := Lib.hid (show ∀ (W : World) (v u : Value), Row W W.heap.size v P → Row W W.heap.size u Z → Calls Tryz.prog 12 #[.int .i64 n, v, u] W (ListPost P true W) from hc6)
      clear hlz
      replace hA := Lib.hid hA
      replace hP := Lib.hid hP
      replace hY := Lib.hid hY
      replace hZ := Lib.hid hZ
      replace hE := Lib.hid hE
      replace hQ := Lib.hid hQ
      replace hN := Lib.hid hN
      replace fx := Lib.hid fx
      replace fT := Lib.hid fT
      replace fP := Lib.hid fP
      replace fY := Lib.hid fY
      replace fZ := Lib.hid fZ
      replace fi := Lib.hid fi
      replace fk := Lib.hid fk
      replace hs := Lib.hid hs
      replace hT := Lib.hid hT
      go_wp2_with fail
      refine (hi.out).mono ?_
      rintro e w2 ⟨v2, rfl, hN, hbn⟩
      obtain ⟨c2, d2, rfl, _⟩ := id hN
      have zn := hbn.size
      have RX2 := Lib.hid ((RX1.out.below hbn (Nat.le_refl _)).mono zn)
      have RT2 := Lib.hid hN.row
      have hb2 := Lib.hid (hb1.out.trans (hbn.mono hb1.out.size))
      have hbr := Lib.hid hbn
      clear hN hbn zn
      have hcs := Lib.hid (hs.out w2 hbr.out)
      go_wp2_with fail
      refine (hcs.out).mono ?_
      rintro e w3 ⟨v3, rfl, hN, hbn⟩
      obtain ⟨c3, d3, rfl, _⟩ := id hN
      have zn := hbn.size
      have RX3 := Lib.hid ((RX2.out.below hbn (Nat.le_refl _)).mono zn)
      have RT3 := Lib.hid ((RT2.out.below hbn (Nat.le_refl _)).mono zn)
      have RM3 := Lib.hid hN.row
      have hb3 := Lib.hid (hb2.out.trans (hbn.mono hb2.out.size))
      clear hN hbn zn
      have hq3 := same_l _ _ T T w3.heap.size w3 RT3.out RM3.out (by omega) (by omega)
      rw [hsame] at hq3
      replace hq3 := Lib.hid hq3
      go_wp2_with fail
      refine (hq3.out).mono ?_
      rintro e w' ⟨rfl, q3, rfl⟩
      have hb4 := Lib.hid (below_drewN hb3.out q3)
      have RX4 := Lib.hid (show Row (w3.drewN q3) (w3.drewN q3).heap.size _ _ from RX3.out.drewN q3)
      have RT4 := Lib.hid (show Row (w3.drewN q3) (w3.drewN q3).heap.size _ _ from RT3.out.drewN q3)
      have RM4 := Lib.hid (show Row (w3.drewN q3) (w3.drewN q3).heap.size _ _ from RM3.out.drewN q3)
      obtain ⟨w4, hw4⟩ : ∃ w4, w3.drewN q3 = w4 := ⟨_, rfl⟩
      rw [hw4] at hb4 RX4 RT4 RM4 ⊢
      replace hw4 := Lib.hid hw4
      go_wp2_with fail
      refine (hc1.out w4 _ RX4.out).mono ?_
      rintro e w5 ⟨v5, rfl, hN, hbn⟩
      obtain ⟨c5, d5, rfl, _⟩ := id hN
      have zn := hbn.size
      have RX5 := Lib.hid ((RX4.out.below hbn (Nat.le_refl _)).mono zn)
      have RT5 := Lib.hid ((RT4.out.below hbn (Nat.le_refl _)).mono zn)
      have RM5 := Lib.hid ((RM4.out.below hbn (Nat.le_refl _)).mono zn)
      have RA5 := Lib.hid hN.row
      have hb5 := Lib.hid (hb4.out.trans (hbn.mono hb4.out.size))
      clear hN hbn zn
      go_wp2_with fail
      refine (hc2.out w5 _ RT5.out).mono ?_
      rintro e w6 ⟨v6, rfl, hN, hbn⟩
      obtain ⟨c6, d6, rfl, _⟩ := id hN
      have zn := hbn.size
      have RX6 := Lib.hid ((RX5.out.below hbn (Nat.le_refl _)).mono zn)
      have RT6 := Lib.hid ((RT5.out.below hbn (Nat.le_refl _)).mono zn)
      have RM6 := Lib.hid ((RM5.out.below hbn (Nat.le_refl _)).mono zn)
      have RA6 := Lib.hid ((RA5.out.below hbn (Nat.le_refl _)).mono zn)
      have RB6 := Lib.hid hN.row
      have hb6 := Lib.hid (hb5.out.trans (hbn.mono hb5.out.size))
      clear hN hbn zn
      go_wp2_with fail
      refine (hc3.out w6 _ RT6.out (hT0.out.below hb6.out htl)).mono ?_
      rintro e w7 ⟨v7, rfl, hN, hbn⟩
      obtain ⟨c7, d7, rfl, _⟩ := id hN
      have zn := hbn.size
      have RX7 := Lib.hid ((RX6.out.below hbn (Nat.le_refl _)).mono zn)
      have RT7 := Lib.hid ((RT6.out.below hbn (Nat.le_refl _)).mono zn)
      have RM7 := Lib.hid ((RM6.out.below hbn (Nat.le_refl _)).mono zn)
      have RA7 := Lib.hid ((RA6.out.below hbn (Nat.le_refl _)).mono zn)
      have RB7 := Lib.hid ((RB6.out.below hbn (Nat.le_refl _)).mono zn)
      have RP7 := Lib.hid hN.row
      have hb7 := Lib.hid (hb6.out.trans (hbn.mono hb6.out.size))
      clear hN hbn zn
      go_wp2_with fail
      refine (hc4.out w7 _ RX7.out (hT0.out.below hb7.out htl)).mono ?_
      rintro e w8 ⟨v8, rfl, hN, hbn⟩
      obtain ⟨c8, d8, rfl, _⟩ := id hN
      have zn := hbn.size
      have RX8 := Lib.hid ((RX7.out.below hbn (Nat.le_refl _)).mono zn)
      have RT8 := Lib.hid ((RT7.out.below hbn (Nat.le_refl _)).mono zn)
      have RM8 := Lib.hid ((RM7.out.below hbn (Nat.le_refl _)).mono zn)
      have RA8 := Lib.hid ((RA7.out.below hbn (Nat.le_refl _)).mono zn)
      have RB8 := Lib.hid ((RB7.out.below hbn (Nat.le_refl _)).mono zn)
      have RP8 := Lib.hid ((RP7.out.below hbn (Nat.le_refl _)).mono zn)
      have RY8 := Lib.hid hN.row
      have hb8 := Lib.hid (hb7.out.trans (hbn.mono hb7.out.size))
      clear hN hbn zn
      go_wp2_with fail
      refine (hc5.out w8 _ RY8.out).mono ?_
      rintro e w9 ⟨v9, rfl, hN, hbn⟩
      obtain ⟨c9, d9, rfl, _⟩ := id hN
      have zn := hbn.size
      have RX9 := Lib.hid ((RX8.out.below hbn (Nat.le_refl _)).mono zn)
      have RT9 := Lib.hid ((RT8.out.below hbn (Nat.le_refl _)).mono zn)
      have RM9 := Lib.hid ((RM8.out.below hbn (Nat.le_refl _)).mono zn)
      have RA9 := Lib.hid ((RA8.out.below hbn (Nat.le_refl _)).mono zn)
      have RB9 := Lib.hid ((RB8.out.below hbn (Nat.le_refl _)).mono zn)
      have RP9 := Lib.hid ((RP8.out.below hbn (Nat.le_refl _)).mono zn)
      have RY9 := Lib.hid ((RY8.out.below hbn (Nat.le_refl _)).mono zn)
      have RZ9 := Lib.hid hN.row
      have hb9 := Lib.hid (hb8.out.trans (hbn.mono hb8.out.size))
      clear hN hbn zn
      go_wp2_with fail
      refine (hc6.out w9 _ _ RP9.out RZ9.out).mono ?_
      rintro e w10 ⟨v10, rfl, hN, hbn⟩
      obtain ⟨c10, d10, rfl, _⟩ := id hN
      have zn := hbn.size
      have RX10 := Lib.hid ((RX9.out.below hbn (Nat.le_refl _)).mono zn)
      have RT10 := Lib.hid ((RT9.out.below hbn (Nat.le_refl _)).mono zn)
      have RM10 := Lib.hid ((RM9.out.below hbn (Nat.le_refl _)).mono zn)
      have RA10 := Lib.hid ((RA9.out.below hbn (Nat.le_refl _)).mono zn)
      have RB10 := Lib.hid ((RB9.out.below hbn (Nat.le_refl _)).mono zn)
      have RP10 := Lib.hid ((RP9.out.below hbn (Nat.le_refl _)).mono zn)
      have RY10 := Lib.hid ((RY9.out.below hbn (Nat.le_refl _)).mono zn)
      have RZ10 := Lib.hid ((RZ9.out.below hbn (Nat.le_refl _)).mono zn)
      have RC10 := Lib.hid hN.row
      have hb10 := Lib.hid (hb9.out.trans (hbn.mono hb9.out.size))
      clear hN hbn zn
      have hq10 := same_l _ _ A A w10.heap.size w10 RA10.out RB10.out (by omega) (by omega)
      rw [hsa] at hq10
      replace hq10 := Lib.hid hq10
      go_wp2_with fail
      refine (hq10.out).mono ?_
      rintro e w' ⟨rfl, q10, rfl⟩
      have hb11 := Lib.hid (below_drewN hb10.out q10)
      have RX11 := Lib.hid (show Row (w10.drewN q10) (w10.drewN q10).heap.size _ _ from RX10.out.drewN q10)
      have RT11 := Lib.hid (show Row (w10.drewN q10) (w10.drewN q10).heap.size _ _ from RT10.out.drewN q10)
      have RM11 := Lib.hid (show Row (w10.drewN q10) (w10.drewN q10).heap.size _ _ from RM10.out.drewN q10)
      have RA11 := Lib.hid (show Row (w10.drewN q10) (w10.drewN q10).heap.size _ _ from RA10.out.drewN q10)
      have RB11 := Lib.hid (show Row (w10.drewN q10) (w10.drewN q10).heap.size _ _ from RB10.out.drewN q10)
      have RP11 := Lib.hid (show Row (w10.drewN q10) (w10.drewN q10).heap.size _ _ from RP10.out.drewN q10)
      have RY11 := Lib.hid (show Row (w10.drewN q10) (w10.drewN q10).heap.size _ _ from RY10.out.drewN q10)
      have RZ11 := Lib.hid (show Row (w10.drewN q10) (w10.drewN q10).heap.size _ _ from RZ10.out.drewN q10)
      have RC11 := Lib.hid (show Row (w10.drewN q10) (w10.drewN q10).heap.size _ _ from RC10.out.drewN q10)
      obtain ⟨w11, hw11⟩ : ∃ w11, w10.drewN q10 = w11 := ⟨_, rfl⟩
      rw [hw11] at hb11 RX11 RT11 RM11 RA11 RB11 RP11 RY11 RZ11 RC11 ⊢
      replace hw11 := Lib.hid hw11
      have hq11 := same_l _ _ P P w11.heap.size w11 RC11.out RP11.out (by omega) (by omega)
      rw [hsp] at hq11
      replace hq11 := Lib.hid hq11
      go_wp2_with fail
      refine (hq11.out).mono ?_
      rintro e w' ⟨rfl, q11, rfl⟩
      have hb12 := Lib.hid (below_drewN hb11.out q11)
      have RX12 := Lib.hid (show Row (w11.drewN q11) (w11.drewN q11).heap.size _ _ from RX11.out.drewN q11)
      have RT12 := Lib.hid (show Row (w11.drewN q11) (w11.drewN q11).heap.size _ _ from RT11.out.drewN q11)
      have RM12 := Lib.hid (show Row (w11.drewN q11) (w11.drewN q11).heap.size _ _ from RM11.out.drewN q11)
      have RA12 := Lib.hid (show Row (w11.drewN q11) (w11.drewN q11).heap.size _ _ from RA11.out.drewN q11)
      have RB12 := Lib.hid (show Row (w11.drewN q11) (w11.drewN q11).heap.size _ _ from RB11.out.drewN q11)
      have RP12 := Lib.hid (show Row (w11.drewN q11) (w11.drewN q11).heap.size _ _ from RP11.out.drewN q11)
      have RY12 := Lib.hid (show Row (w11.drewN q11) (w11.drewN q11).heap.size _ _ from RY11.out.drewN q11)
      have RZ12 := Lib.hid (show Row (w11.drewN q11) (w11.drewN q11).heap.size _ _ from RZ11.out.drewN q11)
      have RC12 := Lib.hid (show Row (w11.drewN q11) (w11.drewN q11).heap.size _ _ from RC11.out.drewN q11)
      obtain ⟨w12, hw12⟩ : ∃ w12, w11.drewN q11 = w12 := ⟨_, rfl⟩
      rw [hw12] at hb12 RX12 RT12 RM12 RA12 RB12 RP12 RY12 RZ12 RC12 ⊢
      replace hw12 := Lib.hid hw12
      go_wp2_with fail
      go_ret
      exact ⟨rfl, hb12.out⟩
    · rw [hbv] at hi hs
      replace hi := Lib.hid (show Calls _ _ _ _ (ListPost [] false w1) from hi)
      replace hs := Lib.hid (fun (W : World) (hW : Below w1.heap.size w1 W) => (show Calls _ _ _ _ (ListPost [] false W) from hs W hW))
      have hsame : sameB ([] : List Int) [] = true := decide_eq_true rfl
      replace hbv := Lib.hid hbv
      go_wp2_with fail
      refine hi.out.mono ?_
      rintro e w2 ⟨v2, rfl, hO2, hb2⟩
      obtain ⟨va, vc, rfl, _⟩ := id hO2
      have z2 := hb2.size
      have hcs := Lib.hid (hs.out w2 hb2)
      replace hO2 := Lib.hid hO2
      replace hb2 := Lib.hid (hb1.out.trans (hb2.mono z1))
      go_wp2_with fail
      refine hcs.out.mono ?_
      rintro e w3 ⟨v3, rfl, hO3, hb3⟩
      obtain ⟨ya, yc, rfl, _⟩ := id hO3
      have z3 := hb3.size
      have hO23 := Lib.hid (hO2.out.below hb3 (Nat.le_refl _))
      replace hO3 := Lib.hid hO3
      replace hb3 := Lib.hid (hb2.out.trans (hb3.mono hb2.out.size))
      have hq : ∀ W, (∃ q, W = w3.drewN q) → Calls Tryz.prog 9 #[.slice va ([] : List Int).length vc, .slice ya ([] : List Int).length yc] W fun e w' => e = .returned (.bool true) ∧ ∃ n, w' = W.drewN n := by
        rintro W ⟨q, rfl⟩
        have := same_l (.slice va ([] : List Int).length vc) (.slice ya ([] : List Int).length yc) _ _ w3.heap.size (w3.drewN q) ((hO23.out.row.mono z3).drewN q) (hO3.out.row.drewN q) (by simp) (by simp)
        rw [hsame] at this
        exact this
      replace hq := Lib.hid hq
      go_wp2_with fail
      refine (hq.out w3 ⟨0, rfl⟩).mono ?_
      rintro e w4 ⟨rfl, q, rfl⟩
      go_wp2_with fail
      refine (hq.out _ ⟨q, rfl⟩).mono ?_
      rintro e w5 ⟨rfl, q5, rfl⟩
      go_wp2_with fail
      go_ret
      exact ⟨rfl, below_drewN hb3.out _⟩
end Go.Proofs.YtgkbaenjniapiaaGreatDoor
