/- Texts merged: XTs1 XTs2 XTs3. -/
import Derived.Test.YtgkbaenjniapiaaGreatDoorAllTn
import Derived.Test.YtgkbaenjniapiaaGreatDoorAllSp
import Derived.Test.YtgkbaenjniapiaaGreatDoorLawsC
import Derived.BigQuiet
import Derived.Deep.LoopGhost
namespace Go.Proofs.YtgkbaenjniapiaaGreatDoor
section
/- The model's shifts and pressings: one of them. -/
open Go.ChangeShapes Go.WideShapes Go.ChangeAt Go.RowKit Go.Proofs

theorem tn_all {n : Int} {φ : Int → Int} (h : SetT n φ) {xs : List Int} (ys : List Int) (hall : allB n xs = true) : allB n (xs.map (rpI φ ys)) = true := List.all_eq_true.2 fun z hz => by
  obtain ⟨y, hy, rfl⟩ := List.mem_map.1 hz
  exact rp_set h (allB_yes hall y hy)
theorem less_i64 {s p : Int} (h1 : 0 ≤ s) (h2 : s < 256) (h3 : 0 ≤ p) (h4 : p ≤ 7) : bits .andNot .i64 s (wrap64 (2 ^ p.toNat)) = lessI s p :=
  all256_8 (P := fun s p => bits .andNot .i64 s (wrap64 (2 ^ p.toNat)) = lessI s p) (by decide +kernel) h1 h2 h3 h4
set_option maxRecDepth 100000 in
set_option maxHeartbeats 2000000 in
theorem l4shift_at (n i k : Int) (lv : Value) (xs : List Int) (S : Nat) (w : World) (hx : Row w S lv xs) (hS : S ≤ w.heap.size) (hf : famB n xs = true) (hi : ptB n i = true) (hkk : ptB n k = true) :
    Calls Tryz.prog 28 #[.int .i64 n, lv, .int .i64 i, .int .i64 k] w (IntsPost (tnL (fun x => movedI x i k) xs) w) := by
  have hl := famB_len hf
  obtain ⟨n1, n2, _⟩ := famB_all hf
  have hset := Lib.hid (mv_set hi hkk)
  have i1 := ptB_yes hi
  have j1 := ptB_yes hkk
  have hmv := Lib.hid (fun x h1 h2 W => sp_l1moved x i k h1 h2 i1.1 (by omega) j1.1 (by omega) W)
  replace hi := Lib.hid hi
  replace hkk := Lib.hid hkk
  have hta := Lib.hid (tn_all hset.out xs (famB_allB hf))
  have hmk := Lib.hid (marks_at n lv xs S w hx hS (by omega) n1 n2 (famB_allB hf))
  obtain ⟨a, cap, rfl, ha⟩ := hx
  replace ha := Lib.hid ha
  replace hf := Lib.hid hf
  obtain ⟨φ, hφ⟩ : ∃ φ : Int → Int, (fun x => movedI x i k) = φ := ⟨_, rfl⟩
  rw [hφ] at hta hset ⊢
  have hφx : ∀ x, movedI x i k = φ x := fun x => by rw [← hφ]
  replace hφx := Lib.hid hφx
  replace hφ := Lib.hid hφ
  obtain ⟨N, hN⟩ : ∃ N, 2 ^ n.toNat = N := ⟨_, rfl⟩
  rw [hN] at hmk
  have hnat := Lib.hid (fun (x : Int) (h : setB n x = true) => show ∃ t : Nat, x = t ∧ t < N from hN ▸ set_nat h)
  replace hN := Lib.hid hN
  go_enter Tryz.func28, Tryz.ntmps28
  go_wp2_with fail
  refine hmk.out.mono ?_
  rintro e w1 ⟨b, rfl, hb0, hb1, hm, hbw⟩
  have hz1 := hbw.size
  have ha1 := Lib.hid (fun (W : World) (hW : Below w1.heap.size w1 W) => hbw.trans (hW.mono hz1))
  replace hm := Lib.hid hm
  replace hbw := Lib.hid hbw
  clear hmk
  go_wp2_with fail
  go_loopw [10, 11] (fun v q wr => ∃ m : Nat, m ≤ xs.length ∧ q = .int .i64 m ∧ Hid (OwnL wr w1.heap.size v ((xs.take m).map (rpI φ xs))) ∧ Hid (Below w1.heap.size w1 wr)) (fun _ q _ => xs.length - (intOf q).toNat)
  case atStart => exact ⟨0, by omega, rfl, Lib.hid (OwnL.lit w1 (Nat.le_refl _)), Lib.hid ((Below.refl _ _).alloc (Nat.le_refl _) _)⟩
  case round =>
    obtain ⟨m, hm2, rfl, hown, hbel⟩ := hrel
    have hsz := hbel.out.size
    by_cases hlt : m < xs.length
    · obtain ⟨b1, o1, rfl, t1, c1⟩ := ha.out (by omega)
      have k1 : (0 : Int) ≤ (m : Int) := by omega
      have k2 : (m : Int) < (xs.length : Nat) := by omega
      obtain ⟨x, hx⟩ : ∃ x, xs.getD m 0 = x := ⟨_, rfl⟩
      have e1 : wr.cell? ⟨b1, o1 + m, none⟩ = some (.int .i64 x) := hx ▸ (((ha1.out _ hbel.out).cell (p := ⟨b1, o1 + m, none⟩) (show b1 < w.heap.size by omega)).trans (c1 m hlt))
      have hsx := allB_yes (famB_allB hf.out) x (by rw [← hx]; exact getD_mem hlt)
      obtain ⟨z1, z2⟩ := setB_lt hsx
      obtain ⟨t, ht, htN⟩ := hnat.out _ (hset.out x hsx)
      have e2 : wr.cell? ⟨b, t, none⟩ = some (.bool (memB (t : Int) xs)) := World.rowIs.cell (hm.out.below hbel.out hb1) htN
      have hst := map_take hlt hx (rpI φ xs)
      have hlen : ((xs.take m).map (rpI φ xs)).length ≤ 1073741824 := by simp; omega
      have hrp : rpI φ xs x = if memB (t : Int) xs then x else (t : Int) := by unfold rpI; rw [ht]
      have hcl := hmv.out x z1 z2 wr
      rw [hφx.out x, ht] at hcl
      have hcl2 := Lib.hid (hcl.mono (fun e W (h : e = .returned (.int .i64 (t : Int)) ∧ ∃ a, W = wr.drewN a) => (show e = .returned (.int .i64 (t : Int)) ∧ Below wr.heap.size wr W from ⟨h.1, by obtain ⟨a, rfl⟩ := h.2; exact below_drewN (Below.refl _ _) a⟩)))
      clear hcl
      have t0 : (0 : Int) ≤ (t : Int) := by omega
      have tN : (t : Int) < (N : Nat) := by omega
      obtain ⟨ys, hys⟩ : ∃ ys, (xs.take m).map (rpI φ xs) = ys := ⟨_, rfl⟩
      rw [hys] at hown hst hlen
      obtain ⟨a', c', rfl⟩ := hown.out.form
      replace hsx := Lib.hid hsx
      replace ht := Lib.hid ht
      replace hys := Lib.hid hys
      replace hx := Lib.hid hx
      clear c1
      rcases (by cases memB (t : Int) xs <;> simp : memB (t : Int) xs = true ∨ memB (t : Int) xs = false) with hmb | hmb
      · rw [hmb, if_pos rfl] at hrp
        rw [hmb] at e2
        rw [hrp] at hst
        replace hrp := Lib.hid hrp
        replace hmb := Lib.hid hmb
        replace hst := Lib.hid hst.symm
        have hB1 : ∀ o, w1.heap.size ≤ (wr.alloc o).heap.size := fun o => by rw [World.size_alloc]; omega
        replace hB1 := Lib.hid hB1
        go_wp2_with fail
        refine hcl2.out.mono ?_
        rintro e w2 ⟨rfl, hbq⟩
        have hblt1 : b1 < wr.heap.size := by omega
        have hblt2 : b < wr.heap.size := by omega
        have f1 := (hbq.cell (p := ⟨b1, o1 + m, none⟩) hblt1).trans e1
        have f2 := (hbq.cell (p := ⟨b, t, none⟩) hblt2).trans e2
        have hown2 := Lib.hid (hown.out.below hbq (Nat.le_refl _))
        have hz2 := hbq.size
        have hbel2 := Lib.hid (hbel.out.trans (hbq.mono hsz))
        have hsz2 : w1.heap.size ≤ w2.heap.size := Nat.le_trans hsz hz2
        have hB2 : w1.heap.size ≤ (w2.alloc (.cells #[.int .i64 x] 3)).heap.size := by rw [World.size_alloc]; omega
        replace hbq := Lib.hid hbq
        clear e1 e2
        go_wp2_with (at_builtin; refine app_int rfl _ _ rfl w1.heap.size _ ys rfl (hown2.out.alloc _) x w2.heap.size rfl (cell_new _ _ _) hlen hB2 ?_; intro v' w3 hown1 hb1')
        rw [hst.out] at hown1
        replace hown1 := Lib.hid hown1
        have hb2 := Lib.hid ((hbel2.out.alloc hsz2 _).trans hb1')
        go_roundw
        case rel => exact ⟨m + 1, by omega, by go_num, hown1, hb2⟩
        case measure => simp [intOf]; omega
      · rw [hmb, if_neg (by simp)] at hrp
        rw [hmb] at e2
        rw [hrp] at hst
        replace hrp := Lib.hid hrp
        replace hmb := Lib.hid hmb
        replace hst := Lib.hid hst.symm
        have hB1 : ∀ o, w1.heap.size ≤ (wr.alloc o).heap.size := fun o => by rw [World.size_alloc]; omega
        replace hB1 := Lib.hid hB1
        go_wp2_with fail
        refine hcl2.out.mono ?_
        rintro e w2 ⟨rfl, hbq⟩
        have hblt1 : b1 < wr.heap.size := by omega
        have hblt2 : b < wr.heap.size := by omega
        have f1 := (hbq.cell (p := ⟨b1, o1 + m, none⟩) hblt1).trans e1
        have f2 := (hbq.cell (p := ⟨b, t, none⟩) hblt2).trans e2
        have hown2 := Lib.hid (hown.out.below hbq (Nat.le_refl _))
        have hz2 := hbq.size
        have hbel2 := Lib.hid (hbel.out.trans (hbq.mono hsz))
        have hsz2 : w1.heap.size ≤ w2.heap.size := Nat.le_trans hsz hz2
        have hB2 : w1.heap.size ≤ (w2.alloc (.cells #[.int .i64 (t : Int)] 3)).heap.size := by rw [World.size_alloc]; omega
        replace hbq := Lib.hid hbq
        clear e1 e2
        go_wp2_with (at_builtin; refine app_int rfl _ _ rfl w1.heap.size _ ys rfl (hown2.out.alloc _) (t : Int) w2.heap.size rfl (cell_new _ _ _) hlen hB2 ?_; intro v' w3 hown1 hb1')
        rw [hst.out] at hown1
        replace hown1 := Lib.hid hown1
        have hb2 := Lib.hid ((hbel2.out.alloc hsz2 _).trans hb1')
        go_roundw
        case rel => exact ⟨m + 1, by omega, by go_num, hown1, hb2⟩
        case measure => simp [intOf]; omega
    · obtain rfl : m = xs.length := by omega
      have hO := hown.out
      rw [List.take_length] at hO
      have hyl : (xs.map (rpI φ xs)).length ≤ 1073741824 := by simp; omega
      have htn : sortL (xs.map (rpI φ xs)) = tnL φ xs := rfl
      have hta2 := hta.out
      obtain ⟨ys, hys⟩ : ∃ ys, xs.map (rpI φ xs) = ys := ⟨_, rfl⟩
      rw [hys] at hO hyl htn hta2
      obtain ⟨a', c', rfl⟩ := hO.form
      have hfa := Lib.hid (family_at n _ ys _ wr hO.own.row (Nat.le_refl _) hyl n1 n2 hta2)
      replace htn := Lib.hid htn
      replace hta2 := Lib.hid hta2
      replace hO := Lib.hid hO
      replace hys := Lib.hid hys
      clear hown
      go_wp2_with fail
      refine hfa.out.mono ?_
      rintro e w4 ⟨v4, rfl, hO4, hb4⟩
      obtain ⟨x1, x2, rfl⟩ := hO4.form
      replace hb4 := Lib.hid ((ha1.out _ hbel.out).trans (hb4.mono (by omega)))
      replace hO4 := Lib.hid (hO4.mono (show w.heap.size ≤ wr.heap.size by omega))
      go_wp2_with fail
      go_ret
      exact ⟨_, rfl, by rw [← htn.out]; exact hO4.out, hb4.out⟩
end
section
/- The model's shifts and pressings. -/
open Go.ChangeShapes Go.WideShapes Go.ChangeAt Go.RowKit Go.Proofs

/-- what a round leaves: a list of its own, or the list that came in. -/
def RoundPost (lv : Value) (xs L : List Int) (w : World) (e : Ending) (w' : World) : Prop := ∃ v, e = .returned v ∧ (OwnL w' w.heap.size v L ∨ (v = lv ∧ L = xs)) ∧ Row w' w'.heap.size v L ∧ Below w.heap.size w w'
theorem rd_fam_t {n : Int} {φs : List (Int → Int)} {xs : List Int} (h : TurnsT n φs) (hf : famB n xs = true) : famB n (rdL φs xs) = true := rd_fam (fun φ hφ => (h φ hφ).1) hf
theorem shTo_turns (n : Int) {i k : Nat} (hk : k ≤ i) (hi : (i : Int) < n) : TurnsT n (shTo i k) := by
  intro φ hφ
  obtain ⟨a, b, h1, h2, h3, rfl⟩ := mem_shTo hφ hk
  have hi : ptB n (a : Nat) = true := ptB_mk (by omega) (by omega)
  have hk : ptB n (b : Nat) = true := ptB_mk (by omega) (by omega)
  exact ⟨mv_set hi hk, fun x hx => (mv_facts hx hi hk).2.1 (by omega)⟩
theorem prTo_turns (n : Int) {p : Nat} (hp : (p : Int) ≤ n) : TurnsT n (prTo p) := by
  intro φ hφ
  obtain ⟨q, hq, rfl⟩ := List.mem_map.1 hφ
  have h1 := mem_upI.1 hq
  have hk : ptB n q = true := ptB_mk (by omega) (by omega)
  exact ⟨ls_set hk, fun x hx => (ls_facts hx hk).1⟩
end
section
/- The model's ShiftOf, ShiftPress, ShiftedIn, PressedIn, ShiftAll, PressAll. -/
open Go.ChangeShapes Go.WideShapes Go.ChangeAt Go.RowKit Go.Proofs

theorem sp_pt {n p : Int} {b : Bool} (h : ptB n p = b) (W : World) : Calls Tryz.prog 27 #[.int .i64 p, .int .i64 0, .int .i64 (n - 1)] W fun e w' => e = .returned (.bool b) ∧ W = w' :=
  (l6in p 0 (n - 1) W).mono fun _ _ h2 => ⟨by rw [h2.1, inB_pt, h], h2.2⟩
set_option maxRecDepth 100000 in
set_option maxHeartbeats 4000000 in
theorem sp_ShiftOf (n : Int) (lv : Value) (xs : List Int) (i k : Int) (S : Nat) (w : World) (hx : Row w S lv xs) (hS : S ≤ w.heap.size) (hl : xs.length ≤ 100000000) :
    Calls Tryz.prog 8 #[.int .i64 n, lv, .int .i64 i, .int .i64 k] w (ListPost (ifL (famB n xs && (ptB n i && ptB n k)) (tnL (fun x => movedI x i k) xs)) (famB n xs && (ptB n i && ptB n k)) w) := by
  have h1 := sp_FamilyIn n lv xs S w hx (by omega)
  obtain ⟨a, cap, rfl, _⟩ := id hx
  rcases (by cases famB n xs <;> simp : famB n xs = true ∨ famB n xs = false) with f1 | f1
  · rw [f1] at h1 ⊢
    rw [Bool.true_and]
    obtain ⟨n1, n2, _⟩ := famB_all f1
    replace h1 := Lib.hid h1
    rcases ptB_cases n i with hi | hi
    · rcases ptB_cases n k with hk | hk
      · have hpi := Lib.hid (sp_pt hi)
        have hpk := Lib.hid (sp_pt hk)
        have hsh := Lib.hid (fun q => l4shift_at n i k _ xs S (w.drewN q) (hx.drewN q) hS f1 hi hk)
        rw [hi, hk]
        replace hi := Lib.hid hi
        replace hk := Lib.hid hk
        replace f1 := Lib.hid f1
        show Calls Tryz.prog 8 #[.int .i64 n, .slice a xs.length cap, .int .i64 i, .int .i64 k] w (ListPost (tnL (fun x => movedI x i k) xs) true w)
        obtain ⟨ys, hys⟩ : ∃ ys, tnL (fun x => movedI x i k) xs = ys := ⟨_, rfl⟩
        rw [hys] at hsh ⊢
        replace hys := Lib.hid hys
        clear hx
        go_enter Tryz.func8, Tryz.ntmps8
        go_wp2_with fail
        refine h1.out.mono ?_
        rintro e w1 ⟨rfl, q, rfl⟩
        go_wp2_with (go_at_call 27; first | ((with_reducible refine (hpi.out _).mono ?_); rintro e w' ⟨rfl, rfl⟩) | ((with_reducible refine (hpk.out _).mono ?_); rintro e w' ⟨rfl, rfl⟩))
        refine (hsh.out q).mono ?_
        rintro e w3 ⟨v, rfl, hO, hb3⟩
        obtain ⟨a', c', rfl⟩ := hO.form
        replace hb3 := Lib.hid ((below_drewN (Below.refl w.heap.size w) q).trans hb3)
        replace hO := Lib.hid (own_lift hO)
        go_wp2_with fail
        go_ret2
        exact ⟨_, rfl, hO.out, hb3.out⟩
      · have hpi := Lib.hid (sp_pt hi)
        have hpk := Lib.hid (sp_pt hk)
        rw [hi, hk]
        replace hi := Lib.hid hi
        replace hk := Lib.hid hk
        replace f1 := Lib.hid f1
        show Calls Tryz.prog 8 #[.int .i64 n, .slice a xs.length cap, .int .i64 i, .int .i64 k] w (ListPost [] false w)
        clear hx
        go_enter Tryz.func8, Tryz.ntmps8
        go_wp2_with fail
        refine h1.out.mono ?_
        rintro e w1 ⟨rfl, q, rfl⟩
        go_wp2_with (go_at_call 27; first | ((with_reducible refine (hpi.out _).mono ?_); rintro e w' ⟨rfl, rfl⟩) | ((with_reducible refine (hpk.out _).mono ?_); rintro e w' ⟨rfl, rfl⟩))
        go_ret2
        exact ⟨_, rfl, own_empty0 _ _ _ _ _, ((below_drewN (Below.refl _ w) q).alloc (Nat.le_refl _) _)⟩
    · have hpi := Lib.hid (sp_pt hi)
      rw [hi]
      replace hi := Lib.hid hi
      replace f1 := Lib.hid f1
      show Calls Tryz.prog 8 #[.int .i64 n, .slice a xs.length cap, .int .i64 i, .int .i64 k] w (ListPost [] false w)
      clear hx
      go_enter Tryz.func8, Tryz.ntmps8
      go_wp2_with fail
      refine h1.out.mono ?_
      rintro e w1 ⟨rfl, q, rfl⟩
      go_wp2_with (go_at_call 27; ((with_reducible refine (hpi.out _).mono ?_); rintro e w' ⟨rfl, rfl⟩))
      go_ret2
      exact ⟨_, rfl, own_empty0 _ _ _ _ _, ((below_drewN (Below.refl _ w) q).alloc (Nat.le_refl _) _)⟩
  · rw [f1] at h1 ⊢
    rw [Bool.false_and]
    replace h1 := Lib.hid h1
    replace f1 := Lib.hid f1
    clear hx
    go_enter Tryz.func8, Tryz.ntmps8
    go_wp2_with fail
    refine h1.out.mono ?_
    rintro e w1 ⟨rfl, q, rfl⟩
    go_wp2_with fail
    go_ret2
    exact ⟨_, rfl, own_empty0 _ _ _ _ _, ((below_drewN (Below.refl _ w) q).alloc (Nat.le_refl _) _)⟩
end
end Go.Proofs.YtgkbaenjniapiaaGreatDoor
