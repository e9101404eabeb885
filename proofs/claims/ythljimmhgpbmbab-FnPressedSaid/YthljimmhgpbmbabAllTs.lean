/- Texts merged: XTs1 XTs2 XTs3. -/
import Derived.Test.YthljimmhgpbmbabAllTn
import Derived.Test.YthljimmhgpbmbabAllSp
import Derived.Test.YthljimmhgpbmbabLawsC
import Derived.BigQuiet
import Derived.Deep.LoopGhost
namespace Go.Proofs.Ythljimmhgpbmbab
section
/- The model's shifts and pressings: one of them. -/
open Go.ChangeShapes Go.WideShapes Go.ChangeAt Go.RowKit Go.Proofs

theorem tn_all {n : Int} {φ : Int → Int} (h : SetT n φ) {xs : List Int} (ys : List Int) (hall : allB n xs = true) : allB n (xs.map (rpI φ ys)) = true := List.all_eq_true.2 fun z hz => by
  obtain ⟨y, hy, rfl⟩ := List.mem_map.1 hz
  exact rp_set h (allB_yes hall y hy)
theorem less_i64 {s p : Int} (h1 : 0 ≤ s) (h2 : s < 256) (h3 : 0 ≤ p) (h4 : p ≤ 7) : bits .andNot .i64 s (wrap64 (2 ^ p.toNat)) = lessI s p :=
  all256_8 (P := fun s p => bits .andNot .i64 s (wrap64 (2 ^ p.toNat)) = lessI s p) (by decide +kernel) h1 h2 h3 h4
set_option maxRecDepth 100000 in
set_option maxHeartbeats 2000000 in
theorem l4shift_at (n i k : Int) (lv : Value) (xs : List Int) (S : Nat) (w : World) (hx : Row w S lv xs) (hS : S ≤ w.heap.size) (hf : famB n xs = true) (hi : ptB n i = true) (hkk : ptB n k = true) :
    Calls Try.prog 150 #[.int .i64 n, lv, .int .i64 i, .int .i64 k] w (IntsPost (tnL (fun x => movedI x i k) xs) w) := by
  have hl := famB_len hf
  obtain ⟨n1, n2, _⟩ := famB_all hf
  have hset := Lib.hid (mv_set hi hkk)
  have i1 := ptB_yes hi
  have j1 := ptB_yes hkk
  have hmv := Lib.hid (fun x h1 h2 W => sp_l1moved x i k h1 h2 i1.1 (by omega) j1.1 (by omega) W)
  replace hi := Lib.hid hi
  replace hkk := Lib.hid hkk
  have hta := Lib.hid (tn_all hset.out xs (famB_allB hf))
  have hmk := Lib.hid (marks_at n lv xs S w hx hS (by omega) n1 n2 (famB_allB hf))
  obtain ⟨a, cap, rfl, ha⟩ := hx
  replace ha := Lib.hid ha
  replace hf := Lib.hid hf
  obtain ⟨φ, hφ⟩ : ∃ φ : Int → Int, (fun x => movedI x i k) = φ := ⟨_, rfl⟩
  rw [hφ] at hta hset ⊢
  have hφx : ∀ x, movedI x i k = φ x := fun x => by rw [← hφ]
  replace hφx := Lib.hid hφx
  replace hφ := Lib.hid hφ
  obtain ⟨N, hN⟩ : ∃ N, 2 ^ n.toNat = N := ⟨_, rfl⟩
  rw [hN] at hmk
  have hnat := Lib.hid (fun (x : Int) (h : setB n x = true) => show ∃ t : Nat, x = t ∧ t < N from hN ▸ set_nat h)
  replace hN := Lib.hid hN
  go_enter Try.func150, Try.ntmps150
  go_wp2_with fail
  refine hmk.out.mono ?_
  rintro e w1 ⟨b, rfl, hb0, hb1, hm, hbw⟩
  have hz1 := hbw.size
  have ha1 := Lib.hid (fun (W : World) (hW : Below w1.heap.size w1 W) => hbw.trans (hW.mono hz1))
  replace hm := Lib.hid hm
  replace hbw := Lib.hid hbw
  clear hmk
  go_wp2_with fail
  go_loopw [10, 11] (fun v q wr => ∃ m : Nat, m ≤ xs.length ∧ q = .int .i64 m ∧ Hid (OwnL wr w1.heap.size v ((xs.take m).map (rpI φ xs))) ∧ Hid (Below w1.heap.size w1 wr)) (fun _ q _ => xs.length - (intOf q).toNat)
  case atStart => exact ⟨0, by omega, rfl, Lib.hid (OwnL.lit w1 (Nat.le_refl _)), Lib.hid ((Below.refl _ _).alloc (Nat.le_refl _) _)⟩
  case round =>
    obtain ⟨m, hm2, rfl, hown, hbel⟩ := hrel
    have hsz := hbel.out.size
    by_cases hlt : m < xs.length
    · obtain ⟨b1, o1, rfl, t1, c1⟩ := ha.out (by omega)
      have k1 : (0 : Int) ≤ (m : Int) := by omega
      have k2 : (m : Int) < (xs.length : Nat) := by omega
      obtain ⟨x, hx⟩ : ∃ x, xs.getD m 0 = x := ⟨_, rfl⟩
      have e1 : wr.cell? ⟨b1, o1 + m, none⟩ = some (.int .i64 x) := hx ▸ (((ha1.out _ hbel.out).cell (p := ⟨b1, o1 + m, none⟩) (show b1 < w.heap.size by omega)).trans (c1 m hlt))
      have hsx := allB_yes (famB_allB hf.out) x (by rw [← hx]; exact getD_mem hlt)
      obtain ⟨z1, z2⟩ := setB_lt hsx
      obtain ⟨t, ht, htN⟩ := hnat.out _ (hset.out x hsx)
      have e2 : wr.cell? ⟨b, t, none⟩ = some (.bool (memB (t : Int) xs)) := World.rowIs.cell (hm.out.below hbel.out hb1) htN
      have hst := map_take hlt hx (rpI φ xs)
      have hlen : ((xs.take m).map (rpI φ xs)).length ≤ 1073741824 := by simp; omega
      have hrp : rpI φ xs x = if memB (t : Int) xs then x else (t : Int) := by unfold rpI; rw [ht]
      have hcl := hmv.out x z1 z2 wr
      rw [hφx.out x, ht] at hcl
      have hcl2 := Lib.hid (hcl.mono (fun e W (h : e = .returned (.int .i64 (t : Int)) ∧ ∃ a, W = wr.drewN a) => (show e = .returned (.int .i64 (t : Int)) ∧ Below wr.heap.size wr W from ⟨h.1, by obtain ⟨a, rfl⟩ := h.2; exact below_drewN (Below.refl _ _) a⟩)))
      clear hcl
      have t0 : (0 : Int) ≤ (t : Int) := by omega
      have tN : (t : Int) < (N : Nat) := by omega
      obtain ⟨ys, hys⟩ : ∃ ys, (xs.take m).map (rpI φ xs) = ys := ⟨_, rfl⟩
      rw [hys] at hown hst hlen
      obtain ⟨a', c', rfl⟩ := hown.out.form
      replace hsx := Lib.hid hsx
      replace ht := Lib.hid ht
      replace hys := Lib.hid hys
      replace hx := Lib.hid hx
      clear c1
      rcases (by cases memB (t : Int) xs <;> simp : memB (t : Int) xs = true ∨ memB (t : Int) xs = false) with hmb | hmb
      · rw [hmb, if_pos rfl] at hrp
        rw [hmb] at e2
        rw [hrp] at hst
        replace hrp := Lib.hid hrp
        replace hmb := Lib.hid hmb
        replace hst := Lib.hid hst.symm
        have hB1 : ∀ o, w1.heap.size ≤ (wr.alloc o).heap.size := fun o => by rw [World.size_alloc]; omega
        replace hB1 := Lib.hid hB1
        go_wp2_with fail
        refine hcl2.out.mono ?_
        rintro e w2 ⟨rfl, hbq⟩
        have hblt1 : b1 < wr.heap.size := by omega
        have hblt2 : b < wr.heap.size := by omega
        have f1 := (hbq.cell (p := ⟨b1, o1 + m, none⟩) hblt1).trans e1
        have f2 := (hbq.cell (p := ⟨b, t, none⟩) hblt2).trans e2
        have hown2 := Lib.hid (hown.out.below hbq (Nat.le_refl _))
        have hz2 := hbq.size
        have hbel2 := Lib.hid (hbel.out.trans (hbq.mono hsz))
        have hsz2 : w1.heap.size ≤ w2.heap.size := Nat.le_trans hsz hz2
        have hB2 : w1.heap.size ≤ (w2.alloc (.cells #[.int .i64 x] 3)).heap.size := by rw [World.size_alloc]; omega
        replace hbq := Lib.hid hbq
        clear e1 e2
        go_wp2_with (at_builtin; refine app_int rfl _ _ rfl w1.heap.size _ ys rfl (hown2.out.alloc _) x w2.heap.size rfl (cell_new _ _ _) hlen hB2 ?_; intro v' w3 hown1 hb1')
        rw [hst.out] at hown1
        replace hown1 := Lib.hid hown1
        have hb2 := Lib.hid ((hbel2.out.alloc hsz2 _).trans hb1')
        go_roundw
        case rel => exact ⟨m + 1, by omega, by go_num, hown1, hb2⟩
        case measure => simp [intOf]; omega
      · rw [hmb, if_neg (by simp)] at hrp
        rw [hmb] at e2
        rw [hrp] at hst
        replace hrp := Lib.hid hrp
        replace hmb := Lib.hid hmb
        replace hst := Lib.hid hst.symm
        have hB1 : ∀ o, w1.heap.size ≤ (wr.alloc o).heap.size := fun o => by rw [World.size_alloc]; omega
        replace hB1 := Lib.hid hB1
        go_wp2_with fail
        refine hcl2.out.mono ?_
        rintro e w2 ⟨rfl, hbq⟩
        have hblt1 : b1 < wr.heap.size := by omega
        have hblt2 : b < wr.heap.size := by omega
        have f1 := (hbq.cell (p := ⟨b1, o1 + m, none⟩) hblt1).trans e1
        have f2 := (hbq.cell (p := ⟨b, t, none⟩) hblt2).trans e2
        have hown2 := Lib.hid (hown.out.below hbq (Nat.le_refl _))
        have hz2 := hbq.size
        have hbel2 := Lib.hid (hbel.out.trans (hbq.mono hsz))
        have hsz2 : w1.heap.size ≤ w2.heap.size := Nat.le_trans hsz hz2
        have hB2 : w1.heap.size ≤ (w2.alloc (.cells #[.int .i64 (t : Int)] 3)).heap.size := by rw [World.size_alloc]; omega
        replace hbq := Lib.hid hbq
        clear e1 e2
        go_wp2_with (at_builtin; refine app_int rfl _ _ rfl w1.heap.size _ ys rfl (hown2.out.alloc _) (t : Int) w2.heap.size rfl (cell_new _ _ _) hlen hB2 ?_; intro v' w3 hown1 hb1')
        rw [hst.out] at hown1
        replace hown1 := Lib.hid hown1
        have hb2 := Lib.hid ((hbel2.out.alloc hsz2 _).trans hb1')
        go_roundw
        case rel => exact ⟨m + 1, by omega, by go_num, hown1, hb2⟩
        case measure => simp [intOf]; omega
    · obtain rfl : m = xs.length := by omega
      have hO := hown.out
      rw [List.take_length] at hO
      have hyl : (xs.map (rpI φ xs)).length ≤ 1073741824 := by simp; omega
      have htn : sortL (xs.map (rpI φ xs)) = tnL φ xs := rfl
      have hta2 := hta.out
      obtain ⟨ys, hys⟩ : ∃ ys, xs.map (rpI φ xs) = ys := ⟨_, rfl⟩
      rw [hys] at hO hyl htn hta2
      obtain ⟨a', c', rfl⟩ := hO.form
      have hfa := Lib.hid (family_at n _ ys _ wr hO.own.row (Nat.le_refl _) hyl n1 n2 hta2)
      replace htn := Lib.hid htn
      replace hta2 := Lib.hid hta2
      replace hO := Lib.hid hO
      replace hys := Lib.hid hys
      clear hown
      go_wp2_with fail
      refine hfa.out.mono ?_
      rintro e w4 ⟨v4, rfl, hO4, hb4⟩
      obtain ⟨x1, x2, rfl⟩ := hO4.form
      replace hb4 := Lib.hid ((ha1.out _ hbel.out).trans (hb4.mono (by omega)))
      replace hO4 := Lib.hid (hO4.mono (show w.heap.size ≤ wr.heap.size by omega))
      go_wp2_with fail
      go_ret
      exact ⟨_, rfl, by rw [← htn.out]; exact hO4.out, hb4.out⟩
set_option maxRecDepth 100000 in
set_option maxHeartbeats 2000000 in
theorem l4press_at (n p : Int) (lv : Value) (xs : List Int) (S : Nat) (w : World) (hx : Row w S lv xs) (hS : S ≤ w.heap.size) (hf : famB n xs = true) (hp : ptB n p = true) :
    Calls Try.prog 124 #[.int .i64 n, lv, .int .i64 p] w (IntsPost (tnL (fun x => lessI x p) xs) w) := by
  have hl := famB_len hf
  obtain ⟨n1, n2, _⟩ := famB_all hf
  have hset := Lib.hid (ls_set hp)
  have p1 := ptB_yes hp
  have p7 : p ≤ 7 := by omega
  have p0 := p1.1
  have hless := Lib.hid (fun x h1 h2 => less_i64 (s := x) (p := p) h1 h2 p0 p7)
  obtain ⟨pw1, pw2, pw3⟩ := pow8 p0 p7
  replace hp := Lib.hid hp
  have hta := Lib.hid (tn_all hset.out xs (famB_allB hf))
  have hmk := Lib.hid (marks_at n lv xs S w hx hS (by omega) n1 n2 (famB_allB hf))
  obtain ⟨a, cap, rfl, ha⟩ := hx
  replace ha := Lib.hid ha
  replace hf := Lib.hid hf
  obtain ⟨φ, hφ⟩ : ∃ φ : Int → Int, (fun x => lessI x p) = φ := ⟨_, rfl⟩
  rw [hφ] at hta hset ⊢
  have hφx : ∀ x, lessI x p = φ x := fun x => by rw [← hφ]
  replace hφx := Lib.hid hφx
  replace hφ := Lib.hid hφ
  obtain ⟨N, hN⟩ : ∃ N, 2 ^ n.toNat = N := ⟨_, rfl⟩
  rw [hN] at hmk
  have hnat := Lib.hid (fun (x : Int) (h : setB n x = true) => show ∃ t : Nat, x = t ∧ t < N from hN ▸ set_nat h)
  replace hN := Lib.hid hN
  go_enter Try.func124, Try.ntmps124
  go_wp2_with fail
  refine hmk.out.mono ?_
  rintro e w1 ⟨b, rfl, hb0, hb1, hm, hbw⟩
  have hz1 := hbw.size
  have ha1 := Lib.hid (fun (W : World) (hW : Below w1.heap.size w1 W) => hbw.trans (hW.mono hz1))
  replace hm := Lib.hid hm
  replace hbw := Lib.hid hbw
  clear hmk
  go_wp2_with fail
  go_loopw [8, 9] (fun v q wr => ∃ m : Nat, m ≤ xs.length ∧ q = .int .i64 m ∧ Hid (OwnL wr w1.heap.size v ((xs.take m).map (rpI φ xs))) ∧ Hid (Below w1.heap.size w1 wr)) (fun _ q _ => xs.length - (intOf q).toNat)
  case atStart => exact ⟨0, by omega, rfl, Lib.hid (OwnL.lit w1 (Nat.le_refl _)), Lib.hid ((Below.refl _ _).alloc (Nat.le_refl _) _)⟩
  case round =>
    obtain ⟨m, hm2, rfl, hown, hbel⟩ := hrel
    have hsz := hbel.out.size
    by_cases hlt : m < xs.length
    · obtain ⟨b1, o1, rfl, t1, c1⟩ := ha.out (by omega)
      have k1 : (0 : Int) ≤ (m : Int) := by omega
      have k2 : (m : Int) < (xs.length : Nat) := by omega
      obtain ⟨x, hx⟩ : ∃ x, xs.getD m 0 = x := ⟨_, rfl⟩
      have e1 : wr.cell? ⟨b1, o1 + m, none⟩ = some (.int .i64 x) := hx ▸ (((ha1.out _ hbel.out).cell (p := ⟨b1, o1 + m, none⟩) (show b1 < w.heap.size by omega)).trans (c1 m hlt))
      have hsx := allB_yes (famB_allB hf.out) x (by rw [← hx]; exact getD_mem hlt)
      obtain ⟨z1, z2⟩ := setB_lt hsx
      obtain ⟨t, ht, htN⟩ := hnat.out _ (hset.out x hsx)
      have e2 : wr.cell? ⟨b, t, none⟩ = some (.bool (memB (t : Int) xs)) := World.rowIs.cell (hm.out.below hbel.out hb1) htN
      have hst := map_take hlt hx (rpI φ xs)
      have hlen : ((xs.take m).map (rpI φ xs)).length ≤ 1073741824 := by simp; omega
      have hrp : rpI φ xs x = if memB (t : Int) xs then x else (t : Int) := by unfold rpI; rw [ht]
      have hbv := hless.out x z1 z2
      rw [hφx.out x, ht, pw1] at hbv
      have t0 : (0 : Int) ≤ (t : Int) := by omega
      have tN : (t : Int) < (N : Nat) := by omega
      obtain ⟨ys, hys⟩ : ∃ ys, (xs.take m).map (rpI φ xs) = ys := ⟨_, rfl⟩
      rw [hys] at hown hst hlen
      obtain ⟨a', c', rfl⟩ := hown.out.form
      replace hsx := Lib.hid hsx
      replace ht := Lib.hid ht
      replace hys := Lib.hid hys
      replace hx := Lib.hid hx
      clear c1
      rcases (by cases memB (t : Int) xs <;> simp : memB (t : Int) xs = true ∨ memB (t : Int) xs = false) with hmb | hmb
      · rw [hmb, if_pos rfl] at hrp
        rw [hmb] at e2
        rw [hrp] at hst
        replace hrp := Lib.hid hrp
        replace hmb := Lib.hid hmb
        replace hst := Lib.hid hst.symm
        have hB1 : ∀ q o, w1.heap.size ≤ ((wr.drewN q).alloc o).heap.size := fun q o => by rw [World.size_alloc]; exact Nat.le_succ_of_le hsz
        replace hB1 := Lib.hid hB1
        go_wp2_with fail
        go_quiet (fail)
        go_wp2_with (at_builtin; refine app_int rfl _ _ rfl w1.heap.size _ ys rfl ((hown.out.drewN _).alloc _) x wr.heap.size rfl (cell_new _ _ _) hlen (hB1.out _ _) ?_; intro v' w3 hown1 hb1')
        rw [hst.out] at hown1
        replace hown1 := Lib.hid hown1
        have hb2 := Lib.hid (((below_drewN hbel.out _).alloc hsz _).trans hb1')
        go_roundw
        case rel => exact ⟨m + 1, by omega, by go_num, hown1, hb2⟩
        case measure => simp [intOf]; omega
      · rw [hmb, if_neg (by simp)] at hrp
        rw [hmb] at e2
        rw [hrp] at hst
        replace hrp := Lib.hid hrp
        replace hmb := Lib.hid hmb
        replace hst := Lib.hid hst.symm
        have hB1 : ∀ q o, w1.heap.size ≤ ((wr.drewN q).alloc o).heap.size := fun q o => by rw [World.size_alloc]; exact Nat.le_succ_of_le hsz
        replace hB1 := Lib.hid hB1
        go_wp2_with fail
        go_quiet (fail)
        go_wp2_with (at_builtin; refine app_int rfl _ _ rfl w1.heap.size _ ys rfl ((hown.out.drewN _).alloc _) (t : Int) wr.heap.size rfl (cell_new _ _ _) hlen (hB1.out _ _) ?_; intro v' w3 hown1 hb1')
        rw [hst.out] at hown1
        replace hown1 := Lib.hid hown1
        have hb2 := Lib.hid (((below_drewN hbel.out _).alloc hsz _).trans hb1')
        go_roundw
        case rel => exact ⟨m + 1, by omega, by go_num, hown1, hb2⟩
        case measure => simp [intOf]; omega
    · obtain rfl : m = xs.length := by omega
      have hO := hown.out
      rw [List.take_length] at hO
      have hyl : (xs.map (rpI φ xs)).length ≤ 1073741824 := by simp; omega
      have htn : sortL (xs.map (rpI φ xs)) = tnL φ xs := rfl
      have hta2 := hta.out
      obtain ⟨ys, hys⟩ : ∃ ys, xs.map (rpI φ xs) = ys := ⟨_, rfl⟩
      rw [hys] at hO hyl htn hta2
      obtain ⟨a', c', rfl⟩ := hO.form
      have hfa := Lib.hid (family_at n _ ys _ wr hO.own.row (Nat.le_refl _) hyl n1 n2 hta2)
      replace htn := Lib.hid htn
      replace hta2 := Lib.hid hta2
      replace hO := Lib.hid hO
      replace hys := Lib.hid hys
      clear hown
      go_wp2_with fail
      refine hfa.out.mono ?_
      rintro e w4 ⟨v4, rfl, hO4, hb4⟩
      obtain ⟨x1, x2, rfl⟩ := hO4.form
      replace hb4 := Lib.hid ((ha1.out _ hbel.out).trans (hb4.mono (by omega)))
      replace hO4 := Lib.hid (hO4.mono (show w.heap.size ≤ wr.heap.size by omega))
      go_wp2_with fail
      go_ret
      exact ⟨_, rfl, by rw [← htn.out]; exact hO4.out, hb4.out⟩

end
section
/- The model's shifts and pressings. -/
open Go.ChangeShapes Go.WideShapes Go.ChangeAt Go.RowKit Go.Proofs

theorem same_ints (v u : Value) (xs ys : List Int) (S : Nat) (w : World) (hx : Row w S v xs) (hy : Row w S u ys) (hl : xs.length ≤ 1073741824) (hm : ys.length ≤ 1073741824) :
    Calls Try.prog 77 #[v, u] w fun e w' => e = .returned (.bool (sameB xs ys)) ∧ ∃ n, w' = w.drewN n := by
  obtain ⟨a, cap, rfl, ha⟩ := hx
  obtain ⟨c, cap2, rfl, hc⟩ := hy
  by_cases hne : xs.length = ys.length
  · have hb : (((xs.length : Nat) : Int) != ((ys.length : Nat) : Int)) = false := by simp [hne]
    have hne' := Lib.hid hne
    have ha := Lib.hid ha
    have hc := Lib.hid hc
    clear hne
    go_enter Try.func77, Try.ntmps77
    go_wp2
    go_loopw [5] (fun i wr => ∃ k : Nat, k ≤ xs.length ∧ i = .int .i64 k ∧ Hid (∃ n, wr = w.drewN n) ∧ Hid (∀ j, j < k → xs.getD j 0 = ys.getD j 0)) (fun i _ => xs.length - (intOf i).toNat)
    case atStart => exact ⟨0, Nat.zero_le _, rfl, Lib.hid ⟨0, rfl⟩, Lib.hid (fun j hj => by omega)⟩
    case round =>
      obtain ⟨k, hk, rfl, hw, hsame⟩ := hrel
      obtain ⟨n, rfl⟩ := hw.out
      clear hw
      by_cases hlt : k < xs.length
      · obtain ⟨b1, o1, rfl, s1, c1⟩ := ha.out (by omega)
        have hlt2 : k < ys.length := by have := hne'.out; omega
        obtain ⟨b2, o2, rfl, s2, c2⟩ := hc.out (by omega)
        have k1 : (0 : Int) ≤ (k : Int) := by omega
        have k2 : (k : Int) < (xs.length : Nat) := by omega
        have k3 : (k : Int) < (ys.length : Nat) := by omega
        have e1 := c1 k hlt
        have e2 := c2 k hlt2
        obtain ⟨x, hx⟩ : ∃ x, xs.getD k 0 = x := ⟨_, rfl⟩
        obtain ⟨y, hy⟩ : ∃ y, ys.getD k 0 = y := ⟨_, rfl⟩
        rw [hx] at e1
        rw [hy] at e2
        by_cases hxy : x = y
        · have hsame' := Lib.hid (show ∀ j, j < k + 1 → xs.getD j 0 = ys.getD j 0 from fun j hj => by
            by_cases e : j = k
            · subst e; rw [hx, hy]; exact hxy
            · exact hsame.out j (by omega))
          have hd : (x != y) = false := by simp [hxy]
          clear hsame hxy hx hy c1 c2
          go_wp2
          go_quiet (fail)
          go_wp2
          go_roundw
          case rel => exact ⟨k + 1, by omega, by go_num, Lib.hid ⟨_, by first | rfl | exact drewN_add _ _ _⟩, hsame'⟩
          case measure => simp [intOf]; omega
        · have hf := Lib.hid (show false = sameB xs ys from (decide_eq_false (fun e => hxy (by rw [← hx, ← hy, e]))).symm)
          have hd : (x != y) = true := by simp [hxy]
          clear hsame hxy hx hy c1 c2
          go_wp2
          go_quiet (fail)
          go_wp2
          go_ret
          exact ⟨ret_bool hf.out, _, by first | rfl | exact drewN_add _ _ _⟩
      · have hf := Lib.hid (show true = sameB xs ys from (same_step hne'.out (fun j hj => hsame.out j (by omega))).symm)
        go_wp2
        go_ret
        exact ⟨ret_bool hf.out, _, rfl⟩
  · have hb : (((xs.length : Nat) : Int) != ((ys.length : Nat) : Int)) = true := by simp; omega
    have hf := Lib.hid (show false = sameB xs ys from (decide_eq_false (fun e => hne (by rw [e]))).symm)
    clear ha hc hne
    go_enter Try.func77, Try.ntmps77
    go_wp2
    go_ret
    exact ⟨ret_bool hf.out, 0, rfl⟩


/-- what a round leaves: a list of its own, or the list that came in. -/
def RoundPost (lv : Value) (xs L : List Int) (w : World) (e : Ending) (w' : World) : Prop := ∃ v, e = .returned v ∧ (OwnL w' w.heap.size v L ∨ (v = lv ∧ L = xs)) ∧ Row w' w'.heap.size v L ∧ Below w.heap.size w w'
theorem rd_fam_t {n : Int} {φs : List (Int → Int)} {xs : List Int} (h : TurnsT n φs) (hf : famB n xs = true) : famB n (rdL φs xs) = true := rd_fam (fun φ hφ => (h φ hφ).1) hf
theorem shTo_turns (n : Int) {i k : Nat} (hk : k ≤ i) (hi : (i : Int) < n) : TurnsT n (shTo i k) := by
  intro φ hφ
  obtain ⟨a, b, h1, h2, h3, rfl⟩ := mem_shTo hφ hk
  have hi : ptB n (a : Nat) = true := ptB_mk (by omega) (by omega)
  have hk : ptB n (b : Nat) = true := ptB_mk (by omega) (by omega)
  exact ⟨mv_set hi hk, fun x hx => (mv_facts hx hi hk).2.1 (by omega)⟩
theorem prTo_turns (n : Int) {p : Nat} (hp : (p : Int) ≤ n) : TurnsT n (prTo p) := by
  intro φ hφ
  obtain ⟨q, hq, rfl⟩ := List.mem_map.1 hφ
  have h1 := mem_upI.1 hq
  have hk : ptB n q = true := ptB_mk (by omega) (by omega)
  exact ⟨ls_set hk, fun x hx => (ls_facts hx hk).1⟩
set_option maxRecDepth 100000 in
set_option maxHeartbeats 2000000 in
theorem l4round_at (n : Int) (lv : Value) (xs : List Int) (S : Nat) (w : World) (hx : Row w S lv xs) (hS : S ≤ w.heap.size) (hf : famB n xs = true) :
    Calls Try.prog 136 #[.int .i64 n, lv] w (RoundPost lv xs (rdL (shL n) xs) w) := by
  obtain ⟨n1, n2, _⟩ := famB_all hf
  obtain ⟨N, hN⟩ : ∃ N : Nat, n = (N : Int) := ⟨n.toNat, by omega⟩
  subst hN
  have hL := Lib.hid (show shTo N 0 = shL (N : Int) by unfold shL; simp)
  obtain ⟨a, cap, rfl, _⟩ := id hx
  have hR := Lib.hid (hx.mono hS)
  replace hf := Lib.hid hf
  clear hx
  go_enter Try.func136, Try.ntmps136
  go_wp2_with fail
  go_loopw [1, 5] (fun v q wr => ∃ i : Nat, 1 ≤ i ∧ i ≤ N ∧ q = .int .i64 i ∧ Hid (OwnL wr w.heap.size v (rdL (shTo i 0) xs) ∨ (v = .slice a xs.length cap ∧ rdL (shTo i 0) xs = xs)) ∧ Hid (Row wr wr.heap.size v (rdL (shTo i 0) xs)) ∧ Hid (Below w.heap.size w wr)) (fun _ q _ => N - (intOf q).toNat)
  case atStart => exact ⟨1, by omega, by omega, rfl, Lib.hid (.inr ⟨rfl, rfl⟩), hR, Lib.hid (Below.refl _ _)⟩
  case round =>
    obtain ⟨i, hi1, hi, rfl, hO, hr, hb⟩ := hrel
    by_cases hlt : i < N
    · have i1 : (i : Int) < (N : Int) := by omega
      have hsi := Lib.hid (shTo_i i)
      have hlo : (1 : Int) ≤ (i : Int) := by omega
      go_wp2_with fail
      go_loopw [1, 6] (fun v q wq => ∃ k : Nat, k ≤ i ∧ q = .int .i64 k ∧ Hid (OwnL wq w.heap.size v (rdL (shTo i k) xs) ∨ (v = .slice a xs.length cap ∧ rdL (shTo i k) xs = xs)) ∧ Hid (Row wq wq.heap.size v (rdL (shTo i k) xs)) ∧ Hid (Below w.heap.size w wq)) (fun _ q _ => i - (intOf q).toNat)
      case atStart => exact ⟨0, by omega, rfl, hO, hr, hb⟩
      case round =>
        obtain ⟨k, hk, rfl, hO, hr, hb⟩ := hrel
        have hzz := hb.out.size
        by_cases hlt2 : k < i
        · have k1 : (k : Int) < (i : Int) := by omega
          have k0 : (0 : Int) ≤ (k : Int) := by omega
          have hfy := rd_fam_t (shTo_turns (N : Int) hk i1) hf.out
          have hs : rdL (shTo i (k + 1)) xs = tnL (fun x => movedI x i k) (rdL (shTo i k) xs) := by rw [shTo_k, rd_snoc]
          obtain ⟨ys, hys⟩ : ∃ ys, rdL (shTo i k) xs = ys := ⟨_, rfl⟩
          rw [hys] at hr hfy hs
          obtain ⟨va, vc, rfl, _⟩ := id hr.out
          have hcl := Lib.hid (l4shift_at (N : Int) (i : Nat) (k : Nat) _ ys _ wr hr.out (Nat.le_refl _) hfy (ptB_mk (by omega) i1) (ptB_mk (by omega) (by omega)))
          rw [← hs] at hcl
          replace hs := Lib.hid hs
          replace hys := Lib.hid hys
          replace hfy := Lib.hid hfy
          clear hO
          go_wp2_with fail
          refine hcl.out.mono ?_
          rintro e w2 ⟨v2, rfl, hO2, hb2⟩
          have hr2 := Lib.hid hO2.own.row
          replace hO2 := Lib.hid (hO2.mono hzz)
          replace hb2 := Lib.hid (hb.out.trans (hb2.mono hzz))
          go_wp2_with fail
          go_roundw
          case rel => exact ⟨k + 1, by omega, by go_num, Lib.hid (.inl hO2.out), hr2, hb2⟩
          case measure => simp [intOf]; omega
        · obtain rfl : k = i := by omega
          rw [← hsi.out] at hO hr
          go_wp2_with fail
          go_roundw
          case rel => exact ⟨k + 1, by omega, by omega, by go_num, hO, hr, hb⟩
          case measure => simp [intOf]; omega
    · obtain rfl : i = N := by omega
      rw [hL.out] at hO hr
      go_wp2_with fail
      go_ret
      exact ⟨_, rfl, hO.out, hr.out, hb.out⟩
set_option maxRecDepth 100000 in
set_option maxHeartbeats 2000000 in
theorem l4down_at (n : Int) (lv : Value) (xs : List Int) (S : Nat) (w : World) (hx : Row w S lv xs) (hS : S ≤ w.heap.size) (hf : famB n xs = true) :
    Calls Try.prog 95 #[.int .i64 n, lv] w (RoundPost lv xs (rdL (prL n) xs) w) := by
  obtain ⟨n1, n2, _⟩ := famB_all hf
  obtain ⟨N, hN⟩ : ∃ N : Nat, n = (N : Int) := ⟨n.toNat, by omega⟩
  subst hN
  have hL := Lib.hid (show prTo N = prL (N : Int) by unfold prL; simp)
  obtain ⟨a, cap, rfl, _⟩ := id hx
  have hR := Lib.hid (hx.mono hS)
  replace hf := Lib.hid hf
  clear hx
  go_enter Try.func95, Try.ntmps95
  go_wp2_with fail
  go_loopw [1, 5] (fun v q wr => ∃ i : Nat, i ≤ N ∧ q = .int .i64 i ∧ Hid (OwnL wr w.heap.size v (rdL (prTo i) xs) ∨ (v = .slice a xs.length cap ∧ rdL (prTo i) xs = xs)) ∧ Hid (Row wr wr.heap.size v (rdL (prTo i) xs)) ∧ Hid (Below w.heap.size w wr)) (fun _ q _ => N - (intOf q).toNat)
  case atStart => exact ⟨0, by omega, rfl, Lib.hid (.inr ⟨rfl, rfl⟩), hR, Lib.hid (Below.refl _ _)⟩
  case round =>
    obtain ⟨i, hi, rfl, hO, hr, hb⟩ := hrel
    have hzz := hb.out.size
    by_cases hlt : i < N
    · have i1 : (i : Int) < (N : Int) := by omega
      have i0 : (0 : Int) ≤ (i : Int) := by omega
      have hfy := rd_fam_t (prTo_turns (N : Int) (p := i) (by omega)) hf.out
      have hs : rdL (prTo (i + 1)) xs = tnL (fun x => lessI x i) (rdL (prTo i) xs) := by rw [prTo_succ, rd_snoc]
      obtain ⟨ys, hys⟩ : ∃ ys, rdL (prTo i) xs = ys := ⟨_, rfl⟩
      rw [hys] at hr hfy hs
      obtain ⟨va, vc, rfl, _⟩ := id hr.out
      have hcl := Lib.hid (l4press_at (N : Int) (i : Nat) _ ys _ wr hr.out (Nat.le_refl _) hfy (ptB_mk (by omega) i1))
      rw [← hs] at hcl
      replace hs := Lib.hid hs
      replace hys := Lib.hid hys
      replace hfy := Lib.hid hfy
      clear hO
      go_wp2_with fail
      refine hcl.out.mono ?_
      rintro e w2 ⟨v2, rfl, hO2, hb2⟩
      have hr2 := Lib.hid hO2.own.row
      replace hO2 := Lib.hid (hO2.mono hzz)
      replace hb2 := Lib.hid (hb.out.trans (hb2.mono hzz))
      go_wp2_with fail
      go_roundw
      case rel => exact ⟨i + 1, by omega, by go_num, Lib.hid (.inl hO2.out), hr2, hb2⟩
      case measure => simp [intOf]; omega
    · obtain rfl : i = N := by omega
      rw [hL.out] at hO hr
      go_wp2_with fail
      go_ret
      exact ⟨_, rfl, hO.out, hr.out, hb.out⟩

end
section
/- The model's ShiftOf, ShiftPress, ShiftedIn, PressedIn, ShiftAll, PressAll. -/
open Go.ChangeShapes Go.WideShapes Go.ChangeAt Go.RowKit Go.Proofs

theorem sp_pt {n p : Int} {b : Bool} (h : ptB n p = b) (W : World) : Calls Try.prog 133 #[.int .i64 p, .int .i64 0, .int .i64 (n - 1)] W fun e w' => e = .returned (.bool b) ∧ W = w' :=
  (l6in p 0 (n - 1) W).mono fun _ _ h2 => ⟨by rw [h2.1, inB_pt, h], h2.2⟩
set_option maxRecDepth 100000 in
set_option maxHeartbeats 2000000 in
theorem sp_PressedIn (n : Int) (lv : Value) (xs : List Int) (S : Nat) (w : World) (hx : Row w S lv xs) (hS : S ≤ w.heap.size) (hl : xs.length ≤ 100000000) :
    Calls Try.prog 48 #[.int .i64 n, lv] w fun e w' => e = .returned (.bool (famB n xs && sameB xs (rdL (prL n) xs))) ∧ Below w.heap.size w w' := by
  have h1 := sp_FamilyIn n lv xs S w hx (by omega)
  obtain ⟨a, cap, rfl, _⟩ := id hx
  rcases (by cases famB n xs <;> simp : famB n xs = true ∨ famB n xs = false) with f1 | f1
  · rw [f1] at h1 ⊢
    rw [Bool.true_and]
    have hl1 := famB_len f1
    have hl2 := famB_len (rd_fam_t (prL_turns n) f1)
    have hrd := Lib.hid (fun q => l4down_at n _ xs S (w.drewN q) (hx.drewN q) hS f1)
    obtain ⟨ys, hys⟩ : ∃ ys, rdL (prL n) xs = ys := ⟨_, rfl⟩
    rw [hys] at hrd hl2 ⊢
    replace h1 := Lib.hid h1
    replace f1 := Lib.hid f1
    replace hys := Lib.hid hys
    replace hx := Lib.hid hx
    go_enter Try.func48, Try.ntmps48
    go_wp2_with fail
    refine h1.out.mono ?_
    rintro e w1 ⟨rfl, q, rfl⟩
    go_wp2_with fail
    refine (hrd.out q).mono ?_
    rintro e w2 ⟨v, rfl, _, hr, hb2⟩
    obtain ⟨va, vc, rfl, _⟩ := id hr
    have hb3 := Lib.hid ((below_drewN (Below.refl w.heap.size w) q).trans hb2)
    have hz2 : w.heap.size ≤ w2.heap.size := hb3.out.size
    have hsm := Lib.hid (same_ints (.slice a xs.length cap) _ xs ys w2.heap.size w2 ((hx.out.below hb3.out hS).mono (by omega)) hr (by omega) (by omega))
    clear hb2 hr
    go_wp2_with fail
    refine hsm.out.mono ?_
    rintro e w' ⟨rfl, m, rfl⟩
    go_wp2_with fail
    go_ret
    exact ⟨rfl, below_drewN hb3.out m⟩
  · rw [f1] at h1 ⊢
    rw [Bool.false_and]
    replace h1 := Lib.hid h1
    replace f1 := Lib.hid f1
    clear hx
    go_enter Try.func48, Try.ntmps48
    go_wp2_with fail
    refine h1.out.mono ?_
    rintro e w1 ⟨rfl, q, rfl⟩
    go_wp2_with fail
    go_ret
    exact ⟨rfl, below_drewN (Below.refl _ w) q⟩
set_option maxRecDepth 100000 in
set_option maxHeartbeats 4000000 in
theorem sp_ShiftAll (n : Int) (lv : Value) (xs : List Int) (S : Nat) (w : World) (hx : Row w S lv xs) (hS : S ≤ w.heap.size) (hl : xs.length ≤ 100000000) :
    Calls Try.prog 118 #[.int .i64 n, lv] w (ListPost (ifL (famB n xs) (stL (shL n) xs)) (famB n xs) w) := by
  have h1 := sp_FamilyIn n lv xs S w hx (by omega)
  obtain ⟨a, cap, rfl, _⟩ := id hx
  rcases (by cases famB n xs <;> simp : famB n xs = true ∨ famB n xs = false) with f1 | f1
  · rw [f1] at h1 ⊢
    have hl1 := famB_len f1
    have hT := Lib.hid (shL_turns n)
    have hrd := Lib.hid (fun v ys (W : World) hr hf => l4round_at n v ys W.heap.size W hr (Nat.le_refl _) hf)
    obtain ⟨φs, hφs⟩ : ∃ φs, shL n = φs := ⟨_, rfl⟩
    rw [hφs] at hrd hT ⊢
    replace h1 := Lib.hid h1
    replace f1 := Lib.hid f1
    replace hφs := Lib.hid hφs
    replace hx := Lib.hid hx
    show Calls Try.prog 118 #[.int .i64 n, .slice a xs.length cap] w (ListPost (stL φs xs) true w)
    go_enter Try.func118, Try.ntmps118
    go_wp2_with fail
    refine h1.out.mono ?_
    rintro e w1 ⟨rfl, q, rfl⟩
    have hlit := Lib.hid (OwnL.lit (w.drewN q) (Nat.le_refl w.heap.size))
    have hbl := Lib.hid ((below_drewN (Below.refl w.heap.size w) q).alloc (Nat.le_refl _) (.cells #[] 3))
    have hrx := Lib.hid (hx.out.below hbl.out hS)
    have hqs : w.heap.size ≤ ((w.drewN q).alloc (.cells #[] 3)).heap.size := by rw [World.size_alloc]; exact Nat.le_succ _
    have h0 : ([] : List Int).length ≤ 1073741824 := by simp
    have hl1' : xs.length ≤ 1073741824 := by omega
    go_wp2_with (at_builtin; refine app_ints rfl _ _ rfl w.heap.size _ [] rfl hlit.out a cap S xs rfl hrx.out h0 hl1' hqs ?_; intro v1 w1 hO1 hb1; rw [List.nil_append] at hO1; obtain ⟨u1, u2, rfl⟩ := hO1.form; replace hO1 := Lib.hid hO1; replace hb1 := Lib.hid (hbl.out.trans hb1))
    go_loopg [6] ((smI xs).toNat) (fun g v wr => ∃ (j : Nat) (ys : List Int), Hid (itR φs j xs = ys) ∧ Hid (g = (smI ys).toNat) ∧ Hid (OwnL wr w.heap.size v ys) ∧ Hid (Below w.heap.size w wr))
    case atStart => exact ⟨0, xs, Lib.hid rfl, Lib.hid rfl, hO1, hb1⟩
    case round =>
      obtain ⟨j, ys, hit, hg, hO, hb⟩ := hrel
      obtain ⟨va, vc, rfl⟩ := hO.out.form
      have hzz := hb.out.size
      have hfy := hit.out ▸ it_fam hT.out f1.out j
      have hfz := rd_fam_t hT.out hfy
      have hly := famB_len hfy
      have hlz := famB_len hfz
      have hcl := Lib.hid (hrd.out (.slice va ys.length vc) ys wr hO.out.own.row hfy)
      have hlt := fun hne : rdL φs ys ≠ ys => rd_lt hT.out hfy (Classical.byContradiction fun hc => hne (rd_same fun φ hφ => Classical.byContradiction fun hn => hc ⟨φ, hφ, hn⟩))
      have hnn := smI_nonneg (xs := rdL φs ys) (fun z hz => (famB_lt hfz z hz).1)
      have hst : rdL φs ys = ys → stL φs xs = ys := fun h => by
        rw [← hit.out]
        refine (st_eq ?_).symm
        rw [hit.out]; exact h
      have hnx : rdL φs ys = itR φs (j + 1) xs := by rw [← hit.out]; rfl
      obtain ⟨zs, hzs⟩ : ∃ zs, rdL φs ys = zs := ⟨_, rfl⟩
      rw [hzs] at hcl hlt hnn hst hnx hlz
      replace hzs := Lib.hid hzs
      replace hfy := Lib.hid hfy
      replace hfz := Lib.hid hfz
      replace hnx := Lib.hid hnx
      replace hst := Lib.hid hst
      replace hlt := Lib.hid hlt
      replace hnn := Lib.hid hnn
      go_wp2_with fail
      refine hcl.out.mono ?_
      rintro e w2 ⟨v2, rfl, hO2, hr2, hb2⟩
      obtain ⟨a2, c2, rfl, _⟩ := id hr2
      have hz2 := hb2.size
      have hO3 := Lib.hid (hO.out.below hb2 (Nat.le_refl _))
      have hsm := same_ints _ (.slice va ys.length vc) zs ys w2.heap.size w2 hr2 hO3.out.own.row (by omega) (by omega)
      replace hb2 := Lib.hid (hb.out.trans (hb2.mono hzz))
      replace hO2 := Lib.hid hO2
      replace hr2 := Lib.hid hr2
      rcases (by cases sameB zs ys <;> simp : sameB zs ys = true ∨ sameB zs ys = false) with hs | hs
      · rw [hs] at hsm
        have hfin := Lib.hid (hst.out (of_decide_eq_true hs))
        replace hs := Lib.hid hs
        replace hsm := Lib.hid hsm
        go_wp2_with fail
        refine hsm.out.mono ?_
        rintro e w' ⟨rfl, m, rfl⟩
        go_wp2_with fail
        go_ret2
        exact ⟨_, rfl, by rw [hfin.out]; exact (hO3.out.drewN m).own, below_drewN hb2.out m⟩
      · rw [hs] at hsm
        have hne : zs ≠ ys := of_decide_eq_false hs
        have hmea := Lib.hid (show (smI zs).toNat < (smI ys).toNat by have := hlt.out hne; have := hnn.out; omega)
        have hOz := Lib.hid (show OwnL w2 w.heap.size (.slice a2 zs.length c2) zs from hO2.out.elim (fun h => h.mono hzz) (fun h => absurd h.2 hne))
        replace hs := Lib.hid hs
        replace hsm := Lib.hid hsm
        go_wp2_with fail
        refine hsm.out.mono ?_
        rintro e w' ⟨rfl, m, rfl⟩
        go_wp2_with fail
        go_roundg ((smI zs).toNat)
        case measure => rw [hg.out]; exact hmea.out
        case rel => exact ⟨j + 1, zs, Lib.hid hnx.out.symm, Lib.hid rfl, Lib.hid (hOz.out.drewN m), Lib.hid (below_drewN hb2.out m)⟩
  · rw [f1] at h1 ⊢
    replace h1 := Lib.hid h1
    replace f1 := Lib.hid f1
    clear hx
    go_enter Try.func118, Try.ntmps118
    go_wp2_with fail
    refine h1.out.mono ?_
    rintro e w1 ⟨rfl, q, rfl⟩
    go_wp2_with fail
    go_ret2
    exact ⟨_, rfl, own_empty0 _ _ _ _ _, ((below_drewN (Below.refl _ w) q).alloc (Nat.le_refl _) _)⟩
set_option maxRecDepth 100000 in
set_option maxHeartbeats 4000000 in
theorem sp_PressAll (n : Int) (lv : Value) (xs : List Int) (S : Nat) (w : World) (hx : Row w S lv xs) (hS : S ≤ w.heap.size) (hl : xs.length ≤ 100000000) :
    Calls Try.prog 119 #[.int .i64 n, lv] w (ListPost (ifL (famB n xs) (stL (prL n) xs)) (famB n xs) w) := by
  have h1 := sp_FamilyIn n lv xs S w hx (by omega)
  obtain ⟨a, cap, rfl, _⟩ := id hx
  rcases (by cases famB n xs <;> simp : famB n xs = true ∨ famB n xs = false) with f1 | f1
  · rw [f1] at h1 ⊢
    have hl1 := famB_len f1
    have hT := Lib.hid (prL_turns n)
    have hrd := Lib.hid (fun v ys (W : World) hr hf => l4down_at n v ys W.heap.size W hr (Nat.le_refl _) hf)
    obtain ⟨φs, hφs⟩ : ∃ φs, prL n = φs := ⟨_, rfl⟩
    rw [hφs] at hrd hT ⊢
    replace h1 := Lib.hid h1
    replace f1 := Lib.hid f1
    replace hφs := Lib.hid hφs
    replace hx := Lib.hid hx
    show Calls Try.prog 119 #[.int .i64 n, .slice a xs.length cap] w (ListPost (stL φs xs) true w)
    go_enter Try.func119, Try.ntmps119
    go_wp2_with fail
    refine h1.out.mono ?_
    rintro e w1 ⟨rfl, q, rfl⟩
    have hlit := Lib.hid (OwnL.lit (w.drewN q) (Nat.le_refl w.heap.size))
    have hbl := Lib.hid ((below_drewN (Below.refl w.heap.size w) q).alloc (Nat.le_refl _) (.cells #[] 3))
    have hrx := Lib.hid (hx.out.below hbl.out hS)
    have hqs : w.heap.size ≤ ((w.drewN q).alloc (.cells #[] 3)).heap.size := by rw [World.size_alloc]; exact Nat.le_succ _
    have h0 : ([] : List Int).length ≤ 1073741824 := by simp
    have hl1' : xs.length ≤ 1073741824 := by omega
    go_wp2_with (at_builtin; refine app_ints rfl _ _ rfl w.heap.size _ [] rfl hlit.out a cap S xs rfl hrx.out h0 hl1' hqs ?_; intro v1 w1 hO1 hb1; rw [List.nil_append] at hO1; obtain ⟨u1, u2, rfl⟩ := hO1.form; replace hO1 := Lib.hid hO1; replace hb1 := Lib.hid (hbl.out.trans hb1))
    go_loopg [6] ((smI xs).toNat) (fun g v wr => ∃ (j : Nat) (ys : List Int), Hid (itR φs j xs = ys) ∧ Hid (g = (smI ys).toNat) ∧ Hid (OwnL wr w.heap.size v ys) ∧ Hid (Below w.heap.size w wr))
    case atStart => exact ⟨0, xs, Lib.hid rfl, Lib.hid rfl, hO1, hb1⟩
    case round =>
      obtain ⟨j, ys, hit, hg, hO, hb⟩ := hrel
      obtain ⟨va, vc, rfl⟩ := hO.out.form
      have hzz := hb.out.size
      have hfy := hit.out ▸ it_fam hT.out f1.out j
      have hfz := rd_fam_t hT.out hfy
      have hly := famB_len hfy
      have hlz := famB_len hfz
      have hcl := Lib.hid (hrd.out (.slice va ys.length vc) ys wr hO.out.own.row hfy)
      have hlt := fun hne : rdL φs ys ≠ ys => rd_lt hT.out hfy (Classical.byContradiction fun hc => hne (rd_same fun φ hφ => Classical.byContradiction fun hn => hc ⟨φ, hφ, hn⟩))
      have hnn := smI_nonneg (xs := rdL φs ys) (fun z hz => (famB_lt hfz z hz).1)
      have hst : rdL φs ys = ys → stL φs xs = ys := fun h => by
        rw [← hit.out]
        refine (st_eq ?_).symm
        rw [hit.out]; exact h
      have hnx : rdL φs ys = itR φs (j + 1) xs := by rw [← hit.out]; rfl
      obtain ⟨zs, hzs⟩ : ∃ zs, rdL φs ys = zs := ⟨_, rfl⟩
      rw [hzs] at hcl hlt hnn hst hnx hlz
      replace hzs := Lib.hid hzs
      replace hfy := Lib.hid hfy
      replace hfz := Lib.hid hfz
      replace hnx := Lib.hid hnx
      replace hst := Lib.hid hst
      replace hlt := Lib.hid hlt
      replace hnn := Lib.hid hnn
      go_wp2_with fail
      refine hcl.out.mono ?_
      rintro e w2 ⟨v2, rfl, hO2, hr2, hb2⟩
      obtain ⟨a2, c2, rfl, _⟩ := id hr2
      have hz2 := hb2.size
      have hO3 := Lib.hid (hO.out.below hb2 (Nat.le_refl _))
      have hsm := same_ints _ (.slice va ys.length vc) zs ys w2.heap.size w2 hr2 hO3.out.own.row (by omega) (by omega)
      replace hb2 := Lib.hid (hb.out.trans (hb2.mono hzz))
      replace hO2 := Lib.hid hO2
      replace hr2 := Lib.hid hr2
      rcases (by cases sameB zs ys <;> simp : sameB zs ys = true ∨ sameB zs ys = false) with hs | hs
      · rw [hs] at hsm
        have hfin := Lib.hid (hst.out (of_decide_eq_true hs))
        replace hs := Lib.hid hs
        replace hsm := Lib.hid hsm
        go_wp2_with fail
        refine hsm.out.mono ?_
        rintro e w' ⟨rfl, m, rfl⟩
        go_wp2_with fail
        go_ret2
        exact ⟨_, rfl, by rw [hfin.out]; exact (hO3.out.drewN m).own, below_drewN hb2.out m⟩
      · rw [hs] at hsm
        have hne : zs ≠ ys := of_decide_eq_false hs
        have hmea := Lib.hid (show (smI zs).toNat < (smI ys).toNat by have := hlt.out hne; have := hnn.out; omega)
        have hOz := Lib.hid (show OwnL w2 w.heap.size (.slice a2 zs.length c2) zs from hO2.out.elim (fun h => h.mono hzz) (fun h => absurd h.2 hne))
        replace hs := Lib.hid hs
        replace hsm := Lib.hid hsm
        go_wp2_with fail
        refine hsm.out.mono ?_
        rintro e w' ⟨rfl, m, rfl⟩
        go_wp2_with fail
        go_roundg ((smI zs).toNat)
        case measure => rw [hg.out]; exact hmea.out
        case rel => exact ⟨j + 1, zs, Lib.hid hnx.out.symm, Lib.hid rfl, Lib.hid (hOz.out.drewN m), Lib.hid (below_drewN hb2.out m)⟩
  · rw [f1] at h1 ⊢
    replace h1 := Lib.hid h1
    replace f1 := Lib.hid f1
    clear hx
    go_enter Try.func119, Try.ntmps119
    go_wp2_with fail
    refine h1.out.mono ?_
    rintro e w1 ⟨rfl, q, rfl⟩
    go_wp2_with fail
    go_ret2
    exact ⟨_, rfl, own_empty0 _ _ _ _ _, ((below_drewN (Below.refl _ w) q).alloc (Nat.le_refl _) _)⟩

end
end Go.Proofs.Ythljimmhgpbmbab
