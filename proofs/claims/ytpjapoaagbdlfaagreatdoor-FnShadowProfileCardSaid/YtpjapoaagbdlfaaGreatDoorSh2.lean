/- First sets: the program, the model, the laws of levels and first sets. -/
import Derived.Test.YtpjapoaagbdlfaaGreatDoorSh1
import Derived.Test.YtpjapoaagbdlfaaGreatDoorAllSp
namespace Go.Proofs.YtpjapoaagbdlfaaGreatDoor
open Go.ChangeShapes Go.WideShapes Go.ChangeAt Go.RowKit Go.Proofs

theorem levL_mk (n k : Int) : levL n k = mkL (fun j => cntI (j : Nat) == k) (2 ^ n.toNat) := (level_eq _ _).symm
theorem lev_dec : ∀ n : Fin 9, ∀ k : Fin 9, k.val ≤ n.val → (((mkL (fun j => cntI (j : Nat) == (k.val : Nat)) (2 ^ n.val)).length : Nat) : Int) = chI n.val k.val := by decide +kernel
theorem levL_len {n k : Int} (n1 : 1 ≤ n) (n2 : n ≤ 8) (k1 : 0 ≤ k) (k2 : k ≤ n) : (((levL n k).length : Nat) : Int) = chI n k := by
  have e1 : ((n.toNat : Nat) : Int) = n := Int.toNat_of_nonneg (by omega)
  have e2 : ((k.toNat : Nat) : Int) = k := Int.toNat_of_nonneg (by omega)
  have h := lev_dec ⟨n.toNat, by omega⟩ ⟨k.toNat, by omega⟩ (by show k.toNat ≤ n.toNat; omega)
  simp only [e1, e2] at h
  rw [levL_mk]; exact h

/-- there are first sets. -/
def fstB (n k m : Int) : Bool := szB n k && cntB n k m
def fstL (n k m : Int) : List Int := (levL n k).take m.toNat
theorem fstB_cases (n k m : Int) : (szB n k = true ∧ cntB n k m = true ∧ fstB n k m = true) ∨ (szB n k = true ∧ cntB n k m = false ∧ fstB n k m = false) ∨ (szB n k = false ∧ fstB n k m = false) := by
  unfold fstB
  rcases szB_cases n k with h | h
  · rcases cntB_cases n k m with g | g
    · left; exact ⟨h, g, by rw [h, g]; rfl⟩
    · right; left; exact ⟨h, g, by rw [h, g]; rfl⟩
  · right; right; exact ⟨h, by rw [h]; rfl⟩
theorem fstL_mem {n k m : Int} (n1 : 1 ≤ n) (n2 : n ≤ 8) {z : Int} (h : z ∈ fstL n k m) : setB n z = true := levL_mem n1 n2 (List.mem_of_mem_take h)
theorem fstL_len {n k m : Int} (h : fstB n k m = true) : (((fstL n k m).length : Nat) : Int) = m := by
  unfold fstB at h
  rw [Bool.and_eq_true] at h
  obtain ⟨n1, n2, k1, k2⟩ := szB_yes h.1
  obtain ⟨m1, m2⟩ := cntB_yes h.2
  have := levL_len n1 n2 k1 k2
  unfold fstL
  rw [List.length_take]
  omega
theorem fstL_asc (n k m : Int) : Asc (fstL n k m) := (levL_asc n k).sublist (List.take_sublist _ _)

set_option maxHeartbeats 2000000 in
theorem sp_ShadowFirst (n k m : Int) (w : World) :
    Calls Tryz.prog 39 #[.int .i64 n, .int .i64 k, .int .i64 m] w fun e w' => ∃ v, e = .returned (.tuple #[v, .bool (fstB n k m)]) ∧ OwnL w' w.heap.size v (ifL (fstB n k m) (fstL n k m)) ∧ Below w.heap.size w w' := by
  have hpp := l1pts n
  have hin := l6in k 0 n
  rw [sz_in] at hin
  rcases (by cases ptsB n <;> simp : ptsB n = true ∨ ptsB n = false) with hp | hp
  · obtain ⟨n1, n2⟩ := ptsB_yes hp
    rw [hp] at hpp
    replace hpp := Lib.hid hpp
    rcases (by cases decide (0 ≤ k ∧ k ≤ n) <;> simp : decide (0 ≤ k ∧ k ≤ n) = true ∨ decide (0 ≤ k ∧ k ≤ n) = false) with hk | hk
    · rw [hk] at hin
      obtain ⟨k1, k2⟩ := of_decide_eq_true hk
      replace hin := Lib.hid hin
      have hs : szB n k = true := by unfold szB; rw [hp, hk]; rfl
      have hlv := level_at n k w n1 n2
      rw [← levL_mk] at hlv
      have hLz := levL_len256 (k := k) n1 n2
      have hLn := levL_len n1 n2 k1 k2
      have hF : fstB n k m = inB m 0 ((levL n k).length : Nat) := by unfold fstB cntB inB; rw [hs, hLn]; rfl
      have hI := l6in m 0 ((levL n k).length : Nat)
      rw [← hF] at hI
      have hfl : fstL n k m = (levL n k).take m.toNat := rfl
      have hfx : fstB n k m = true → (((fstL n k m).length : Nat) : Int) = m ∧ (fstL n k m).length ≤ (levL n k).length := fun h => ⟨fstL_len h, by unfold fstL; rw [List.length_take]; omega⟩
      obtain ⟨ls, hls⟩ : ∃ ls, levL n k = ls := ⟨_, rfl⟩
      rw [hls] at hlv hLz hI hfl hfx
      replace hlv := Lib.hid hlv
      replace hk := Lib.hid hk
      replace hp := Lib.hid hp
      replace hs := Lib.hid hs
      replace hLn := Lib.hid hLn
      replace hF := Lib.hid hF
      replace hls := Lib.hid hls
      rcases (by cases fstB n k m <;> simp : fstB n k m = true ∨ fstB n k m = false) with hf | hf
      · rw [hf] at hI ⊢
        obtain ⟨l1, l2⟩ := hfx hf
        obtain ⟨ys, hys⟩ : ∃ ys, fstL n k m = ys := ⟨_, rfl⟩
        rw [hys] at l1 l2 hfl ⊢
        clear hfx
        subst l1
        have hyt := Lib.hid (show ys = ls.take ys.length by rw [hfl]; simp)
        have y0 : (0 : Int) ≤ (ys.length : Nat) := by omega
        have y1 : ((ys.length : Nat) : Int) ≤ (ls.length : Nat) := by omega
        replace hI := Lib.hid hI
        replace hf := Lib.hid hf
        replace hfl := Lib.hid hfl
        replace hys := Lib.hid hys
        show Calls Tryz.prog 39 #[.int .i64 n, .int .i64 k, .int .i64 (ys.length : Nat)] w fun e w' => ∃ v, e = .returned (.tuple #[v, .bool true]) ∧ OwnL w' w.heap.size v ys ∧ Below w.heap.size w w'
        go_enter Tryz.func39, Tryz.ntmps39
        go_wp2_with (first | (go_at_call 24; refine (hpp.out _).mono ?_; rintro e w' ⟨rfl, rfl⟩) | (go_at_call 25; refine (hin.out _).mono ?_; rintro e w' ⟨rfl, rfl⟩))
        refine hlv.out.mono ?_
        rintro e w3 ⟨v, rfl, hO, hb3⟩
        obtain ⟨a', c', rfl⟩ := hO.form
        have hz3 := hb3.size
        have hlit := Lib.hid (OwnL.lit w3 (show w.heap.size ≤ w3.heap.size from hz3))
        have hbl := Lib.hid (hb3.alloc hz3 (.cells #[] 3))
        have hR := hO.own.row
        have hcap : (ls.length : Int) ≤ (c' : Nat) := by
          rcases hO.2 with ⟨e, _⟩ | ⟨g, cap, cur, e, _, _, hn, _⟩
          · injection e with e1 e2 e3; omega
          · injection e with e1 e2 e3; omega
        have hRy := Lib.hid (show Row (w3.alloc (.cells #[] 3)) w3.heap.size (.slice a' ys.length c') ys from by
          obtain ⟨a0, c0, e, hc⟩ := hR
          injection e with e1 e2 e3
          subst e1 e3
          refine ⟨_, _, rfl, fun h => ?_⟩
          obtain ⟨b, off, rfl, hbs, hcc⟩ := hc (by omega)
          refine ⟨b, off, rfl, hbs, fun i hi => ?_⟩
          rw [World.cell?_alloc_past _ _ _ hbs, hcc i (by omega)]
          rw [hyt.out]
          simp [List.getD_eq_getElem?_getD, hi])
        replace hb3 := Lib.hid hb3
        replace hO := Lib.hid hO
        have hq := Lib.hid (show w.heap.size ≤ (w3.alloc (.cells #[] 3)).heap.size by simp; omega)
        have hl3 : ys.length ≤ 1073741824 := by omega
        have h0 : ([] : List Int).length ≤ 1073741824 := by simp
        go_wp2_with (first | (go_at_call 25; refine (hI.out _).mono ?_; rintro e w' ⟨rfl, rfl⟩) | (at_builtin; refine app_ints rfl _ _ rfl w.heap.size _ [] rfl hlit.out a' c' w3.heap.size ys rfl hRy.out h0 hl3 hq.out ?_; intro v1 w1 hO1 hb1; rw [List.nil_append] at hO1; obtain ⟨u1, u2, rfl⟩ := hO1.form; replace hO1 := Lib.hid hO1; replace hb1 := Lib.hid (hbl.out.trans hb1)))
        all_goals
          go_ret2
          exact ⟨_, rfl, hO1.out, hb1.out⟩
      · rw [hf] at hI ⊢
        replace hI := Lib.hid hI
        replace hf := Lib.hid hf
        replace hfl := Lib.hid hfl
        clear hfx
        go_enter Tryz.func39, Tryz.ntmps39
        go_wp2_with (first | (go_at_call 24; refine (hpp.out _).mono ?_; rintro e w' ⟨rfl, rfl⟩) | (go_at_call 25; refine (hin.out _).mono ?_; rintro e w' ⟨rfl, rfl⟩))
        refine hlv.out.mono ?_
        rintro e w3 ⟨v, rfl, hO, hb3⟩
        obtain ⟨a', c', rfl⟩ := hO.form
        have hz3 := hb3.size
        have hlit := Lib.hid (OwnL.lit w3 (show w.heap.size ≤ w3.heap.size from hz3))
        have hbl := Lib.hid (hb3.alloc hz3 (.cells #[] 3))
        replace hb3 := Lib.hid hb3
        clear hO
        go_wp2_with (go_at_call 25; refine (hI.out _).mono ?_; rintro e w' ⟨rfl, rfl⟩)
        go_ret2
        exact ⟨_, rfl, hlit.out, hbl.out⟩
    · rw [hk] at hin
      replace hin := Lib.hid hin
      have hb : fstB n k m = false := by unfold fstB szB; rw [hp, hk]; rfl
      rw [hb]
      replace hb := Lib.hid hb
      replace hk := Lib.hid hk
      replace hp := Lib.hid hp
      go_enter Tryz.func39, Tryz.ntmps39
      go_wp2_with (first | (go_at_call 24; refine (hpp.out _).mono ?_; rintro e w' ⟨rfl, rfl⟩) | (go_at_call 25; refine (hin.out _).mono ?_; rintro e w' ⟨rfl, rfl⟩))
      go_ret2
      exact ⟨_, rfl, OwnL.lit w (Nat.le_refl _), (Below.refl _ _).alloc (Nat.le_refl _) _⟩
  · rw [hp] at hpp
    replace hpp := Lib.hid hpp
    have hb : fstB n k m = false := by unfold fstB szB; rw [hp]; rfl
    rw [hb]
    replace hb := Lib.hid hb
    replace hp := Lib.hid hp
    go_enter Tryz.func39, Tryz.ntmps39
    go_wp2_with (go_at_call 24; refine (hpp.out _).mono ?_; rintro e w' ⟨rfl, rfl⟩)
    go_ret2
    exact ⟨_, rfl, OwnL.lit w (Nat.le_refl _), (Below.refl _ _).alloc (Nat.le_refl _) _⟩
theorem sp_ShadowFirst_own (n k m : Int) (w : World) :
    Calls Tryz.prog 39 #[.int .i64 n, .int .i64 k, .int .i64 m] w (ListPost (ifL (fstB n k m) (fstL n k m)) (fstB n k m) w) :=
  (sp_ShadowFirst n k m w).mono fun _ _ ⟨v, h1, h2, h3⟩ => ⟨v, h1, h2.own, h3⟩
theorem fst_small (n k m : Int) : (ifL (fstB n k m) (fstL n k m)).length ≤ 1000000 := by
  rcases (by cases fstB n k m <;> simp : fstB n k m = true ∨ fstB n k m = false) with hb | hb
  · rw [hb]
    unfold fstB at hb
    rw [Bool.and_eq_true] at hb
    obtain ⟨n1, n2, _⟩ := szB_yes hb.1
    have := levL_len256 (k := k) n1 n2
    show (fstL n k m).length ≤ _
    unfold fstL
    rw [List.length_take]
    omega
  · rw [hb]; simp [ifL]
end Go.Proofs.YtpjapoaagbdlfaaGreatDoor
