/- Profiles of families with all their shadows: countsIn, ShadowProfile. -/
import Derived.Test.YtoglcinfnhhkhaaLeastM
import Derived.Test.YtoglcinfnhhkhaaSh2
namespace Go.Proofs.Ytoglcinfnhhkhaa
open Go.ChangeShapes Go.WideShapes Go.ChangeAt Go.RowKit Go.Proofs

/-- the first k numbers are numbers of sets that there are. -/
def cntsTo (n : Int) (xs : List Int) (k : Nat) : Bool := (List.range k).all fun j => cntB n (j : Nat) (xs.getD j 0)
theorem cntsTo_s (n : Int) (xs : List Int) (k : Nat) : cntsTo n xs (k + 1) = (cntsTo n xs k && cntB n (k : Nat) (xs.getD k 0)) := by unfold cntsTo; rw [List.range_succ, List.all_append]; simp
theorem cntsTo_at {n : Int} {xs : List Int} {k : Nat} (h : cntsTo n xs k = true) {j : Nat} (hj : j < k) : cntB n (j : Nat) (xs.getD j 0) = true := List.all_eq_true.1 h j (List.mem_range.2 hj)
theorem cntsTo_no {n : Int} {xs : List Int} {j k : Nat} (hj : j < k) (h : cntB n (j : Nat) (xs.getD j 0) = false) : cntsTo n xs k = false := by
  cases hc : cntsTo n xs k with
  | false => rfl
  | true => rw [cntsTo_at hc hj] at h; cases h
/-- the list tells for each size how many sets. -/
def cntsB (n : Int) (xs : List Int) : Bool := ptsB n && decide (((xs.length : Nat) : Int) = n + 1) && cntsTo n xs xs.length
theorem cntsB_yes {n : Int} {xs : List Int} (h : cntsB n xs = true) : 1 ≤ n ∧ n ≤ 8 ∧ ((xs.length : Nat) : Int) = n + 1 ∧ cntsTo n xs xs.length = true := by
  unfold cntsB at h
  rw [Bool.and_eq_true, Bool.and_eq_true] at h
  obtain ⟨n1, n2⟩ := ptsB_yes h.1.1
  exact ⟨n1, n2, of_decide_eq_true h.1.2, h.2⟩
theorem ch_lt41 : ∀ n : Fin 9, ∀ k : Fin 9, 1 ≤ k.val → k.val ≤ n.val → chI (n.val : Nat) (k.val : Nat) < chI 41 (k.val : Nat) ∧ chI (n.val : Nat) (k.val : Nat) ≤ 70 := by decide +kernel
theorem cnt_lea {n k m : Int} (n2 : n ≤ 8) (k1 : 1 ≤ k) (k2 : k ≤ n) (h : cntB n k m = true) : leaOk m k := by
  obtain ⟨m1, m2⟩ := cntB_yes h
  have e1 : ((n.toNat : Nat) : Int) = n := Int.toNat_of_nonneg (by omega)
  have e2 : ((k.toNat : Nat) : Int) = k := Int.toNat_of_nonneg (by omega)
  have b := ch_lt41 ⟨n.toNat, by omega⟩ ⟨k.toNat, by omega⟩ (by show 1 ≤ k.toNat; omega) (by show k.toNat ≤ n.toNat; omega)
  simp only [e1, e2] at b
  refine ⟨m1, k1, by omega, ?_⟩
  by_cases h0 : m = 0
  · exact .inl h0
  · exact .inr ⟨by omega, by omega, k1, by omega, by omega⟩

theorem cnts_in (n : Int) (lv : Value) (xs : List Int) (S : Nat) (w : World) (hx : Row w S lv xs) (hl : xs.length ≤ 1073741824) :
    Calls Try.prog 22 #[.int .i64 n, lv] w fun e w' => e = .returned (.bool (cntsB n xs)) ∧ w = w' := by
  obtain ⟨a, cap, rfl, ha⟩ := hx
  have hpc := pts_in n
  replace ha := Lib.hid ha
  rcases (by cases ptsB n <;> simp : ptsB n = true ∨ ptsB n = false) with hp | hp
  · obtain ⟨n1, n2⟩ := ptsB_yes hp
    rw [hp] at hpc
    replace hpc := Lib.hid hpc
    by_cases hlen : ((xs.length : Nat) : Int) = n + 1
    · have hne : (((xs.length : Nat) : Int) != n + 1) = false := by simp [hlen]
      have hb : cntsB n xs = cntsTo n xs xs.length := by unfold cntsB; rw [hp, decide_eq_true hlen]; rfl
      rw [hb]
      replace hp := Lib.hid hp
      replace hb := Lib.hid hb
      have hlen' := Lib.hid hlen
      clear hlen
      go_enter Try.func22, Try.ntmps22
      go_wp2_with (go_at_call 39; refine (hpc.out _).mono ?_; rintro e w' ⟨rfl, rfl⟩)
      go_loopw [19] (fun i wr => ∃ k : Nat, k ≤ xs.length ∧ i = .int .i64 k ∧ Hid (cntsTo n xs k = true) ∧ Hid (w = wr)) (fun i _ => xs.length - (intOf i).toNat)
      case atStart => exact ⟨0, Nat.zero_le _, rfl, Lib.hid rfl, Lib.hid rfl⟩
      case round =>
        obtain ⟨k, hk, rfl, hall, hw⟩ := hrel
        have hw' := hw.out
        subst hw'
        by_cases hlt : k < xs.length
        · obtain ⟨b1, o1, rfl, t1, c1⟩ := ha.out (by omega)
          have k1 : (0 : Int) ≤ (k : Int) := by omega
          have k2 : (k : Int) < (xs.length : Nat) := by omega
          have k9 : (k : Int) ≤ 8 := by have := hlen'.out; omega
          have e1 := c1 k hlt
          obtain ⟨x, hx⟩ : ∃ x, xs.getD k 0 = x := ⟨_, rfl⟩
          rw [hx] at e1
          have hcn := count_in n (k : Nat) x (by omega) (by omega) (by omega) (by omega)
          rcases cntB_cases n (k : Nat) x with h | h
          · have hn := Lib.hid (show cntsTo n xs (k + 1) = true by rw [cntsTo_s, hall.out, hx, h]; rfl)
            rw [h] at hcn
            replace hcn := Lib.hid hcn
            replace hx := Lib.hid hx
            replace h := Lib.hid h
            clear c1
            go_wp2_with (go_at_call 40; refine (hcn.out _).mono ?_; rintro e w' ⟨rfl, rfl⟩)
            go_roundw
            case rel => exact ⟨k + 1, by omega, by go_num, hn, Lib.hid (by trivial)⟩
            case measure => simp [intOf]; omega
          · have hf := Lib.hid (show false = cntsTo n xs xs.length from (cntsTo_no hlt (by rw [hx]; exact h)).symm)
            rw [h] at hcn
            replace hcn := Lib.hid hcn
            replace hx := Lib.hid hx
            replace h := Lib.hid h
            clear c1
            go_wp2_with (go_at_call 40; refine (hcn.out _).mono ?_; rintro e w' ⟨rfl, rfl⟩)
            go_ret
            exact ⟨ret_bool hf.out, rfl⟩
        · have hf := Lib.hid (show true = cntsTo n xs xs.length by
            have : k = xs.length := by omega
            rw [← this]; exact hall.out.symm)
          go_wp2_with fail
          go_ret
          exact ⟨ret_bool hf.out, rfl⟩
    · have hne : (((xs.length : Nat) : Int) != n + 1) = true := by simp [hlen]
      have hf := Lib.hid (show false = cntsB n xs by unfold cntsB; rw [decide_eq_false hlen]; simp)
      replace hp := Lib.hid hp
      clear hlen
      go_enter Try.func22, Try.ntmps22
      go_wp2_with (go_at_call 39; refine (hpc.out _).mono ?_; rintro e w' ⟨rfl, rfl⟩)
      go_ret
      exact ⟨ret_bool hf.out, rfl⟩
  · have hf := Lib.hid (show false = cntsB n xs by unfold cntsB; rw [hp]; rfl)
    rw [hp] at hpc
    replace hpc := Lib.hid hpc
    replace hp := Lib.hid hp
    go_enter Try.func22, Try.ntmps22
    go_wp2_with (go_at_call 39; refine (hpc.out _).mono ?_; rintro e w' ⟨rfl, rfl⟩)
    go_ret
    exact ⟨ret_bool hf.out, rfl⟩

/-- up to size k - 1 each shadow has room. -/
def roomB (xs : List Int) (j : Nat) : Bool := decide (leaV (xs.getD j 0) (j : Nat) ≤ xs.getD (j - 1) 0)
def roomTo (xs : List Int) (k : Nat) : Bool := (List.range k).all fun j => j == 0 || roomB xs j
theorem roomTo_s (xs : List Int) (k : Nat) : roomTo xs (k + 1) = (roomTo xs k && (k == 0 || roomB xs k)) := by unfold roomTo; rw [List.range_succ, List.all_append]; simp
theorem roomTo_no {xs : List Int} {j k : Nat} (hj : j < k) (h0 : 1 ≤ j) (h : roomB xs j = false) : roomTo xs k = false := by
  cases hc : roomTo xs k with
  | false => rfl
  | true =>
    have := List.all_eq_true.1 hc j (List.mem_range.2 hj)
    rw [h] at this
    simp at this
    omega
def profB (n : Int) (xs : List Int) : Bool := cntsB n xs && roomTo xs xs.length

set_option maxHeartbeats 1000000 in
theorem im_ShadowProfile (n : Int) (lv : Value) (xs : List Int) (S : Nat) (w : World) (hx : Row w S lv xs) (hS : S ≤ w.heap.size) (hl : xs.length ≤ 100000000) :
    Calls Try.prog 9 #[.int .i64 n, lv] w fun e w' => e = .returned (.bool (profB n xs)) ∧ Below w.heap.size w w' := by
  have hc := cnts_in n lv xs S w hx (by omega)
  obtain ⟨a, cap, rfl, ha⟩ := hx
  replace ha := Lib.hid ha
  rcases (by cases cntsB n xs <;> simp : cntsB n xs = true ∨ cntsB n xs = false) with hb | hb
  · obtain ⟨n1, n2, hlen, hall⟩ := cntsB_yes hb
    have hB : profB n xs = roomTo xs xs.length := by unfold profB; rw [hb]; rfl
    rw [hb] at hc
    rw [hB]
    replace hc := Lib.hid hc
    replace hb := Lib.hid hb
    replace hB := Lib.hid hB
    replace hall := Lib.hid hall
    have hlen' := Lib.hid hlen
    clear hlen
    go_enter Try.func9, Try.ntmps9
    go_wp2_with fail
    refine hc.out.mono ?_
    rintro e w' ⟨rfl, rfl⟩
    go_wp2_with fail
    go_loopw [5] (fun i wr => ∃ k : Nat, 1 ≤ k ∧ k ≤ xs.length ∧ i = .int .i64 k ∧ Hid (roomTo xs k = true) ∧ Hid (Below w.heap.size w wr)) (fun i _ => xs.length - (intOf i).toNat)
    case atStart => exact ⟨1, Nat.le_refl _, by have := hlen'.out; omega, rfl, Lib.hid rfl, Lib.hid (Below.refl _ _)⟩
    case round =>
      obtain ⟨k, hk1, hk, rfl, hroom, hbel⟩ := hrel
      by_cases hlt : k < xs.length
      · obtain ⟨b1, o1, rfl, t1, c1⟩ := ha.out (by omega)
        have hb1w : b1 < w.heap.size := by omega
        have k1 : (0 : Int) ≤ (k : Int) := by omega
        have k2 : (k : Int) < (xs.length : Nat) := by omega
        have k3 : (k : Int) ≤ n := by have := hlen'.out; omega
        have k4 : (0 : Int) ≤ (k : Int) - 1 := by omega
        have k5 : (k : Int) - 1 < (xs.length : Nat) := by omega
        have ek : ((k : Int) - 1).toNat = k - 1 := by omega
        have e1 : wr.cell? ⟨b1, o1 + k, none⟩ = some (.int .i64 (xs.getD k 0)) := (hbel.out.cell (p := ⟨b1, o1 + k, none⟩) hb1w).trans (c1 k hlt)
        have hcB := cntsTo_at hall.out hlt
        obtain ⟨x, hx⟩ : ∃ x, xs.getD k 0 = x := ⟨_, rfl⟩
        obtain ⟨y, hy⟩ : ∃ y, xs.getD (k - 1) 0 = y := ⟨_, rfl⟩
        have hB : roomB xs k = decide (leaV x (k : Nat) ≤ y) := by unfold roomB; rw [hx, hy]
        rw [hx] at e1 hcB
        have hok := cnt_lea n2 (by omega) k3 hcB
        have hsl := im_ShadowLeast x (k : Nat) wr
        rw [leaB_mk hok] at hsl
        obtain ⟨L, hL⟩ : ∃ L, leaV x (k : Nat) = L := ⟨_, rfl⟩
        rw [hL] at hsl hB
        have hrs := roomTo_s xs k
        rw [hroom.out, hB] at hrs
        have hsz := hbel.out.size
        have e2 : ∀ w2, Below wr.heap.size wr w2 → w2.cell? ⟨b1, o1 + (k - 1), none⟩ = some (.int .i64 y) := fun w2 hb2 => by
          rw [← hy]
          exact ((hbel.out.trans (hb2.mono hsz)).cell (p := ⟨b1, o1 + (k - 1), none⟩) hb1w).trans (c1 (k - 1) (by omega))
        have hno := fun (h : roomB xs k = false) => roomTo_no hlt hk1 h
        rw [hB] at hno
        replace hno := Lib.hid hno
        replace hsl := Lib.hid hsl
        replace hx := Lib.hid hx
        replace hy := Lib.hid hy
        replace hL := Lib.hid hL
        replace hok := Lib.hid hok
        replace hcB := Lib.hid hcB
        replace hrs := Lib.hid hrs
        replace hB := Lib.hid hB
        replace e2 := Lib.hid e2
        clear c1
        go_wp2_with fail
        refine hsl.out.mono ?_
        rintro e w2 ⟨rfl, hb2⟩
        have e3 := e2.out w2 hb2
        replace hb2 := Lib.hid (hbel.out.trans (hb2.mono hsz))
        by_cases hle : L ≤ y
        · have hd : decide (y < L) = false := decide_eq_false (by omega)
          have hn := Lib.hid (show roomTo xs (k + 1) = true by rw [hrs.out, decide_eq_true hle]; simp)
          go_wp2_with fail
          go_roundw
          case rel => exact ⟨k + 1, by omega, by omega, by go_num, hn, hb2⟩
          case measure => simp [intOf]; omega
        · have hd : decide (y < L) = true := decide_eq_true (by omega)
          have hf := Lib.hid (show false = roomTo xs xs.length from (hno.out (decide_eq_false hle)).symm)
          go_wp2_with fail
          go_ret
          exact ⟨ret_bool hf.out, hb2.out⟩
      · have hkl : k = xs.length := by omega
        have hf := Lib.hid (show true = roomTo xs xs.length by rw [← hkl]; exact hroom.out.symm)
        have hnk : ¬ (k : Int) ≤ n := by have := hlen'.out; omega
        go_wp2_with fail
        go_ret
        exact ⟨ret_bool hf.out, hbel.out⟩
  · have hf := Lib.hid (show false = profB n xs by unfold profB; rw [hb]; rfl)
    rw [hb] at hc
    replace hc := Lib.hid hc
    replace hb := Lib.hid hb
    go_enter Try.func9, Try.ntmps9
    go_wp2_with fail
    refine hc.out.mono ?_
    rintro e w' ⟨rfl, rfl⟩
    go_wp2_with fail
    go_ret
    exact ⟨ret_bool hf.out, Below.refl _ _⟩
end Go.Proofs.Ytoglcinfnhhkhaa
