/- Texts merged: XProf XDown XDown2 XProf2. -/
import Derived.Test.YtpjapoaagbdlfaaGreatDoorLeastM
import Derived.Test.YtpjapoaagbdlfaaGreatDoorSh2
import Derived.Deep.RegionWith
import Derived.Test.YtpjapoaagbdlfaaGreatDoorFLaws
import Derived.Test.YtpjapoaagbdlfaaGreatDoorLawBool
import Derived.BigQuiet
namespace Go.Proofs.YtpjapoaagbdlfaaGreatDoor
section
/- Profiles of families with all their shadows: countsIn, ShadowProfile. -/
open Go.ChangeShapes Go.WideShapes Go.ChangeAt Go.RowKit Go.Proofs

/-- the first k numbers are numbers of sets that there are. -/
def cntsTo (n : Int) (xs : List Int) (k : Nat) : Bool := (List.range k).all fun j => cntB n (j : Nat) (xs.getD j 0)
theorem cntsTo_s (n : Int) (xs : List Int) (k : Nat) : cntsTo n xs (k + 1) = (cntsTo n xs k && cntB n (k : Nat) (xs.getD k 0)) := by unfold cntsTo; rw [List.range_succ, List.all_append]; simp
theorem cntsTo_at {n : Int} {xs : List Int} {k : Nat} (h : cntsTo n xs k = true) {j : Nat} (hj : j < k) : cntB n (j : Nat) (xs.getD j 0) = true := List.all_eq_true.1 h j (List.mem_range.2 hj)
theorem cntsTo_no {n : Int} {xs : List Int} {j k : Nat} (hj : j < k) (h : cntB n (j : Nat) (xs.getD j 0) = false) : cntsTo n xs k = false := by
  cases hc : cntsTo n xs k with
  | false => rfl
  | true => rw [cntsTo_at hc hj] at h; cases h
/-- the list tells for each size how many sets. -/
def cntsB (n : Int) (xs : List Int) : Bool := ptsB n && decide (((xs.length : Nat) : Int) = n + 1) && cntsTo n xs xs.length
theorem cntsB_yes {n : Int} {xs : List Int} (h : cntsB n xs = true) : 1 ≤ n ∧ n ≤ 8 ∧ ((xs.length : Nat) : Int) = n + 1 ∧ cntsTo n xs xs.length = true := by
  unfold cntsB at h
  rw [Bool.and_eq_true, Bool.and_eq_true] at h
  obtain ⟨n1, n2⟩ := ptsB_yes h.1.1
  exact ⟨n1, n2, of_decide_eq_true h.1.2, h.2⟩
theorem ch_lt41 : ∀ n : Fin 9, ∀ k : Fin 9, 1 ≤ k.val → k.val ≤ n.val → chI (n.val : Nat) (k.val : Nat) < chI 41 (k.val : Nat) ∧ chI (n.val : Nat) (k.val : Nat) ≤ 70 := by decide +kernel
theorem cnt_lea {n k m : Int} (n2 : n ≤ 8) (k1 : 1 ≤ k) (k2 : k ≤ n) (h : cntB n k m = true) : leaOk m k := by
  obtain ⟨m1, m2⟩ := cntB_yes h
  have e1 : ((n.toNat : Nat) : Int) = n := Int.toNat_of_nonneg (by omega)
  have e2 : ((k.toNat : Nat) : Int) = k := Int.toNat_of_nonneg (by omega)
  have b := ch_lt41 ⟨n.toNat, by omega⟩ ⟨k.toNat, by omega⟩ (by show 1 ≤ k.toNat; omega) (by show k.toNat ≤ n.toNat; omega)
  simp only [e1, e2] at b
  refine ⟨m1, k1, by omega, ?_⟩
  by_cases h0 : m = 0
  · exact .inl h0
  · exact .inr ⟨by omega, by omega, k1, by omega, by omega⟩

theorem cnts_in (n : Int) (lv : Value) (xs : List Int) (S : Nat) (w : World) (hx : Row w S lv xs) (hl : xs.length ≤ 1073741824) :
    Calls Tryz.prog 22 #[.int .i64 n, lv] w fun e w' => e = .returned (.bool (cntsB n xs)) ∧ w = w' := by
  obtain ⟨a, cap, rfl, ha⟩ := hx
  have hpc := pts_in n
  replace ha := Lib.hid ha
  rcases (by cases ptsB n <;> simp : ptsB n = true ∨ ptsB n = false) with hp | hp
  · obtain ⟨n1, n2⟩ := ptsB_yes hp
    rw [hp] at hpc
    replace hpc := Lib.hid hpc
    by_cases hlen : ((xs.length : Nat) : Int) = n + 1
    · have hne : (((xs.length : Nat) : Int) != n + 1) = false := by simp [hlen]
      have hb : cntsB n xs = cntsTo n xs xs.length := by unfold cntsB; rw [hp, decide_eq_true hlen]; rfl
      rw [hb]
      replace hp := Lib.hid hp
      replace hb := Lib.hid hb
      have hlen' := Lib.hid hlen
      clear hlen
      go_enter Tryz.func22, Tryz.ntmps22
      go_wp2_with (go_at_call 51; refine (hpc.out _).mono ?_; rintro e w' ⟨rfl, rfl⟩)
      go_loopw [19] (fun i wr => ∃ k : Nat, k ≤ xs.length ∧ i = .int .i64 k ∧ Hid (cntsTo n xs k = true) ∧ Hid (w = wr)) (fun i _ => xs.length - (intOf i).toNat)
      case atStart => exact ⟨0, Nat.zero_le _, rfl, Lib.hid rfl, Lib.hid rfl⟩
      case round =>
        obtain ⟨k, hk, rfl, hall, hw⟩ := hrel
        have hw' := hw.out
        subst hw'
        by_cases hlt : k < xs.length
        · obtain ⟨b1, o1, rfl, t1, c1⟩ := ha.out (by omega)
          have k1 : (0 : Int) ≤ (k : Int) := by omega
          have k2 : (k : Int) < (xs.length : Nat) := by omega
          have k9 : (k : Int) ≤ 8 := by have := hlen'.out; omega
          have e1 := c1 k hlt
          obtain ⟨x, hx⟩ : ∃ x, xs.getD k 0 = x := ⟨_, rfl⟩
          rw [hx] at e1
          have hcn := count_in n (k : Nat) x (by omega) (by omega) (by omega) (by omega)
          rcases cntB_cases n (k : Nat) x with h | h
          · have hn := Lib.hid (show cntsTo n xs (k + 1) = true by rw [cntsTo_s, hall.out, hx, h]; rfl)
            rw [h] at hcn
            replace hcn := Lib.hid hcn
            replace hx := Lib.hid hx
            replace h := Lib.hid h
            clear c1
            go_wp2_with (go_at_call 52; refine (hcn.out _).mono ?_; rintro e w' ⟨rfl, rfl⟩)
            go_roundw
            case rel => exact ⟨k + 1, by omega, by go_num, hn, Lib.hid (by trivial)⟩
            case measure => simp [intOf]; omega
          · have hf := Lib.hid (show false = cntsTo n xs xs.length from (cntsTo_no hlt (by rw [hx]; exact h)).symm)
            rw [h] at hcn
            replace hcn := Lib.hid hcn
            replace hx := Lib.hid hx
            replace h := Lib.hid h
            clear c1
            go_wp2_with (go_at_call 52; refine (hcn.out _).mono ?_; rintro e w' ⟨rfl, rfl⟩)
            go_ret
            exact ⟨ret_bool hf.out, rfl⟩
        · have hf := Lib.hid (show true = cntsTo n xs xs.length by
            have : k = xs.length := by omega
            rw [← this]; exact hall.out.symm)
          go_wp2_with fail
          go_ret
          exact ⟨ret_bool hf.out, rfl⟩
    · have hne : (((xs.length : Nat) : Int) != n + 1) = true := by simp [hlen]
      have hf := Lib.hid (show false = cntsB n xs by unfold cntsB; rw [decide_eq_false hlen]; simp)
      replace hp := Lib.hid hp
      clear hlen
      go_enter Tryz.func22, Tryz.ntmps22
      go_wp2_with (go_at_call 51; refine (hpc.out _).mono ?_; rintro e w' ⟨rfl, rfl⟩)
      go_ret
      exact ⟨ret_bool hf.out, rfl⟩
  · have hf := Lib.hid (show false = cntsB n xs by unfold cntsB; rw [hp]; rfl)
    rw [hp] at hpc
    replace hpc := Lib.hid hpc
    replace hp := Lib.hid hp
    go_enter Tryz.func22, Tryz.ntmps22
    go_wp2_with (go_at_call 51; refine (hpc.out _).mono ?_; rintro e w' ⟨rfl, rfl⟩)
    go_ret
    exact ⟨ret_bool hf.out, rfl⟩

/-- up to size k - 1 each shadow has room. -/
def roomB (xs : List Int) (j : Nat) : Bool := decide (leaV (xs.getD j 0) (j : Nat) ≤ xs.getD (j - 1) 0)
def roomTo (xs : List Int) (k : Nat) : Bool := (List.range k).all fun j => j == 0 || roomB xs j
theorem roomTo_s (xs : List Int) (k : Nat) : roomTo xs (k + 1) = (roomTo xs k && (k == 0 || roomB xs k)) := by unfold roomTo; rw [List.range_succ, List.all_append]; simp
theorem roomTo_no {xs : List Int} {j k : Nat} (hj : j < k) (h0 : 1 ≤ j) (h : roomB xs j = false) : roomTo xs k = false := by
  cases hc : roomTo xs k with
  | false => rfl
  | true =>
    have := List.all_eq_true.1 hc j (List.mem_range.2 hj)
    rw [h] at this
    simp at this
    omega
def profB (n : Int) (xs : List Int) : Bool := cntsB n xs && roomTo xs xs.length

set_option maxHeartbeats 1000000 in
theorem im_ShadowProfile (n : Int) (lv : Value) (xs : List Int) (S : Nat) (w : World) (hx : Row w S lv xs) (hS : S ≤ w.heap.size) (hl : xs.length ≤ 100000000) :
    Calls Tryz.prog 7 #[.int .i64 n, lv] w fun e w' => e = .returned (.bool (profB n xs)) ∧ Below w.heap.size w w' := by
  have hc := cnts_in n lv xs S w hx (by omega)
  obtain ⟨a, cap, rfl, ha⟩ := hx
  replace ha := Lib.hid ha
  rcases (by cases cntsB n xs <;> simp : cntsB n xs = true ∨ cntsB n xs = false) with hb | hb
  · obtain ⟨n1, n2, hlen, hall⟩ := cntsB_yes hb
    have hB : profB n xs = roomTo xs xs.length := by unfold profB; rw [hb]; rfl
    rw [hb] at hc
    rw [hB]
    replace hc := Lib.hid hc
    replace hb := Lib.hid hb
    replace hB := Lib.hid hB
    replace hall := Lib.hid hall
    have hlen' := Lib.hid hlen
    clear hlen
    go_enter Tryz.func7, Tryz.ntmps7
    go_wp2_with fail
    refine hc.out.mono ?_
    rintro e w' ⟨rfl, rfl⟩
    go_wp2_with fail
    go_loopw [5] (fun i wr => ∃ k : Nat, 1 ≤ k ∧ k ≤ xs.length ∧ i = .int .i64 k ∧ Hid (roomTo xs k = true) ∧ Hid (Below w.heap.size w wr)) (fun i _ => xs.length - (intOf i).toNat)
    case atStart => exact ⟨1, Nat.le_refl _, by have := hlen'.out; omega, rfl, Lib.hid rfl, Lib.hid (Below.refl _ _)⟩
    case round =>
      obtain ⟨k, hk1, hk, rfl, hroom, hbel⟩ := hrel
      by_cases hlt : k < xs.length
      · obtain ⟨b1, o1, rfl, t1, c1⟩ := ha.out (by omega)
        have hb1w : b1 < w.heap.size := by omega
        have k1 : (0 : Int) ≤ (k : Int) := by omega
        have k2 : (k : Int) < (xs.length : Nat) := by omega
        have k3 : (k : Int) ≤ n := by have := hlen'.out; omega
        have k4 : (0 : Int) ≤ (k : Int) - 1 := by omega
        have k5 : (k : Int) - 1 < (xs.length : Nat) := by omega
        have ek : ((k : Int) - 1).toNat = k - 1 := by omega
        have e1 : wr.cell? ⟨b1, o1 + k, none⟩ = some (.int .i64 (xs.getD k 0)) := (hbel.out.cell (p := ⟨b1, o1 + k, none⟩) hb1w).trans (c1 k hlt)
        have hcB := cntsTo_at hall.out hlt
        obtain ⟨x, hx⟩ : ∃ x, xs.getD k 0 = x := ⟨_, rfl⟩
        obtain ⟨y, hy⟩ : ∃ y, xs.getD (k - 1) 0 = y := ⟨_, rfl⟩
        have hB : roomB xs k = decide (leaV x (k : Nat) ≤ y) := by unfold roomB; rw [hx, hy]
        rw [hx] at e1 hcB
        have hok := cnt_lea n2 (by omega) k3 hcB
        have hsl := im_ShadowLeast x (k : Nat) wr
        rw [leaB_mk hok] at hsl
        obtain ⟨L, hL⟩ : ∃ L, leaV x (k : Nat) = L := ⟨_, rfl⟩
        rw [hL] at hsl hB
        have hrs := roomTo_s xs k
        rw [hroom.out, hB] at hrs
        have hsz := hbel.out.size
        have e2 : ∀ w2, Below wr.heap.size wr w2 → w2.cell? ⟨b1, o1 + (k - 1), none⟩ = some (.int .i64 y) := fun w2 hb2 => by
          rw [← hy]
          exact ((hbel.out.trans (hb2.mono hsz)).cell (p := ⟨b1, o1 + (k - 1), none⟩) hb1w).trans (c1 (k - 1) (by omega))
        have hno := fun (h : roomB xs k = false) => roomTo_no hlt hk1 h
        rw [hB] at hno
        replace hno := Lib.hid hno
        replace hsl := Lib.hid hsl
        replace hx := Lib.hid hx
        replace hy := Lib.hid hy
        replace hL := Lib.hid hL
        replace hok := Lib.hid hok
        replace hcB := Lib.hid hcB
        replace hrs := Lib.hid hrs
        replace hB := Lib.hid hB
        replace e2 := Lib.hid e2
        clear c1
        go_wp2_with fail
        refine hsl.out.mono ?_
        rintro e w2 ⟨rfl, hb2⟩
        have e3 := e2.out w2 hb2
        replace hb2 := Lib.hid (hbel.out.trans (hb2.mono hsz))
        by_cases hle : L ≤ y
        · have hd : decide (y < L) = false := decide_eq_false (by omega)
          have hn := Lib.hid (show roomTo xs (k + 1) = true by rw [hrs.out, decide_eq_true hle]; simp)
          go_wp2_with fail
          go_roundw
          case rel => exact ⟨k + 1, by omega, by omega, by go_num, hn, hb2⟩
          case measure => simp [intOf]; omega
        · have hd : decide (y < L) = true := decide_eq_true (by omega)
          have hf := Lib.hid (show false = roomTo xs xs.length from (hno.out (decide_eq_false hle)).symm)
          go_wp2_with fail
          go_ret
          exact ⟨ret_bool hf.out, hb2.out⟩
      · have hkl : k = xs.length := by omega
        have hf := Lib.hid (show true = roomTo xs xs.length by rw [← hkl]; exact hroom.out.symm)
        have hnk : ¬ (k : Int) ≤ n := by have := hlen'.out; omega
        go_wp2_with fail
        go_ret
        exact ⟨ret_bool hf.out, hbel.out⟩
  · have hf := Lib.hid (show false = profB n xs by unfold profB; rw [hb]; rfl)
    rw [hb] at hc
    replace hc := Lib.hid hc
    replace hb := Lib.hid hb
    go_enter Tryz.func7, Tryz.ntmps7
    go_wp2_with fail
    refine hc.out.mono ?_
    rintro e w' ⟨rfl, rfl⟩
    go_wp2_with fail
    go_ret
    exact ⟨ret_bool hf.out, Below.refl _ _⟩

end
section
/- First sets of all sizes: ShadowDown, the program. -/
open Go.ChangeShapes Go.WideShapes Go.ChangeAt Go.RowKit Go.Proofs

theorem sort_cat (A B : List Int) : sortL (sortL A ++ B) = sortL (A ++ B) := asc_ext (asc_sortL _) (asc_sortL _) fun z => by
  rw [mem_sortL, mem_sortL, List.mem_append, List.mem_append, mem_sortL]
/-- the first sets of the sizes below k, one after another. -/
def catL (n : Int) (xs : List Int) : Nat → List Int
  | 0 => []
  | k + 1 => catL n xs k ++ fstL n (k : Nat) (xs.getD k 0)
def dwL (n : Int) (xs : List Int) (k : Nat) : List Int := sortL (catL n xs k)
theorem dwL_s (n : Int) (xs : List Int) (k : Nat) : dwL n xs (k + 1) = sortL (dwL n xs k ++ fstL n (k : Nat) (xs.getD k 0)) := (sort_cat _ _).symm
theorem cat_mem {n : Int} (n1 : 1 ≤ n) (n2 : n ≤ 8) (xs : List Int) : ∀ (k : Nat) (z : Int), z ∈ catL n xs k → setB n z = true := by
  intro k
  induction k with
  | zero => intro z hz; simp [catL] at hz
  | succ k ih =>
    intro z hz
    rcases List.mem_append.1 hz with h | h
    · exact ih z h
    · exact fstL_mem n1 n2 h
theorem cat_len {n : Int} (n1 : 1 ≤ n) (n2 : n ≤ 8) (xs : List Int) : ∀ k : Nat, (catL n xs k).length ≤ 256 * k := by
  intro k
  induction k with
  | zero => simp [catL]
  | succ k ih =>
    have : (fstL n (k : Nat) (xs.getD k 0)).length ≤ 256 := asc_len256 (fstL_asc _ _ _) (fun z hz => setB_lt (fstL_mem n1 n2 hz))
    show (catL n xs k ++ _).length ≤ _
    rw [List.length_append]; omega
theorem dwL_mem {n : Int} (n1 : 1 ≤ n) (n2 : n ≤ 8) {xs : List Int} {k : Nat} {z : Int} (h : z ∈ dwL n xs k) : setB n z = true := cat_mem n1 n2 xs k z (mem_sortL.1 h)
theorem dwL_lt {n : Int} (n1 : 1 ≤ n) (n2 : n ≤ 8) (xs : List Int) (k : Nat) : ∀ z ∈ dwL n xs k, 0 ≤ z ∧ z < 256 := fun _ hz => setB_lt (dwL_mem n1 n2 hz)
theorem dwL_len {n : Int} (n1 : 1 ≤ n) (n2 : n ≤ 8) (xs : List Int) (k : Nat) : (dwL n xs k).length ≤ 256 := asc_len256 (asc_sortL _) (dwL_lt n1 n2 xs k)
theorem fbox_heap {w : World} {B bx : Nat} {xs : List Int} (h : FBox w B bx xs) : ∃ a c, w.heap[bx]? = some (.cells #[.slice a xs.length c, (Value.func (.func 57) #[] #[])] 44 (0, 0)) ∧ SetL w B (.slice a xs.length c) xs ∧ B ≤ bx := by
  obtain ⟨hB, v, hv, hS⟩ := h
  obtain ⟨a, c, rfl⟩ := hS.form
  exact ⟨a, c, hv, hS, hB⟩
theorem fbox_cells {w : World} {bx : Nat} {u : Value} (h : w.heap[bx]? = some (.cells #[u, (Value.func (.func 57) #[] #[])] 44 (0, 0))) : w.cell? ⟨bx, 0, none⟩ = some u ∧ w.cell? ⟨bx, 1, none⟩ = some (Value.func (.func 57) #[] #[]) ∧ w.frozen? ⟨bx, 0, none⟩ = false ∧ w.frozen? ⟨bx, 1, none⟩ = false :=
  ⟨by rw [cell_of_row w bx 0 _ 44 (0, 0) h]; rfl, by rw [cell_of_row w bx 1 _ 44 (0, 0) h]; rfl, frozen_of h _, frozen_of h _⟩
theorem fbox_store {w : World} {B bx : Nat} {u v : Value} {ys : List Int} (hB : B ≤ bx) (h : w.heap[bx]? = some (.cells #[u, (Value.func (.func 57) #[] #[])] 44 (0, 0))) (hS : SetL w B v ys) (hne : v.ownBlock ≠ some bx) :
    FBox ((w.setCell ⟨bx, 0, none⟩ v).setCell ⟨bx, 1, none⟩ (Value.func (.func 57) #[] #[])) B bx ys := by
  have h1 := heap_setCell_same w bx 0 _ 44 v h
  have h2 := heap_setCell_same (w.setCell ⟨bx, 0, none⟩ v) bx 1 _ 44 (Value.func (.func 57) #[] #[]) h1
  exact ⟨hB, v, by rw [h2]; rfl, (hS.store _ _ hne).store _ _ hne⟩

theorem fbox_cast {w : World} {B bx : Nat} {ys zs : List Int} (e : ys = zs) (h : FBox w B bx ys) : FBox w B bx zs := e ▸ h
set_option maxHeartbeats 4000000 in
theorem im_ShadowDown (n : Int) (lv : Value) (xs : List Int) (S : Nat) (w : World) (hx : Row w S lv xs) (hS : S ≤ w.heap.size) (hl : xs.length ≤ 100000000) :
    Calls Tryz.prog 9 #[.int .i64 n, lv] w (ListPost (ifL (cntsB n xs) (dwL n xs xs.length)) (cntsB n xs) w) := by
  have hc := cnts_in n lv xs S w hx (by omega)
  obtain ⟨a, cap, rfl, ha⟩ := hx
  replace ha := Lib.hid ha
  rcases (by cases cntsB n xs <;> simp : cntsB n xs = true ∨ cntsB n xs = false) with hb | hb
  · obtain ⟨n1, n2, hlen, hall⟩ := cntsB_yes hb
    rw [hb] at hc ⊢
    show Calls Tryz.prog 9 #[.int .i64 n, .slice a xs.length cap] w (ListPost (dwL n xs xs.length) true w)
    replace hc := Lib.hid hc
    replace hb := Lib.hid hb
    replace hall := Lib.hid hall
    have hlen' := Lib.hid hlen
    have hfn := Lib.hid (family_nil w)
    clear hlen
    go_enter Tryz.func9, Tryz.ntmps9
    go_wp2_with fail
    refine hc.out.mono ?_
    rintro e w' ⟨rfl, rfl⟩
    go_wp2_with fail
    refine hfn.out.mono ?_
    rintro e w1 ⟨v1, rfl, hS1, hb1⟩
    obtain ⟨a1, c1, rfl⟩ := hS1.form
    have hz1 := hb1.size
    have hF1 := Lib.hid (show FBox (w1.alloc (.cells #[.slice a1 0 c1, (Value.func (.func 57) #[] #[])] 44)) w.heap.size w1.heap.size (dwL n xs 0) from ⟨hz1, _, heap_alloc_new w1 _, hS1.alloc _⟩)
    have hbl1 := Lib.hid (hb1.alloc hz1 (.cells #[.slice a1 0 c1, (Value.func (.func 57) #[] #[])] 44))
    clear hS1 hb1
    go_wp2_with fail
    go_loopw [17] (fun i wr => ∃ k : Nat, k ≤ xs.length ∧ i = .int .i64 k ∧ Hid (FBox wr w.heap.size w1.heap.size (dwL n xs k)) ∧ Hid (Below w.heap.size w wr)) (fun i _ => xs.length - (intOf i).toNat)
    case atStart => exact ⟨0, Nat.zero_le _, rfl, hF1, hbl1⟩
    case round =>
      obtain ⟨k, hk, rfl, hF, hbel⟩ := hrel
      have hFlt := hF.out.lt
      have hsz := hbel.out.size
      by_cases hlt : k < xs.length
      · obtain ⟨b1, o1, rfl, t1, cc1⟩ := ha.out (by omega)
        have k1 : (0 : Int) ≤ (k : Int) := by omega
        have k2 : (k : Int) < (xs.length : Nat) := by omega
        have k3 : (k : Int) ≤ n := by have := hlen'.out; omega
        have e1 : wr.cell? ⟨b1, o1 + k, none⟩ = some (.int .i64 (xs.getD k 0)) := (hbel.out.cell (p := ⟨b1, o1 + k, none⟩) (show b1 < w.heap.size by omega)).trans (cc1 k hlt)
        have hcB := cntsTo_at hall.out hlt
        have hds := dwL_s n xs k
        have hdl := dwL_len n1 n2 xs k
        have hdz := dwL_lt n1 n2 xs k
        have hdA : Asc (dwL n xs k) := asc_sortL _
        have hfz : ∀ z ∈ fstL n (k : Nat) (xs.getD k 0), 0 ≤ z ∧ z < 256 := fun z hz => setB_lt (fstL_mem n1 n2 hz)
        have hfA : Asc (fstL n (k : Nat) (xs.getD k 0)) := fstL_asc _ _ _
        have hLn := levL_len n1 n2 k1 k3
        have hLz := levL_len256 (k := (k : Nat)) n1 n2
        have hlev := lev_at n (k : Nat) n1 n2
        obtain ⟨m, hm⟩ : ∃ m : Nat, xs.getD k 0 = (m : Nat) := ⟨(xs.getD k 0).toNat, by have := (cntB_yes hcB).1; omega⟩
        rw [hm] at e1 hcB hds hfz hfA
        have hmle := (cntB_yes hcB).2
        have hfirst := fun (W : World) (lv : Value) (hx : SRow W W.heap.size lv (levL n (k : Nat))) => first_any lv (levL n (k : Nat)) m _ W hx (Nat.le_refl _) (by omega) (by omega)
        have hfl : fstL n (k : Nat) (m : Nat) = (levL n (k : Nat)).take m := rfl
        rw [← hfl] at hfirst
        obtain ⟨zs, hzs⟩ : ∃ zs, fstL n (k : Nat) (m : Nat) = zs := ⟨_, rfl⟩
        obtain ⟨ys, hys⟩ : ∃ ys, dwL n xs k = ys := ⟨_, rfl⟩
        obtain ⟨ls, hls⟩ : ∃ ls, levL n (k : Nat) = ls := ⟨_, rfl⟩
        rw [hys] at hF hdl hdz hdA
        rw [hls] at hlev hfirst
        rw [hzs] at hfirst hfz hfA
        rw [hys, hzs] at hds
        have hT : TwoFam ys zs := ⟨hdA, hfA, hdz, hfz⟩
        have hun : ∀ (W : World) (lv lu : Value), SRow W W.heap.size lv ys → SRow W W.heap.size lu zs → Calls Tryz.prog 29 #[.agg #[lv, (Value.func (.func 57) #[] #[])], .agg #[lu, (Value.func (.func 57) #[] #[])]] W (FamPost W (sortL (ys ++ zs))) := fun W lv lu h1 h2 => union_fam ys zs W hT W lv lu (Below.refl _ _) h1 h2
        obtain ⟨us, hus⟩ : ∃ us, sortL (ys ++ zs) = us := ⟨_, rfl⟩
        rw [hus] at hun hds
        obtain ⟨ya, yc, hh0, hSy, hBb⟩ := fbox_heap hF.out
        obtain ⟨q0, q1, g0, g1⟩ := fbox_cells hh0
        have hsd : wr.drew.heap.size = wr.heap.size := rfl
        have hSr := hSy.row
        replace hh0 := Lib.hid hh0
        replace hSr := Lib.hid hSr
        replace hsd := Lib.hid hsd
        replace hds := Lib.hid hds
        replace hun := Lib.hid hun
        replace hus := Lib.hid hus
        replace hzs := Lib.hid hzs
        replace hys := Lib.hid hys
        replace hls := Lib.hid hls
        replace hfl := Lib.hid hfl
        replace hfirst := Lib.hid hfirst
        replace hlev := Lib.hid hlev
        replace hcB := Lib.hid hcB
        replace hm := Lib.hid hm
        replace hmle := Lib.hid hmle
        replace hLn := Lib.hid hLn
        replace hT := Lib.hid hT
        replace hfA := Lib.hid hfA
        replace hdA := Lib.hid hdA
        replace hfz := Lib.hid hfz
        replace hdz := Lib.hid hdz
        clear cc1 hSy
        go_wp2_with fail
        go_region_with (first
          | (go_at_call 30; ((with_reducible refine (hlev.out _).mono ?_)); rintro e w2 ⟨v2, rfl, hS2, hb2⟩; obtain ⟨a2, c2, rfl⟩ := hS2.form; rw [hsd.out] at hS2 hb2; have hz2 := hb2.size; rw [hsd.out] at hz2; have hh2 := (hb2.block w1.heap.size hFlt).trans hh0.out; obtain ⟨q02, q12, _, _⟩ := fbox_cells hh2; have hr2 := Lib.hid hS2.row; replace hh2 := Lib.hid hh2; replace hS2 := Lib.hid hS2; replace hb2 := Lib.hid ((Below.refl wr.heap.size wr).drew.trans hb2))
          | (go_at_call 31; ((with_reducible refine (hfirst.out _ _ hr2.out).mono ?_)); rintro e w3 ⟨v3, rfl, hR3, hb3⟩; obtain ⟨a3, c3, rfl, _⟩ := id hR3; have hz3 := hb3.size; have hh3 := (hb3.block w1.heap.size (Nat.lt_of_lt_of_le hFlt hz2)).trans hh2.out; obtain ⟨q03, q13, _, _⟩ := fbox_cells hh3; have hb3' := hb2.out.trans (hb3.mono hz2); have hy3 := Lib.hid ((hSr.out.below hb3' (Nat.le_refl _)).mono (Nat.le_trans hz2 hz3)); replace hh3 := Lib.hid hh3; replace hR3 := Lib.hid hR3; replace hb3 := Lib.hid hb3')
          | (go_at_call 29; ((with_reducible refine (hun.out _ _ _ hy3.out hR3.out).mono ?_)); rintro e w4 ⟨v4, rfl, hS4, hb4⟩; obtain ⟨a4, c4, rfl⟩ := hS4.form; have hz4 := hb4.size; have hh4 := (hb4.block w1.heap.size (Nat.lt_of_lt_of_le hFlt (Nat.le_trans hz2 hz3))).trans hh3.out; obtain ⟨q04, q14, g04, g14⟩ := fbox_cells hh4; have hb4' := hb3.out.trans (hb4.mono (Nat.le_trans hz2 hz3)); replace hh4 := Lib.hid hh4; replace hS4 := Lib.hid hS4; replace hb4 := Lib.hid (hbel.out.trans (hb4'.mono hsz))))
        all_goals
          have hFn := Lib.hid (fbox_store hBb hh4.out (hS4.out.mono (show w.heap.size ≤ w3.heap.size by omega)) (by intro e; have := hS4.out.lt _ e; omega))
          have hbn := Lib.hid (below_setCell (below_setCell hb4.out (p := ⟨w1.heap.size, 0, none⟩) (show w.heap.size ≤ w1.heap.size from hz1) (.slice a4 us.length c4)) (p := ⟨w1.heap.size, 1, none⟩) (show w.heap.size ≤ w1.heap.size from hz1) (Value.func (.func 57) #[] #[]))
          replace hFn := Lib.hid (fbox_cast hds.out.symm hFn.out)
          go_wp2_with fail
          go_roundw
          case rel => exact ⟨k + 1, by omega, by go_num, hFn, hbn⟩
          case measure => simp [intOf]; omega
      · have hkl : k = xs.length := by omega
        have hdl := dwL_len n1 n2 xs k
        have hdz := Lib.hid (dwL_lt n1 n2 xs k)
        have hL := Lib.hid (show dwL n xs k = dwL n xs xs.length by rw [hkl])
        obtain ⟨ys, hys⟩ : ∃ ys, dwL n xs k = ys := ⟨_, rfl⟩
        rw [hys] at hF hdl hdz hL
        replace hys := Lib.hid hys
        obtain ⟨ya, yc, hh0, hSy, hBb⟩ := fbox_heap hF.out
        obtain ⟨q0, q1, g0, g1⟩ := fbox_cells hh0
        have hnum := Lib.hid (numbers_at _ _ _ _ hSy.row (Nat.le_refl _) (by omega) hdz.out)
        clear hSy
        go_wp2_with fail
        refine hnum.out.mono ?_
        rintro e w5 ⟨t, rfl, hO, hb5⟩
        obtain ⟨ua, uc, rfl, _⟩ := id hO
        replace hb5 := Lib.hid (hbel.out.trans (hb5.mono (by omega)))
        replace hO := Lib.hid (hO.mono (show w.heap.size ≤ wr.heap.size by omega) (Nat.le_refl _))
        go_wp2_with fail
        go_ret2
        exact ⟨_, rfl, hL.out ▸ hO.out, hb5.out⟩
  · have hf := Lib.hid hb
    rw [hb] at hc ⊢
    replace hc := Lib.hid hc
    go_enter Tryz.func9, Tryz.ntmps9
    go_wp2_with fail
    refine hc.out.mono ?_
    rintro e w' ⟨rfl, rfl⟩
    go_wp2_with fail
    go_ret2
    exact ⟨_, rfl, own_empty _ _ _ _ _, (Below.refl _ _).alloc (Nat.le_refl _) _⟩

end
section
/- First sets of all sizes: ShadowDown, the model and the law. -/
open Go.ChangeShapes Go.WideShapes Go.ChangeAt Go.RowKit Go.Proofs

set_option maxHeartbeats 2000000 in
theorem sp_ShadowDown (n : Int) (lv : Value) (xs : List Int) (S : Nat) (w : World) (hx : Row w S lv xs) (hS : S ≤ w.heap.size) (hl : xs.length ≤ 100000000) :
    Calls Tryz.prog 15 #[.int .i64 n, lv] w (ListPost (ifL (cntsB n xs) (dwL n xs xs.length)) (cntsB n xs) w) := by
  have hpp := l1pts n
  obtain ⟨a, cap, rfl, ha⟩ := hx
  replace ha := Lib.hid ha
  rcases (by cases ptsB n <;> simp : ptsB n = true ∨ ptsB n = false) with hp | hp
  · obtain ⟨n1, n2⟩ := ptsB_yes hp
    rw [hp] at hpp
    replace hpp := Lib.hid hpp
    by_cases hlen : ((xs.length : Nat) : Int) = n + 1
    · have hne : (((xs.length : Nat) : Int) != n + 1) = false := by simp [hlen]
      have hb : cntsB n xs = cntsTo n xs xs.length := by unfold cntsB; rw [hp, decide_eq_true hlen]; rfl
      rw [hb]
      replace hp := Lib.hid hp
      replace hb := Lib.hid hb
      have hlen' := Lib.hid hlen
      clear hlen
      go_enter Tryz.func15, Tryz.ntmps15
      go_wp2_with (go_at_call 24; refine (hpp.out _).mono ?_; rintro e w' ⟨rfl, rfl⟩)
      go_loopw [6, 7] (fun v i wr => ∃ k : Nat, k ≤ xs.length ∧ i = .int .i64 k ∧ Hid (OwnL wr w.heap.size v (catL n xs k)) ∧ Hid (cntsTo n xs k = true) ∧ Hid (Below w.heap.size w wr)) (fun _ i _ => xs.length - (intOf i).toNat)
      case atStart => exact ⟨0, Nat.zero_le _, rfl, Lib.hid (OwnL.lit w (Nat.le_refl _)), Lib.hid rfl, Lib.hid ((Below.refl _ _).alloc (Nat.le_refl _) _)⟩
      case round =>
        obtain ⟨k, hk, rfl, hown, hall, hbel⟩ := hrel
        have hsz := hbel.out.size
        by_cases hlt : k < xs.length
        · obtain ⟨b1, o1, rfl, t1, c1⟩ := ha.out (by omega)
          have k1 : (0 : Int) ≤ (k : Int) := by omega
          have k2 : (k : Int) < (xs.length : Nat) := by omega
          have k3 : (k : Int) ≤ n := by have := hlen'.out; omega
          have e1 : wr.cell? ⟨b1, o1 + k, none⟩ = some (.int .i64 (xs.getD k 0)) := (hbel.out.cell (p := ⟨b1, o1 + k, none⟩) (show b1 < w.heap.size by omega)).trans (c1 k hlt)
          obtain ⟨x, hx⟩ : ∃ x, xs.getD k 0 = x := ⟨_, rfl⟩
          have hcs := cntsTo_s n xs k
          have hct : catL n xs (k + 1) = catL n xs k ++ fstL n (k : Nat) (xs.getD k 0) := rfl
          rw [hall.out, hx, Bool.true_and] at hcs
          rw [hx] at e1 hct
          have hfb : fstB n (k : Nat) x = cntB n (k : Nat) x := by unfold fstB; rw [szB_mk ⟨n1, n2, k1, k3⟩]; rfl
          have hsf := sp_ShadowFirst n (k : Nat) x wr
          rw [hfb] at hsf
          have hcl := cat_len n1 n2 xs k
          have hk9 : k ≤ 9 := by omega
          rcases cntB_cases n (k : Nat) x with h | h
          · rw [h] at hsf hcs
            have hfl : (fstL n (k : Nat) x).length ≤ 256 := asc_len256 (fstL_asc _ _ _) (fun z hz => setB_lt (fstL_mem n1 n2 hz))
            obtain ⟨zs, hzs⟩ : ∃ zs, fstL n (k : Nat) x = zs := ⟨_, rfl⟩
            obtain ⟨ys, hys⟩ : ∃ ys, catL n xs k = ys := ⟨_, rfl⟩
            rw [hzs] at hsf hct hfl
            rw [hys] at hown hct hcl
            replace hsf := Lib.hid (show Calls Tryz.prog 39 #[.int .i64 n, .int .i64 (k : Nat), .int .i64 x] wr fun e w' => ∃ v, e = .returned (.tuple #[v, .bool true]) ∧ OwnL w' wr.heap.size v zs ∧ Below wr.heap.size wr w' from hsf)
            replace hzs := Lib.hid hzs
            replace hys := Lib.hid hys
            replace hct := Lib.hid hct
            replace hcs := Lib.hid hcs
            replace hx := Lib.hid hx
            replace h := Lib.hid h
            replace hfb := Lib.hid hfb
            obtain ⟨va, vc, rfl⟩ := hown.out.form
            clear c1
            go_wp2_with fail
            refine hsf.out.mono ?_
            rintro e w2 ⟨v2, rfl, hO2, hb2⟩
            obtain ⟨fa, fc, rfl⟩ := hO2.form
            have hz2 := hb2.size
            have hR2 := Lib.hid hO2.own.row
            have hown2 := Lib.hid (hown.out.below hb2 (Nat.le_refl _))
            replace hb2 := Lib.hid (hbel.out.trans (hb2.mono hsz))
            have hq : w.heap.size ≤ w2.heap.size := by omega
            have hl1 : ys.length ≤ 1073741824 := by omega
            have hl2 : zs.length ≤ 1073741824 := by omega
            clear hO2 hown
            go_wp2_with (at_builtin; refine app_ints rfl _ _ rfl w.heap.size _ ys rfl hown2.out fa fc w2.heap.size zs rfl hR2.out hl1 hl2 hq ?_; intro v3 w3 hO3 hb3; rw [← hct.out] at hO3; replace hO3 := Lib.hid hO3; replace hb3 := Lib.hid (hb2.out.trans hb3))
            go_roundw
            case rel => exact ⟨k + 1, by omega, by go_num, hO3, hcs, hb3⟩
            case measure => simp [intOf]; omega
          · rw [h] at hsf hcs
            have hf := Lib.hid (show false = cntsTo n xs xs.length from (cntsTo_no hlt (by rw [hx]; exact h)).symm)
            have hL := Lib.hid (show [] = ifL (cntsTo n xs xs.length) (dwL n xs xs.length) by rw [← hf.out]; rfl)
            replace hsf := Lib.hid hsf
            replace hcs := Lib.hid hcs
            replace hct := Lib.hid hct
            replace hx := Lib.hid hx
            replace h := Lib.hid h
            replace hfb := Lib.hid hfb
            clear c1
            go_wp2_with fail
            refine hsf.out.mono ?_
            rintro e w2 ⟨v2, rfl, hO2, hb2⟩
            obtain ⟨fa, fc, rfl⟩ := hO2.form
            replace hb2 := Lib.hid (hbel.out.trans (hb2.mono hsz))
            clear hO2
            go_wp2_with fail
            go_ret2
            exact ⟨_, ret_vb hf.out, hL.out ▸ own_empty _ _ _ _ _, hb2.out.alloc hb2.out.size _⟩
        · have hkl : k = xs.length := by omega
          have hf := Lib.hid (show true = cntsTo n xs xs.length by rw [← hkl]; exact hall.out.symm)
          have hL := Lib.hid (show dwL n xs k = ifL (cntsTo n xs xs.length) (dwL n xs xs.length) by rw [← hf.out, hkl]; rfl)
          have hnk : ¬ (k : Int) ≤ n := by have := hlen'.out; omega
          have hcl := cat_len n1 n2 xs k
          have hk9 : k ≤ 9 := by have := hlen'.out; omega
          have hca : allB n (catL n xs k) = true := List.all_eq_true.2 fun z hz => cat_mem n1 n2 xs k z hz
          have hdn : dwL n xs k = sortL (catL n xs k) := rfl
          rw [hdn] at hL
          obtain ⟨ys, hys⟩ : ∃ ys, catL n xs k = ys := ⟨_, rfl⟩
          rw [hys] at hown hcl hca hL
          obtain ⟨va, vc, rfl⟩ := hown.out.form
          have hfa := Lib.hid (family_at n _ ys _ wr hown.out.own.row (Nat.le_refl _) (by omega) n1 n2 hca)
          replace hca := Lib.hid hca
          replace hdn := Lib.hid hdn
          replace hys := Lib.hid hys
          clear hown
          go_wp2_with fail
          refine hfa.out.mono ?_
          rintro e w4 ⟨v4, rfl, hO4, hb4⟩
          obtain ⟨x1, x2, rfl⟩ := hO4.form
          replace hb4 := Lib.hid (hbel.out.trans (hb4.mono hsz))
          replace hO4 := Lib.hid (hO4.own.mono hsz (Nat.le_refl _))
          go_wp2_with fail
          go_ret2
          exact ⟨_, ret_vb hf.out, hL.out ▸ hO4.out, hb4.out⟩
    · have hne : (((xs.length : Nat) : Int) != n + 1) = true := by simp [hlen]
      have hb : cntsB n xs = false := by unfold cntsB; rw [decide_eq_false hlen]; simp
      rw [hb]
      replace hb := Lib.hid hb
      replace hp := Lib.hid hp
      clear hlen
      go_enter Tryz.func15, Tryz.ntmps15
      go_wp2_with (go_at_call 24; refine (hpp.out _).mono ?_; rintro e w' ⟨rfl, rfl⟩)
      go_ret2
      exact ⟨_, rfl, own_empty _ _ _ _ _, (Below.refl _ _).alloc (Nat.le_refl _) _⟩
  · have hb : cntsB n xs = false := by unfold cntsB; rw [hp]; rfl
    rw [hb]
    rw [hp] at hpp
    replace hb := Lib.hid hb
    replace hpp := Lib.hid hpp
    replace hp := Lib.hid hp
    go_enter Tryz.func15, Tryz.ntmps15
    go_wp2_with (go_at_call 24; refine (hpp.out _).mono ?_; rintro e w' ⟨rfl, rfl⟩)
    go_ret2
    exact ⟨_, rfl, own_empty _ _ _ _ _, (Below.refl _ _).alloc (Nat.le_refl _) _⟩
end
section
/- The model of ShadowProfile, and its law. -/
open Go.ChangeShapes Go.WideShapes Go.ChangeAt Go.RowKit Go.Proofs

theorem l6q {x a b : Int} {c : Bool} (h : inB x a b = c) (w : World) : Calls Tryz.prog 25 #[.int .i64 x, .int .i64 a, .int .i64 b] w fun e w' => e = .returned (.bool c) ∧ w' = w :=
  (l6in x a b w).mono fun _ _ h2 => ⟨h ▸ h2.1, h2.2.symm⟩
theorem chq {n k c : Int} (h : chI n k = c) (h1 : 0 ≤ n) (h2 : n ≤ 41) (h3 : 0 ≤ k) (h4 : k ≤ 41) (w : World) : Calls Tryz.prog 26 #[.int .i64 n, .int .i64 k] w fun e w' => e = .returned (.int .i64 c) ∧ w' = w :=
  (sp_choose_in n k h1 h2 h3 h4 w).mono fun _ _ h5 => ⟨h ▸ h5.1, h5.2.symm⟩
set_option maxHeartbeats 2000000 in
theorem sp_ShadowProfile (n : Int) (lv : Value) (xs : List Int) (S : Nat) (w : World) (hx : Row w S lv xs) (hS : S ≤ w.heap.size) (hl : xs.length ≤ 100000000) :
    Calls Tryz.prog 8 #[.int .i64 n, lv] w fun e w' => e = .returned (.bool (profB n xs)) ∧ Below w.heap.size w w' := by
  have hpp := l1pts n
  obtain ⟨a, cap, rfl, ha⟩ := hx
  replace ha := Lib.hid ha
  rcases (by cases ptsB n <;> simp : ptsB n = true ∨ ptsB n = false) with hp | hp
  · obtain ⟨n1, n2⟩ := ptsB_yes hp
    rw [hp] at hpp
    replace hpp := Lib.hid hpp
    by_cases hlen : ((xs.length : Nat) : Int) = n + 1
    · have hne : (((xs.length : Nat) : Int) != n + 1) = false := by simp [hlen]
      have hb : profB n xs = (cntsTo n xs xs.length && roomTo xs xs.length) := by unfold profB cntsB; rw [hp, decide_eq_true hlen]; rfl
      rw [hb]
      replace hp := Lib.hid hp
      replace hb := Lib.hid hb
      have hlen' := Lib.hid hlen
      clear hlen
      go_enter Tryz.func8, Tryz.ntmps8
      go_wp2_with (go_at_call 24; refine (hpp.out _).mono ?_; rintro e w' ⟨rfl, rfl⟩)
      go_loopw [5] (fun i wr => ∃ k : Nat, k ≤ xs.length ∧ i = .int .i64 k ∧ Hid (cntsTo n xs k = true) ∧ Hid (roomTo xs k = true) ∧ Hid (Below w.heap.size w wr)) (fun i _ => xs.length - (intOf i).toNat)
      case atStart => exact ⟨0, Nat.zero_le _, rfl, Lib.hid rfl, Lib.hid rfl, Lib.hid (Below.refl _ _)⟩
      case round =>
        obtain ⟨k, hk, rfl, hall, hroom, hbel⟩ := hrel
        by_cases hlt : k < xs.length
        · obtain ⟨b1, o1, rfl, t1, c1⟩ := ha.out (by omega)
          have hb1w : b1 < w.heap.size := by omega
          have k1 : (0 : Int) ≤ (k : Int) := by omega
          have k2 : (k : Int) < (xs.length : Nat) := by omega
          have k3 : (k : Int) ≤ n := by have := hlen'.out; omega
          have k8 : (k : Int) ≤ 8 := by omega
          have e1 : wr.cell? ⟨b1, o1 + k, none⟩ = some (.int .i64 (xs.getD k 0)) := (hbel.out.cell (p := ⟨b1, o1 + k, none⟩) hb1w).trans (c1 k hlt)
          obtain ⟨x, hx⟩ : ∃ x, xs.getD k 0 = x := ⟨_, rfl⟩
          rw [hx] at e1
          obtain ⟨C, hC⟩ : ∃ C, chI n (k : Nat) = C := ⟨_, rfl⟩
          have hcq := chq hC (by omega) (by omega) k1 (by omega)
          have hcs := cntsTo_s n xs k
          have hcI : cntB n (k : Nat) x = inB x 0 C := by unfold cntB inB; rw [hC]
          rw [hall.out, hx, Bool.true_and] at hcs
          replace hcq := Lib.hid hcq
          rcases (by cases inB x 0 C <;> simp : inB x 0 C = true ∨ inB x 0 C = false) with h | h
          · have hlq := Lib.hid (l6q h)
            rw [h] at hcI
            rw [hcI] at hcs
            by_cases hk0 : k = 0
            · subst hk0
              have hrs := roomTo_s xs 0
              rw [hroom.out] at hrs
              replace hrs := Lib.hid hrs
              replace hcs := Lib.hid hcs
              replace hcI := Lib.hid hcI
              replace h := Lib.hid h
              replace hC := Lib.hid hC
              replace hx := Lib.hid hx
              have e1z : wr.cell? ⟨b1, o1, none⟩ = some (.int .i64 x) := by simpa using e1
              clear c1
              go_wp2_with fail
              go_quiet ((first | (go_at_call 26; exact Calls.quiet_of_same (hcq.out _)) | (go_at_call 25; exact Calls.quiet_of_same (hlq.out _))))
              go_wp2_with fail
              go_quiet (fail)
              go_wp2_with fail
              go_roundw
              case rel => exact ⟨1, by omega, by go_num, hcs, hrs, Lib.hid ⟨hbel.out.os, hbel.out.tape, hbel.out.output, hbel.out.size, hbel.out.block⟩⟩
              case measure => simp [intOf]; omega
            · have hk1 : 1 ≤ k := by omega
              have hok := cnt_lea n2 (by omega) k3 hcI
              have hll := l3least x (k : Nat) hok
              obtain ⟨y, hy⟩ : ∃ y, xs.getD (k - 1) 0 = y := ⟨_, rfl⟩
              have hB : roomB xs k = decide (leaV x (k : Nat) ≤ y) := by unfold roomB; rw [hx, hy]
              have hrs := roomTo_s xs k
              rw [hroom.out, hB] at hrs
              have hno := fun (h : roomB xs k = false) => roomTo_no hlt hk1 h
              rw [hB] at hno
              obtain ⟨L, hL⟩ : ∃ L, leaV x (k : Nat) = L := ⟨_, rfl⟩
              rw [hL] at hll hrs hno
              obtain ⟨J, hJ⟩ : ∃ J, k = J + 1 := ⟨k - 1, by omega⟩
              have k4 : (0 : Int) ≤ (J : Int) := by omega
              have k5 : (J : Int) < (xs.length : Nat) := by omega
              have hk0n : 0 < k := by omega
              have hwk : IntKind.i64.wrap ((k : Int) - 1) = (J : Int) := by rw [IntKind.wrap_i64]; omega
              have hkdn : decide (0 < k) = true := decide_eq_true hk0n
              have e2 : ∀ w2, Below w.heap.size w w2 → w2.cell? ⟨b1, o1 + J, none⟩ = some (.int .i64 y) ∧ w2.cell? ⟨b1, o1 + k, none⟩ = some (.int .i64 x) := fun w2 hb2 => by
                rw [← hy, ← hx, show k - 1 = J by omega]
                exact ⟨(hb2.cell (p := ⟨b1, o1 + J, none⟩) hb1w).trans (c1 J (by omega)), (hb2.cell (p := ⟨b1, o1 + k, none⟩) hb1w).trans (c1 k hlt)⟩
              replace hJ := Lib.hid hJ
              replace e2 := Lib.hid e2
              replace hrs := Lib.hid hrs
              replace hno := Lib.hid hno
              replace hll := Lib.hid hll
              replace hL := Lib.hid hL
              replace hB := Lib.hid hB
              replace hy := Lib.hid hy
              replace hok := Lib.hid hok
              replace hcs := Lib.hid hcs
              replace hcI := Lib.hid hcI
              replace h := Lib.hid h
              replace hC := Lib.hid hC
              replace hx := Lib.hid hx
              clear c1
              go_wp2_with fail
              go_quiet ((first | (go_at_call 26; exact Calls.quiet_of_same (hcq.out _)) | (go_at_call 25; exact Calls.quiet_of_same (hlq.out _))))
              have e1y := (e2.out wr hbel.out).1
              have hsz := hbel.out.size
              go_wp2_with fail
              refine wp_region_quiet (C := fun W => Below w.heap.size w W) (by kernel_rfl) (by kernel_rfl) (by exact ⟨hbel.out.os, hbel.out.tape, hbel.out.output, hbel.out.size, hbel.out.block⟩) ?_
              repeat (
                refine wpQuiet_step (fun K hK => ?_)
                go_simp
                first
                  | (refine ⟨_, fun _ _ => rfl, hK _ ?_⟩; clear hK K)
                  | (refine ⟨.int .i64 x, fun W hW => ?_, hK _ ?_⟩
                     · rw [(e2.out W hW).2]; exact ⟨rfl, rfl⟩
                     clear hK K)
                  | (refine ⟨.int .i64 y, fun W hW => ?_, hK _ ?_⟩
                     · rw [(e2.out W hW).1]; exact ⟨rfl, rfl⟩
                     clear hK K)
                  | (refine ⟨.int .i64 L, fun W hW => ?_, hK _ ?_⟩
                     · exact (hll.out W).mono fun _ _ h => ⟨h.1, hW.trans (h.2.mono hW.size)⟩
                     clear hK K))
              refine wpQuiet_nil ?_
              intro wz hbz
              replace hbz := Lib.hid hbz
              by_cases hle : L ≤ y
              · have hd : decide (y < L) = false := decide_eq_false (by omega)
                have hn := Lib.hid (show roomTo xs (k + 1) = true by rw [hrs.out, decide_eq_true hle]; simp)
                go_wp2_with fail
                go_roundw
                case rel => exact ⟨k + 1, by omega, by go_num, hcs, hn, hbz⟩
                case measure => simp [intOf]; omega
              · have hd : decide (y < L) = true := decide_eq_true (by omega)
                have hf := Lib.hid (show false = (cntsTo n xs xs.length && roomTo xs xs.length) by rw [hno.out (decide_eq_false hle), Bool.and_false])
                go_wp2_with fail
                go_ret
                exact ⟨ret_bool hf.out, hbz.out⟩
          · have hlq := Lib.hid (l6q h)
            rw [h] at hcI
            have hf := Lib.hid (show false = (cntsTo n xs xs.length && roomTo xs xs.length) by rw [cntsTo_no hlt (by rw [hx]; exact hcI), Bool.false_and])
            replace hcs := Lib.hid hcs
            replace hcI := Lib.hid hcI
            replace h := Lib.hid h
            replace hC := Lib.hid hC
            replace hx := Lib.hid hx
            clear c1
            go_wp2_with fail
            go_quiet ((first | (go_at_call 26; exact Calls.quiet_of_same (hcq.out _)) | (go_at_call 25; exact Calls.quiet_of_same (hlq.out _))))
            go_wp2_with fail
            go_ret
            exact ⟨ret_bool hf.out, ⟨hbel.out.os, hbel.out.tape, hbel.out.output, hbel.out.size, hbel.out.block⟩⟩
        · have hkl : k = xs.length := by omega
          have hf := Lib.hid (show true = (cntsTo n xs xs.length && roomTo xs xs.length) by rw [← hkl, hall.out, hroom.out]; rfl)
          have hnk : ¬ (k : Int) ≤ n := by have := hlen'.out; omega
          go_wp2_with fail
          go_ret
          exact ⟨ret_bool hf.out, hbel.out⟩
    · have hne : (((xs.length : Nat) : Int) != n + 1) = true := by simp [hlen]
      have hf := Lib.hid (show false = profB n xs by unfold profB cntsB; rw [decide_eq_false hlen]; simp)
      replace hp := Lib.hid hp
      clear hlen
      go_enter Tryz.func8, Tryz.ntmps8
      go_wp2_with (go_at_call 24; refine (hpp.out _).mono ?_; rintro e w' ⟨rfl, rfl⟩)
      go_ret
      exact ⟨ret_bool hf.out, Below.refl _ _⟩
  · have hf := Lib.hid (show false = profB n xs by unfold profB cntsB; rw [hp]; rfl)
    rw [hp] at hpp
    replace hpp := Lib.hid hpp
    replace hp := Lib.hid hp
    go_enter Tryz.func8, Tryz.ntmps8
    go_wp2_with (go_at_call 24; refine (hpp.out _).mono ?_; rintro e w' ⟨rfl, rfl⟩)
    go_ret
    exact ⟨ret_bool hf.out, Below.refl _ _⟩
end
end Go.Proofs.YtpjapoaagbdlfaaGreatDoor
