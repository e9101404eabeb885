/- First sets of all sizes: ShadowDown, the program. -/
import Derived.Test.YtcejbebepjkpnaaProf
import Derived.Deep.RegionWith
namespace Go.Proofs.Ytcejbebepjkpnaa
open Go.ChangeShapes Go.WideShapes Go.ChangeAt Go.RowKit Go.Proofs

theorem sort_cat (A B : List Int) : sortL (sortL A ++ B) = sortL (A ++ B) := asc_ext (asc_sortL _) (asc_sortL _) fun z => by
  rw [mem_sortL, mem_sortL, List.mem_append, List.mem_append, mem_sortL]
/-- the first sets of the sizes below k, one after another. -/
def catL (n : Int) (xs : List Int) : Nat → List Int
  | 0 => []
  | k + 1 => catL n xs k ++ fstL n (k : Nat) (xs.getD k 0)
def dnL (n : Int) (xs : List Int) (k : Nat) : List Int := sortL (catL n xs k)
theorem dnL_s (n : Int) (xs : List Int) (k : Nat) : dnL n xs (k + 1) = sortL (dnL n xs k ++ fstL n (k : Nat) (xs.getD k 0)) := (sort_cat _ _).symm
theorem cat_mem {n : Int} (n1 : 1 ≤ n) (n2 : n ≤ 8) (xs : List Int) : ∀ (k : Nat) (z : Int), z ∈ catL n xs k → setB n z = true := by
  intro k
  induction k with
  | zero => intro z hz; simp [catL] at hz
  | succ k ih =>
    intro z hz
    rcases List.mem_append.1 hz with h | h
    · exact ih z h
    · exact fstL_mem n1 n2 h
theorem cat_len {n : Int} (n1 : 1 ≤ n) (n2 : n ≤ 8) (xs : List Int) : ∀ k : Nat, (catL n xs k).length ≤ 256 * k := by
  intro k
  induction k with
  | zero => simp [catL]
  | succ k ih =>
    have : (fstL n (k : Nat) (xs.getD k 0)).length ≤ 256 := asc_len256 (fstL_asc _ _ _) (fun z hz => setB_lt (fstL_mem n1 n2 hz))
    show (catL n xs k ++ _).length ≤ _
    rw [List.length_append]; omega
theorem dnL_mem {n : Int} (n1 : 1 ≤ n) (n2 : n ≤ 8) {xs : List Int} {k : Nat} {z : Int} (h : z ∈ dnL n xs k) : setB n z = true := cat_mem n1 n2 xs k z (mem_sortL.1 h)
theorem dnL_lt {n : Int} (n1 : 1 ≤ n) (n2 : n ≤ 8) (xs : List Int) (k : Nat) : ∀ z ∈ dnL n xs k, 0 ≤ z ∧ z < 256 := fun _ hz => setB_lt (dnL_mem n1 n2 hz)
theorem dnL_len {n : Int} (n1 : 1 ≤ n) (n2 : n ≤ 8) (xs : List Int) (k : Nat) : (dnL n xs k).length ≤ 256 := asc_len256 (asc_sortL _) (dnL_lt n1 n2 xs k)
theorem fbox_heap {w : World} {B bx : Nat} {xs : List Int} (h : FBox w B bx xs) : ∃ a c, w.heap[bx]? = some (.cells #[.slice a xs.length c, (Value.func (.func 74) #[] #[])] 51 (0, 0)) ∧ SetL w B (.slice a xs.length c) xs ∧ B ≤ bx := by
  obtain ⟨hB, v, hv, hS⟩ := h
  obtain ⟨a, c, rfl⟩ := hS.form
  exact ⟨a, c, hv, hS, hB⟩
theorem fbox_cells {w : World} {bx : Nat} {u : Value} (h : w.heap[bx]? = some (.cells #[u, (Value.func (.func 74) #[] #[])] 51 (0, 0))) : w.cell? ⟨bx, 0, none⟩ = some u ∧ w.cell? ⟨bx, 1, none⟩ = some (Value.func (.func 74) #[] #[]) ∧ w.frozen? ⟨bx, 0, none⟩ = false ∧ w.frozen? ⟨bx, 1, none⟩ = false :=
  ⟨by rw [cell_of_row w bx 0 _ 51 (0, 0) h]; rfl, by rw [cell_of_row w bx 1 _ 51 (0, 0) h]; rfl, frozen_of h _, frozen_of h _⟩
theorem fbox_store {w : World} {B bx : Nat} {u v : Value} {ys : List Int} (hB : B ≤ bx) (h : w.heap[bx]? = some (.cells #[u, (Value.func (.func 74) #[] #[])] 51 (0, 0))) (hS : SetL w B v ys) (hne : v.ownBlock ≠ some bx) :
    FBox ((w.setCell ⟨bx, 0, none⟩ v).setCell ⟨bx, 1, none⟩ (Value.func (.func 74) #[] #[])) B bx ys := by
  have h1 := heap_setCell_same w bx 0 _ 51 v h
  have h2 := heap_setCell_same (w.setCell ⟨bx, 0, none⟩ v) bx 1 _ 51 (Value.func (.func 74) #[] #[]) h1
  exact ⟨hB, v, by rw [h2]; rfl, (hS.store _ _ hne).store _ _ hne⟩

theorem fbox_cast {w : World} {B bx : Nat} {ys zs : List Int} (e : ys = zs) (h : FBox w B bx ys) : FBox w B bx zs := e ▸ h
set_option maxHeartbeats 4000000 in
theorem im_ShadowDown (n : Int) (lv : Value) (xs : List Int) (S : Nat) (w : World) (hx : Row w S lv xs) (hS : S ≤ w.heap.size) (hl : xs.length ≤ 100000000) :
    Calls Try.prog 29 #[.int .i64 n, lv] w (ListPost (ifL (cntsB n xs) (dnL n xs xs.length)) (cntsB n xs) w) := by
  have hc := cnts_in n lv xs S w hx (by omega)
  obtain ⟨a, cap, rfl, ha⟩ := hx
  replace ha := Lib.hid ha
  rcases (by cases cntsB n xs <;> simp : cntsB n xs = true ∨ cntsB n xs = false) with hb | hb
  · obtain ⟨n1, n2, hlen, hall⟩ := cntsB_yes hb
    rw [hb] at hc ⊢
    show Calls Try.prog 29 #[.int .i64 n, .slice a xs.length cap] w (ListPost (dnL n xs xs.length) true w)
    replace hc := Lib.hid hc
    replace hb := Lib.hid hb
    replace hall := Lib.hid hall
    have hlen' := Lib.hid hlen
    have hfn := Lib.hid (family_nil w)
    clear hlen
    go_enter Try.func29, Try.ntmps29
    go_wp2_with fail
    refine hc.out.mono ?_
    rintro e w' ⟨rfl, rfl⟩
    go_wp2_with fail
    refine hfn.out.mono ?_
    rintro e w1 ⟨v1, rfl, hS1, hb1⟩
    obtain ⟨a1, c1, rfl⟩ := hS1.form
    have hz1 := hb1.size
    have hF1 := Lib.hid (show FBox (w1.alloc (.cells #[.slice a1 0 c1, (Value.func (.func 74) #[] #[])] 51)) w.heap.size w1.heap.size (dnL n xs 0) from ⟨hz1, _, heap_alloc_new w1 _, hS1.alloc _⟩)
    have hbl1 := Lib.hid (hb1.alloc hz1 (.cells #[.slice a1 0 c1, (Value.func (.func 74) #[] #[])] 51))
    clear hS1 hb1
    go_wp2_with fail
    go_loopw [17] (fun i wr => ∃ k : Nat, k ≤ xs.length ∧ i = .int .i64 k ∧ Hid (FBox wr w.heap.size w1.heap.size (dnL n xs k)) ∧ Hid (Below w.heap.size w wr)) (fun i _ => xs.length - (intOf i).toNat)
    case atStart => exact ⟨0, Nat.zero_le _, rfl, hF1, hbl1⟩
    case round =>
      obtain ⟨k, hk, rfl, hF, hbel⟩ := hrel
      have hFlt := hF.out.lt
      have hsz := hbel.out.size
      by_cases hlt : k < xs.length
      · obtain ⟨b1, o1, rfl, t1, cc1⟩ := ha.out (by omega)
        have k1 : (0 : Int) ≤ (k : Int) := by omega
        have k2 : (k : Int) < (xs.length : Nat) := by omega
        have k3 : (k : Int) ≤ n := by have := hlen'.out; omega
        have e1 : wr.cell? ⟨b1, o1 + k, none⟩ = some (.int .i64 (xs.getD k 0)) := (hbel.out.cell (p := ⟨b1, o1 + k, none⟩) (show b1 < w.heap.size by omega)).trans (cc1 k hlt)
        have hcB := cntsTo_at hall.out hlt
        have hds := dnL_s n xs k
        have hdl := dnL_len n1 n2 xs k
        have hdz := dnL_lt n1 n2 xs k
        have hdA : Asc (dnL n xs k) := asc_sortL _
        have hfz : ∀ z ∈ fstL n (k : Nat) (xs.getD k 0), 0 ≤ z ∧ z < 256 := fun z hz => setB_lt (fstL_mem n1 n2 hz)
        have hfA : Asc (fstL n (k : Nat) (xs.getD k 0)) := fstL_asc _ _ _
        have hLn := levL_len n1 n2 k1 k3
        have hLz := levL_len256 (k := (k : Nat)) n1 n2
        have hlev := lev_at n (k : Nat) n1 n2
        obtain ⟨m, hm⟩ : ∃ m : Nat, xs.getD k 0 = (m : Nat) := ⟨(xs.getD k 0).toNat, by have := (cntB_yes hcB).1; omega⟩
        rw [hm] at e1 hcB hds hfz hfA
        have hmle := (cntB_yes hcB).2
        have hfirst := fun (W : World) (lv : Value) (hx : SRow W W.heap.size lv (levL n (k : Nat))) => first_any lv (levL n (k : Nat)) m _ W hx (Nat.le_refl _) (by omega) (by omega)
        have hfl : fstL n (k : Nat) (m : Nat) = (levL n (k : Nat)).take m := rfl
        rw [← hfl] at hfirst
        obtain ⟨zs, hzs⟩ : ∃ zs, fstL n (k : Nat) (m : Nat) = zs := ⟨_, rfl⟩
        obtain ⟨ys, hys⟩ : ∃ ys, dnL n xs k = ys := ⟨_, rfl⟩
        obtain ⟨ls, hls⟩ : ∃ ls, levL n (k : Nat) = ls := ⟨_, rfl⟩
        rw [hys] at hF hdl hdz hdA
        rw [hls] at hlev hfirst
        rw [hzs] at hfirst hfz hfA
        rw [hys, hzs] at hds
        have hT : TwoFam ys zs := ⟨hdA, hfA, hdz, hfz⟩
        have hun : ∀ (W : World) (lv lu : Value), SRow W W.heap.size lv ys → SRow W W.heap.size lu zs → Calls Try.prog 55 #[.agg #[lv, (Value.func (.func 74) #[] #[])], .agg #[lu, (Value.func (.func 74) #[] #[])]] W (FamPost W (sortL (ys ++ zs))) := fun W lv lu h1 h2 => union_fam ys zs W hT W lv lu (Below.refl _ _) h1 h2
        obtain ⟨us, hus⟩ : ∃ us, sortL (ys ++ zs) = us := ⟨_, rfl⟩
        rw [hus] at hun hds
        obtain ⟨ya, yc, hh0, hSy, hBb⟩ := fbox_heap hF.out
        obtain ⟨q0, q1, g0, g1⟩ := fbox_cells hh0
        have hsd : wr.drew.heap.size = wr.heap.size := rfl
        have hSr := hSy.row
        replace hh0 := Lib.hid hh0
        replace hSr := Lib.hid hSr
        replace hsd := Lib.hid hsd
        replace hds := Lib.hid hds
        replace hun := Lib.hid hun
        replace hus := Lib.hid hus
        replace hzs := Lib.hid hzs
        replace hys := Lib.hid hys
        replace hls := Lib.hid hls
        replace hfl := Lib.hid hfl
        replace hfirst := Lib.hid hfirst
        replace hlev := Lib.hid hlev
        replace hcB := Lib.hid hcB
        replace hm := Lib.hid hm
        replace hmle := Lib.hid hmle
        replace hLn := Lib.hid hLn
        replace hT := Lib.hid hT
        replace hfA := Lib.hid hfA
        replace hdA := Lib.hid hdA
        replace hfz := Lib.hid hfz
        replace hdz := Lib.hid hdz
        clear cc1 hSy
        go_wp2_with fail
        go_region_with (first
          | (go_at_call 43; ((with_reducible refine (hlev.out _).mono ?_)); rintro e w2 ⟨v2, rfl, hS2, hb2⟩; obtain ⟨a2, c2, rfl⟩ := hS2.form; rw [hsd.out] at hS2 hb2; have hz2 := hb2.size; rw [hsd.out] at hz2; have hh2 := (hb2.block w1.heap.size hFlt).trans hh0.out; obtain ⟨q02, q12, _, _⟩ := fbox_cells hh2; have hr2 := Lib.hid hS2.row; replace hh2 := Lib.hid hh2; replace hS2 := Lib.hid hS2; replace hb2 := Lib.hid ((Below.refl wr.heap.size wr).drew.trans hb2))
          | (go_at_call 45; ((with_reducible refine (hfirst.out _ _ hr2.out).mono ?_)); rintro e w3 ⟨v3, rfl, hR3, hb3⟩; obtain ⟨a3, c3, rfl, _⟩ := id hR3; have hz3 := hb3.size; have hh3 := (hb3.block w1.heap.size (Nat.lt_of_lt_of_le hFlt hz2)).trans hh2.out; obtain ⟨q03, q13, _, _⟩ := fbox_cells hh3; have hb3' := hb2.out.trans (hb3.mono hz2); have hy3 := Lib.hid ((hSr.out.below hb3' (Nat.le_refl _)).mono (Nat.le_trans hz2 hz3)); replace hh3 := Lib.hid hh3; replace hR3 := Lib.hid hR3; replace hb3 := Lib.hid hb3')
          | (go_at_call 55; ((with_reducible refine (hun.out _ _ _ hy3.out hR3.out).mono ?_)); rintro e w4 ⟨v4, rfl, hS4, hb4⟩; obtain ⟨a4, c4, rfl⟩ := hS4.form; have hz4 := hb4.size; have hh4 := (hb4.block w1.heap.size (Nat.lt_of_lt_of_le hFlt (Nat.le_trans hz2 hz3))).trans hh3.out; obtain ⟨q04, q14, g04, g14⟩ := fbox_cells hh4; have hb4' := hb3.out.trans (hb4.mono (Nat.le_trans hz2 hz3)); replace hh4 := Lib.hid hh4; replace hS4 := Lib.hid hS4; replace hb4 := Lib.hid (hbel.out.trans (hb4'.mono hsz))))
        all_goals
          have hFn := Lib.hid (fbox_store hBb hh4.out (hS4.out.mono (show w.heap.size ≤ w3.heap.size by omega)) (by intro e; have := hS4.out.lt _ e; omega))
          have hbn := Lib.hid (below_setCell (below_setCell hb4.out (p := ⟨w1.heap.size, 0, none⟩) (show w.heap.size ≤ w1.heap.size from hz1) (.slice a4 us.length c4)) (p := ⟨w1.heap.size, 1, none⟩) (show w.heap.size ≤ w1.heap.size from hz1) (Value.func (.func 74) #[] #[]))
          replace hFn := Lib.hid (fbox_cast hds.out.symm hFn.out)
          go_wp2_with fail
          go_roundw
          case rel => exact ⟨k + 1, by omega, by go_num, hFn, hbn⟩
          case measure => simp [intOf]; omega
      · have hkl : k = xs.length := by omega
        have hdl := dnL_len n1 n2 xs k
        have hdz := Lib.hid (dnL_lt n1 n2 xs k)
        have hL := Lib.hid (show dnL n xs k = dnL n xs xs.length by rw [hkl])
        obtain ⟨ys, hys⟩ : ∃ ys, dnL n xs k = ys := ⟨_, rfl⟩
        rw [hys] at hF hdl hdz hL
        replace hys := Lib.hid hys
        obtain ⟨ya, yc, hh0, hSy, hBb⟩ := fbox_heap hF.out
        obtain ⟨q0, q1, g0, g1⟩ := fbox_cells hh0
        have hnum := Lib.hid (numbers_at _ _ _ _ hSy.row (Nat.le_refl _) (by omega) hdz.out)
        clear hSy
        go_wp2_with fail
        refine hnum.out.mono ?_
        rintro e w5 ⟨t, rfl, hO, hb5⟩
        obtain ⟨ua, uc, rfl, _⟩ := id hO
        replace hb5 := Lib.hid (hbel.out.trans (hb5.mono (by omega)))
        replace hO := Lib.hid (hO.mono (show w.heap.size ≤ wr.heap.size by omega) (Nat.le_refl _))
        go_wp2_with fail
        go_ret2
        exact ⟨_, rfl, hL.out ▸ hO.out, hb5.out⟩
  · have hf := Lib.hid hb
    rw [hb] at hc ⊢
    replace hc := Lib.hid hc
    go_enter Try.func29, Try.ntmps29
    go_wp2_with fail
    refine hc.out.mono ?_
    rintro e w' ⟨rfl, rfl⟩
    go_wp2_with fail
    go_ret2
    exact ⟨_, rfl, own_empty _ _ _ _ _, (Below.refl _ _).alloc (Nat.le_refl _) _⟩
end Go.Proofs.Ytcejbebepjkpnaa
