/- Texts merged: XSpec1 XSpec2 XSpec3 XSpec4 XSpec5 XSpec6 XSpec7. -/
import Derived.Test.YtojfamjgghikoaaGreatDoorFams4
import Derived.Test.YtojfamjgghikoaaGreatDoorLawsB
import Derived.Test.YtojfamjgghikoaaGreatDoorBits
import Derived.Test.YtojfamjgghikoaaGreatDoorFams10
import Derived.Test.YtojfamjgghikoaaGreatDoorFams12
import Derived.Deep.RegionLaw
import Derived.IntWalk
import Derived.Test.YtojfamjgghikoaaGreatDoorFams13
namespace Go.Proofs.YtojfamjgghikoaaGreatDoor
section
/- The model's functions on families: which lists are families; marks; lists of marks. -/
open Go.ChangeShapes Go.WideShapes Go.ChangeAt Go.RowKit Go.Proofs

theorem asc_step {xs : List Int} {k : Nat} {x : Int} (hk : k < xs.length) (hx : xs.getD k 0 = x) (hA : Asc (xs.take k)) (h : k = 0 ∨ xs.getD (k - 1) 0 < x) : Asc (xs.take (k + 1)) := by
  rw [take_snoc hk, hx]
  refine asc_snoc hA fun a ha => ?_
  rcases h with rfl | h
  · simp at ha
  · obtain ⟨i, hi, rfl⟩ := List.getElem_of_mem ha
    have hi' : i < k := by rw [List.length_take] at hi; omega
    have e : (xs.take k)[i] = xs.getD i 0 := by rw [List.getElem_take, List.getD_eq_getElem?_getD, List.getElem?_eq_getElem (by omega)]; rfl
    rw [e]
    by_cases e2 : i = k - 1
    · subst e2; exact h
    · have h3 := asc_get hA (i := i) (j := k - 1) (by omega) (by rw [List.length_take]; omega)
      have e3 : ∀ j, j < k → (xs.take k).getD j 0 = xs.getD j 0 := fun j hj => by rw [List.getD_eq_getElem?_getD, List.getElem?_take, if_pos hj, List.getD_eq_getElem?_getD]
      rw [e3 i hi', e3 (k - 1) (by omega)] at h3
      omega
theorem le_prev {a b : Int} (h : ¬ a < b) : decide (b ≤ a) = true := decide_eq_true (by omega)
theorem lt_prev {a b : Int} (h : a < b) : decide (b ≤ a) = false := decide_eq_false (by omega)
theorem sp_set_q {n x : Int} {b : Bool} (h : setB n x = b) (W : World) (m : Nat) : Calls Tryz.prog 46 #[.int .i64 n, .int .i64 x] (W.drewN m) fun e w' => e = .returned (.bool b) ∧ ∃ q, w' = W.drewN q := by
  cases b with
  | true => exact (sp_set_in_yes n x h _).mono fun _ _ ⟨a, b⟩ => ⟨a, m, b.symm⟩
  | false => exact (sp_set_in_no n x h _).mono fun _ _ ⟨a, b⟩ => ⟨a, m, b.symm⟩
set_option maxHeartbeats 2000000 in
theorem sp_FamilyIn (n : Int) (lv : Value) (xs : List Int) (S : Nat) (w : World) (hx : Row w S lv xs) (hl : xs.length ≤ 1073741824) :
    Calls Tryz.prog 167 #[.int .i64 n, lv] w fun e w' => e = .returned (.bool (famB n xs)) ∧ ∃ q, w' = w.drewN q := by
  obtain ⟨a, cap, rfl, ha⟩ := hx
  replace ha := Lib.hid ha
  go_enter Tryz.func167, Tryz.ntmps167
  go_wp2_with fail
  go_loopw [5] (fun q wr => ∃ k : Nat, k ≤ xs.length ∧ q = .int .i64 k ∧ Hid (∃ m, wr = w.drewN m) ∧ Hid (allB n (xs.take k) = true) ∧ Hid (Asc (xs.take k))) (fun q _ => xs.length - (intOf q).toNat)
  case atStart => exact ⟨0, by omega, rfl, Lib.hid ⟨0, rfl⟩, Lib.hid rfl, Lib.hid (by unfold Asc; exact List.Pairwise.nil)⟩
  case round =>
    obtain ⟨k, hk, rfl, hw, hall, hA⟩ := hrel
    have hwd : ∀ p, Hid (∃ m, wr.drewN p = w.drewN m) := fun p => by
      obtain ⟨m, h⟩ := hw.out
      exact Lib.hid ⟨m + p, by rw [h]; exact World.drewN_drewN _ _ _⟩
    by_cases hlt : k < xs.length
    · obtain ⟨b1, o1, rfl, s1, c1⟩ := ha.out (by omega)
      have k1 : (0 : Int) ≤ (k : Int) := by omega
      have k2 : (k : Int) < (xs.length : Nat) := by omega
      have c2 : ∀ i, i < xs.length → wr.cell? ⟨b1, o1 + i, none⟩ = some (.int .i64 (xs.getD i 0)) := fun i hi => by
        obtain ⟨m, h⟩ := hw.out
        rw [h]; exact c1 i hi
      have e1 := c2 k hlt
      obtain ⟨x, hx⟩ : ∃ x, xs.getD k 0 = x := ⟨_, rfl⟩
      rw [hx] at e1
      rcases set_in_cases n x with hs | hs
      · have hsi := Lib.hid (fun W => sp_set_q hs W)
        have hall' := Lib.hid (allB_step hlt hx hall.out hs)
        by_cases h0 : k = 0
        · subst h0
          have hA' := Lib.hid (asc_step hlt hx hA.out (.inl rfl))
          rw [Nat.add_zero] at e1
          clear hall hA c1 c2 hx hs hw
          go_wp2_with fail
          go_quiet ((go_at_call 46; exact hsi.out _ _))
          go_wp2_with fail
          go_roundw
          case rel => exact ⟨1, by omega, by simp, hwd _, hall', hA'⟩
          case measure => simp [intOf]; omega
        · have k3 : (0 : Int) < (k : Int) := by omega
          have e2 := c2 (k - 1) (by omega)
          obtain ⟨y, hy⟩ : ∃ y, xs.getD (k - 1) 0 = y := ⟨_, rfl⟩
          rw [hy] at e2
          obtain ⟨j, rfl⟩ : ∃ j : Nat, k = j + 1 := ⟨k - 1, by omega⟩
          rw [Nat.add_sub_cancel] at e2 hy
          have j1 : (0 : Int) ≤ (j : Int) := by omega
          have j2 : (j : Int) < (xs.length : Nat) := by omega
          by_cases hyx : y < x
          · have hA' := Lib.hid (asc_step hlt hx hA.out (.inr (by rw [Nat.add_sub_cancel, hy]; exact hyx)))
            have hd := lt_prev hyx
            clear hall hA c1 c2 hx hs hw hy
            go_wp2_with fail
            go_quiet ((go_at_call 46; exact hsi.out _ _))
            go_wp2_with fail
            go_roundw
            case rel => exact ⟨j + 1 + 1, by omega, by go_num, hwd _, hall', hA'⟩
            case measure => simp [intOf]; omega
          · have hno := Lib.hid (show famB n xs = false from famB_mk0 (fun h => by
              have := asc_get h.2.2 (i := j) (j := j + 1) (by omega) hlt
              rw [hy, hx] at this
              exact hyx this))
            have hd := le_prev hyx
            clear hall hA c1 c2 hx hs hw hy
            go_wp2_with fail
            go_quiet ((go_at_call 46; exact hsi.out _ _))
            go_wp2_with fail
            go_ret
            exact ⟨ret_bool hno.out.symm, (hwd _).out⟩
      · have hno := Lib.hid (show famB n xs = false from famB_no (by unfold colB; rw [allB_fail hlt hx hs, Bool.and_false]))
        have hsi := Lib.hid (fun W => sp_set_q hs W)
        clear hall hA c1 c2 hx hs hw
        go_wp2_with fail
        go_quiet ((go_at_call 46; exact hsi.out _ _))
        go_wp2_with fail
        go_ret
        exact ⟨ret_bool hno.out.symm, (hwd _).out⟩
    · obtain rfl : k = xs.length := by omega
      have hpp := Lib.hid (l1pts n)
      have hf := Lib.hid (show ptsB n = famB n xs by
        have h1 := hall.out
        have h2 := hA.out
        rw [List.take_length] at h1 h2
        unfold famB colB
        rw [h1, sortL_asc h2]; simp)
      clear hall hA
      go_wp2_with (go_at_call 39; refine (hpp.out _).mono ?_; rintro e w' ⟨rfl, rfl⟩)
      go_ret
      exact ⟨ret_bool hf.out, hw.out⟩

end
section
/- The model's marks and lists of marked sets. -/
open Go.ChangeShapes Go.WideShapes Go.ChangeAt Go.RowKit Go.Proofs

theorem Tryz.boolInfo : (Tryz.prog.info? 4).map (fun i => (i.zero, i.size, i.bytes)) = some (some (.bool false), 1, 1) := by kernel_rfl
/-- block b holds N marks. -/
def MarkRow (w : World) (b N : Nat) (p : Nat → Bool) : Prop := w.rowIs b 4 N (fun j => .bool (p j))
theorem MarkRow.below {w w' : World} {b N B : Nat} {p : Nat → Bool} (h : MarkRow w b N p) (hb : Below B w w') (hB : b < B) : MarkRow w' b N p := World.rowIs.of_block h (hb.block b hB)
theorem MarkRow.drewN {w : World} {b N : Nat} {p : Nat → Bool} (h : MarkRow w b N p) (q : Nat) : MarkRow (w.drewN q) b N p := h
theorem MarkRow.put {w : World} {b N : Nat} {p p' : Nat → Bool} (h : MarkRow w b N p) (i : Nat) (hp : ∀ j, j < N → p' j = if j = i then true else p j) : MarkRow (w.setCell ⟨b, i, none⟩ (.bool true)) b N p' :=
  (World.rowIs.set h i (.bool true)).congr fun j hj => by
    rw [hp j hj]
    by_cases e : j = i
    · rw [if_pos e, if_pos e]
    · rw [if_neg e, if_neg e]
/-- what a function that makes marks leaves. -/
def MarksPost (N : Nat) (p : Nat → Bool) (w : World) (e : Ending) (w' : World) : Prop := ∃ b, e = .returned (.slice (some ⟨b, 0, none⟩) N N) ∧ w.heap.size ≤ b ∧ b < w'.heap.size ∧ MarkRow w' b N p ∧ Below w.heap.size w w'
theorem mem_take {xs : List Int} {k : Nat} {x : Int} (hk : k < xs.length) (hx : xs.getD k 0 = x) (z : Int) : memB z (xs.take (k + 1)) = if z = x then true else memB z (xs.take k) := by
  rw [take_snoc hk, hx]
  unfold memB
  by_cases e : z = x
  · rw [if_pos e]; exact decide_eq_true (by rw [e]; simp)
  · rw [if_neg e]; exact decide_eq_decide.2 (by simp [e])
theorem set_nat {n x : Int} (h : setB n x = true) : ∃ t : Nat, x = t ∧ t < 2 ^ n.toNat := by
  obtain ⟨_, _, c, d⟩ := setB_yes h
  refine ⟨x.toNat, by omega, ?_⟩
  have : ((2 ^ n.toNat : Nat) : Int) = 2 ^ n.toNat := by simp
  omega
theorem pow_nat {n : Int} (n1 : 1 ≤ n) (n2 : n ≤ 8) : (2 ^ n.toNat : Nat) ≤ 256 ∧ 2 ≤ (2 ^ n.toNat : Nat) ∧ wrap64 (2 ^ n.toNat) = ((2 ^ n.toNat : Nat) : Int) := by
  rcases n8 n1 n2 with rfl | rfl | rfl | rfl | rfl | rfl | rfl | rfl <;> decide +kernel
set_option maxHeartbeats 2000000 in
theorem marks_at (n : Int) (lv : Value) (xs : List Int) (S : Nat) (w : World) (hx : Row w S lv xs) (hS : S ≤ w.heap.size) (hl : xs.length ≤ 1073741824) (n1 : 1 ≤ n) (n2 : n ≤ 8) (hall : allB n xs = true) :
    Calls Tryz.prog 184 #[.int .i64 n, lv] w (MarksPost (2 ^ n.toNat) (fun j => memB (j : Nat) xs) w) := by
  obtain ⟨a, cap, rfl, ha⟩ := hx
  obtain ⟨p1, p2, p3⟩ := pow_nat n1 n2
  have hset := fun (x : Int) (h : setB n x = true) => set_nat h
  obtain ⟨N, hN⟩ : ∃ N : Nat, 2 ^ n.toNat = N := ⟨_, rfl⟩
  have hNi : (2 : Int) ^ n.toNat = (N : Nat) := by rw [← hN]; simp
  rw [hN] at p1 p2 p3 hset ⊢
  have hmk := fun W => run_make_row' (P := Tryz.prog) 150 4 (.bool false) 1 Tryz.underlying150 Tryz.boolInfo rfl .i64 .i64 N (by omega) (by omega) W
  replace ha := Lib.hid ha
  replace hall := Lib.hid hall
  replace hset := Lib.hid hset
  replace hN := Lib.hid hN
  replace hNi := Lib.hid hNi
  have hn0 : (0 : Int) ≤ n := by omega
  have hn64 : n < 64 := by omega
  go_enter Tryz.func184, Tryz.ntmps184
  go_wp2_with fail
  go_loopw [6] (fun q wr => ∃ k : Nat, k ≤ xs.length ∧ q = .int .i64 k ∧ Hid (Below w.heap.size w wr) ∧ Hid (MarkRow wr w.heap.size N (fun j => memB (j : Nat) (xs.take k)))) (fun q _ => xs.length - (intOf q).toNat)
  case atStart =>
    refine ⟨0, by omega, rfl, Lib.hid ((Below.refl _ _).alloc (Nat.le_refl _) _), Lib.hid ?_⟩
    exact (World.rowIs_made w (.bool false) N 4).congr (fun i _ => by simp [memB])
  case round =>
    obtain ⟨k, hk, rfl, hbel, hrow⟩ := hrel
    by_cases hlt : k < xs.length
    · obtain ⟨b1, o1, rfl, s1, c1⟩ := ha.out (by omega)
      have k1 : (0 : Int) ≤ (k : Int) := by omega
      have k2 : (k : Int) < (xs.length : Nat) := by omega
      have e1 : wr.cell? ⟨b1, o1 + k, none⟩ = some (.int .i64 (xs.getD k 0)) := (hbel.out.cell (p := ⟨b1, o1 + k, none⟩) (show b1 < w.heap.size by omega)).trans (c1 k hlt)
      obtain ⟨x, hx⟩ : ∃ x, xs.getD k 0 = x := ⟨_, rfl⟩
      obtain ⟨t, rfl, ht⟩ := hset.out x (by rw [← hx]; exact allB_yes hall.out _ (getD_mem hlt))
      rw [hx] at e1
      have t1 : (0 : Int) ≤ (t : Int) := by omega
      have t2 : (t : Int) < (N : Nat) := by omega
      have e2 := World.rowIs.cell hrow.out ht
      have e3 := World.rowIs.frozen hrow.out t
      have hrow' := Lib.hid (hrow.out.put (p' := fun j => memB (j : Nat) (xs.take (k + 1))) t (fun j hj => by
        rw [mem_take hlt hx]
        by_cases e : j = t
        · subst e; simp
        · rw [if_neg e, if_neg (by omega)]))
      have hbel' := Lib.hid (below_setCell hbel.out (p := ⟨w.heap.size, t, none⟩) (Nat.le_refl _) (.bool true))
      clear hx c1 hrow hbel
      go_wp2_with fail
      go_roundw
      case rel => exact ⟨k + 1, by omega, by go_num, hbel', hrow'⟩
      case measure => simp [intOf]; omega
    · obtain rfl : k = xs.length := by omega
      have hr := hrow.out
      rw [List.take_length] at hr
      have hlt3 := World.rowIs.lt hr
      replace hr := Lib.hid hr
      clear hrow
      go_wp2_with fail
      go_ret
      exact ⟨_, rfl, Nat.le_refl _, hlt3, hr.out, hbel.out⟩

theorem own_empty0 (w : World) (B S g c : Nat) : Own w B S (.slice (some ⟨g, 0, none⟩) 0 c) [] := ⟨_, c, rfl, fun h => by simp at h⟩
/-- what a function that returns a list of its own leaves. -/
def IntsPost (L : List Int) (w : World) (e : Ending) (w' : World) : Prop := ∃ v, e = .returned v ∧ OwnL w' w.heap.size v L ∧ Below w.heap.size w w'
theorem OwnL.form {w : World} {B : Nat} {v : Value} {xs : List Int} (h : OwnL w B v xs) : ∃ a c, v = .slice a xs.length c := by
  obtain ⟨a, c, e, _⟩ := h.own
  exact ⟨a, c, e⟩
/-- the marked numbers below m. -/
def mkL (p : Nat → Bool) (m : Nat) : List Int := (upI m).filter (fun z => p z.toNat)
theorem mkL_succ (p : Nat → Bool) (m : Nat) : mkL p (m + 1) = mkL p m ++ (if p m then [(m : Int)] else []) := by unfold mkL; rw [upI_succ, filter_snoc]; rfl
theorem mkL_len (p : Nat → Bool) (m : Nat) : (mkL p m).length ≤ m := by unfold mkL; have := List.length_filter_le (fun z : Int => p z.toNat) (upI m); rw [upI_len] at this; exact this
theorem mkL_asc (p : Nat → Bool) (m : Nat) : Asc (mkL p m) := asc_filter (asc_upI m) _
theorem mem_mkL {p : Nat → Bool} {m : Nat} {z : Int} : z ∈ mkL p m ↔ (0 ≤ z ∧ z < m) ∧ p z.toNat = true := by unfold mkL; rw [List.mem_filter, mem_upI]
set_option maxHeartbeats 2000000 in
theorem list_at (b N : Nat) (p : Nat → Bool) (w : World) (hm : MarkRow w b N p) (hN : N ≤ 256) :
    Calls Tryz.prog 183 #[.slice (some ⟨b, 0, none⟩) N N] w (IntsPost (mkL p N) w) := by
  have hblt := World.rowIs.lt hm
  replace hm := Lib.hid hm
  go_enter Tryz.func183, Tryz.ntmps183
  go_wp2_with fail
  go_loopw [3, 4] (fun v q wr => ∃ k : Nat, k ≤ N ∧ q = .int .i64 k ∧ Hid (OwnL wr w.heap.size v (mkL p k)) ∧ Hid (Below w.heap.size w wr)) (fun _ q _ => N - (intOf q).toNat)
  case atStart => exact ⟨0, by omega, rfl, Lib.hid (OwnL.lit w (Nat.le_refl _)), Lib.hid ((Below.refl _ _).alloc (Nat.le_refl _) _)⟩
  case round =>
    obtain ⟨k, hk, rfl, hown, hbel⟩ := hrel
    obtain ⟨a', c', rfl⟩ := hown.out.form
    have hsz := hbel.out.size
    by_cases hlt : k < N
    · have k1 : (0 : Int) ≤ (k : Int) := by omega
      have k2 : (k : Int) < (N : Nat) := by omega
      have e1 := World.rowIs.cell (hm.out.below hbel.out hblt) hlt
      have hs := mkL_succ p k
      have hlen := Lib.hid (mkL_len p k)
      rcases (by cases p k <;> simp : p k = true ∨ p k = false) with hp | hp
      · rw [hp] at e1 hs
        replace hs := Lib.hid (show mkL p k ++ [(k : Int)] = mkL p (k + 1) from hs.symm)
        replace hp := Lib.hid hp
        obtain ⟨ys, hys⟩ : ∃ ys, mkL p k = ys := ⟨_, rfl⟩
        rw [hys] at hown hlen hs ⊢
        replace hys := Lib.hid hys
        have hB1 : w.heap.size ≤ (wr.alloc (.cells #[.int .i64 (k : Int)] 3)).heap.size := by simp; omega
        have hl1 : ys.length ≤ 1073741824 := by have := hlen.out; omega
        go_wp2_with (at_builtin; refine app_int rfl _ _ rfl w.heap.size _ ys rfl (hown.out.alloc _) (k : Int) wr.heap.size rfl (cell_new _ _ _) hl1 hB1 ?_; intro v' w1 hown1 hb1)
        rw [hs.out] at hown1
        replace hown1 := Lib.hid hown1
        have hb2 := Lib.hid ((hbel.out.alloc hsz _).trans hb1)
        go_roundw
        case rel => exact ⟨k + 1, by omega, by go_num, hown1, hb2⟩
        case measure => simp [intOf]; omega
      · rw [hp] at e1 hs
        replace hs := Lib.hid (show mkL p k = mkL p (k + 1) by rw [hs]; simp)
        replace hp := Lib.hid hp
        have hown1 := hown.out
        rw [hs.out] at hown1
        have hlk : (mkL p k).length = (mkL p (k + 1)).length := by rw [hs.out]
        rw [hlk]
        replace hlk := Lib.hid hlk
        replace hown1 := Lib.hid hown1
        clear hown
        go_wp2_with fail
        go_roundw
        case rel => exact ⟨k + 1, by omega, by go_num, hown1, hbel⟩
        case measure => simp [intOf]; omega
    · obtain rfl : k = N := by omega
      go_wp2_with fail
      go_ret
      exact ⟨_, rfl, hown.out, hbel.out⟩

end
section
/- The model: families of lists, unions, common sets, what is left. -/
open Go.ChangeShapes Go.WideShapes Go.ChangeAt Go.RowKit Go.Proofs

theorem mkL_sort {n : Int} {xs : List Int} (hall : allB n xs = true) : mkL (fun j => memB (j : Nat) xs) (2 ^ n.toNat) = sortL xs := by
  refine asc_ext (mkL_asc _ _) (asc_sortL xs) fun z => ?_
  rw [mem_mkL, mem_sortL]
  constructor
  · rintro ⟨⟨h1, _⟩, h2⟩
    have := memB_yes h2
    rwa [Int.toNat_of_nonneg h1] at this
  · intro h
    obtain ⟨t, rfl, ht⟩ := set_nat (allB_yes hall z h)
    exact ⟨⟨by omega, by omega⟩, memB_mk (by simpa using h)⟩
theorem family_at (n : Int) (lv : Value) (xs : List Int) (S : Nat) (w : World) (hx : Row w S lv xs) (hS : S ≤ w.heap.size) (hl : xs.length ≤ 1073741824) (n1 : 1 ≤ n) (n2 : n ≤ 8) (hall : allB n xs = true) :
    Calls Tryz.prog 125 #[.int .i64 n, lv] w (IntsPost (sortL xs) w) := by
  have hm := Lib.hid (marks_at n lv xs S w hx hS hl n1 n2 hall)
  have hs := Lib.hid (mkL_sort hall)
  obtain ⟨p1, _, _⟩ := pow_nat n1 n2
  obtain ⟨N, hN⟩ : ∃ N : Nat, 2 ^ n.toNat = N := ⟨_, rfl⟩
  rw [hN] at hm hs p1
  obtain ⟨a, cap, rfl, _⟩ := id hx
  replace hN := Lib.hid hN
  replace hall := Lib.hid hall
  clear hx
  go_enter Tryz.func125, Tryz.ntmps125
  go_wp2_with fail
  refine hm.out.mono ?_
  rintro e w2 ⟨b, rfl, hb1, hb2, hM, hbel⟩
  have hl := Lib.hid (list_at b N _ w2 hM p1)
  replace hbel := Lib.hid hbel
  have hz := hbel.out.size
  clear hM hm
  go_wp2_with fail
  refine hl.out.mono ?_
  rintro e w3 ⟨v, rfl, hO, hb3⟩
  obtain ⟨a', c', rfl⟩ := hO.form
  rw [hs.out] at hO
  replace hO := Lib.hid hO
  replace hb3 := Lib.hid (hbel.out.trans (hb3.mono hz))
  rw [hs.out]
  go_wp2_with fail
  go_ret
  exact ⟨_, rfl, ⟨hO.out.1, by
    rcases hO.out.2 with hn | ⟨g, cap, cur, h, hB, rest⟩
    · exact .inl hn
    · exact .inr ⟨g, cap, cur, h, by omega, rest⟩⟩, hb3.out⟩
theorem OwnL.mono {w : World} {B B' : Nat} {v : Value} {xs : List Int} (h : OwnL w B v xs) (hB : B' ≤ B) : OwnL w B' v xs := by
  refine ⟨h.1, ?_⟩
  rcases h.2 with hn | ⟨g, cap, cur, rfl, hb, rest⟩
  · exact .inl hn
  · exact .inr ⟨g, cap, cur, rfl, by omega, rest⟩
end
section
/- The model: unions, common sets, what is left, common parts, joins, traces, links, levels, others. -/
open Go.ChangeShapes Go.WideShapes Go.ChangeAt Go.RowKit Go.Proofs

/-- the cells of a list of numbers. -/
def iv (xs : List Int) : List Value := xs.map (Value.int .i64)
theorem iv_get {xs : List Int} {j : Nat} {u : Value} (h : (iv xs)[j]? = some u) : j < xs.length ∧ u = .int .i64 (xs.getD j 0) := by
  unfold iv at h
  rw [List.getElem?_map] at h
  cases hx : xs[j]? with
  | none => rw [hx] at h; cases h
  | some x =>
    rw [hx] at h
    have hj := (List.getElem?_eq_some_iff.1 hx).1
    refine ⟨hj, ?_⟩
    rw [List.getD_eq_getElem?_getD, hx]
    simp at h
    exact h.symm
theorem iv_one (xs : List Int) : ∀ v ∈ iv xs, v.oneCell' = true := by
  intro v hv
  obtain ⟨x, _, rfl⟩ := List.mem_map.1 hv
  rfl
theorem run_app_none_i {w : World} {B : Nat} {v : Value} {xs : List Int} (ty : TypeId) (h : OwnL w B v xs) (c : Nat) : (Builtin.append_ #[28, 28] ty #[v, .slice none 0 c]).run Tryz.prog w = .ok v w := by
  obtain ⟨i0, hi0, hz0, hz1, hz2⟩ := info_parts Tryz.intInfo
  have ht := Tryz.underlying28
  rcases h.2 with ⟨rfl, _⟩ | ⟨g, cap, cur, rfl, _, _, hn, _⟩
  · simp [Builtin.append_, run_underlying ht, sizeOf, typeInfo, hi0, Builtin.lenOf, Builtin.firstCells]
  · simp [Builtin.append_, run_underlying ht, sizeOf, typeInfo, hi0, Builtin.lenOf, Builtin.firstCells, hn, storeCells]
set_option maxRecDepth 100000 in
theorem app_ints {w : World} {ops : Array Oper} {rest : List Oper} {o : Oper} {a : Act} {Q : Exit → Act → World → Prop} (hgd : o.guard = none) (s x : Operand)
    (ho : o.op = .call { callee := .builtin .append, args := #[s, x], argTypes := #[28, 28] })
    (B : Nat) (v : Value) (xs : List Int) (hs : a.eval s = v) (hown : OwnL w B v xs) (A : Option Addr) (c S : Nat) (ys : List Int) (hx : a.eval x = .slice A ys.length c) (hr : Row w S (.slice A ys.length c) ys)
    (hlen : xs.length ≤ 1073741824) (hlen2 : ys.length ≤ 1073741824) (hB : B ≤ w.heap.size)
    (h : ∀ v' w', OwnL w' B v' (xs ++ ys) → Below B w w' → wpList Tryz.prog ops Q rest (a.put o.dst v') w') : wpList Tryz.prog ops Q (o :: rest) a w := by
  obtain ⟨i0, hi0, hz0, hz1, hz2⟩ := info_parts Tryz.intInfo
  obtain ⟨A', c', e, hc⟩ := hr
  injection e with e1 e2 e3
  subst e1 e3
  rcases A with _ | ad
  · have hn : ys = [] := by
      rcases Nat.eq_zero_or_pos ys.length with h0 | h0
      · exact List.length_eq_zero_iff.1 h0
      · obtain ⟨b, off, e, _⟩ := hc h0; cases e
    subst hn
    refine wpList_plain hgd fun K hK => ?_
    have hrun := run_app_none_i o.type hown c
    unfold Oper.wp
    simp only [List.length_nil] at hx
    simp [execOp, ho, resolve, invoke, builtin, hs, hx, hrun, Result.andThen]
    exact hK _ _ (h v w (by rw [List.append_nil]; exact hown) (Below.refl _ _))
  · refine wpList_append_own w hgd s x 28 ho B 3 i0 (.int .i64 0) 1 8 Tryz.underlying28 hi0 hz0 hz1 hz2 rfl (by decide) v xs.length (iv xs) hs hown ad ys.length c (iv ys) hx (by simp [iv]) ?_ (iv_one ys) (by unfold maxLen; omega) (by omega) hB ?_
    · intro j u hu
      obtain ⟨hj, rfl⟩ := iv_get hu
      obtain ⟨b, off, e, _, hcc⟩ := hc (by omega)
      injection e with e
      subst e
      have hadd : (⟨b, off, none⟩ : Addr).add j = ⟨b, off + j, none⟩ := by simp [Addr.add]
      rw [hadd]
      exact hcc j hj
    · intro v' w' hown' hg _
      refine h v' w' ?_ ((Below.refl B w).grown hg hB (fun k e => (World.ownsRow.lt hown k e).1))
      unfold OwnL
      rw [List.map_append, List.length_append]
      exact hown'
theorem allB_app {n : Int} {xs zs : List Int} (h1 : allB n xs = true) (h2 : allB n zs = true) : allB n (xs ++ zs) = true := List.all_eq_true.2 fun z hz => by
  rcases List.mem_append.1 hz with h | h
  · exact allB_yes h1 z h
  · exact allB_yes h2 z h
theorem famB_allB {n : Int} {xs : List Int} (h : famB n xs = true) : allB n xs = true := List.all_eq_true.2 (famB_all h).2.2
theorem own_lift {w w' : World} {q : Nat} {v : Value} {L : List Int} (h : OwnL w' (w.drewN q).heap.size v L) : Own w' w.heap.size w'.heap.size v L := h.own

theorem filt_yes {xs : List Int} {k : Nat} {x : Int} (hk : k < xs.length) (hx : xs.getD k 0 = x) (p : Int → Bool) (h : p x = true) : (xs.take (k + 1)).filter p = (xs.take k).filter p ++ [x] := by rw [take_snoc hk, hx, filter_snoc, if_pos h]
theorem filt_no {xs : List Int} {k : Nat} {x : Int} (hk : k < xs.length) (hx : xs.getD k 0 = x) (p : Int → Bool) (h : p x = false) : (xs.take (k + 1)).filter p = (xs.take k).filter p := by rw [take_snoc hk, hx, filter_snoc, if_neg (by simp [h]), List.append_nil]
theorem filt_eq {n : Int} {xs : List Int} (h : allB n xs = true) (hA : Asc xs) (p q : Int → Bool) (hpq : ∀ z, 0 ≤ z → p z = q z) : xs.filter p = sortL (xs.filter q) := by
  rw [sortL_asc (asc_filter hA _)]
  exact List.filter_congr fun z hz => hpq z (setB_lt (allB_yes h z hz)).1

end
section
/- The model: common parts, joins. -/
open Go.ChangeShapes Go.WideShapes Go.ChangeAt Go.RowKit Go.Proofs

theorem mem_snoc (z v : Int) (L : List Int) : memB z (L ++ [v]) = if z = v then true else memB z L := by
  unfold memB
  by_cases e : z = v
  · rw [if_pos e]; exact decide_eq_true (by rw [e]; simp)
  · rw [if_neg e]; exact decide_eq_decide.2 (by simp [e])
theorem pairs_all {n : Int} {F : Int → Int → Int} {xs zs : List Int} (h : ∀ x ∈ xs, ∀ z ∈ zs, setB n (F x z) = true) (k : Nat) : allB n (pairsTo F xs zs k) = true := List.all_eq_true.2 fun z hz => by
  obtain ⟨a, ha, b, hb, rfl⟩ := pairs_mem hz
  exact h a ha b hb

end
section
/- The model: others, the rest, levels, traces, links, sets without a point. -/
open Go.ChangeShapes Go.WideShapes Go.ChangeAt Go.RowKit Go.Proofs

theorem asc_map {xs : List Int} {f : Int → Int} (hA : Asc xs) (h : ∀ x ∈ xs, ∀ y ∈ xs, x < y → f x < f y) : Asc (xs.map f) := by
  unfold Asc at *
  rw [List.pairwise_map]
  exact hA.imp_of_mem (fun hx hy hxy => h _ hx _ hy hxy)
theorem asc_other {N : Int} {xs : List Int} (hA : Asc xs) : Asc ((xs.reverse).map (fun x => N - 1 - x)) := by
  unfold Asc at *
  rw [List.pairwise_map, List.pairwise_reverse]
  exact hA.imp (fun h => by omega)
theorem up_sort (N : Nat) : sortL (upI N) = upI N := sortL_asc (asc_upI N)
theorem rest_eq (N : Nat) (xs : List Int) : mkL (fun j => !memB (j : Nat) xs) N = sortL ((sortL (upI N)).filter (fun x => !memB x xs)) := by
  rw [up_sort, sortL_asc (asc_filter (asc_upI N) _)]
  unfold mkL
  exact List.filter_congr fun z hz => by show (!memB ((z.toNat : Nat) : Int) xs) = _; rw [Int.toNat_of_nonneg (mem_upI.1 hz).1]
theorem level_eq (N : Nat) (k : Int) : mkL (fun j => cntI (j : Nat) == k) N = sortL ((sortL (upI N)).filter (fun x => cntI x == k)) := by
  rw [up_sort, sortL_asc (asc_filter (asc_upI N) _)]
  unfold mkL
  exact List.filter_congr fun z hz => by show (cntI ((z.toNat : Nat) : Int) == k) = _; rw [Int.toNat_of_nonneg (mem_upI.1 hz).1]
theorem drop_step {xs : List Int} {k : Nat} {x : Int} (hk : k < xs.length) (hx : xs.getD k 0 = x) : (xs.drop k).reverse = (xs.drop (k + 1)).reverse ++ [x] := by
  rw [List.drop_eq_getElem_cons hk, List.reverse_cons]
  rw [List.getD_eq_getElem?_getD, List.getElem?_eq_getElem hk] at hx
  simp at hx
  rw [hx]
theorem app_int_at {w : World} {ops : Array Oper} {rest : List Oper} {o : Oper} {a : Act} {Q : Exit → Act → World → Prop} (hgd : o.guard = none) (s x : Operand)
    (ho : o.op = .call { callee := .builtin .append, args := #[s, x], argTypes := #[28, 28] })
    (B : Nat) (v : Value) (xs : List Int) (hs : a.eval s = v) (hown : OwnL w B v xs) (y : Int) (b : Nat) (hx : a.eval x = .slice (some ⟨b, 0, none⟩) 1 1) (hcell : w.cell? ⟨b, 0, none⟩ = some (.int .i64 y))
    (hlen : xs.length ≤ 1073741824) (hB : B ≤ w.heap.size)
    (h : ∀ v' w', OwnL w' B v' (xs ++ [y]) → w.grownBy w' v.ownBlock → (v'.ownBlock = v.ownBlock ∨ v'.ownBlock = some w.heap.size) → wpList Tryz.prog ops Q rest (a.put o.dst v') w') : wpList Tryz.prog ops Q (o :: rest) a w := by
  obtain ⟨i0, hi, hz0, hz1, hz2⟩ := info_parts Tryz.intInfo
  refine wpList_append_own_at w hgd s x 28 ho B 3 i0 (.int .i64 0) 1 8 Tryz.underlying28 hi hz0 hz1 hz2 rfl (by decide) v xs.length (iv xs) hs hown ⟨b, 0, none⟩ 1 1 [.int .i64 y] hx rfl ?_ (by simp [Value.oneCell']) (by unfold maxLen; omega) (by omega) hB ?_
  · intro j u hu
    cases j with
    | zero => simp at hu; subst hu; simpa [Addr.add] using hcell
    | succ j => simp at hu
  · intro v' w' hown' hg _ hat
    refine h v' w' ?_ hg hat
    unfold OwnL
    simpa [iv] using hown'
theorem step_app_int {w : World} {ops : Array Oper} {o : Oper} {a : Act} {K : Act → World → Prop} {Q : Exit → Act → World → Prop} {E : Prop} (hgd : o.guard = none) (s x : Operand)
    (ho : o.op = .call { callee := .builtin .append, args := #[s, x], argTypes := #[28, 28] })
    (B : Nat) (v : Value) (xs : List Int) (hs : a.eval s = v) (hown : OwnL w B v xs) (y : Int) (b : Nat) (hx : a.eval x = .slice (some ⟨b, 0, none⟩) 1 1) (hcell : w.cell? ⟨b, 0, none⟩ = some (.int .i64 y))
    (hlen : xs.length ≤ 1073741824) (hB : B ≤ w.heap.size)
    (h : ∀ v' w', OwnL w' B v' (xs ++ [y]) → Below B w w' → K (a.put o.dst v') w') : if Region.wanted o (yielded ops a.tmps) = true then Oper.wp Tryz.prog o a w K Q else E := by
  have hw : Region.wanted o (yielded ops a.tmps) = true := by simp [Region.wanted, hgd]
  rw [if_pos hw]
  obtain ⟨i0, hi, hz0, hz1, hz2⟩ := info_parts Tryz.intInfo
  refine wp_append_own w s x 28 ho B 3 i0 (.int .i64 0) 1 8 Tryz.underlying28 hi hz0 hz1 hz2 rfl (by decide) v xs.length (iv xs) hs hown ⟨b, 0, none⟩ 1 1 [.int .i64 y] hx rfl ?_ (by simp [Value.oneCell']) (by unfold maxLen; omega) (by omega) hB ?_
  · intro j u hu
    cases j with
    | zero => simp at hu; subst hu; simpa [Addr.add] using hcell
    | succ j => simp at hu
  · intro v' w' hown' hg _
    refine h v' w' ?_ ((Below.refl B w).grown hg hB (fun k e => (World.ownsRow.lt hown k e).1))
    unfold OwnL
    simpa [iv] using hown'
theorem MarkRow.grown {w w' : World} {b N : Nat} {p : Nat → Bool} {v : Value} (h : MarkRow w b N p) (hg : w.grownBy w' v.ownBlock) (hv : v.ownBlock ≠ some b) : MarkRow w' b N p :=
  World.rowIs.of_block h (hg.block b (World.rowIs.lt h) (fun e => hv e.symm))
theorem below_own {B : Nat} {a w w' : World} {v : Value} {xs : List Int} (h : Below B a w) (hg : w.grownBy w' v.ownBlock) (hO : OwnL w B v xs) (hB : B ≤ w.heap.size) : Below B a w' := h.grown hg hB (fun k e => (World.ownsRow.lt hO k e).1)
set_option maxHeartbeats 2000000 in
theorem other_at (n : Int) (lv : Value) (xs : List Int) (S : Nat) (w : World) (hx : Row w S lv xs) (hS : S ≤ w.heap.size) (hl : xs.length ≤ 1000) (n1 : 1 ≤ n) (n2 : n ≤ 8) (hz : ∀ z ∈ xs, 0 ≤ z ∧ z < 256) :
    Calls Tryz.prog 173 #[.int .i64 n, lv] w (IntsPost ((xs.reverse).map (fun x => ((2 ^ n.toNat : Nat) : Int) - 1 - x)) w) := by
  obtain ⟨a, cap, rfl, ha⟩ := hx
  obtain ⟨p1, p2, p3⟩ := pow_nat n1 n2
  obtain ⟨N, hN⟩ : ∃ N : Nat, 2 ^ n.toNat = N := ⟨_, rfl⟩
  rw [hN] at p1 p2 p3 ⊢
  have hNi : (2 : Int) ^ n.toNat = (N : Nat) := by rw [← hN]; simp
  replace ha := Lib.hid ha
  replace hz := Lib.hid hz
  replace hN := Lib.hid hN
  replace hNi := Lib.hid hNi
  have hn0 : (0 : Int) ≤ n := by omega
  have hn64 : n < 64 := by omega
  go_enter Tryz.func173, Tryz.ntmps173
  go_wp2_with fail
  go_loopw [5, 6] (fun v q wr => ∃ k : Nat, k ≤ xs.length ∧ q = .int .i64 ((k : Int) - 1) ∧ Hid (OwnL wr w.heap.size v (((xs.drop k).reverse).map (fun x => (N : Int) - 1 - x))) ∧ Hid (Below w.heap.size w wr)) (fun _ q _ => (intOf q + 1).toNat)
  case atStart => exact ⟨xs.length, by omega, rfl, Lib.hid (by rw [List.drop_length]; exact OwnL.lit w (Nat.le_refl _)), Lib.hid ((Below.refl _ _).alloc (Nat.le_refl _) _)⟩
  case round =>
    obtain ⟨k, hk, rfl, hown, hbel⟩ := hrel
    have hsz := hbel.out.size
    by_cases h0 : k = 0
    · subst h0
      have hO := hown.out
      rw [List.drop_zero] at hO
      obtain ⟨a', c', rfl⟩ := hO.form
      replace hO := Lib.hid hO
      clear hown
      go_wp2_with fail
      go_ret
      exact ⟨_, rfl, hO.out, hbel.out⟩
    · obtain ⟨j, rfl⟩ : ∃ j : Nat, k = j + 1 := ⟨k - 1, by omega⟩
      have hkj : ((j + 1 : Nat) : Int) - 1 = (j : Nat) := by omega
      rw [hkj]
      have hlt : j < xs.length := by omega
      obtain ⟨b1, o1, rfl, s1, c1⟩ := ha.out (by omega)
      have k1 : (0 : Int) ≤ (j : Int) := by omega
      have k2 : (j : Int) < (xs.length : Nat) := by omega
      have e1 : wr.cell? ⟨b1, o1 + j, none⟩ = some (.int .i64 (xs.getD j 0)) := (hbel.out.cell (p := ⟨b1, o1 + j, none⟩) (show b1 < w.heap.size by omega)).trans (c1 j hlt)
      obtain ⟨x, hx⟩ : ∃ x, xs.getD j 0 = x := ⟨_, rfl⟩
      rw [hx] at e1
      obtain ⟨z1, z2⟩ := hz.out x (by rw [← hx]; exact getD_mem hlt)
      have hst : ((xs.drop j).reverse).map (fun x => (N : Int) - 1 - x) = ((xs.drop (j + 1)).reverse).map (fun x => (N : Int) - 1 - x) ++ [(N : Int) - 1 - x] := by rw [drop_step hlt hx, List.map_append]; rfl
      have hlen : (((xs.drop (j + 1)).reverse).map (fun x => (N : Int) - 1 - x)).length ≤ 1073741824 := by simp; omega
      obtain ⟨ys, hys⟩ : ∃ ys, ((xs.drop (j + 1)).reverse).map (fun x => (N : Int) - 1 - x) = ys := ⟨_, rfl⟩
      rw [hys] at hown hst hlen
      obtain ⟨a', c', rfl⟩ := hown.out.form
      have hB1 : ∀ o, w.heap.size ≤ (wr.alloc o).heap.size := fun o => by rw [World.size_alloc]; omega
      replace hB1 := Lib.hid hB1
      clear hx c1
      replace hkj := Lib.hid hkj
      replace hys := Lib.hid hys
      replace hst := Lib.hid hst.symm
      have hV : IntKind.i64.wrap (IntKind.i64.wrap (IntKind.i64.wrap (2 ^ n.toNat) - 1) - x) = (N : Int) - 1 - x := by
        have q0 : IntKind.i64.wrap (N : Int) = N := by rw [IntKind.wrap_i64]; omega
        have q1 : IntKind.i64.wrap ((N : Int) - 1) = (N : Int) - 1 := by rw [IntKind.wrap_i64]; omega
        have q2 : IntKind.i64.wrap ((N : Int) - 1 - x) = (N : Int) - 1 - x := by rw [IntKind.wrap_i64]; omega
        rw [hNi.out, q0, q1, q2]
      obtain ⟨V, hV2⟩ : ∃ V, IntKind.i64.wrap (IntKind.i64.wrap (IntKind.i64.wrap (2 ^ n.toNat) - 1) - x) = V := ⟨_, rfl⟩
      have hc1 := cell_new wr (.int .i64 (IntKind.i64.wrap (IntKind.i64.wrap (IntKind.i64.wrap (2 ^ n.toNat) - 1) - x))) 3
      replace hV := Lib.hid hV
      replace hV2 := Lib.hid hV2
      replace hc1 := Lib.hid hc1
      go_wp2_with fail
      go_region_law (refine step_app_int rfl _ _ rfl w.heap.size _ ys rfl (OwnL.alloc (w := wr.drew) hown.out _) (IntKind.i64.wrap (IntKind.i64.wrap (IntKind.i64.wrap (2 ^ n.toNat) - 1) - x)) wr.heap.size rfl hc1.out hlen (hB1.out _) ?_; intro v' w1 hown1 hb1)
      all_goals
        rw [hV.out, hst.out] at hown1
        replace hown1 := Lib.hid hown1
        have hb2 := Lib.hid ((hbel.out.drew.alloc hsz _).trans hb1)
        go_wp2_with fail
        go_roundw
        case rel => exact ⟨j, by omega, by first | rfl | go_num, hown1, hb2⟩
        case measure => simp [intOf] <;> omega

set_option maxHeartbeats 2000000 in
theorem sp_FamilyOther (n : Int) (lv : Value) (xs : List Int) (S : Nat) (w : World) (hx : Row w S lv xs) (hS : S ≤ w.heap.size) (hl : xs.length ≤ 100000000) :
    Calls Tryz.prog 112 #[.int .i64 n, lv] w (ListPost (ifL (famB n xs) (sortL (xs.map (otherI n)))) (famB n xs) w) := by
  have h1 := sp_FamilyIn n lv xs S w hx (by omega)
  obtain ⟨a, cap, rfl, ha⟩ := id hx
  rcases (by cases famB n xs <;> simp : famB n xs = true ∨ famB n xs = false) with f1 | f1
  · rw [f1] at h1 ⊢
    obtain ⟨n1, n2, _⟩ := famB_all f1
    have a1 := famB_allB f1
    have l1 := famB_len f1
    have A1 := famB_asc f1
    have hzz := famB_lt f1
    replace h1 := Lib.hid h1
    replace f1 := Lib.hid f1
    replace a1 := Lib.hid a1
    replace A1 := Lib.hid A1
    replace hzz := Lib.hid hzz
    replace hx := Lib.hid hx
    replace ha := Lib.hid ha
    show Calls Tryz.prog 112 #[.int .i64 n, .slice a xs.length cap] w (ListPost (sortL (xs.map (otherI n))) true w)
    go_enter Tryz.func112, Tryz.ntmps112
    go_wp2_with fail
    refine h1.out.mono ?_
    rintro e w1 ⟨rfl, q, rfl⟩
    have hqS : S ≤ (w.drewN q).heap.size := hS
    have hot := other_at n _ xs S (w.drewN q) (hx.out.drewN q) hqS (by omega) n1 n2 hzz.out
    have hL : (xs.reverse).map (fun x => ((2 ^ n.toNat : Nat) : Int) - 1 - x) = sortL (xs.map (otherI n)) := by
      refine asc_ext (asc_other A1.out) (asc_sortL _) fun z => ?_
      rw [mem_sortL]
      have : ((2 ^ n.toNat : Nat) : Int) = 2 ^ n.toNat := by simp
      simp only [List.mem_map, List.mem_reverse, otherI, this]
    rw [hL] at hot
    replace hL := Lib.hid hL
    replace hot := Lib.hid hot
    clear h1
    go_wp2_with fail
    refine hot.out.mono ?_
    rintro e w3 ⟨v, rfl, hO, hb3⟩
    obtain ⟨a', c', rfl⟩ := hO.form
    replace hb3 := Lib.hid ((below_drewN (Below.refl w.heap.size w) q).trans hb3)
    replace hO := Lib.hid (own_lift hO)
    go_wp2_with fail
    go_ret2
    exact ⟨_, rfl, hO.out, hb3.out⟩
  · rw [f1] at h1 ⊢
    replace h1 := Lib.hid h1
    replace f1 := Lib.hid f1
    clear hx ha
    go_enter Tryz.func112, Tryz.ntmps112
    go_wp2_with fail
    refine h1.out.mono ?_
    rintro e w1 ⟨rfl, q, rfl⟩
    go_wp2_with fail
    go_ret2
    exact ⟨_, rfl, own_empty0 _ _ _ _ _, ((below_drewN (Below.refl _ w) q).alloc (Nat.le_refl _) _)⟩

end
section
/- The model: levels, traces, links, sets without a point. -/
open Go.ChangeShapes Go.WideShapes Go.ChangeAt Go.RowKit Go.Proofs

set_option maxHeartbeats 2000000 in
theorem level_at (n kk : Int) (w : World) (n1 : 1 ≤ n) (n2 : n ≤ 8) :
    Calls Tryz.prog 41 #[.int .i64 n, .int .i64 kk] w (IntsPost (mkL (fun j => cntI (j : Nat) == kk) (2 ^ n.toNat)) w) := by
  obtain ⟨p1, p2, p3⟩ := pow_nat n1 n2
  obtain ⟨N, hN⟩ : ∃ N : Nat, 2 ^ n.toNat = N := ⟨_, rfl⟩
  have hNi : (2 : Int) ^ n.toNat = (N : Nat) := by rw [← hN]; simp
  have hn0 : (0 : Int) ≤ n := by omega
  have hn64 : n < 64 := by omega
  rw [hN] at p1 p2 p3 ⊢
  obtain ⟨P, hP⟩ : ∃ P : Nat → Bool, (fun j : Nat => cntI (j : Nat) == kk) = P := ⟨_, rfl⟩
  have hPk : ∀ k : Nat, (cntI (k : Nat) == kk) = P k := fun k => by rw [← hP]
  rw [hP]
  replace hP := Lib.hid hP
  replace hPk := Lib.hid hPk
  replace hN := Lib.hid hN
  replace hNi := Lib.hid hNi
  go_enter Tryz.func41, Tryz.ntmps41
  go_wp2_with fail
  go_loopw [5, 6] (fun v s wr => ∃ k : Nat, k ≤ N ∧ s = .int .i64 k ∧ Hid (OwnL wr w.heap.size v (mkL P k)) ∧ Hid (Below w.heap.size w wr)) (fun _ s _ => N - (intOf s).toNat)
  case atStart => exact ⟨0, by omega, rfl, Lib.hid (OwnL.lit w (Nat.le_refl _)), Lib.hid ((Below.refl _ _).alloc (Nat.le_refl _) _)⟩
  case round =>
    obtain ⟨k, hk, rfl, hown, hbel⟩ := hrel
    have hsz := hbel.out.size
    by_cases hlt : k < N
    · have k1 : (0 : Int) ≤ (k : Int) := by omega
      have k2 : (k : Int) < (N : Nat) := by omega
      have hsz1 := l1size (k : Int) (by omega) (by omega); have hpk := hPk.out k; obtain ⟨r, hr⟩ : ∃ r, cntI (k : Nat) = r := ⟨_, rfl⟩; rw [hr] at hsz1 hpk; replace hr := Lib.hid hr; replace hsz1 := Lib.hid hsz1
      have hlen : (mkL P k).length ≤ 1073741824 := by have := mkL_len P k; omega
      have hsu := mkL_succ P k
      rcases (by cases P k <;> simp : P k = true ∨ P k = false) with hp | hp
      · have hs : mkL P k ++ [(k : Int)] = mkL P (k + 1) := by rw [hsu, if_pos hp]
        obtain ⟨ys, hys⟩ : ∃ ys, mkL P k = ys := ⟨_, rfl⟩
        rw [hys] at hown hs hlen
        obtain ⟨a', c', rfl⟩ := hown.out.form
        have hB1 : w.heap.size ≤ (wr.alloc (.cells #[.int .i64 (k : Int)] 3)).heap.size := by rw [World.size_alloc]; omega
        clear hsu
        rw [hp] at hpk; replace hp := Lib.hid hp
        replace hys := Lib.hid hys
        replace hs := Lib.hid hs
        go_wp2_with (first | (go_at_call 68; refine (hsz1.out _).mono ?_; rintro e w' ⟨rfl, rfl⟩) | (at_builtin; refine app_int rfl _ _ rfl w.heap.size _ ys rfl (hown.out.alloc _) (k : Int) wr.heap.size rfl (cell_new _ _ _) hlen hB1 ?_; intro v' w1 hown1 hb1))
        rw [hs.out] at hown1
        replace hown1 := Lib.hid hown1
        have hb2 := Lib.hid ((hbel.out.alloc hsz _).trans hb1)
        go_roundw
        case rel => exact ⟨k + 1, by omega, by go_num, hown1, hb2⟩
        case measure => simp [intOf]; omega
      · have hs : mkL P k = mkL P (k + 1) := by rw [hsu, if_neg (by simp [hp]), List.append_nil]
        rw [hs] at hown
        obtain ⟨ys, hys⟩ : ∃ ys, mkL P (k + 1) = ys := ⟨_, rfl⟩
        rw [hys] at hown
        obtain ⟨a', c', rfl⟩ := hown.out.form
        clear hsu hs hlen
        rw [hp] at hpk; replace hp := Lib.hid hp
        replace hys := Lib.hid hys
        go_wp2_with ((go_at_call 68; refine (hsz1.out _).mono ?_; rintro e w' ⟨rfl, rfl⟩))
        go_roundw
        case rel => exact ⟨k + 1, by omega, by go_num, by rw [hys.out]; exact hown, hbel⟩
        case measure => simp [intOf]; omega
    · obtain rfl : k = N := by omega
      obtain ⟨a', c', rfl⟩ := hown.out.form
      have hown2 := Lib.hid hown.out
      clear hown
      go_wp2_with fail
      go_ret
      exact ⟨_, rfl, hown2.out, hbel.out⟩

theorem sz_in (n k : Int) : inB k 0 n = decide (0 ≤ k ∧ k ≤ n) := rfl
set_option maxHeartbeats 1000000 in
theorem sp_FamilyLevel (n k : Int) (w : World) :
    Calls Tryz.prog 16 #[.int .i64 n, .int .i64 k] w (ListPost (ifL (szB n k) (sortL ((sortL (upI (2 ^ n.toNat))).filter (fun x => cntI x == k)))) (szB n k) w) := by
  have hpp := l1pts n
  have hin := l6in k 0 n
  rw [sz_in] at hin
  rcases (by cases ptsB n <;> simp : ptsB n = true ∨ ptsB n = false) with hp | hp
  · obtain ⟨n1, n2⟩ := ptsB_yes hp
    rw [hp] at hpp
    replace hpp := Lib.hid hpp
    rcases (by cases decide (0 ≤ k ∧ k ≤ n) <;> simp : decide (0 ≤ k ∧ k ≤ n) = true ∨ decide (0 ≤ k ∧ k ≤ n) = false) with hk | hk
    · rw [hk] at hin
      replace hin := Lib.hid hin
      have hb : szB n k = true := by unfold szB; rw [hp, hk]; rfl
      rw [hb]
      have hlv := level_at n k w n1 n2
      rw [level_eq] at hlv
      replace hlv := Lib.hid hlv
      replace hb := Lib.hid hb
      replace hk := Lib.hid hk
      replace hp := Lib.hid hp
      show Calls Tryz.prog 16 #[.int .i64 n, .int .i64 k] w (ListPost (sortL ((sortL (upI (2 ^ n.toNat))).filter (fun x => cntI x == k))) true w)
      go_enter Tryz.func16, Tryz.ntmps16
      go_wp2_with (first | (go_at_call 39; refine (hpp.out _).mono ?_; rintro e w' ⟨rfl, rfl⟩) | (go_at_call 40; refine (hin.out _).mono ?_; rintro e w' ⟨rfl, rfl⟩))
      refine hlv.out.mono ?_
      rintro e w3 ⟨v, rfl, hO, hb3⟩
      obtain ⟨a', c', rfl⟩ := hO.form
      replace hb3 := Lib.hid hb3
      replace hO := Lib.hid hO.own
      go_wp2_with fail
      go_ret2
      exact ⟨_, rfl, hO.out, hb3.out⟩
    · rw [hk] at hin
      replace hin := Lib.hid hin
      have hb : szB n k = false := by unfold szB; rw [hp, hk]; rfl
      rw [hb]
      replace hb := Lib.hid hb
      replace hk := Lib.hid hk
      replace hp := Lib.hid hp
      go_enter Tryz.func16, Tryz.ntmps16
      go_wp2_with (first | (go_at_call 39; refine (hpp.out _).mono ?_; rintro e w' ⟨rfl, rfl⟩) | (go_at_call 40; refine (hin.out _).mono ?_; rintro e w' ⟨rfl, rfl⟩))
      go_ret2
      exact ⟨_, rfl, own_empty0 _ _ _ _ _, (Below.refl _ _).alloc (Nat.le_refl _) _⟩
  · rw [hp] at hpp
    replace hpp := Lib.hid hpp
    have hb : szB n k = false := by unfold szB; rw [hp]; rfl
    rw [hb]
    replace hb := Lib.hid hb
    replace hp := Lib.hid hp
    go_enter Tryz.func16, Tryz.ntmps16
    go_wp2_with (go_at_call 39; refine (hpp.out _).mono ?_; rintro e w' ⟨rfl, rfl⟩)
    go_ret2
    exact ⟨_, rfl, own_empty0 _ _ _ _ _, (Below.refl _ _).alloc (Nat.le_refl _) _⟩

theorem trace_all {n s : Int} {xs : List Int} (h : allB n xs = true) (hs : setB n s = true) : allB n (xs.map (fun x => andI x s)) = true := List.all_eq_true.2 fun z hz => by
  obtain ⟨y, hy, rfl⟩ := List.mem_map.1 hz
  exact andI_set (allB_yes h y hy) hs
set_option maxHeartbeats 2000000 in
theorem trace_at (n s : Int) (lv : Value) (xs : List Int) (S : Nat) (w : World) (hx : Row w S lv xs) (hS : S ≤ w.heap.size) (hl : xs.length ≤ 1000) (n1 : 1 ≤ n) (n2 : n ≤ 8) (hall : allB n xs = true) (hs : setB n s = true) :
    Calls Tryz.prog 282 #[.int .i64 n, lv, .int .i64 s] w (IntsPost (sortL (xs.map (fun x => andI x s))) w) := by
  obtain ⟨a, cap, rfl, ha⟩ := hx
  obtain ⟨s1, s2⟩ := setB_lt hs
  replace ha := Lib.hid ha
  have hta := Lib.hid (trace_all hall hs)
  replace hall := Lib.hid hall
  replace hs := Lib.hid hs
  go_enter Tryz.func282, Tryz.ntmps282
  go_wp2_with fail
  go_loopw [7, 8] (fun v q wr => ∃ k : Nat, k ≤ xs.length ∧ q = .int .i64 k ∧ Hid (OwnL wr w.heap.size v ((xs.take k).map (fun x => andI x s))) ∧ Hid (Below w.heap.size w wr)) (fun _ q _ => xs.length - (intOf q).toNat)
  case atStart => exact ⟨0, by omega, rfl, Lib.hid (OwnL.lit w (Nat.le_refl _)), Lib.hid ((Below.refl _ _).alloc (Nat.le_refl _) _)⟩
  case round =>
    obtain ⟨k, hk, rfl, hown, hbel⟩ := hrel
    have hsz := hbel.out.size
    by_cases hlt : k < xs.length
    · obtain ⟨b1, o1, rfl, t1, c1⟩ := ha.out (by omega)
      have k1 : (0 : Int) ≤ (k : Int) := by omega
      have k2 : (k : Int) < (xs.length : Nat) := by omega
      have e1 : wr.cell? ⟨b1, o1 + k, none⟩ = some (.int .i64 (xs.getD k 0)) := (hbel.out.cell (p := ⟨b1, o1 + k, none⟩) (show b1 < w.heap.size by omega)).trans (c1 k hlt)
      obtain ⟨x, hx⟩ : ∃ x, xs.getD k 0 = x := ⟨_, rfl⟩
      rw [hx] at e1
      obtain ⟨z1, z2⟩ := setB_lt (allB_yes hall.out x (by rw [← hx]; exact getD_mem hlt))
      have ho := i64_andI z1 z2 s1 s2
      have hst := map_take hlt hx (fun x => andI x s)
      have hlen : ((xs.take k).map (fun x => andI x s)).length ≤ 1073741824 := by simp; omega
      obtain ⟨ys, hys⟩ : ∃ ys, (xs.take k).map (fun x => andI x s) = ys := ⟨_, rfl⟩
      rw [hys] at hown hst hlen
      obtain ⟨V, hV⟩ : ∃ V, andI x s = V := ⟨_, rfl⟩
      simp only [hV] at ho hst
      obtain ⟨a', c', rfl⟩ := hown.out.form
      have hB1 : w.heap.size ≤ (wr.alloc (.cells #[.int .i64 V] 3)).heap.size := by rw [World.size_alloc]; omega
      clear hx c1
      replace hV := Lib.hid hV
      replace hys := Lib.hid hys
      replace hst := Lib.hid hst.symm
      go_wp2_with (at_builtin; refine app_int rfl _ _ rfl w.heap.size _ ys rfl (hown.out.alloc _) V wr.heap.size rfl (cell_new _ _ _) hlen hB1 ?_; intro v' w1 hown1 hb1)
      rw [hst.out] at hown1
      replace hown1 := Lib.hid hown1
      have hb2 := Lib.hid ((hbel.out.alloc hsz _).trans hb1)
      go_roundw
      case rel => exact ⟨k + 1, by omega, by go_num, hown1, hb2⟩
      case measure => simp [intOf]; omega
    · obtain rfl : k = xs.length := by omega
      have hO := hown.out
      rw [List.take_length] at hO
      obtain ⟨ys, hys⟩ : ∃ ys, xs.map (fun x => andI x s) = ys := ⟨_, rfl⟩
      have hyl : ys.length ≤ 1073741824 := by rw [← hys]; simp; omega
      have hta2 := hta.out
      rw [hys] at hO hta2
      obtain ⟨a', c', rfl⟩ := hO.form
      have hfa := Lib.hid (family_at n _ ys _ wr hO.own.row (Nat.le_refl _) hyl n1 n2 hta2)
      replace hO := Lib.hid hO
      replace hys := Lib.hid hys
      replace hta2 := Lib.hid hta2
      clear hown
      go_wp2_with fail
      refine hfa.out.mono ?_
      rintro e w4 ⟨v4, rfl, hO4, hb4⟩
      obtain ⟨x1, x2, rfl⟩ := hO4.form
      replace hb4 := Lib.hid (hbel.out.trans (hb4.mono hsz))
      replace hO4 := Lib.hid (hO4.mono hsz)
      go_wp2_with fail
      go_ret
      exact ⟨_, rfl, by rw [hys.out]; exact hO4.out, hb4.out⟩

theorem less_lo : ∀ s : Fin 256, ∀ p : Fin 8, hasB s.val p.val = true → ((s.val : Nat) : Int) - 2 ^ p.val = lessI s.val p.val ∧ 2 ^ p.val ≤ s.val := by decide +kernel
theorem less_yes {s p : Int} (h1 : 0 ≤ s) (h2 : s < 256) (h3 : 0 ≤ p) (h4 : p ≤ 7) (h : hasB s p = true) : s - 2 ^ p.toNat = lessI s p ∧ (2 : Int) ^ p.toNat ≤ s := by
  have h0 := less_lo ⟨s.toNat, by omega⟩ ⟨p.toNat, by omega⟩
  have e1 : ((s.toNat : Nat) : Int) = s := Int.toNat_of_nonneg h1
  have e2 : ((p.toNat : Nat) : Int) = p := Int.toNat_of_nonneg h3
  simp only [e1, e2] at h0
  obtain ⟨a, b⟩ := h0 h
  refine ⟨a, ?_⟩
  have : ((2 ^ p.toNat : Nat) : Int) = 2 ^ p.toNat := by simp
  omega
theorem link_eq {xs : List Int} {p : Int} (hA : Asc xs) (hz : ∀ z ∈ xs, 0 ≤ z ∧ z < 256) (p1 : 0 ≤ p) (p2 : p ≤ 7) : (xs.filter (fun x => hasB x p)).map (fun x => lessI x p) = sortL ((sortL (xs.filter (fun x => hasB x p))).map (fun x => lessI x p)) := by
  rw [sortL_asc (asc_filter hA _)]
  refine (sortL_asc (asc_map (asc_filter hA _) fun x hx y hy hxy => ?_)).symm
  obtain ⟨hx1, hx2⟩ := List.mem_filter.1 hx
  obtain ⟨hy1, hy2⟩ := List.mem_filter.1 hy
  have a := less_yes (hz x hx1).1 (hz x hx1).2 p1 p2 hx2
  have b := less_yes (hz y hy1).1 (hz y hy1).2 p1 p2 hy2
  omega

/-- the sets that have not p. -/
def woL (p : Int) (xs : List Int) : List Int := xs.filter (fun x => !hasB x p)
theorem woL_len (p : Int) (xs : List Int) : (woL p xs).length ≤ xs.length := List.length_filter_le _ _
/-- the sets that have p, less p. -/
def liL (p : Int) (xs : List Int) : List Int := (xs.filter (fun x => hasB x p)).map (fun x => lessI x p)
theorem liL_len (p : Int) (xs : List Int) : (liL p xs).length ≤ xs.length := by unfold liL; rw [List.length_map]; exact List.length_filter_le _ _
theorem woL_yes {p x : Int} {xs : List Int} {k : Nat} (hk : k < xs.length) (hx : xs.getD k 0 = x) (h : hasB x p = false) : woL p (xs.take (k + 1)) = woL p (xs.take k) ++ [x] := filt_yes hk hx _ (by simp [h])
theorem woL_no {p x : Int} {xs : List Int} {k : Nat} (hk : k < xs.length) (hx : xs.getD k 0 = x) (h : hasB x p = true) : woL p (xs.take (k + 1)) = woL p (xs.take k) := filt_no hk hx _ (by simp [h])
theorem liL_yes {p x : Int} {xs : List Int} {k : Nat} (hk : k < xs.length) (hx : xs.getD k 0 = x) (h : hasB x p = true) : liL p (xs.take (k + 1)) = liL p (xs.take k) ++ [lessI x p] := by unfold liL; rw [filt_yes hk hx (fun x => hasB x p) h, List.map_append]; rfl
theorem liL_no {p x : Int} {xs : List Int} {k : Nat} (hk : k < xs.length) (hx : xs.getD k 0 = x) (h : hasB x p = false) : liL p (xs.take (k + 1)) = liL p (xs.take k) := by unfold liL; rw [filt_no hk hx (fun x => hasB x p) h]

end
end Go.Proofs.YtojfamjgghikoaaGreatDoor
