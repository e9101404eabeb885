/- The model's marks and lists of marked sets. -/
import Derived.Test.YtgkbaenjniapiaaSpec1
namespace Go.Proofs.Ytgkbaenjniapiaa
open Go.ChangeShapes Go.WideShapes Go.ChangeAt Go.RowKit Go.Proofs

theorem Try.boolInfo : (Try.prog.info? 4).map (fun i => (i.zero, i.size, i.bytes)) = some (some (.bool false), 1, 1) := by kernel_rfl
/-- block b holds N marks. -/
def MarkRow (w : World) (b N : Nat) (p : Nat → Bool) : Prop := w.rowIs b 4 N (fun j => .bool (p j))
theorem MarkRow.below {w w' : World} {b N B : Nat} {p : Nat → Bool} (h : MarkRow w b N p) (hb : Below B w w') (hB : b < B) : MarkRow w' b N p := World.rowIs.of_block h (hb.block b hB)
theorem MarkRow.drewN {w : World} {b N : Nat} {p : Nat → Bool} (h : MarkRow w b N p) (q : Nat) : MarkRow (w.drewN q) b N p := h
theorem MarkRow.put {w : World} {b N : Nat} {p p' : Nat → Bool} (h : MarkRow w b N p) (i : Nat) (hp : ∀ j, j < N → p' j = if j = i then true else p j) : MarkRow (w.setCell ⟨b, i, none⟩ (.bool true)) b N p' :=
  (World.rowIs.set h i (.bool true)).congr fun j hj => by
    rw [hp j hj]
    by_cases e : j = i
    · rw [if_pos e, if_pos e]
    · rw [if_neg e, if_neg e]
/-- what a function that makes marks leaves. -/
def MarksPost (N : Nat) (p : Nat → Bool) (w : World) (e : Ending) (w' : World) : Prop := ∃ b, e = .returned (.slice (some ⟨b, 0, none⟩) N N) ∧ w.heap.size ≤ b ∧ b < w'.heap.size ∧ MarkRow w' b N p ∧ Below w.heap.size w w'
theorem mem_take {xs : List Int} {k : Nat} {x : Int} (hk : k < xs.length) (hx : xs.getD k 0 = x) (z : Int) : memB z (xs.take (k + 1)) = if z = x then true else memB z (xs.take k) := by
  rw [take_snoc hk, hx]
  unfold memB
  by_cases e : z = x
  · rw [if_pos e]; exact decide_eq_true (by rw [e]; simp)
  · rw [if_neg e]; exact decide_eq_decide.2 (by simp [e])
theorem set_nat {n x : Int} (h : setB n x = true) : ∃ t : Nat, x = t ∧ t < 2 ^ n.toNat := by
  obtain ⟨_, _, c, d⟩ := setB_yes h
  refine ⟨x.toNat, by omega, ?_⟩
  have : ((2 ^ n.toNat : Nat) : Int) = 2 ^ n.toNat := by simp
  omega
theorem pow_nat {n : Int} (n1 : 1 ≤ n) (n2 : n ≤ 8) : (2 ^ n.toNat : Nat) ≤ 256 ∧ 2 ≤ (2 ^ n.toNat : Nat) ∧ wrap64 (2 ^ n.toNat) = ((2 ^ n.toNat : Nat) : Int) := by
  rcases n8 n1 n2 with rfl | rfl | rfl | rfl | rfl | rfl | rfl | rfl <;> decide +kernel
set_option maxHeartbeats 2000000 in
theorem marks_at (n : Int) (lv : Value) (xs : List Int) (S : Nat) (w : World) (hx : Row w S lv xs) (hS : S ≤ w.heap.size) (hl : xs.length ≤ 1073741824) (n1 : 1 ≤ n) (n2 : n ≤ 8) (hall : allB n xs = true) :
    Calls Try.prog 65 #[.int .i64 n, lv] w (MarksPost (2 ^ n.toNat) (fun j => memB (j : Nat) xs) w) := by
  obtain ⟨a, cap, rfl, ha⟩ := hx
  obtain ⟨p1, p2, p3⟩ := pow_nat n1 n2
  have hset := fun (x : Int) (h : setB n x = true) => set_nat h
  obtain ⟨N, hN⟩ : ∃ N : Nat, 2 ^ n.toNat = N := ⟨_, rfl⟩
  have hNi : (2 : Int) ^ n.toNat = (N : Nat) := by rw [← hN]; simp
  rw [hN] at p1 p2 p3 hset ⊢
  have hmk := fun W => run_make_row' (P := Try.prog) 83 4 (.bool false) 1 Try.underlying83 Try.boolInfo rfl .i64 .i64 N (by omega) (by omega) W
  replace ha := Lib.hid ha
  replace hall := Lib.hid hall
  replace hset := Lib.hid hset
  replace hN := Lib.hid hN
  replace hNi := Lib.hid hNi
  have hn0 : (0 : Int) ≤ n := by omega
  have hn64 : n < 64 := by omega
  go_enter Try.func65, Try.ntmps65
  go_wp2_with fail
  go_loopw [6] (fun q wr => ∃ k : Nat, k ≤ xs.length ∧ q = .int .i64 k ∧ Hid (Below w.heap.size w wr) ∧ Hid (MarkRow wr w.heap.size N (fun j => memB (j : Nat) (xs.take k)))) (fun q _ => xs.length - (intOf q).toNat)
  case atStart =>
    refine ⟨0, by omega, rfl, Lib.hid ((Below.refl _ _).alloc (Nat.le_refl _) _), Lib.hid ?_⟩
    exact (World.rowIs_made w (.bool false) N 4).congr (fun i _ => by simp [memB])
  case round =>
    obtain ⟨k, hk, rfl, hbel, hrow⟩ := hrel
    by_cases hlt : k < xs.length
    · obtain ⟨b1, o1, rfl, s1, c1⟩ := ha.out (by omega)
      have k1 : (0 : Int) ≤ (k : Int) := by omega
      have k2 : (k : Int) < (xs.length : Nat) := by omega
      have e1 : wr.cell? ⟨b1, o1 + k, none⟩ = some (.int .i64 (xs.getD k 0)) := (hbel.out.cell (p := ⟨b1, o1 + k, none⟩) (show b1 < w.heap.size by omega)).trans (c1 k hlt)
      obtain ⟨x, hx⟩ : ∃ x, xs.getD k 0 = x := ⟨_, rfl⟩
      obtain ⟨t, rfl, ht⟩ := hset.out x (by rw [← hx]; exact allB_yes hall.out _ (getD_mem hlt))
      rw [hx] at e1
      have t1 : (0 : Int) ≤ (t : Int) := by omega
      have t2 : (t : Int) < (N : Nat) := by omega
      have e2 := World.rowIs.cell hrow.out ht
      have e3 := World.rowIs.frozen hrow.out t
      have hrow' := Lib.hid (hrow.out.put (p' := fun j => memB (j : Nat) (xs.take (k + 1))) t (fun j hj => by
        rw [mem_take hlt hx]
        by_cases e : j = t
        · subst e; simp
        · rw [if_neg e, if_neg (by omega)]))
      have hbel' := Lib.hid (below_setCell hbel.out (p := ⟨w.heap.size, t, none⟩) (Nat.le_refl _) (.bool true))
      clear hx c1 hrow hbel
      go_wp2_with fail
      go_roundw
      case rel => exact ⟨k + 1, by omega, by go_num, hbel', hrow'⟩
      case measure => simp [intOf]; omega
    · obtain rfl : k = xs.length := by omega
      have hr := hrow.out
      rw [List.take_length] at hr
      have hlt3 := World.rowIs.lt hr
      replace hr := Lib.hid hr
      clear hrow
      go_wp2_with fail
      go_ret
      exact ⟨_, rfl, Nat.le_refl _, hlt3, hr.out, hbel.out⟩

theorem own_empty0 (w : World) (B S g c : Nat) : Own w B S (.slice (some ⟨g, 0, none⟩) 0 c) [] := ⟨_, c, rfl, fun h => by simp at h⟩
/-- what a function that returns a list of its own leaves. -/
def IntsPost (L : List Int) (w : World) (e : Ending) (w' : World) : Prop := ∃ v, e = .returned v ∧ OwnL w' w.heap.size v L ∧ Below w.heap.size w w'
theorem OwnL.form {w : World} {B : Nat} {v : Value} {xs : List Int} (h : OwnL w B v xs) : ∃ a c, v = .slice a xs.length c := by
  obtain ⟨a, c, e, _⟩ := h.own
  exact ⟨a, c, e⟩
/-- the marked numbers below m. -/
def mkL (p : Nat → Bool) (m : Nat) : List Int := (upI m).filter (fun z => p z.toNat)
theorem mkL_succ (p : Nat → Bool) (m : Nat) : mkL p (m + 1) = mkL p m ++ (if p m then [(m : Int)] else []) := by unfold mkL; rw [upI_succ, filter_snoc]; rfl
theorem mkL_len (p : Nat → Bool) (m : Nat) : (mkL p m).length ≤ m := by unfold mkL; have := List.length_filter_le (fun z : Int => p z.toNat) (upI m); rw [upI_len] at this; exact this
theorem mkL_asc (p : Nat → Bool) (m : Nat) : Asc (mkL p m) := asc_filter (asc_upI m) _
theorem mem_mkL {p : Nat → Bool} {m : Nat} {z : Int} : z ∈ mkL p m ↔ (0 ≤ z ∧ z < m) ∧ p z.toNat = true := by unfold mkL; rw [List.mem_filter, mem_upI]
set_option maxHeartbeats 2000000 in
theorem list_at (b N : Nat) (p : Nat → Bool) (w : World) (hm : MarkRow w b N p) (hN : N ≤ 256) :
    Calls Try.prog 64 #[.slice (some ⟨b, 0, none⟩) N N] w (IntsPost (mkL p N) w) := by
  have hblt := World.rowIs.lt hm
  replace hm := Lib.hid hm
  go_enter Try.func64, Try.ntmps64
  go_wp2_with fail
  go_loopw [3, 4] (fun v q wr => ∃ k : Nat, k ≤ N ∧ q = .int .i64 k ∧ Hid (OwnL wr w.heap.size v (mkL p k)) ∧ Hid (Below w.heap.size w wr)) (fun _ q _ => N - (intOf q).toNat)
  case atStart => exact ⟨0, by omega, rfl, Lib.hid (OwnL.lit w (Nat.le_refl _)), Lib.hid ((Below.refl _ _).alloc (Nat.le_refl _) _)⟩
  case round =>
    obtain ⟨k, hk, rfl, hown, hbel⟩ := hrel
    obtain ⟨a', c', rfl⟩ := hown.out.form
    have hsz := hbel.out.size
    by_cases hlt : k < N
    · have k1 : (0 : Int) ≤ (k : Int) := by omega
      have k2 : (k : Int) < (N : Nat) := by omega
      have e1 := World.rowIs.cell (hm.out.below hbel.out hblt) hlt
      have hs := mkL_succ p k
      have hlen := Lib.hid (mkL_len p k)
      rcases (by cases p k <;> simp : p k = true ∨ p k = false) with hp | hp
      · rw [hp] at e1 hs
        replace hs := Lib.hid (show mkL p k ++ [(k : Int)] = mkL p (k + 1) from hs.symm)
        replace hp := Lib.hid hp
        obtain ⟨ys, hys⟩ : ∃ ys, mkL p k = ys := ⟨_, rfl⟩
        rw [hys] at hown hlen hs ⊢
        replace hys := Lib.hid hys
        have hB1 : w.heap.size ≤ (wr.alloc (.cells #[.int .i64 (k : Int)] 3)).heap.size := by simp; omega
        have hl1 : ys.length ≤ 1073741824 := by have := hlen.out; omega
        go_wp2_with (at_builtin; refine app_int rfl _ _ rfl w.heap.size _ ys rfl (hown.out.alloc _) (k : Int) wr.heap.size rfl (cell_new _ _ _) hl1 hB1 ?_; intro v' w1 hown1 hb1)
        rw [hs.out] at hown1
        replace hown1 := Lib.hid hown1
        have hb2 := Lib.hid ((hbel.out.alloc hsz _).trans hb1)
        go_roundw
        case rel => exact ⟨k + 1, by omega, by go_num, hown1, hb2⟩
        case measure => simp [intOf]; omega
      · rw [hp] at e1 hs
        replace hs := Lib.hid (show mkL p k = mkL p (k + 1) by rw [hs]; simp)
        replace hp := Lib.hid hp
        have hown1 := hown.out
        rw [hs.out] at hown1
        have hlk : (mkL p k).length = (mkL p (k + 1)).length := by rw [hs.out]
        rw [hlk]
        replace hlk := Lib.hid hlk
        replace hown1 := Lib.hid hown1
        clear hown
        go_wp2_with fail
        go_roundw
        case rel => exact ⟨k + 1, by omega, by go_num, hown1, hbel⟩
        case measure => simp [intOf]; omega
    · obtain rfl : k = N := by omega
      go_wp2_with fail
      go_ret
      exact ⟨_, rfl, hown.out, hbel.out⟩
end Go.Proofs.Ytgkbaenjniapiaa
