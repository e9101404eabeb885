/- Families: how often each point is in a set; the model. -/
import Derived.Test.YtbfdgkeiokeehaaDoorFams4
import Derived.Test.YtbfdgkeiokeehaaDoorSpec1
import Derived.Test.YtbfdgkeiokeehaaDoorIter
import Derived.RegionTactic
namespace Go.Proofs.YtbfdgkeiokeehaaDoor
open Go.ChangeShapes Go.WideShapes Go.ChangeAt Go.RowKit Go.Proofs

theorem filt_yes {xs : List Int} {k : Nat} {x : Int} (hk : k < xs.length) (hx : xs.getD k 0 = x) (p : Int → Bool) (h : p x = true) : (xs.take (k + 1)).filter p = (xs.take k).filter p ++ [x] := by rw [take_snoc hk, hx, List.filter_append, List.filter_cons_of_pos h]; rfl
theorem filt_no {xs : List Int} {k : Nat} {x : Int} (hk : k < xs.length) (hx : xs.getD k 0 = x) (p : Int → Bool) (h : p x = false) : (xs.take (k + 1)).filter p = (xs.take k).filter p := by rw [take_snoc hk, hx, List.filter_append, List.filter_cons_of_neg (by simp [h])]; simp
/-- how many sets of the list have the point j. -/
def dgP (xs : List Int) (j : Nat) : Int := ((xs.filter (fun x => hasB x ((j : Nat) : Int))).length : Nat)
/-- 1 if s has the point j. -/
def hb1 (s : Int) (j : Nat) : Int := if hasB s ((j : Nat) : Int) then 1 else 0
theorem hb1_bd (s : Int) (j : Nat) : 0 ≤ hb1 s j ∧ hb1 s j ≤ 1 := by unfold hb1; split <;> omega
theorem dgP_bd (xs : List Int) (j : Nat) : 0 ≤ dgP xs j ∧ dgP xs j ≤ xs.length := by
  unfold dgP
  have := List.length_filter_le (fun x => hasB x ((j : Nat) : Int)) xs
  omega
theorem dgP_step {xs : List Int} {k : Nat} {x : Int} (hk : k < xs.length) (hx : xs.getD k 0 = x) (j : Nat) : dgP (xs.take (k + 1)) j = dgP (xs.take k) j + hb1 x j := by
  unfold dgP hb1
  rcases (by cases hasB x ((j : Nat) : Int) <;> simp : hasB x ((j : Nat) : Int) = true ∨ hasB x ((j : Nat) : Int) = false) with h | h
  · rw [filt_yes hk hx _ h, List.length_append, h]; rfl
  · rw [filt_no hk hx _ h, h]; simp
/-- how often each point is there. -/
def degL (N : Nat) (xs : List Int) : List Int := (List.range N).map (fun j => dgP xs j)
theorem degL_len (N : Nat) (xs : List Int) : (degL N xs).length = N := by simp [degL]
theorem own_row {w : World} {b N B S : Nat} {f : Nat → Int} (h : w.rowIs b 3 N (fun j => .int .i64 (f j))) (hB : B ≤ b) (hS : b < S) : Own w B S (.slice (some ⟨b, 0, none⟩) N N) ((List.range N).map f) := by
  have hl : ((List.range N).map f).length = N := by simp
  refine ⟨_, _, by rw [hl], fun _ => ⟨b, 0, rfl, hB, hS, fun i hi => ?_, fun i _ => ?_⟩⟩
  · rw [hl] at hi
    rw [Nat.zero_add, World.rowIs.cell h hi]
    rw [List.getD_eq_getElem?_getD, List.getElem?_map, List.getElem?_range hi]; rfl
  · exact World.rowIs.frozen h _
theorem cnt_dec : ∀ s : Fin 256, ∀ j : Fin 8, (((ptsI s.val).count ((j.val : Nat) : Int) : Nat) : Int) = hb1 s.val j.val := by decide +kernel
theorem cnt_pts {s : Int} (h1 : 0 ≤ s) (h2 : s < 256) {j : Nat} (hj : j < 8) : (((ptsI s).count ((j : Nat) : Int) : Nat) : Int) = hb1 s j := by
  have h := cnt_dec ⟨s.toNat, by omega⟩ ⟨j, hj⟩
  have e : ((s.toNat : Nat) : Int) = s := Int.toNat_of_nonneg h1
  simpa only [e] using h

/-- the list where it holds. -/
def ifL (b : Bool) (ys : List Int) : List Int := if b then ys else []
theorem own_empty0 (w : World) (B S g c : Nat) : Own w B S (.slice (some ⟨g, 0, none⟩) 0 c) [] := ⟨_, c, rfl, fun h => by simp at h⟩
/-- what a function that makes a row of numbers leaves. -/
def RowPost (L : List Int) (w : World) (e : Ending) (w' : World) : Prop := ∃ v, e = .returned v ∧ Own w' w.heap.size w'.heap.size v L ∧ Below w.heap.size w w'
set_option maxHeartbeats 4000000 in
theorem degrees_at (n : Int) (lv : Value) (xs : List Int) (S : Nat) (w : World) (hx : Row w S lv xs) (hS : S ≤ w.heap.size) (hf : famB n xs = true) :
    Calls Tryd.prog 9 #[.int .i64 n, lv] w (RowPost (degL n.toNat xs) w) := by
  obtain ⟨a, cap, rfl, ha⟩ := hx
  obtain ⟨n1, n2, hset⟩ := famB_all hf
  have hl2 := famB_len hf
  have hlt := famB_lt hf
  obtain ⟨N, hN⟩ : ∃ N : Nat, n.toNat = N := ⟨_, rfl⟩
  obtain rfl : n = (N : Nat) := by omega
  have hmk := fun W => run_make_row' (P := Tryd.prog) 22 3 (.int .i64 0) 8 Tryd.underlying22 Tryd.intInfo rfl .i64 .i64 N (by omega) (by omega) W
  rw [hN]
  replace ha := Lib.hid ha
  replace hf := Lib.hid hf
  replace hset := Lib.hid hset
  replace hlt := Lib.hid hlt
  clear hN
  go_enter Tryd.func9, Tryd.ntmps9
  go_wp2_with fail
  go_loopw [6] (fun q wr => ∃ k : Nat, k ≤ xs.length ∧ q = .int .i64 k ∧ Hid (Below w.heap.size w wr) ∧ Hid (wr.rowIs w.heap.size 3 N (fun j => .int .i64 (dgP (xs.take k) j)))) (fun q _ => xs.length - (intOf q).toNat)
  case atStart =>
    refine ⟨0, by omega, rfl, Lib.hid ((Below.refl _ _).alloc (Nat.le_refl _) _), Lib.hid ?_⟩
    exact (World.rowIs_made w (.int .i64 0) N 3).congr (fun i _ => by simp [dgP])
  case round =>
    obtain ⟨k, hk, rfl, hbel, hrw⟩ := hrel
    have hz := hbel.out.size
    by_cases hk2 : k < xs.length
    · obtain ⟨b1, o1, rfl, s1, c1⟩ := ha.out (by omega)
      have k1 : (0 : Int) ≤ (k : Int) := by omega
      have k2 : (k : Int) < (xs.length : Nat) := by omega
      obtain ⟨x, hx0⟩ : ∃ x, xs.getD k 0 = x := ⟨_, rfl⟩
      have hmx : x ∈ xs := by rw [← hx0]; exact getD_mem hk2
      have hcx := c1 k hk2
      rw [hx0] at hcx
      obtain ⟨x1, x2⟩ := hlt.out x hmx
      have s1' : b1 < w.heap.size := by omega
      have hrs := Lib.hid (hrw.out.congr (g := fun j => .int .i64 (dgP (xs.take k) j + (if j < 0 then hb1 x j else 0))) (fun j _ => by simp))
      have hstep := Lib.hid (fun j => dgP_step hk2 hx0 j)
      have hcb := Lib.hid (fun j => (dgP_bd (xs.take k) j))
      have htl : (xs.take k).length ≤ 256 := by rw [List.length_take]; omega
      replace hcx := Lib.hid hcx
      clear c1 hrw
      replace hx0 := Lib.hid hx0
      replace hmx := Lib.hid hmx
      go_wp2_with fail
      go_loopw [7] (fun q wr => ∃ m : Nat, m ≤ N ∧ q = .int .i64 m ∧ Hid (Below w.heap.size w wr) ∧ Hid (wr.rowIs w.heap.size 3 N (fun j => .int .i64 (dgP (xs.take k) j + (if j < m then hb1 x j else 0))))) (fun q _ => N - (intOf q).toNat)
      case atStart => exact ⟨0, by omega, rfl, hbel, hrs⟩
      case round =>
        obtain ⟨m, hm, rfl, hbel, hrw⟩ := hrel
        have hz := hbel.out.size
        by_cases hm2 : m < N
        · have m1 : (0 : Int) ≤ (m : Int) := by omega
          have m2 : (m : Int) < (N : Nat) := by omega
          have m7 : (m : Int) ≤ 7 := by omega
          have hs64 : (m : Int) < 64 := by omega
          have e1 := (hbel.out.cell (p := ⟨b1, o1 + k, none⟩) s1').trans hcx.out
          have e2 := World.rowIs.cell hrw.out hm2
          have e3 := World.rowIs.frozen hrw.out m
          have hlm : ¬ m < m := by omega
          simp only [if_neg hlm] at e2
          have hbit := bit_i64 x1 x2 m1 m7
          obtain ⟨c0, hc0⟩ : ∃ c0, dgP (xs.take k) m + 0 = c0 := ⟨_, rfl⟩
          have hb := hcb.out m
          rw [hc0] at e2
          have cb1 : 0 ≤ c0 := by omega
          have cb2 : c0 ≤ 256 := by omega
          obtain ⟨bt, hbt⟩ : ∃ bt, hb1 x m = bt := ⟨_, rfl⟩
          have hbb := hb1_bd x m
          rw [hbt] at hbb
          have bt1 : 0 ≤ bt := hbb.1
          have bt2 : bt ≤ 1 := hbb.2
          rw [show (if hasB x ((m : Nat) : Int) then (1 : Int) else 0) = bt from hbt] at hbit
          simp only [Int.toNat_natCast] at hbit
          have hrw' := Lib.hid ((World.rowIs.set hrw.out m (.int .i64 (c0 + bt))).congr (g := fun j => .int .i64 (dgP (xs.take k) j + (if j < m + 1 then hb1 x j else 0))) (fun j hj => by
            by_cases e : j = m
            · subst e; rw [if_pos rfl, if_pos (by omega), hbt]; congr 1; omega
            · rw [if_neg e]
              by_cases e2 : j < m
              · rw [if_pos e2, if_pos (by omega)]
              · rw [if_neg e2, if_neg (by omega)]))
          have hq : IntKind.i64.wrap (c0 + bt) = c0 + bt := by rw [IntKind.wrap_i64]; omega
          have hbel' := Lib.hid (below_setCell hbel.out.drew (p := ⟨w.heap.size, m, none⟩) (Nat.le_refl _) (.int .i64 (c0 + bt)))
          clear hrw hbel hb hbb
          replace hbt := Lib.hid hbt
          replace hc0 := Lib.hid hc0
          go_wp2_with fail
          go_region
          all_goals
            go_wp2_with fail
            go_roundw
            case rel => exact ⟨m + 1, by omega, by go_num, hbel', hrw'⟩
            case measure => simp [intOf]; omega
        · obtain rfl : m = N := by omega
          have hr3 := Lib.hid (hrw.out.congr (g := fun j => .int .i64 (dgP (xs.take (k + 1)) j)) (fun j hj => by simp only [hstep.out j, if_pos hj]))
          clear hrw
          go_wp2_with fail
          go_roundw
          case rel => exact ⟨k + 1, by omega, by go_num, hbel, hr3⟩
          case measure => simp [intOf]; omega
    · obtain rfl : k = xs.length := by omega
      have hr2 := hrw.out
      rw [List.take_length] at hr2
      have hO := Lib.hid (own_row (B := w.heap.size) (S := wr.heap.size) hr2 (Nat.le_refl _) (World.rowIs.lt hr2))
      clear hrw hr2
      go_wp2_with fail
      go_ret
      exact ⟨_, rfl, hO.out, hbel.out⟩

end Go.Proofs.YtbfdgkeiokeehaaDoor
