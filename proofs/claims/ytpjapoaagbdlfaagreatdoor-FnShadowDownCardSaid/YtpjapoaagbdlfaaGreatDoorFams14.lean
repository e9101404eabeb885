/- Families: how many sets of each size. -/
import Derived.Test.YtpjapoaagbdlfaaGreatDoorFams13
import Derived.Test.YtpjapoaagbdlfaaGreatDoorAllSp
namespace Go.Proofs.YtpjapoaagbdlfaaGreatDoor
open Go.ChangeShapes Go.WideShapes Go.ChangeAt Go.RowKit Go.Proofs

theorem cnt_fit : ∀ n : Fin 9, ∀ s : Fin 256, s.val < 2 ^ n.val → cntTo s.val 8 ≤ n.val := by decide +kernel
theorem cnt_set {n s : Int} (h : setB n s = true) : ∃ t : Nat, cntI s = t ∧ (t : Int) ≤ n := by
  obtain ⟨n1, n2, h1, h2⟩ := setB_yes h
  have p := pow_le256 n1 n2
  have e2 : ((s.toNat : Nat) : Int) = s := Int.toNat_of_nonneg h1
  have h := cnt_fit ⟨n.toNat, by omega⟩ ⟨s.toNat, by omega⟩ (by
    have : ((s.toNat : Nat) : Int) < ((2 ^ n.toNat : Nat) : Int) := by rw [e2]; simpa using h2
    simpa using Int.ofNat_lt.1 this)
  simp only [e2] at h
  exact ⟨cntTo s 8, rfl, by omega⟩
/-- how many sets of the list have j points. -/
def cntP (xs : List Int) (j : Nat) : Int := ((xs.filter (fun x => cntI x == ((j : Nat) : Int))).length : Nat)
theorem cntP_bd (xs : List Int) (j : Nat) : 0 ≤ cntP xs j ∧ cntP xs j ≤ xs.length := by
  unfold cntP
  have := List.length_filter_le (fun x => cntI x == ((j : Nat) : Int)) xs
  omega
theorem cntP_step {xs : List Int} {k : Nat} {x : Int} {t : Nat} (hk : k < xs.length) (hx : xs.getD k 0 = x) (ht : cntI x = t) (j : Nat) : cntP (xs.take (k + 1)) j = if j = t then cntP (xs.take k) j + 1 else cntP (xs.take k) j := by
  unfold cntP
  by_cases e : j = t
  · subst e
    rw [if_pos rfl, filt_yes hk hx _ (by rw [ht]; simp), List.length_append]; rfl
  · rw [if_neg e, filt_no hk hx _ (by rw [ht]; simp; omega)]
/-- the profile. -/
def profL (N : Nat) (xs : List Int) : List Int := (List.range N).map (fun j => cntP xs j)
theorem profL_len (N : Nat) (xs : List Int) : (profL N xs).length = N := by simp [profL]
theorem own_row {w : World} {b N B S : Nat} {f : Nat → Int} (h : w.rowIs b 3 N (fun j => .int .i64 (f j))) (hB : B ≤ b) (hS : b < S) : Own w B S (.slice (some ⟨b, 0, none⟩) N N) ((List.range N).map f) := by
  have hl : ((List.range N).map f).length = N := by simp
  refine ⟨_, _, by rw [hl], fun _ => ⟨b, 0, rfl, hB, hS, fun i hi => ?_, fun i _ => ?_⟩⟩
  · rw [hl] at hi
    rw [Nat.zero_add, World.rowIs.cell h hi]
    rw [List.getD_eq_getElem?_getD, List.getElem?_map, List.getElem?_range hi]; rfl
  · exact World.rowIs.frozen h _
set_option maxHeartbeats 2000000 in
theorem im_FamilyProfile (n : Int) (lv : Value) (xs : List Int) (S : Nat) (w : World) (hx : Row w S lv xs) (hS : S ≤ w.heap.size) (hl : xs.length ≤ 100000000) :
    Calls Tryz.prog 10 #[.int .i64 n, lv] w (ListPost (ifL (famB n xs) (profL (n.toNat + 1) xs)) (famB n xs) w) := by
  have hr := Lib.hid (read_any n lv xs S w hx hS hl)
  obtain ⟨la, lc, rfl, _⟩ := id hx
  clear hx
  rcases (by cases famB n xs <;> simp : famB n xs = true ∨ famB n xs = false) with hb | hb
  · obtain ⟨n1, n2, hset⟩ := famB_all hb
    have hl2 := famB_len hb
    have hlt := famB_lt hb
    obtain ⟨N, hN⟩ : ∃ N : Nat, n.toNat + 1 = N := ⟨_, rfl⟩
    have hNn : ((N : Nat) : Int) = n + 1 := by omega
    have hmk := fun W => run_make_row' (P := Tryz.prog) 23 3 (.int .i64 0) 8 Tryz.underlying23 Tryz.intInfo rfl .i64 .i64 N (by omega) (by omega) W
    rw [hNn] at hmk
    rw [hb, hN]
    replace hb := Lib.hid hb
    replace hset := Lib.hid hset
    replace hlt := Lib.hid hlt
    replace hNn := Lib.hid hNn
    replace hN := Lib.hid hN
    show Calls Tryz.prog 10 #[.int .i64 n, .slice la xs.length lc] w (ListPost (profL N xs) true w)
    go_enter Tryz.func10, Tryz.ntmps10
    go_wp2_with fail
    refine hr.out.mono ?_
    rintro e w1 (⟨hf, v, rfl, hS1, hb1⟩ | ⟨hf, rfl, hb1⟩)
    · obtain ⟨a', c', rfl⟩ := hS1.form
      have hz1 := hb1.size
      have hrow := hS1.row
      obtain ⟨a2, c2, e2, hcell⟩ := hrow
      injection e2 with e3 e4 e5
      subst e3 e5
      replace hcell := Lib.hid hcell
      replace hf := Lib.hid hf
      have hlt0 : w1.heap.size < w1.heap.size + 1 := by omega
      clear hr hS1
      replace hb1 := Lib.hid hb1
      go_wp2_with fail
      go_loopw [26] (fun q wr => ∃ k : Nat, k ≤ xs.length ∧ q = .int .i64 k ∧ Hid (Below w1.heap.size w1 wr) ∧ Hid (wr.rowIs (w1.heap.size + 1) 3 N (fun j => .int .i64 (cntP (xs.take k) j)))) (fun q _ => xs.length - (intOf q).toNat)
      case atStart =>
        refine ⟨0, by omega, rfl, Lib.hid (((Below.refl _ _).alloc (Nat.le_refl _) _).alloc (by simp) _), Lib.hid ?_⟩
        have := (World.rowIs_made (w1.alloc (.cells #[.slice a' xs.length c', (Value.func (.func 57) #[] #[])] 44)) (.int .i64 0) N 3).congr (g := fun j => .int .i64 (cntP (xs.take 0) j)) (fun i _ => by simp [cntP])
        rw [World.size_alloc] at this
        exact this
      case round =>
        obtain ⟨k, hk, rfl, hbel, hrw⟩ := hrel
        have hz := hbel.out.size
        by_cases hk2 : k < xs.length
        · obtain ⟨b1, o1, rfl, s1, c1⟩ := hcell.out (by omega)
          have k1 : (0 : Int) ≤ (k : Int) := by omega
          have k2 : (k : Int) < (xs.length : Nat) := by omega
          have e1 : wr.cell? ⟨b1, o1 + k, none⟩ = some (.int .u64 (xs.getD k 0)) := (hbel.out.cell (p := ⟨b1, o1 + k, none⟩) s1).trans (c1 k hk2)
          obtain ⟨x, hx0⟩ : ∃ x, xs.getD k 0 = x := ⟨_, rfl⟩
          have hmx : x ∈ xs := by rw [← hx0]; exact getD_mem hk2
          rw [hx0] at e1
          obtain ⟨x1, x2⟩ := hlt.out x hmx
          obtain ⟨t, ht, htn⟩ := cnt_set (hset.out x hmx)
          have hsz := set_size x x1 x2
          rw [ht] at hsz
          have htN : t < N := by have := hNn.out; omega
          have t1 : (0 : Int) ≤ (t : Int) := by omega
          have t2 : (t : Int) < n + 1 := by omega
          have t3 : (t : Int) < (N : Nat) := by omega
          have e2 := World.rowIs.cell hrw.out htN
          have e3 := World.rowIs.frozen hrw.out t
          obtain ⟨c0, hc0⟩ : ∃ c0, cntP (xs.take k) t = c0 := ⟨_, rfl⟩
          have hcb := cntP_bd (xs.take k) t
          rw [hc0] at hcb
          simp only [hc0] at e2
          have cb1 : 0 ≤ c0 := hcb.1
          have cb2 : c0 ≤ 256 := by have := hcb.2; rw [List.length_take] at this; omega
          have hrw' := Lib.hid ((World.rowIs.set hrw.out t (.int .i64 (c0 + 1))).congr (g := fun j => .int .i64 (cntP (xs.take (k + 1)) j)) (fun j hj => by
            simp only [cntP_step hk2 hx0 ht j]
            by_cases e : j = t
            · subst e; rw [if_pos rfl, if_pos rfl, hc0]
            · rw [if_neg e, if_neg e]))
          have hbel' := Lib.hid (below_setCell hbel.out (p := ⟨w1.heap.size + 1, t, none⟩) (by simp) (.int .i64 (c0 + 1)))
          replace hsz := Lib.hid hsz
          clear c1 hrw hbel hcb
          replace hx0 := Lib.hid hx0
          replace hmx := Lib.hid hmx
          replace hc0 := Lib.hid hc0
          replace ht := Lib.hid ht
          go_wp2_with (go_at_call 34; refine (hsz.out _).mono ?_; rintro e w' ⟨rfl, rfl⟩)
          go_roundw
          case rel => exact ⟨k + 1, by omega, by go_num, hbel', hrw'⟩
          case measure => simp [intOf]; omega
        · obtain rfl : k = xs.length := by omega
          have hr2 := hrw.out
          rw [List.take_length] at hr2
          have hO := Lib.hid (own_row (B := w.heap.size) (S := wr.heap.size) hr2 (by omega) (World.rowIs.lt hr2))
          have hbb := Lib.hid (hb1.out.trans (hbel.out.mono hz1))
          clear hrw hr2
          go_wp2_with fail
          go_ret2
          exact ⟨_, rfl, hO.out, hbb.out⟩
    · exact absurd (hb.out.symm.trans hf) (by simp)
  · rw [hb]
    replace hb := Lib.hid hb
    go_enter Tryz.func10, Tryz.ntmps10
    go_wp2_with fail
    refine hr.out.mono ?_
    rintro e w1 (⟨hf, v, rfl, hS1, hb1⟩ | ⟨hf, rfl, hb1⟩)
    · exact absurd (hb.out.symm.trans hf) (by simp)
    · have hz1 := hb1.size
      replace hb1 := Lib.hid hb1
      replace hf := Lib.hid hf
      clear hr
      go_wp2_with fail
      go_ret2
      exact ⟨_, rfl, own_empty _ _ _ _ _, (hb1.out.alloc hz1 _).alloc (by simp; omega) _⟩
end Go.Proofs.YtpjapoaagbdlfaaGreatDoor
