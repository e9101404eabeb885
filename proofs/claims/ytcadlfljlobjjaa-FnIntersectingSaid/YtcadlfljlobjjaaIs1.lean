/- Sets with a common point: plain mathematics, the program's method, its search for a set that is missed, the model's function. -/
import Derived.Test.YtcadlfljlobjjaaFams13
import Derived.BigQuiet
namespace Go.Proofs.Ytcadlfljlobjjaa
open Go.ChangeShapes Go.WideShapes Go.ChangeAt Go.RowKit Go.Proofs

/-- two sets have a common point. -/
def meetB (x y : Int) : Bool := andI x y != 0
theorem meet_comm (x y : Int) : meetB x y = meetB y x := by unfold meetB andI; rw [Nat.and_comm]
theorem andI_bd {x : Int} (y : Int) (h1 : 0 ≤ x) (h2 : x < 256) : 0 ≤ andI x y ∧ andI x y < 256 := by
  have h : x.toNat &&& y.toNat ≤ x.toNat := Nat.and_le_left
  unfold andI
  omega
theorem andI_self {x : Int} (h : 0 ≤ x) : andI x x = x := by unfold andI; rw [Nat.and_self]; omega
theorem meet_self {x : Int} (h : 0 ≤ x) : meetB x x = !(x == 0) := by
  unfold meetB; rw [andI_self h]; rfl
theorem meet_zero (y : Int) : meetB 0 y = false := by unfold meetB andI; simp
set_option maxHeartbeats 1000000 in
theorem set_meets (x y : Int) (h1 : 0 ≤ x) (h2 : x < 256) (h3 : 0 ≤ y) (h4 : y < 256) (w : World) : Calls Try.prog 73 #[.int .u64 x, .int .u64 y] w fun e w' => e = .returned (.bool (meetB x y)) ∧ w = w' := by
  have hu := u64_andI h1 h2 h3 h4
  obtain ⟨d1, d2⟩ := andI_bd y h1 h2
  unfold meetB
  obtain ⟨d, hd⟩ : ∃ d, andI x y = d := ⟨_, rfl⟩
  rw [hd] at hu d1 d2 ⊢
  replace hd := Lib.hid hd
  go_enter Try.func73, Try.ntmps73
  go_wp2_with fail
  go_ret
  exact ⟨rfl, rfl⟩
theorem find_at {xs : List Int} {k : Nat} {x : Int} {p : Int → Bool} (hk : k < xs.length) (hx : xs.getD k 0 = x) (hn : (xs.take k).any p = false) (hp : p x = true) : xs.find? p = some x := by
  have h : xs = xs.take k ++ x :: xs.drop (k + 1) := by
    have h2 := List.take_append_drop k xs
    rw [List.drop_eq_getElem_cons hk] at h2
    have hk2 : xs[k] = x := by rw [← hx]; simp [List.getD, hk]
    rw [hk2] at h2
    exact h2.symm
  rw [h, List.find?_append]
  have h3 : (xs.take k).find? p = none := by
    rw [List.find?_eq_none]
    intro z hz hpz
    have := List.any_eq_true.2 ⟨z, hz, hpz⟩
    rw [hn] at this; cases this
  rw [h3, List.find?_cons_of_pos hp]; rfl
theorem all_take {xs : List Int} {k : Nat} {x : Int} (hk : k < xs.length) (hx : xs.getD k 0 = x) (p : Int → Bool) : (xs.take (k + 1)).all p = ((xs.take k).all p && p x) := by
  rw [take_snoc hk, hx, List.all_append]; simp
theorem all_not {xs : List Int} {p : Int → Bool} (h : xs.all p = true) : xs.any (fun x => !p x) = false := by
  rw [List.any_eq_false]
  intro x hx
  simp [List.all_eq_true.1 h x hx]
/-- the first set with which s has no common point. -/
def missL (s : Int) (xs : List Int) : Option Int := xs.find? (fun x => !meetB s x)
theorem miss_none {s : Int} {xs : List Int} : missL s xs = none ↔ xs.all (meetB s) = true := by
  unfold missL
  rw [List.find?_eq_none, List.all_eq_true]
  simp
theorem miss_some {s x : Int} {xs : List Int} (h : missL s xs = some x) : x ∈ xs ∧ meetB s x = false ∧ xs.all (meetB s) = false := by
  have h1 := List.mem_of_find?_eq_some h
  have h2 := List.find?_some h
  have h3 : meetB s x = false := by simpa using h2
  refine ⟨h1, h3, ?_⟩
  rw [List.all_eq_false]
  exact ⟨x, h1, by rw [h3]; simp⟩
/-- the error of a set that is missed. -/
def errV : Option Int → Value
  | none => .nilIface
  | some x => .iface 88 (.agg #[.int .u64 x])
set_option maxHeartbeats 1000000 in
theorem meeting_at (s : Int) (lv : Value) (xs : List Int) (S : Nat) (w : World) (hx : SRow w S lv xs) (hl : xs.length ≤ 100000) (s1 : 0 ≤ s) (s2 : s < 256) (hz : ∀ z ∈ xs, 0 ≤ z ∧ z < 256) :
    Calls Try.prog 62 #[.int .u64 s, lv] w fun e w' => e = .returned (errV (missL s xs)) ∧ w = w' := by
  obtain ⟨a, cap, rfl, ha⟩ := hx
  replace ha := Lib.hid ha
  replace hz := Lib.hid hz
  go_enter Try.func62, Try.ntmps62
  go_wp2_with fail
  go_loopw [9] (fun q wr => ∃ k : Nat, k ≤ xs.length ∧ q = .int .i64 k ∧ Hid ((xs.take k).all (meetB s) = true) ∧ wr = w) (fun q _ => xs.length - (intOf q).toNat)
  case atStart => exact ⟨0, by omega, rfl, Lib.hid rfl, rfl⟩
  case round =>
    obtain ⟨k, hk, rfl, hn, rfl⟩ := hrel
    by_cases hlt : k < xs.length
    · obtain ⟨b1, o1, rfl, t1, c1⟩ := ha.out (by omega)
      have k1 : (0 : Int) ≤ (k : Int) := by omega
      have k2 : (k : Int) < (xs.length : Nat) := by omega
      have e1 := c1 k hlt
      obtain ⟨x, hx⟩ : ∃ x, xs.getD k 0 = x := ⟨_, rfl⟩
      have hmem : x ∈ xs := by rw [← hx]; exact getD_mem hlt
      obtain ⟨x1, x2⟩ := hz.out x hmem
      have hft := all_take hlt hx (meetB s)
      rw [hx] at e1
      rw [hn.out, Bool.true_and] at hft
      have hm := fun W => set_meets s x s1 s2 x1 x2 W
      rcases (by cases meetB s x <;> simp : meetB s x = true ∨ meetB s x = false) with hpx | hpx
      · rw [hpx] at hm hft
        replace hm := Lib.hid hm
        replace hft := Lib.hid hft
        replace hpx := Lib.hid hpx
        replace hx := Lib.hid hx
        replace hmem := Lib.hid hmem
        clear c1
        go_wp2_with (go_at_call 73; refine (hm.out _).mono ?_; rintro e w' ⟨rfl, rfl⟩)
        go_roundw
        case rel => exact ⟨k + 1, by omega, by go_num, hft, by first | trivial | rfl⟩
        case measure => simp [intOf]; omega
      · have hf := Lib.hid (show missL s xs = some x from find_at hlt hx (all_not hn.out) (by rw [hpx]; rfl))
        rw [hpx] at hm hft
        replace hm := Lib.hid hm
        replace hft := Lib.hid hft
        replace hpx := Lib.hid hpx
        replace hx := Lib.hid hx
        replace hmem := Lib.hid hmem
        clear c1
        go_wp2_with (go_at_call 73; refine (hm.out _).mono ?_; rintro e w' ⟨rfl, rfl⟩)
        go_ret
        exact ⟨by rw [hf.out]; rfl, rfl⟩
    · have hf := Lib.hid (show missL s xs = none from miss_none.2 (by
        have h := hn.out
        rw [List.take_of_length_le (by omega)] at h
        exact h))
      go_wp2_with fail
      go_ret
      exact ⟨by rw [hf.out]; rfl, rfl⟩
/-- all sets of two lists meet. -/
def crossB (xs zs : List Int) : Bool := xs.all (fun s => zs.all (meetB s))
/-- what 'crossing' leaves. -/
def CrossPost (b : Bool) (w : World) (e : Ending) (w' : World) : Prop := (∃ o : Option Int, e = .returned (errV o) ∧ o.isNone = b) ∧ Below w.heap.size w w'
set_option maxHeartbeats 2000000 in
theorem crossing_at (lv lu : Value) (xs zs : List Int) (S : Nat) (w : World) (hx : SRow w S lv xs) (hy : SRow w S lu zs) (hS : S ≤ w.heap.size) (hl : xs.length ≤ 100000) (hl2 : zs.length ≤ 100000)
    (hz : ∀ z ∈ xs, 0 ≤ z ∧ z < 256) (hz2 : ∀ z ∈ zs, 0 ≤ z ∧ z < 256) :
    Calls Try.prog 46 #[.agg #[lv, (Value.func (.func 68) #[] #[])], .agg #[lu, (Value.func (.func 68) #[] #[])]] w (CrossPost (crossB xs zs) w) := by
  obtain ⟨a, cap, rfl, ha⟩ := id hx
  obtain ⟨b, cb, rfl, _⟩ := id hy
  obtain ⟨W2, hW2⟩ : ∃ W2, (w.alloc (.cells #[.slice a xs.length cap, (Value.func (.func 68) #[] #[])] 36)).alloc (.cells #[.slice b zs.length cb, (Value.func (.func 68) #[] #[])] 36) = W2 := ⟨_, rfl⟩
  have hbw := ((Below.refl w.heap.size w).alloc (Nat.le_refl _) (.cells #[.slice a xs.length cap, (Value.func (.func 68) #[] #[])] 36)).alloc (by simp) (.cells #[.slice b zs.length cb, (Value.func (.func 68) #[] #[])] 36)
  have hn1 := new_cell2 w #[.slice a xs.length cap, (Value.func (.func 68) #[] #[])] 36 (.cells #[.slice b zs.length cb, (Value.func (.func 68) #[] #[])] 36)
  have hn2 := new_cell1 w #[.slice b zs.length cb, (Value.func (.func 68) #[] #[])] 36 (.cells #[.slice a xs.length cap, (Value.func (.func 68) #[] #[])] 36)
  have hs2 : W2.heap.size = w.heap.size + 2 := by rw [← hW2]; simp
  rw [hW2] at hbw hn1 hn2
  obtain ⟨l0, l1⟩ := pair_cells hn1 (Below.refl (w.heap.size + 2) W2) (by omega)
  obtain ⟨m0, m1⟩ := pair_cells hn2 (Below.refl (w.heap.size + 2) W2) (by omega)
  have hmee := Lib.hid (fun s (h1 : 0 ≤ s) (h2 : s < 256) => meeting_at s _ zs S W2 (hy.below hbw hS) hl2 h1 h2 hz2)
  replace ha := Lib.hid ha
  replace hz := Lib.hid hz
  replace hz2 := Lib.hid hz2
  replace hbw := Lib.hid hbw
  replace hW2 := Lib.hid hW2
  clear hx hy hn1 hn2
  go_enter Try.func46, Try.ntmps46
  go_wp2_with fail
  rw [hW2.out]
  go_loopw [11] (fun q wr => ∃ k : Nat, k ≤ xs.length ∧ q = .int .i64 k ∧ Hid ((xs.take k).all (fun s => zs.all (meetB s)) = true) ∧ wr = W2) (fun q _ => xs.length - (intOf q).toNat)
  case atStart => exact ⟨0, by omega, rfl, Lib.hid rfl, rfl⟩
  case round =>
    obtain ⟨k, hk, rfl, hn, rfl⟩ := hrel
    by_cases hlt : k < xs.length
    · obtain ⟨b1, o1, rfl, t1, c1⟩ := ha.out (by omega)
      have k1 : (0 : Int) ≤ (k : Int) := by omega
      have k2 : (k : Int) < (xs.length : Nat) := by omega
      have e1 : wr.cell? ⟨b1, o1 + k, none⟩ = some (.int .u64 (xs.getD k 0)) := by
        rw [hbw.out.cell (p := ⟨b1, o1 + k, none⟩) (show b1 < w.heap.size by omega)]
        exact c1 k hlt
      obtain ⟨x, hx⟩ : ∃ x, xs.getD k 0 = x := ⟨_, rfl⟩
      have hmem : x ∈ xs := by rw [← hx]; exact getD_mem hlt
      obtain ⟨x1, x2⟩ := hz.out x hmem
      have hft := all_take hlt hx (fun s => zs.all (meetB s))
      rw [hx] at e1
      rw [hn.out, Bool.true_and] at hft
      have hm := hmee.out x x1 x2
      obtain ⟨o, ho⟩ : ∃ o, missL x zs = o := ⟨_, rfl⟩
      rw [ho] at hm
      cases o with
      | none =>
        have hall := miss_none.1 ho
        rw [hall] at hft
        replace hm := Lib.hid hm
        replace hft := Lib.hid hft
        replace ho := Lib.hid ho
        replace hx := Lib.hid hx
        replace hmem := Lib.hid hmem
        replace hall := Lib.hid hall
        clear c1
        go_wp2_with fail
        refine hm.out.mono ?_
        rintro e w' ⟨rfl, rfl⟩
        rw [show errV none = .nilIface from rfl]
        go_wp2_with fail
        go_roundw
        case rel => exact ⟨k + 1, by omega, by go_num, hft, by first | trivial | rfl⟩
        case measure => simp [intOf]; omega
      | some x0 =>
        have hf := Lib.hid (show (some x0 : Option Int).isNone = crossB xs zs by
          have : crossB xs zs = false := by
            unfold crossB
            rw [List.all_eq_false]
            exact ⟨x, hmem, by rw [(miss_some ho).2.2]; simp⟩
          rw [this]; rfl)
        replace hm := Lib.hid hm
        replace hft := Lib.hid hft
        replace ho := Lib.hid ho
        replace hx := Lib.hid hx
        replace hmem := Lib.hid hmem
        clear c1
        go_wp2_with fail
        refine hm.out.mono ?_
        rintro e w' ⟨rfl, rfl⟩
        rw [show errV (some x0) = .iface 88 (.agg #[.int .u64 x0]) from rfl]
        go_wp2_with fail
        go_ret
        exact ⟨⟨some x0, rfl, hf.out⟩, hbw.out⟩
    · have hf := Lib.hid (show (none : Option Int).isNone = crossB xs zs by
        have h := hn.out
        rw [List.take_of_length_le (by omega)] at h
        exact h.symm)
      go_wp2_with fail
      go_ret
      exact ⟨⟨none, rfl, hf.out⟩, hbw.out⟩
set_option maxHeartbeats 2000000 in
theorem sp_meets (lv lu : Value) (xs zs : List Int) (S : Nat) (w : World) (hx : Row w S lv xs) (hy : Row w S lu zs) (hl : xs.length ≤ 100000000) (hl2 : zs.length ≤ 100000000) (hz : ∀ z ∈ xs, 0 ≤ z ∧ z < 256) (hz2 : ∀ z ∈ zs, 0 ≤ z ∧ z < 256) :
    Calls Try.prog 28 #[lv, lu] w fun e w' => e = .returned (.bool (crossB xs zs)) ∧ ∃ q, w' = w.drewN q := by
  obtain ⟨a, cap, rfl, ha⟩ := id hx
  obtain ⟨b, cb, rfl, hb0⟩ := id hy
  replace ha := Lib.hid ha
  replace hb0 := Lib.hid hb0
  replace hz := Lib.hid hz
  replace hz2 := Lib.hid hz2
  clear hx hy
  go_enter Try.func28, Try.ntmps28
  go_wp2_with fail
  go_loopw [5] (fun s wr => ∃ k : Nat, k ≤ xs.length ∧ s = .int .i64 k ∧ Hid ((xs.take k).all (fun s => zs.all (meetB s)) = true) ∧ Hid (∃ q, wr = w.drewN q)) (fun s _ => xs.length - (intOf s).toNat)
  case atStart => exact ⟨0, by omega, rfl, Lib.hid rfl, Lib.hid ⟨0, rfl⟩⟩
  case round =>
    obtain ⟨k, hk, rfl, hn, hw⟩ := hrel
    by_cases hlt : k < xs.length
    · obtain ⟨b1, o1, rfl, t1, c1⟩ := ha.out (by omega)
      have k1 : (0 : Int) ≤ (k : Int) := by omega
      have k2 : (k : Int) < (xs.length : Nat) := by omega
      obtain ⟨x, hx0⟩ : ∃ x, xs.getD k 0 = x := ⟨_, rfl⟩
      obtain ⟨z1, z2⟩ := hz.out x (by rw [← hx0]; exact getD_mem hlt)
      have hst := all_take hlt hx0 (fun s => zs.all (meetB s))
      rw [hn.out, Bool.true_and] at hst
      replace c1 := Lib.hid c1
      have hmx := Lib.hid (show x ∈ xs by rw [← hx0]; exact getD_mem hlt)
      replace hx0 := Lib.hid hx0
      replace hst := Lib.hid hst
      go_wp2_with fail
      go_loopw [6] (fun j wq => ∃ m : Nat, m ≤ zs.length ∧ j = .int .i64 m ∧ Hid ((zs.take m).all (meetB x) = true) ∧ Hid (∃ q, wq = w.drewN q)) (fun j _ => zs.length - (intOf j).toNat)
      case atStart => exact ⟨0, by omega, rfl, Lib.hid rfl, hw⟩
      case round =>
        obtain ⟨m, hm, rfl, hc, hw⟩ := hrel
        by_cases hlm : m < zs.length
        · obtain ⟨b2, o2, rfl, t2, c2⟩ := hb0.out (by omega)
          have m1 : (0 : Int) ≤ (m : Int) := by omega
          have m2 : (m : Int) < (zs.length : Nat) := by omega
          have hwd : ∀ p, Hid (∃ q, wr.drewN p = w.drewN q) := fun p => by
            obtain ⟨q, h⟩ := hw.out
            exact Lib.hid ⟨q + p, by rw [h]; exact World.drewN_drewN _ _ _⟩
          have e1 : wr.cell? ⟨b1, o1 + k, none⟩ = some (.int .i64 x) := by
            obtain ⟨q, h⟩ := hw.out
            rw [h, ← hx0.out]; exact c1.out k hlt
          obtain ⟨z, hz0⟩ : ∃ z, zs.getD m 0 = z := ⟨_, rfl⟩
          have e2 : wr.cell? ⟨b2, o2 + m, none⟩ = some (.int .i64 z) := by
            obtain ⟨q, h⟩ := hw.out
            rw [h, ← hz0]; exact c2 m hlm
          have hmz : z ∈ zs := by rw [← hz0]; exact getD_mem hlm
          obtain ⟨u1, u2⟩ := hz2.out z hmz
          have hft := all_take hlm hz0 (meetB x)
          rw [hc.out, Bool.true_and] at hft
          have hi := i64_andI z1 z2 u1 u2
          obtain ⟨d1, d2⟩ := andI_bd z z1 z2
          have hmd : meetB x z = (andI x z != 0) := rfl
          obtain ⟨d, hd⟩ : ∃ d, andI x z = d := ⟨_, rfl⟩
          rw [hd] at hi d1 d2 hmd
          replace hz0 := Lib.hid hz0
          replace hd := Lib.hid hd
          clear c2 hw
          by_cases h0 : d = 0
          · subst h0
            have hB := Lib.hid (show false = crossB xs zs by
              have : crossB xs zs = false := by
                unfold crossB
                rw [List.all_eq_false]
                refine ⟨x, hmx.out, ?_⟩
                have : zs.all (meetB x) = false := by
                  rw [List.all_eq_false]
                  exact ⟨z, hmz, by rw [hmd]; simp⟩
                rw [this]; simp
              rw [this])
            replace hmz := Lib.hid hmz
            replace hmd := Lib.hid hmd
            replace hft := Lib.hid hft
            go_wp2_with fail
            go_quiet (fail)
            go_wp2_with fail
            go_ret
            exact ⟨ret_bool hB.out, (hwd _).out⟩
          · have hd0 : (d == 0) = false := by simp [h0]
            rw [hmd, show (d != 0) = true by simp [h0]] at hft
            replace hmz := Lib.hid hmz
            replace hmd := Lib.hid hmd
            replace hft := Lib.hid hft
            go_wp2_with fail
            go_quiet (fail)
            go_wp2_with fail
            go_roundw
            case rel => exact ⟨m + 1, by omega, by go_num, hft, hwd _⟩
            case measure => simp [intOf]; omega
        · have hq := hc.out
          rw [List.take_of_length_le (by omega)] at hq
          have hst2 := hst.out
          rw [hq] at hst2
          clear hst hc
          replace hq := Lib.hid hq
          replace hst2 := Lib.hid hst2
          go_wp2_with fail
          go_roundw
          case rel => exact ⟨k + 1, by omega, by go_num, hst2, hw⟩
          case measure => simp [intOf]; omega
    · have hB := Lib.hid (show true = crossB xs zs by
        have h := hn.out
        rw [List.take_of_length_le (by omega)] at h
        exact h.symm)
      go_wp2_with fail
      go_ret
      exact ⟨ret_bool hB.out, hw.out⟩
end Go.Proofs.Ytcadlfljlobjjaa
