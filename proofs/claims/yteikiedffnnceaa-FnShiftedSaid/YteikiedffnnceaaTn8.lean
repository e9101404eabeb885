/- The program: whether a family stays as it is. -/
import Derived.Test.YteikiedffnnceaaTn7
namespace Go.Proofs.Yteikiedffnnceaa
open Go.ChangeShapes Go.WideShapes Go.ChangeAt Go.RowKit Go.Proofs

theorem anyT_take {φs : List (Int → Int)} {k : Nat} {φ : Int → Int} (h : φs[k]? = some φ) (p : (Int → Int) → Bool) : (φs.take (k + 1)).any p = ((φs.take k).any p || p φ) := by rw [List.take_add_one, h, List.any_append]; simp
/-- what a search leaves. -/
def IdxT (b : Bool) (w : World) (e : Ending) (w' : World) : Prop := ∃ r : Int, e = .returned (.int .i64 r) ∧ decide (0 ≤ r) = b ∧ -1 ≤ r ∧ r ≤ 1000000 ∧ Below w.heap.size w w'
/-- the function value answers p of each turn of the list. -/
def AsksT (n : Int) (g : Nat) (cs : Array Value) (p : (Int → Int) → Bool) (φs : List (Int → Int)) (w : World) : Prop :=
  ∀ (W : World) (u : Value) (φ : Int → Int) (bs : List (Nat × Obj)), φ ∈ φs → TurnV n u φ bs → Has W bs → Below w.heap.size w W → Calls Try.prog g (#[u] ++ cs) W fun e w' => e = .returned (.bool (p φ)) ∧ Below W.heap.size W w'
set_option maxRecDepth 100000 in
set_option maxHeartbeats 1000000 in
theorem index_turns (n : Int) (g : Nat) (eg : EntersG g) (cs : Array Value) (p : (Int → Int) → Bool) (lt : Value) (φs : List (Int → Int)) (w : World) (hT : TRow n w w.heap.size lt φs) (hl : φs.length ≤ 1000) (hp : AsksT n g cs p φs w) :
    Calls Try.prog 42 #[lt, .func (.func g) #[] cs] w (IdxT (φs.any p) w) := by
  have eg1 : ∀ args w, (callFunc g args).run Try.prog w = .ok (.enter g args) w := eg
  obtain ⟨ta, tc, rfl, _⟩ := id hT
  replace hT := Lib.hid hT
  replace hp := Lib.hid hp
  go_enter Try.func42, Try.ntmps42
  go_wp2_with fail
  go_loopw [8] (fun q wr => ∃ k : Nat, k ≤ φs.length ∧ q = .int .i64 k ∧ Hid ((φs.take k).any p = false) ∧ Hid (Below w.heap.size w wr)) (fun q _ => φs.length - (intOf q).toNat)
  case atStart => exact ⟨0, by omega, rfl, Lib.hid rfl, Lib.hid (Below.refl _ _)⟩
  case round =>
    obtain ⟨k, hk, rfl, hn, hb⟩ := hrel
    have hzz := hb.out.size
    by_cases hlt : k < φs.length
    · have k1 : (0 : Int) ≤ (k : Int) := by omega
      have k2 : (k : Int) < (φs.length : Nat) := by omega
      obtain ⟨φ, hφk⟩ : ∃ φ, φs[k]? = some φ := ⟨_, List.getElem?_eq_getElem hlt⟩
      have hmem := List.mem_of_getElem? hφk
      have hTr := hT.out.below hb.out (Nat.le_refl _)
      obtain ⟨a', c', e, hTc⟩ := hTr
      injection e with e1 e2 e3
      subst e1 e3
      obtain ⟨b1, o1, rfl, s1, c1⟩ := hTc (by omega)
      obtain ⟨u, bs, e1, hTV, hH⟩ := c1 k φ hφk
      have hcall := hp.out wr u φ bs hmem hTV hH hb.out
      have hft := anyT_take hφk p
      rw [hn.out, Bool.false_or] at hft
      obtain ⟨g', cs', rfl, _⟩ := hTV
      clear hTc c1 hH
      rcases (by cases p φ <;> simp : p φ = true ∨ p φ = false) with hpx | hpx
      · rw [hpx] at hcall hft
        have hf := Lib.hid (show φs.any p = true from List.any_eq_true.2 ⟨φ, hmem, hpx⟩)
        replace hcall := Lib.hid hcall
        replace hft := Lib.hid hft
        replace hpx := Lib.hid hpx
        replace hφk := Lib.hid hφk
        replace hmem := Lib.hid hmem
        go_wp2_with fail
        refine hcall.out.mono ?_
        rintro e w2 ⟨rfl, hb2⟩
        replace hb2 := Lib.hid (hb.out.trans (hb2.mono (by omega)))
        go_wp2_with fail
        go_ret
        exact ⟨(k : Nat), rfl, by rw [hf.out]; exact decide_eq_true (by omega), by omega, by omega, hb2.out⟩
      · rw [hpx] at hcall hft
        replace hcall := Lib.hid hcall
        replace hft := Lib.hid hft
        replace hpx := Lib.hid hpx
        replace hφk := Lib.hid hφk
        replace hmem := Lib.hid hmem
        go_wp2_with fail
        refine hcall.out.mono ?_
        rintro e w2 ⟨rfl, hb2⟩
        replace hb2 := Lib.hid (hb.out.trans (hb2.mono (by omega)))
        go_wp2_with fail
        go_roundw
        case rel => exact ⟨k + 1, by omega, by go_num, hft, hb2⟩
        case measure => simp [intOf]; omega
    · have hf := Lib.hid (show φs.any p = false by
        have h := hn.out
        rw [List.take_of_length_le (by omega)] at h
        exact h)
      go_wp2_with fail
      go_ret
      exact ⟨-1, rfl, by rw [hf.out]; rfl, by omega, by omega, hb.out⟩
theorem contains_turns (n : Int) (g : Nat) (eg : EntersG g) (cs : Array Value) (p : (Int → Int) → Bool) (lt : Value) (φs : List (Int → Int)) (w : World) (hT : TRow n w w.heap.size lt φs) (hl : φs.length ≤ 1000) (hp : AsksT n g cs p φs w) :
    Calls Try.prog 25 #[lt, .func (.func g) #[] cs] w fun e w' => e = .returned (.bool (φs.any p)) ∧ Below w.heap.size w w' := by
  have h := Lib.hid (index_turns n g eg cs p lt φs w hT hl hp)
  obtain ⟨ta, tc, rfl, _⟩ := id hT
  obtain ⟨b, hb⟩ : ∃ b, φs.any p = b := ⟨_, rfl⟩
  rw [hb] at h ⊢
  replace hb := Lib.hid hb
  clear hp hT
  go_enter Try.func25, Try.ntmps25
  go_wp2_with fail
  refine h.out.mono ?_
  rintro e w2 ⟨r, rfl, hr, r1, r2, hb2⟩
  replace hr := Lib.hid hr
  replace hb2 := Lib.hid hb2
  go_wp2_with fail
  go_ret
  exact ⟨ret_bool hr.out, hb2.out⟩
theorem stays_clo (n : Int) (c : Nat) (lv : Value) (xs : List Int) (φs : List (Int → Int)) (w : World) (hc : w.heap[c]? = some (.cells #[lv, (Value.func (.func 71) #[] #[])] 39 (0, 0))) (hx : SRow w w.heap.size lv xs) (hf : famB n xs = true) (hφ : ∀ φ ∈ φs, SetT n φ) :
    AsksT n 26 #[.pointer (some ⟨c, 0, none⟩)] (fun φ => !sameB (tnL φ xs) xs) φs w := fun W u φ bs hmem hTV hH hb => by
  have hch := changes_at n u φ bs hTV (hφ φ hmem) lv xs W hf hH ((hx.below hb (Nat.le_refl _)).mono hb.size)
  have hclt := (Array.getElem?_eq_some_iff.1 hc).1
  obtain ⟨l0, l1⟩ := fam_cells ((hb.block c hclt).trans hc)
  obtain ⟨g, cs, rfl, _⟩ := hTV
  obtain ⟨a, cap, rfl, _⟩ := id hx
  obtain ⟨b, hbb⟩ : ∃ b, (!sameB (tnL φ xs) xs) = b := ⟨_, rfl⟩
  show Calls Try.prog 26 #[.func (.func g) #[] cs, .pointer (some ⟨c, 0, none⟩)] W fun e w' => e = .returned (.bool (!sameB (tnL φ xs) xs)) ∧ Below W.heap.size W w'
  rw [hbb] at hch ⊢
  replace hch := Lib.hid hch
  replace hbb := Lib.hid hbb
  replace hmem := Lib.hid hmem
  replace hf := Lib.hid hf
  clear hx hb hc hH
  go_enter Try.func26, Try.ntmps26
  go_wp2_with fail
  refine hch.out.mono ?_
  rintro e w2 ⟨rfl, hb2⟩
  replace hb2 := Lib.hid hb2
  go_wp2_with fail
  go_ret
  exact ⟨rfl, hb2.out⟩
/-- no turn changes the family. -/
def staysB (n : Int) (φs : List (Int → Int)) (xs : List Int) : Bool := famB n xs && !φs.any (fun φ => !sameB (tnL φ xs) xs)
set_option maxRecDepth 100000 in
set_option maxHeartbeats 2000000 in
theorem stays_at (n : Int) (g : Nat) (eg : EntersG g) (φs : List (Int → Int)) (hφ : ∀ φ ∈ φs, SetT n φ) (hlen : 1 ≤ n → n ≤ 8 → φs.length ≤ 1000) (hg : ∀ W, 1 ≤ n → n ≤ 8 → Calls Try.prog g #[.int .i64 n] W (TurnsPost n φs W)) (lv : Value) (xs : List Int) (S : Nat) (w : World) (hx : Row w S lv xs) (hS : S ≤ w.heap.size) (hl : xs.length ≤ 100000000) :
    Calls Try.prog 11 #[.int .i64 n, lv, .func (.func g) #[] #[]] w fun e w' => e = .returned (.bool (staysB n φs xs)) ∧ Below w.heap.size w w' := by
  have eg1 : ∀ args w, (callFunc g args).run Try.prog w = .ok (.enter g args) w := eg
  have hr := Lib.hid (read_any n lv xs S w hx hS hl)
  obtain ⟨la, lc, rfl, _⟩ := id hx
  have hmf := mkfunc
  replace hφ := Lib.hid hφ
  replace hlen := Lib.hid hlen
  replace hg := Lib.hid hg
  clear hx
  go_enter Try.func11, Try.ntmps11
  go_wp2_with fail
  refine hr.out.mono ?_
  rintro e w1 (⟨hf, v, rfl, hS1, hb1⟩ | ⟨hf, rfl, hb1⟩)
  · obtain ⟨a', c', rfl⟩ := hS1.form
    have hz1 := hb1.size
    obtain ⟨n1, n2, _⟩ := famB_all hf
    have hst := new_cell w1 #[.slice a' xs.length c', (Value.func (.func 71) #[] #[])] 39
    have hbw0 := (Below.refl w1.heap.size w1).alloc (Nat.le_refl _) (.cells #[.slice a' xs.length c', (Value.func (.func 71) #[] #[])] 39)
    have hrs := hS1.row.below hbw0 (Nat.le_refl _)
    have hbw := hb1.alloc hz1 (.cells #[.slice a' xs.length c', (Value.func (.func 71) #[] #[])] 39)
    obtain ⟨q0, q1⟩ := fam_cells hst
    have hc1 := hg.out (w1.alloc (.cells #[.slice a' xs.length c', (Value.func (.func 71) #[] #[])] 39)) n1 n2
    have hz2 : (w1.alloc (.cells #[.slice a' xs.length c', (Value.func (.func 71) #[] #[])] 39)).heap.size = w1.heap.size + 1 := by simp
    have hle := hlen.out n1 n2
    have hB := Lib.hid (show staysB n φs xs = !φs.any (fun φ => !sameB (tnL φ xs) xs) by unfold staysB; rw [hf, Bool.true_and])
    replace hf := Lib.hid hf
    replace hc1 := Lib.hid hc1
    replace hst := Lib.hid hst
    replace hrs := Lib.hid hrs
    replace hbw := Lib.hid hbw
    replace hz2 := Lib.hid hz2
    clear hS1 hr hb1 hbw0
    go_wp2_with fail
    refine hc1.out.mono ?_
    rintro e w2 ⟨v2, rfl, hT2, hb2⟩
    obtain ⟨a2, c2, rfl, _⟩ := id hT2
    have hz3 := hb2.size
    have hct := Lib.hid (contains_turns n 26 (enters_of Try.func26 (by kernel_rfl) rfl) #[.pointer (some ⟨w1.heap.size, 0, none⟩)] _ _ φs w2 hT2 hle
      (stays_clo n w1.heap.size (.slice a' xs.length c') xs φs w2 ((hb2.block w1.heap.size (by rw [hz2.out]; omega)).trans hst.out) ((hrs.out.below hb2 (by rw [hz2.out]; omega)).mono (by rw [hz2.out] at hz3; omega)) hf.out hφ.out))
    obtain ⟨b, hbb⟩ : ∃ b, φs.any (fun φ => !sameB (tnL φ xs) xs) = b := ⟨_, rfl⟩
    rw [hbb] at hct hB
    replace hbb := Lib.hid hbb
    rw [hz2.out] at hb2 hz3
    replace hb2 := Lib.hid (hbw.out.trans (hb2.mono (by omega)))
    clear hT2
    go_wp2_with fail
    refine hct.out.mono ?_
    rintro e w3 ⟨rfl, hb3⟩
    replace hb3 := Lib.hid (hb2.out.trans (hb3.mono (by omega)))
    go_wp2_with fail
    go_ret
    exact ⟨ret_bool hB.out.symm, hb3.out⟩
  · have hz1 := hb1.size
    have hB := Lib.hid (show false = staysB n φs xs by unfold staysB; rw [hf, Bool.false_and])
    have hbw := hb1.alloc hz1 (.cells #[.slice none 0 0, .nilFunc] 39)
    replace hf := Lib.hid hf
    replace hbw := Lib.hid hbw
    clear hr hb1
    go_wp2_with fail
    go_ret
    exact ⟨ret_bool hB.out, hbw.out⟩
theorem im_ShiftedIn (n : Int) (lv : Value) (xs : List Int) (S : Nat) (w : World) (hx : Row w S lv xs) (hS : S ≤ w.heap.size) (hl : xs.length ≤ 100000000) :
    Calls Try.prog 5 #[.int .i64 n, lv] w fun e w' => e = .returned (.bool (staysB n (shL n) xs)) ∧ Below w.heap.size w w' := by
  have hs := Lib.hid (stays_at n 12 (enters_of Try.func12 (by kernel_rfl) rfl) (shL n) (fun φ hφ => (shL_turns n φ hφ).1) shL_len (fun W h1 h2 => shifts_at n h1 h2 W) lv xs S w hx hS hl)
  obtain ⟨la, lc, rfl, _⟩ := id hx
  clear hx
  go_enter Try.func5, Try.ntmps5
  go_wp2_with fail
  refine hs.out.mono ?_
  rintro e w2 ⟨rfl, hb2⟩
  replace hb2 := Lib.hid hb2
  go_wp2_with fail
  go_ret
  exact ⟨rfl, hb2.out⟩
end Go.Proofs.Yteikiedffnnceaa
