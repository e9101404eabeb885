/- FlowerOf, FlowerFree: the model and the laws. -/
import Derived.Test.YtgkbaenjniapiaaFl5
import Derived.Test.YtgkbaenjniapiaaFl6
import Derived.Test.YtgkbaenjniapiaaFLaws
import Derived.Test.YtgkbaenjniapiaaLawBool
namespace Go.Proofs.Ytgkbaenjniapiaa
open Go.ChangeShapes Go.WideShapes Go.ChangeAt Go.RowKit Go.Proofs

theorem inB_four (k : Int) : inB k 1 4 = flR k := rfl
theorem flo_eq {n : Int} {xs : List Int} {K : Nat} (hf : famB n xs = true) (hk : flR (K : Nat) = true) : srch okB K (xs.drop 0) [] = flO n xs (K : Nat) := by
  unfold flO
  rw [hf, hk, List.drop_zero, Int.toNat_natCast]
  exact (srch_eq K xs [] flow_nil).symm
/-- the model's search from the beginning. -/
theorem sp_search (n : Int) (K : Nat) (lv : Value) (xs : List Int) (S q : Nat) (w : World) (hx : Row w S lv xs) (hS : S ≤ w.heap.size) (hf : famB n xs = true) (hk : flR (K : Nat) = true) :
    Calls Try.prog 42 #[lv, .int .i64 0, .int .i64 (K : Nat), .slice (some ⟨w.heap.size, 0, none⟩) 0 0] ((w.drewN q).alloc (.cells #[] 3)) (FlSp (flO n xs (K : Nat)) w.heap.size ((w.drewN q).alloc (.cells #[] 3))) := by
  obtain ⟨k1, k2⟩ := of_decide_eq_true hk
  have hb := (below_drewN (Below.refl w.heap.size w) q).alloc (Nat.le_refl _) (.cells #[] 3)
  have h := flsp_at K (by omega) K xs [] lv (.slice (some ⟨w.heap.size, 0, none⟩) 0 0) S w.heap.size 0 ((w.drewN q).alloc (.cells #[] 3)) (by simp) (hx.below hb hS) (Nat.le_trans hS hb.size) (OwnL.lit (w.drewN q) (Nat.le_refl _)) hb.size (famB_len hf) (famB_lt hf) (by simp) (Nat.zero_le _)
  rw [flo_eq hf hk] at h
  exact h
set_option maxHeartbeats 4000000 in
theorem sp_FlowerOf (n k : Int) (lv : Value) (xs : List Int) (S : Nat) (w : World) (hx : Row w S lv xs) (hS : S ≤ w.heap.size) (hl : xs.length ≤ 100000000) :
    Calls Try.prog 15 #[.int .i64 n, lv, .int .i64 k] w (FlowPost (flL n xs k) (coreI (flL n xs k)) (flO n xs k).isSome w) := by
  have h1 := sp_FamilyIn n lv xs S w hx (by omega)
  have hin := fun W => l6in k 1 4 W
  rw [inB_four] at hin
  obtain ⟨la, lc, rfl, _⟩ := id hx
  rcases (by cases famB n xs <;> simp : famB n xs = true ∨ famB n xs = false) with hf | hf
  · rw [hf] at h1
    rcases (by cases flR k <;> simp : flR k = true ∨ flR k = false) with hk | hk
    · rw [hk] at hin
      obtain ⟨k1, k2⟩ := of_decide_eq_true hk
      obtain ⟨K, rfl⟩ : ∃ K : Nat, k = (K : Nat) := ⟨k.toNat, by omega⟩
      have hse := fun q => sp_search n K _ xs S q w hx hS hf hk
      obtain ⟨o, ho⟩ : ∃ o, flO n xs (K : Nat) = o := ⟨_, rfl⟩
      rw [ho] at hse
      replace hin := Lib.hid hin
      replace h1 := Lib.hid h1
      cases o with
      | none =>
        have hL : flL n xs (K : Nat) = [] := by unfold flL; rw [ho]; rfl
        have hcb := Lib.hid (show (0 : Int) = coreI (flL n xs (K : Nat)) by rw [hL]; rfl)
        have hbb := Lib.hid (show false = (flO n xs (K : Nat)).isSome by rw [ho]; rfl)
        have hLL := Lib.hid hL.symm
        have hse' : ∀ q, Calls Try.prog 42 #[.slice la xs.length lc, .int .i64 0, .int .i64 (K : Nat), .slice (some ⟨w.heap.size, 0, none⟩) 0 0] ((w.drewN q).alloc (.cells #[] 3)) fun e w' => ∃ v, e = .returned (.tuple #[v, .bool false]) ∧ Own w' w.heap.size w'.heap.size v [] ∧ Below ((w.drewN q).alloc (.cells #[] 3)).heap.size ((w.drewN q).alloc (.cells #[] 3)) w' := hse
        replace hse := Lib.hid hse'
        replace ho := Lib.hid ho
        replace hL := Lib.hid hL
        replace hf := Lib.hid hf
        replace hk := Lib.hid hk
        clear hse' hx
        go_enter Try.func15, Try.ntmps15
        go_wp2_with fail
        refine h1.out.mono ?_
        rintro e w1 ⟨rfl, q, rfl⟩
        have hbq := Lib.hid ((below_drewN (Below.refl w.heap.size w) q).alloc (Nat.le_refl _) (.cells #[] 3))
        go_wp2_with (go_at_call 41; refine (hin.out _).mono ?_; rintro e w' ⟨rfl, rfl⟩)
        refine (hse.out q).mono ?_
        rintro e w2 ⟨v, rfl, hO, hb2⟩
        obtain ⟨a2, c2, rfl, _⟩ := hO
        have hb3 := Lib.hid ((hbq.out.trans (hb2.mono hbq.out.size)).alloc (Nat.le_trans hbq.out.size hb2.size) (.cells #[] 3))
        replace hb2 := Lib.hid hb2
        go_wp2_with fail
        exact bodyPost_ret (v := .tuple #[.slice (some ⟨w2.heap.size, 0, none⟩) 0 0, .int .i64 0, .bool false]) (by simp [results, Try.results15, go_sem]) rfl ⟨_, ret_vcb hcb.out hbb.out, hLL.out ▸ own_empty0 _ _ _ _ _, hb3.out⟩
      | some R =>
        obtain ⟨_, _, _, hlen, hfl, hsub⟩ := flo_some ho
        have hL : flL n xs (K : Nat) = R := by unfold flL; rw [ho]; rfl
        have hRz : ∀ z ∈ R, 0 ≤ z ∧ z < 256 := fun z h => famB_lt hf z (hsub.subset h)
        rw [Int.toNat_natCast] at hlen
        have hR0 : 0 < R.length := by omega
        have i0 : (0 : Int) < (R.length : Nat) := by omega
        have hbb := Lib.hid (show true = (flO n xs (K : Nat)).isSome by rw [ho]; rfl)
        have hLL := Lib.hid hL.symm
        obtain ⟨y, hy⟩ : ∃ y, R.getD 0 0 = y := ⟨_, rfl⟩
        obtain ⟨y1, y2⟩ := hRz y (by rw [← hy]; exact getD_mem hR0)
        have hse' : ∀ q, Calls Try.prog 42 #[.slice la xs.length lc, .int .i64 0, .int .i64 (K : Nat), .slice (some ⟨w.heap.size, 0, none⟩) 0 0] ((w.drewN q).alloc (.cells #[] 3)) fun e w' => ∃ v, e = .returned (.tuple #[v, .bool true]) ∧ Own w' w.heap.size w'.heap.size v R ∧ Below ((w.drewN q).alloc (.cells #[] 3)).heap.size ((w.drewN q).alloc (.cells #[] 3)) w' := hse
        replace hse := Lib.hid hse'
        replace ho := Lib.hid ho
        replace hf := Lib.hid hf
        replace hk := Lib.hid hk
        clear hse' hx hsub
        by_cases h11 : K = 1
        · have hcb := Lib.hid (show y = coreI (flL n xs (K : Nat)) by rw [hL, core_one (by omega), hy])
          have hkb : (((K : Nat) : Int) == 1) = true := by simp [h11]
          have hkq : ((K : Nat) : Int) = 1 := by omega
          replace h11 := Lib.hid h11
          replace hL := Lib.hid hL
          replace hlen := Lib.hid hlen
          replace hRz := Lib.hid hRz
          replace hfl := Lib.hid hfl
          clear hkq
          go_enter Try.func15, Try.ntmps15
          go_wp2_with fail
          refine h1.out.mono ?_
          rintro e w1 ⟨rfl, q, rfl⟩
          have hbq := Lib.hid ((below_drewN (Below.refl w.heap.size w) q).alloc (Nat.le_refl _) (.cells #[] 3))
          go_wp2_with (go_at_call 41; refine (hin.out _).mono ?_; rintro e w' ⟨rfl, rfl⟩)
          refine (hse.out q).mono ?_
          rintro e w2 ⟨v, rfl, hO, hb2⟩
          have hown := Lib.hid hO
          obtain ⟨a2, c2, rfl, hcs⟩ := hO
          obtain ⟨b2, o2, rfl, _, t2, c2', _⟩ := hcs hR0
          have e0 := c2' 0 hR0
          rw [Nat.add_zero, hy] at e0
          have hb3 := Lib.hid (hbq.out.trans (hb2.mono hbq.out.size))
          replace hy := Lib.hid hy
          clear hcs c2' hb2
          go_wp2_with fail
          go_quiet (fail)
          go_wp2_with fail
          exact bodyPost_ret (v := .tuple #[.slice (some ⟨b2, o2, none⟩) R.length c2, .int .i64 y, .bool true]) (by simp [results, Try.results15, go_sem]) rfl ⟨_, ret_vcb hcb.out hbb.out, hLL.out ▸ hown.out.drewN _, below_drewN hb3.out _⟩
        · have h2 : 2 ≤ R.length := by omega
          obtain ⟨z, hz⟩ : ∃ z, R.getD 1 0 = z := ⟨_, rfl⟩
          obtain ⟨z1, z2⟩ := hRz z (by rw [← hz]; exact getD_mem (by omega))
          have hi := i64_andI y1 y2 z1 z2
          obtain ⟨d1, d2⟩ := andI_bd z y1 y2
          have hcb0 : andI y z = coreI (flL n xs (K : Nat)) := by rw [hL, core_two hfl h2, hy, hz]
          obtain ⟨d, hd⟩ : ∃ d, andI y z = d := ⟨_, rfl⟩
          rw [hd] at hi d1 d2 hcb0
          have hcb := Lib.hid hcb0
          have hkb : (((K : Nat) : Int) == 1) = false := beq_eq_false_iff_ne.2 (by omega)
          have hkq : ¬ ((K : Nat) : Int) = 1 := by omega
          have i1 : (1 : Int) < (R.length : Nat) := by omega
          replace hd := Lib.hid hd
          replace hL := Lib.hid hL
          replace hlen := Lib.hid hlen
          replace hRz := Lib.hid hRz
          replace hfl := Lib.hid hfl
          clear hcb0
          go_enter Try.func15, Try.ntmps15
          go_wp2_with fail
          refine h1.out.mono ?_
          rintro e w1 ⟨rfl, q, rfl⟩
          have hbq := Lib.hid ((below_drewN (Below.refl w.heap.size w) q).alloc (Nat.le_refl _) (.cells #[] 3))
          go_wp2_with (go_at_call 41; refine (hin.out _).mono ?_; rintro e w' ⟨rfl, rfl⟩)
          refine (hse.out q).mono ?_
          rintro e w2 ⟨v, rfl, hO, hb2⟩
          have hown := Lib.hid hO
          obtain ⟨a2, c2, rfl, hcs⟩ := hO
          obtain ⟨b2, o2, rfl, _, t2, c2', _⟩ := hcs hR0
          have e0 := c2' 0 hR0
          have e1 := c2' 1 h2
          rw [Nat.add_zero, hy] at e0
          rw [hz] at e1
          have hb3 := Lib.hid (hbq.out.trans (hb2.mono hbq.out.size))
          replace hy := Lib.hid hy
          replace hz := Lib.hid hz
          clear hcs c2' hb2
          go_wp2_with fail
          go_quiet (fail)
          go_wp2_with fail
          exact bodyPost_ret (v := .tuple #[.slice (some ⟨b2, o2, none⟩) R.length c2, .int .i64 d, .bool true]) (by simp [results, Try.results15, go_sem]) rfl ⟨_, ret_vcb hcb.out hbb.out, hLL.out ▸ hown.out.drewN _, below_drewN hb3.out _⟩
    · rw [hk] at hin
      have ho : flO n xs k = none := by unfold flO; rw [hk, Bool.and_false]; rfl
      have hL : flL n xs k = [] := by unfold flL; rw [ho]; rfl
      have hcb := Lib.hid (show (0 : Int) = coreI (flL n xs k) by rw [hL]; rfl)
      have hbb := Lib.hid (show false = (flO n xs k).isSome by rw [ho]; rfl)
      have hLL := Lib.hid hL.symm
      replace hin := Lib.hid hin
      replace h1 := Lib.hid h1
      replace ho := Lib.hid ho
      replace hL := Lib.hid hL
      replace hf := Lib.hid hf
      replace hk := Lib.hid hk
      clear hx
      go_enter Try.func15, Try.ntmps15
      go_wp2_with fail
      refine h1.out.mono ?_
      rintro e w1 ⟨rfl, q, rfl⟩
      have hbq := Lib.hid ((below_drewN (Below.refl w.heap.size w) q).alloc (Nat.le_refl _) (.cells #[] 3))
      go_wp2_with (go_at_call 41; refine (hin.out _).mono ?_; rintro e w' ⟨rfl, rfl⟩)
      exact bodyPost_ret (v := .tuple #[.slice (some ⟨w.heap.size, 0, none⟩) 0 0, .int .i64 0, .bool false]) (by simp [results, Try.results15, go_sem]) rfl ⟨_, ret_vcb hcb.out hbb.out, hLL.out ▸ own_empty0 _ _ _ _ _, hbq.out⟩
  · rw [hf] at h1
    have ho : flO n xs k = none := by unfold flO; rw [hf, Bool.false_and]; rfl
    have hL : flL n xs k = [] := by unfold flL; rw [ho]; rfl
    have hcb := Lib.hid (show (0 : Int) = coreI (flL n xs k) by rw [hL]; rfl)
    have hbb := Lib.hid (show false = (flO n xs k).isSome by rw [ho]; rfl)
    have hLL := Lib.hid hL.symm
    replace hin := Lib.hid hin
    replace h1 := Lib.hid h1
    replace ho := Lib.hid ho
    replace hL := Lib.hid hL
    replace hf := Lib.hid hf
    clear hx
    go_enter Try.func15, Try.ntmps15
    go_wp2_with fail
    refine h1.out.mono ?_
    rintro e w1 ⟨rfl, q, rfl⟩
    have hbq := Lib.hid ((below_drewN (Below.refl w.heap.size w) q).alloc (Nat.le_refl _) (.cells #[] 3))
    go_wp2_with fail
    exact bodyPost_ret (v := .tuple #[.slice (some ⟨w.heap.size, 0, none⟩) 0 0, .int .i64 0, .bool false]) (by simp [results, Try.results15, go_sem]) rfl ⟨_, ret_vcb hcb.out hbb.out, hLL.out ▸ own_empty0 _ _ _ _ _, hbq.out⟩
theorem fll_len (n : Int) (xs : List Int) (k : Int) : (flL n xs k).length ≤ 1000000 := by
  unfold flL
  cases h : flO n xs k with
  | none => simp
  | some R =>
    obtain ⟨_, _, _, h1, _⟩ := flo_some h
    show R.length ≤ _
    omega
end Go.Proofs.Ytgkbaenjniapiaa
