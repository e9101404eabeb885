/- FlowerOf, FlowerFree: the model and the laws. -/
import Derived.Test.YtfcegnnajpflmaaFl5
import Derived.Test.YtfcegnnajpflmaaFl6
import Derived.Test.YtfcegnnajpflmaaFLaws
import Derived.Test.YtfcegnnajpflmaaLawBool
namespace Go.Proofs.Ytfcegnnajpflmaa
open Go.ChangeShapes Go.WideShapes Go.ChangeAt Go.RowKit Go.Proofs

theorem inB_four (k : Int) : inB k 1 4 = flR k := rfl
theorem flo_eq {n : Int} {xs : List Int} {K : Nat} (hf : famB n xs = true) (hk : flR (K : Nat) = true) : srch okB K (xs.drop 0) [] = flO n xs (K : Nat) := by
  unfold flO
  rw [hf, hk, List.drop_zero, Int.toNat_natCast]
  exact (srch_eq K xs [] flow_nil).symm
/-- the model's search from the beginning. -/
theorem sp_search (n : Int) (K : Nat) (lv : Value) (xs : List Int) (S q : Nat) (w : World) (hx : Row w S lv xs) (hS : S ≤ w.heap.size) (hf : famB n xs = true) (hk : flR (K : Nat) = true) :
    Calls Try.prog 63 #[lv, .int .i64 0, .int .i64 (K : Nat), .slice (some ⟨w.heap.size, 0, none⟩) 0 0] ((w.drewN q).alloc (.cells #[] 3)) (FlSp (flO n xs (K : Nat)) w.heap.size ((w.drewN q).alloc (.cells #[] 3))) := by
  obtain ⟨k1, k2⟩ := of_decide_eq_true hk
  have hb := (below_drewN (Below.refl w.heap.size w) q).alloc (Nat.le_refl _) (.cells #[] 3)
  have h := flsp_at K (by omega) K xs [] lv (.slice (some ⟨w.heap.size, 0, none⟩) 0 0) S w.heap.size 0 ((w.drewN q).alloc (.cells #[] 3)) (by simp) (hx.below hb hS) (Nat.le_trans hS hb.size) (OwnL.lit (w.drewN q) (Nat.le_refl _)) hb.size (famB_len hf) (famB_lt hf) (by simp) (Nat.zero_le _)
  rw [flo_eq hf hk] at h
  exact h
set_option maxHeartbeats 4000000 in
theorem sp_FlowerOf (n k : Int) (lv : Value) (xs : List Int) (S : Nat) (w : World) (hx : Row w S lv xs) (hS : S ≤ w.heap.size) (hl : xs.length ≤ 100000000) :
    Calls Try.prog 30 #[.int .i64 n, lv, .int .i64 k] w (FlowPost (flL n xs k) (coreI (flL n xs k)) (flO n xs k).isSome w) := by
  have h1 := sp_FamilyIn n lv xs S w hx (by omega)
  have hin := fun W => l6in k 1 4 W
  rw [inB_four] at hin
  obtain ⟨la, lc, rfl, _⟩ := id hx
  rcases (by cases famB n xs <;> simp : famB n xs = true ∨ famB n xs = false) with hf | hf
  · rw [hf] at h1
    rcases (by cases flR k <;> simp : flR k = true ∨ flR k = false) with hk | hk
    · rw [hk] at hin
      obtain ⟨k1, k2⟩ := of_decide_eq_true hk
      obtain ⟨K, rfl⟩ : ∃ K : Nat, k = (K : Nat) := ⟨k.toNat, by omega⟩
      have hse := fun q => sp_search n K _ xs S q w hx hS hf hk
      obtain ⟨o, ho⟩ : ∃ o, flO n xs (K : Nat) = o := ⟨_, rfl⟩
      rw [ho] at hse
      replace hin := Lib.hid hin
      replace h1 := Lib.hid h1
      cases o with
      | none =>
        have hL : flL n xs (K : Nat) = [] := by unfold flL; rw [ho]; rfl
        have hcb := Lib.hid (show (0 : Int) = coreI (flL n xs (K : Nat)) by rw [hL]; rfl)
        have hbb := Lib.hid (show false = (flO n xs (K : Nat)).isSome by rw [ho]; rfl)
        have hLL := Lib.hid hL.symm
        have hse' : ∀ q, Calls Try.prog 63 #[.slice la xs.length lc, .int .i64 0, .int .i64 (K : Nat), .slice (some ⟨w.heap.size, 0, none⟩) 0 0] ((w.drewN q).alloc (.cells #[] 3)) fun e w' => ∃ v, e = .returned (.tuple #[v, .bool false]) ∧ Own w' w.heap.size w'.heap.size v [] ∧ Below ((w.drewN q).alloc (.cells #[] 3)).heap.size ((w.drewN q).alloc (.cells #[] 3)) w' := hse
        replace hse := Lib.hid hse'
        replace ho := Lib.hid ho
        replace hL := Lib.hid hL
        replace hf := Lib.hid hf
        replace hk := Lib.hid hk
        clear hse' hx
        go_enter Try.func30, Try.ntmps30
        go_wp2_with fail
        refine h1.out.mono ?_
        rintro e w1 ⟨rfl, q, rfl⟩
        have hbq := Lib.hid ((below_drewN (Below.refl w.heap.size w) q).alloc (Nat.le_refl _) (.cells #[] 3))
        go_wp2_with (go_at_call 48; refine (hin.out _).mono ?_; rintro e w' ⟨rfl, rfl⟩)
        refine (hse.out q).mono ?_
        rintro e w2 ⟨v, rfl, hO, hb2⟩
        obtain ⟨a2, c2, rfl, _⟩ := hO
        have hb3 := Lib.hid ((hbq.out.trans (hb2.mono hbq.out.size)).alloc (Nat.le_trans hbq.out.size hb2.size) (.cells #[] 3))
        replace hb2 := Lib.hid hb2
        go_wp2_with fail
        exact bodyPost_ret (v := .tuple #[.slice (some ⟨w2.heap.size, 0, none⟩) 0 0, .int .i64 0, .bool false]) (by simp [results, Try.results30, go_sem]) rfl ⟨_, ret_vcb hcb.out hbb.out, hLL.out ▸ own_empty0 _ _ _ _ _, hb3.out⟩
      | some R =>
        obtain ⟨_, _, _, hlen, hfl, hsub⟩ := flo_some ho
        have hL : flL n xs (K : Nat) = R := by unfold flL; rw [ho]; rfl
        have hRz : ∀ z ∈ R, 0 ≤ z ∧ z < 256 := fun z h => famB_lt hf z (hsub.subset h)
        rw [Int.toNat_natCast] at hlen
        have hR0 : 0 < R.length := by omega
        have i0 : (0 : Int) < (R.length : Nat) := by omega
        have hbb := Lib.hid (show true = (flO n xs (K : Nat)).isSome by rw [ho]; rfl)
        have hLL := Lib.hid hL.symm
        obtain ⟨y, hy⟩ : ∃ y, R.getD 0 0 = y := ⟨_, rfl⟩
        obtain ⟨y1, y2⟩ := hRz y (by rw [← hy]; exact getD_mem hR0)
        have hse' : ∀ q, Calls Try.prog 63 #[.slice la xs.length lc, .int .i64 0, .int .i64 (K : Nat), .slice (some ⟨w.heap.size, 0, none⟩) 0 0] ((w.drewN q).alloc (.cells #[] 3)) fun e w' => ∃ v, e = .returned (.tuple #[v, .bool true]) ∧ Own w' w.heap.size w'.heap.size v R ∧ Below ((w.drewN q).alloc (.cells #[] 3)).heap.size ((w.drewN q).alloc (.cells #[] 3)) w' := hse
        replace hse := Lib.hid hse'
        replace ho := Lib.hid ho
        replace hf := Lib.hid hf
        replace hk := Lib.hid hk
        clear hse' hx hsub
        by_cases h11 : K = 1
        · have hcb := Lib.hid (show y = coreI (flL n xs (K : Nat)) by rw [hL, core_one (by omega), hy])
          have hkb : (((K : Nat) : Int) == 1) = true := by simp [h11]
          have hkq : ((K : Nat) : Int) = 1 := by omega
          replace h11 := Lib.hid h11
          replace hL := Lib.hid hL
          replace hlen := Lib.hid hlen
          replace hRz := Lib.hid hRz
          replace hfl := Lib.hid hfl
          clear hkq
          go_enter Try.func30, Try.ntmps30
          go_wp2_with fail
          refine h1.out.mono ?_
          rintro e w1 ⟨rfl, q, rfl⟩
          have hbq := Lib.hid ((below_drewN (Below.refl w.heap.size w) q).alloc (Nat.le_refl _) (.cells #[] 3))
          go_wp2_with (go_at_call 48; refine (hin.out _).mono ?_; rintro e w' ⟨rfl, rfl⟩)
          refine (hse.out q).mono ?_
          rintro e w2 ⟨v, rfl, hO, hb2⟩
          have hown := Lib.hid hO
          obtain ⟨a2, c2, rfl, hcs⟩ := hO
          obtain ⟨b2, o2, rfl, _, t2, c2', _⟩ := hcs hR0
          have e0 := c2' 0 hR0
          rw [Nat.add_zero, hy] at e0
          have hb3 := Lib.hid (hbq.out.trans (hb2.mono hbq.out.size))
          replace hy := Lib.hid hy
          clear hcs c2' hb2
          go_wp2_with fail
          go_quiet (fail)
          go_wp2_with fail
          exact bodyPost_ret (v := .tuple #[.slice (some ⟨b2, o2, none⟩) R.length c2, .int .i64 y, .bool true]) (by simp [results, Try.results30, go_sem]) rfl ⟨_, ret_vcb hcb.out hbb.out, hLL.out ▸ hown.out.drewN _, below_drewN hb3.out _⟩
        · have h2 : 2 ≤ R.length := by omega
          obtain ⟨z, hz⟩ : ∃ z, R.getD 1 0 = z := ⟨_, rfl⟩
          obtain ⟨z1, z2⟩ := hRz z (by rw [← hz]; exact getD_mem (by omega))
          have hi := i64_andI y1 y2 z1 z2
          obtain ⟨d1, d2⟩ := andI_bd z y1 y2
          have hcb0 : andI y z = coreI (flL n xs (K : Nat)) := by rw [hL, core_two hfl h2, hy, hz]
          obtain ⟨d, hd⟩ : ∃ d, andI y z = d := ⟨_, rfl⟩
          rw [hd] at hi d1 d2 hcb0
          have hcb := Lib.hid hcb0
          have hkb : (((K : Nat) : Int) == 1) = false := beq_eq_false_iff_ne.2 (by omega)
          have hkq : ¬ ((K : Nat) : Int) = 1 := by omega
          have i1 : (1 : Int) < (R.length : Nat) := by omega
          replace hd := Lib.hid hd
          replace hL := Lib.hid hL
          replace hlen := Lib.hid hlen
          replace hRz := Lib.hid hRz
          replace hfl := Lib.hid hfl
          clear hcb0
          go_enter Try.func30, Try.ntmps30
          go_wp2_with fail
          refine h1.out.mono ?_
          rintro e w1 ⟨rfl, q, rfl⟩
          have hbq := Lib.hid ((below_drewN (Below.refl w.heap.size w) q).alloc (Nat.le_refl _) (.cells #[] 3))
          go_wp2_with (go_at_call 48; refine (hin.out _).mono ?_; rintro e w' ⟨rfl, rfl⟩)
          refine (hse.out q).mono ?_
          rintro e w2 ⟨v, rfl, hO, hb2⟩
          have hown := Lib.hid hO
          obtain ⟨a2, c2, rfl, hcs⟩ := hO
          obtain ⟨b2, o2, rfl, _, t2, c2', _⟩ := hcs hR0
          have e0 := c2' 0 hR0
          have e1 := c2' 1 h2
          rw [Nat.add_zero, hy] at e0
          rw [hz] at e1
          have hb3 := Lib.hid (hbq.out.trans (hb2.mono hbq.out.size))
          replace hy := Lib.hid hy
          replace hz := Lib.hid hz
          clear hcs c2' hb2
          go_wp2_with fail
          go_quiet (fail)
          go_wp2_with fail
          exact bodyPost_ret (v := .tuple #[.slice (some ⟨b2, o2, none⟩) R.length c2, .int .i64 d, .bool true]) (by simp [results, Try.results30, go_sem]) rfl ⟨_, ret_vcb hcb.out hbb.out, hLL.out ▸ hown.out.drewN _, below_drewN hb3.out _⟩
    · rw [hk] at hin
      have ho : flO n xs k = none := by unfold flO; rw [hk, Bool.and_false]; rfl
      have hL : flL n xs k = [] := by unfold flL; rw [ho]; rfl
      have hcb := Lib.hid (show (0 : Int) = coreI (flL n xs k) by rw [hL]; rfl)
      have hbb := Lib.hid (show false = (flO n xs k).isSome by rw [ho]; rfl)
      have hLL := Lib.hid hL.symm
      replace hin := Lib.hid hin
      replace h1 := Lib.hid h1
      replace ho := Lib.hid ho
      replace hL := Lib.hid hL
      replace hf := Lib.hid hf
      replace hk := Lib.hid hk
      clear hx
      go_enter Try.func30, Try.ntmps30
      go_wp2_with fail
      refine h1.out.mono ?_
      rintro e w1 ⟨rfl, q, rfl⟩
      have hbq := Lib.hid ((below_drewN (Below.refl w.heap.size w) q).alloc (Nat.le_refl _) (.cells #[] 3))
      go_wp2_with (go_at_call 48; refine (hin.out _).mono ?_; rintro e w' ⟨rfl, rfl⟩)
      exact bodyPost_ret (v := .tuple #[.slice (some ⟨w.heap.size, 0, none⟩) 0 0, .int .i64 0, .bool false]) (by simp [results, Try.results30, go_sem]) rfl ⟨_, ret_vcb hcb.out hbb.out, hLL.out ▸ own_empty0 _ _ _ _ _, hbq.out⟩
  · rw [hf] at h1
    have ho : flO n xs k = none := by unfold flO; rw [hf, Bool.false_and]; rfl
    have hL : flL n xs k = [] := by unfold flL; rw [ho]; rfl
    have hcb := Lib.hid (show (0 : Int) = coreI (flL n xs k) by rw [hL]; rfl)
    have hbb := Lib.hid (show false = (flO n xs k).isSome by rw [ho]; rfl)
    have hLL := Lib.hid hL.symm
    replace hin := Lib.hid hin
    replace h1 := Lib.hid h1
    replace ho := Lib.hid ho
    replace hL := Lib.hid hL
    replace hf := Lib.hid hf
    clear hx
    go_enter Try.func30, Try.ntmps30
    go_wp2_with fail
    refine h1.out.mono ?_
    rintro e w1 ⟨rfl, q, rfl⟩
    have hbq := Lib.hid ((below_drewN (Below.refl w.heap.size w) q).alloc (Nat.le_refl _) (.cells #[] 3))
    go_wp2_with fail
    exact bodyPost_ret (v := .tuple #[.slice (some ⟨w.heap.size, 0, none⟩) 0 0, .int .i64 0, .bool false]) (by simp [results, Try.results30, go_sem]) rfl ⟨_, ret_vcb hcb.out hbb.out, hLL.out ▸ own_empty0 _ _ _ _ _, hbq.out⟩
set_option maxHeartbeats 4000000 in
theorem sp_FlowerFree (n k : Int) (lv : Value) (xs : List Int) (S : Nat) (w : World) (hx : Row w S lv xs) (hS : S ≤ w.heap.size) (hl : xs.length ≤ 100000000) :
    Calls Try.prog 32 #[.int .i64 n, lv, .int .i64 k] w fun e w' => e = .returned (.bool (freB n xs k)) ∧ Below w.heap.size w w' := by
  have h1 := sp_FamilyIn n lv xs S w hx (by omega)
  have hin := fun W => l6in k 1 4 W
  rw [inB_four] at hin
  obtain ⟨la, lc, rfl, _⟩ := id hx
  rcases (by cases famB n xs <;> simp : famB n xs = true ∨ famB n xs = false) with hf | hf
  · rw [hf] at h1
    rcases (by cases flR k <;> simp : flR k = true ∨ flR k = false) with hk | hk
    · rw [hk] at hin
      obtain ⟨k1, k2⟩ := of_decide_eq_true hk
      obtain ⟨K, rfl⟩ : ∃ K : Nat, k = (K : Nat) := ⟨k.toNat, by omega⟩
      have hse := fun q => sp_search n K _ xs S q w hx hS hf hk
      have hB : freB n xs (K : Nat) = !(flO n xs (K : Nat)).isSome := by
        unfold freB
        rw [hf, hk]
        cases flO n xs (K : Nat) <;> rfl
      rw [hB]
      obtain ⟨o, ho⟩ : ∃ o, flO n xs (K : Nat) = o := ⟨_, rfl⟩
      rw [ho] at hse ⊢
      obtain ⟨b, hb⟩ : ∃ b, o.isSome = b := ⟨_, rfl⟩
      have hse' : ∀ q, Calls Try.prog 63 #[.slice la xs.length lc, .int .i64 0, .int .i64 (K : Nat), .slice (some ⟨w.heap.size, 0, none⟩) 0 0] ((w.drewN q).alloc (.cells #[] 3)) fun e w' => ∃ v, e = .returned (.tuple #[v, .bool b]) ∧ Own w' w.heap.size w'.heap.size v (o.getD []) ∧ Below ((w.drewN q).alloc (.cells #[] 3)).heap.size ((w.drewN q).alloc (.cells #[] 3)) w' := fun q => by rw [← hb]; exact hse q
      rw [hb]
      replace hse := Lib.hid hse'
      replace hin := Lib.hid hin
      replace h1 := Lib.hid h1
      replace ho := Lib.hid ho
      replace hb := Lib.hid hb
      replace hf := Lib.hid hf
      replace hk := Lib.hid hk
      replace hB := Lib.hid hB
      clear hse' hx
      go_enter Try.func32, Try.ntmps32
      go_wp2_with fail
      refine h1.out.mono ?_
      rintro e w1 ⟨rfl, q, rfl⟩
      have hbq := Lib.hid ((below_drewN (Below.refl w.heap.size w) q).alloc (Nat.le_refl _) (.cells #[] 3))
      go_wp2_with (go_at_call 48; refine (hin.out _).mono ?_; rintro e w' ⟨rfl, rfl⟩)
      refine (hse.out q).mono ?_
      rintro e w2 ⟨v, rfl, hO, hb2⟩
      obtain ⟨a2, c2, rfl, _⟩ := hO
      have hb3 := Lib.hid (hbq.out.trans (hb2.mono hbq.out.size))
      replace hb2 := Lib.hid hb2
      go_wp2_with fail
      go_ret
      exact ⟨rfl, hb3.out⟩
    · rw [hk] at hin
      have hB := Lib.hid (show false = freB n xs k by unfold freB; rw [hk, Bool.and_false, Bool.false_and])
      replace hin := Lib.hid hin
      replace h1 := Lib.hid h1
      replace hf := Lib.hid hf
      replace hk := Lib.hid hk
      clear hx
      go_enter Try.func32, Try.ntmps32
      go_wp2_with fail
      refine h1.out.mono ?_
      rintro e w1 ⟨rfl, q, rfl⟩
      go_wp2_with (go_at_call 48; refine (hin.out _).mono ?_; rintro e w' ⟨rfl, rfl⟩)
      go_ret
      exact ⟨ret_bool hB.out, below_drewN (Below.refl _ w) q⟩
  · rw [hf] at h1
    have hB := Lib.hid (show false = freB n xs k by unfold freB; rw [hf, Bool.false_and, Bool.false_and])
    replace hin := Lib.hid hin
    replace h1 := Lib.hid h1
    replace hf := Lib.hid hf
    clear hx
    go_enter Try.func32, Try.ntmps32
    go_wp2_with fail
    refine h1.out.mono ?_
    rintro e w1 ⟨rfl, q, rfl⟩
    go_wp2_with fail
    go_ret
    exact ⟨ret_bool hB.out, below_drewN (Below.refl _ w) q⟩
set_option maxHeartbeats 4000000 in
theorem law_FlowerOf (n s : Int) (v : Value) (xs : List Int) (w : World) (hx : Row w w.heap.size v xs) (hl : xs.length ≤ 9223372036854775807) (L : List Int) (c : Int) (b : Bool) (hL : xs.length ≤ 1048576 → L.length ≤ 1000000)
    (hi : ∀ (W : World) (u : Value) (S : Nat), Row W S u xs → S ≤ W.heap.size → xs.length ≤ 100000000 → Calls Try.prog 31 #[.int .i64 n, u, .int .i64 s] W (FlowPost L c b W))
    (hs : ∀ (W : World) (u : Value) (S : Nat), Row W S u xs → S ≤ W.heap.size → xs.length ≤ 100000000 → Calls Try.prog 30 #[.int .i64 n, u, .int .i64 s] W (FlowPost L c b W)) :
    Calls Try.prog 9 #[.int .i64 n, v, .int .i64 s] w fun e w' => e = .returned (.bool true) ∧ Below w.heap.size w w' := by
  have hx' := hx
  obtain ⟨a, cap, rfl, _⟩ := hx'
  by_cases hbig : 1048576 < xs.length
  · go_enter Try.func9, Try.ntmps9
    go_wp2_with fail
    go_ret
    exact ⟨rfl, Below.refl _ _⟩
  · have hl2 : xs.length ≤ 1048576 := by omega
    have hLL := hL hl2
    have hl3 : xs.length ≤ 100000000 := by omega
    have hR := Lib.hid hx
    replace hi := Lib.hid (fun W u S h1 h2 => hi W u S h1 h2 hl3)
    replace hs := Lib.hid (fun W u S h1 h2 => hs W u S h1 h2 hl3)
    have hcc : (c != c) = false := by simp
    have hbb : (b != b) = false := by simp
    have hsame := Lib.hid (same_self L)
    have hsamx := Lib.hid (same_self xs)
    clear hx hbig hL
    go_enter Try.func9, Try.ntmps9
    go_wp2_with fail
    refine (to_ints _ xs _ _ hR.out (by omega) (Nat.le_refl _)).mono ?_
    rintro e w1 ⟨u, rfl, hu, hb1⟩
    obtain ⟨ua, uc, rfl, _⟩ := id hu
    have z1 := hb1.size
    have c2 := Lib.hid (hs.out _ _ _ hu.row (Nat.le_refl _))
    have hR1 := Lib.hid (hR.out.below hb1 (Nat.le_refl _))
    replace hb1 := Lib.hid hb1
    clear hu hs
    go_wp2_with fail
    refine c2.out.mono ?_
    rintro e w2 ⟨v0, rfl, hO0, hb2⟩
    obtain ⟨a0, c0, rfl, _⟩ := id hO0
    have z2 := hb2.size
    have hR2 := Lib.hid (hR1.out.below hb2 z1)
    replace hO0 := Lib.hid hO0
    replace hb2 := Lib.hid (hb1.out.trans (hb2.mono z1))
    clear c2
    go_wp2_with fail
    refine (to_ints _ xs _ _ hR2.out (by omega) (by omega)).mono ?_
    rintro e w3 ⟨x1, rfl, hX3, hb3⟩
    obtain ⟨xa, xc, rfl, _⟩ := id hX3
    have z3 := hb3.size
    have c4 := Lib.hid (hi.out _ _ _ hX3.row (Nat.le_refl _))
    have hR3 := Lib.hid (hR2.out.below hb3 (by omega))
    have hO3 := Lib.hid (hO0.out.below hb3 (Nat.le_refl _))
    replace hX3 := Lib.hid hX3
    replace hb3 := Lib.hid (hb2.out.trans (hb3.mono (by omega)))
    clear hO0
    go_wp2_with fail
    refine c4.out.mono ?_
    rintro e w4 ⟨g0, rfl, hG4, hb4⟩
    obtain ⟨ga, gc, rfl, _⟩ := id hG4
    have z4 := hb4.size
    have hR4 := Lib.hid (hR3.out.below hb4 (by omega))
    have hO4 := Lib.hid (hO3.out.below hb4 (by omega))
    have hX4 := Lib.hid (hX3.out.below hb4 (Nat.le_refl _))
    replace hG4 := Lib.hid hG4
    replace hb4 := Lib.hid (hb3.out.trans (hb4.mono (by omega)))
    clear c4 hO3 hX3 hR1 hR2 hR3
    go_wp2_with fail
    refine (eq_ints _ _ L L w4.heap.size _ (hG4.out.row.mono (Nat.le_refl _)) (hO4.out.row.mono (by omega)) (by omega) (by omega)).mono ?_
    rintro e w' ⟨rfl, n5, rfl⟩
    rw [hsame.out]
    go_wp2_with fail
    refine (to_ints _ xs _ _ (hR4.out.drewN n5) (by omega) (show w.heap.size ≤ w4.heap.size by omega)).mono ?_
    rintro e w6 ⟨t, rfl, hT6, hb6⟩
    obtain ⟨ta, tc, rfl, _⟩ := id hT6
    have z6 : w4.heap.size ≤ w6.heap.size := hb6.size
    have hb6' : Below w4.heap.size w4 w6 := (below_drewN (Below.refl w4.heap.size w4) n5).trans hb6
    have hR6 := Lib.hid (hR4.out.below hb6' (by omega))
    have hO6 := Lib.hid (hO4.out.below hb6' (by omega))
    have hX6 := Lib.hid (hX4.out.below hb6' (by omega))
    have hG6 := Lib.hid (hG4.out.below hb6' (Nat.le_refl _))
    have hT6' := Lib.hid hT6.row
    replace hb6 := Lib.hid (hb4.out.trans (hb6'.mono (by omega)))
    clear hT6 hb6' hO4 hX4 hG4 hR4
    go_wp2_with fail
    refine (eq_ints _ _ xs xs w6.heap.size _ (hX6.out.row.mono (by omega)) hT6'.out (by omega) (by omega)).mono ?_
    rintro e w' ⟨rfl, n7, rfl⟩
    rw [hsamx.out]
    go_wp2_with fail
    refine (mark_up _ xs 1 w2.heap.size w3.heap.size _ (hX6.out.drewN n7) (by omega) (by omega) (by omega)).mono ?_
    rintro e w8 ⟨rfl, _, hb8, hk8⟩
    have z8 : w6.heap.size ≤ w8.heap.size := hb8.size
    have hR8 := Lib.hid ((hR6.out.drewN n7).below hb8 (by omega))
    have hO8 := Lib.hid ((hO6.out.drewN n7).below hb8 (Nat.le_refl _))
    have hG8 := Lib.hid ((hG6.out.drewN n7).up hk8 (Nat.le_refl _))
    replace hb8 := Lib.hid ((below_drewN hb6.out n7).trans (hb8.mono (by omega)))
    have hq1 : (0 : Int) ≤ 1 + (xs.length : Nat) := by omega
    clear hk8 hO6 hG6 hX6 hR6 hT6'
    go_wp2_with fail
    refine (eq_ints _ _ L L w8.heap.size _ (hG8.out.row.mono (by omega)) (hO8.out.row.mono (by omega)) (by omega) (by omega)).mono ?_
    rintro e w' ⟨rfl, n9, rfl⟩
    rw [hsame.out]
    go_wp2_with fail
    refine (mark_ints _ L 1 _ _ _ (hG8.out.drewN n9) (by omega) (by omega) (by omega)).mono ?_
    rintro e w10 ⟨rfl, hG10, hb10⟩
    have z10 : w8.heap.size ≤ w10.heap.size := hb10.size
    have hlen : (marks 1 L.length).length ≤ 1000000 := by rw [marks_len]; exact hLL
    have hR10 := Lib.hid ((hR8.out.drewN n9).below hb10 (by omega))
    have hO10 := Lib.hid ((hO8.out.drewN n9).below hb10 (by omega))
    replace hG10 := Lib.hid hG10
    replace hb10 := Lib.hid ((below_drewN hb8.out n9).trans (hb10.mono (by omega)))
    clear hG8 hO8 hR8
    go_wp2_with fail
    refine (held_ints _ (marks 1 L.length) 1 _ _ (by have := hG10.out.row; exact this) (by omega) (by omega) (by omega)).mono ?_
    rintro e w' ⟨rfl, rfl⟩
    rw [heldV_marks]
    have hq : (0 : Int) ≤ 1 + (L.length : Nat) := by omega
    have hqq : ((1 : Int) + (L.length : Nat) != 1 + (L.length : Nat)) = false := by simp
    go_wp2_with fail
    refine (to_ints _ xs _ _ hR10.out (by omega) (by omega)).mono ?_
    rintro e w11 ⟨x2, rfl, hX11, hb11⟩
    obtain ⟨ya, yc, rfl, _⟩ := id hX11
    have z11 := hb11.size
    have c12 := Lib.hid (hi.out _ _ _ hX11.row (Nat.le_refl _))
    have hO11 := Lib.hid (hO10.out.below hb11 (by omega))
    have hG11 := Lib.hid (hG10.out.below hb11 (by omega))
    replace hb11 := Lib.hid (hb10.out.trans (hb11.mono (by omega)))
    clear hX11 hO10 hG10 hR10 hi
    go_wp2_with fail
    refine c12.out.mono ?_
    rintro e w12 ⟨h0, rfl, hH12, hb12⟩
    obtain ⟨ha, hc, rfl, _⟩ := id hH12
    have z12 := hb12.size
    have hO12 := Lib.hid (hO11.out.below hb12 (by omega))
    have hG12 := Lib.hid (hG11.out.below hb12 (by omega))
    replace hH12 := Lib.hid hH12
    replace hb12 := Lib.hid (hb11.out.trans (hb12.mono (by omega)))
    clear c12 hO11 hG11
    go_wp2_with fail
    refine (eq_ints _ _ L L w12.heap.size _ (hH12.out.row.mono (Nat.le_refl _)) (hO12.out.row.mono (by omega)) (by omega) (by omega)).mono ?_
    rintro e w' ⟨rfl, n13, rfl⟩
    rw [hsame.out]
    go_wp2_with fail
    refine (held_ints _ (marks 1 L.length) 1 _ _ ((hG12.out.drewN n13).row) (by omega) (by omega) (by omega)).mono ?_
    rintro e w' ⟨rfl, rfl⟩
    rw [heldV_marks]
    go_wp2_with fail
    go_ret
    exact ⟨rfl, below_drewN hb12.out n13⟩

set_option maxHeartbeats 4000000 in
theorem law_FlowerFree (n k : Int) (v : Value) (xs : List Int) (w : World) (hx : Row w w.heap.size v xs) (hl : xs.length ≤ 9223372036854775807) (b : Bool)
    (hi : ∀ (W : World) (u : Value) (S : Nat), Row W S u xs → S ≤ W.heap.size → xs.length ≤ 100000000 → Calls Try.prog 33 #[.int .i64 n, u, .int .i64 k] W fun e w' => e = .returned (.bool b) ∧ Below W.heap.size W w')
    (hs : ∀ (W : World) (u : Value) (S : Nat), Row W S u xs → S ≤ W.heap.size → xs.length ≤ 100000000 → Calls Try.prog 32 #[.int .i64 n, u, .int .i64 k] W fun e w' => e = .returned (.bool b) ∧ Below W.heap.size W w') :
    Calls Try.prog 10 #[.int .i64 n, v, .int .i64 k] w fun e w' => e = .returned (.bool true) ∧ Below w.heap.size w w' := by
  have hx' := hx
  obtain ⟨a, cap, rfl, _⟩ := hx'
  by_cases hbig : 1048576 < xs.length
  · go_enter Try.func10, Try.ntmps10
    go_wp2_with fail
    go_ret
    exact ⟨rfl, Below.refl _ _⟩
  · have hl2 : xs.length ≤ 1048576 := by omega
    have hl3 : xs.length ≤ 100000000 := by omega
    have hR := Lib.hid hx
    replace hi := Lib.hid (fun W u S h1 h2 => hi W u S h1 h2 hl3)
    replace hs := Lib.hid (fun W u S h1 h2 => hs W u S h1 h2 hl3)
    have hbb : (b != b) = false := by simp
    have hsamx := Lib.hid (same_self xs)
    clear hx hbig
    go_enter Try.func10, Try.ntmps10
    go_wp2_with fail
    refine (to_ints _ xs _ _ hR.out (by omega) (Nat.le_refl _)).mono ?_
    rintro e w1 ⟨u, rfl, hu, hb1⟩
    obtain ⟨ua, uc, rfl, _⟩ := id hu
    have z1 := hb1.size
    have c2 := Lib.hid (hs.out _ _ _ hu.row (Nat.le_refl _))
    have hR1 := Lib.hid (hR.out.below hb1 (Nat.le_refl _))
    replace hb1 := Lib.hid hb1
    clear hu hs
    go_wp2_with fail
    refine c2.out.mono ?_
    rintro e w2 ⟨rfl, hb2⟩
    have z2 := hb2.size
    have hR2 := Lib.hid (hR1.out.below hb2 z1)
    replace hb2 := Lib.hid (hb1.out.trans (hb2.mono z1))
    clear c2
    go_wp2_with fail
    refine (to_ints _ xs _ _ hR2.out (by omega) (by omega)).mono ?_
    rintro e w3 ⟨x1, rfl, hX3, hb3⟩
    obtain ⟨xa, xc, rfl, _⟩ := id hX3
    have z3 : w2.heap.size ≤ w3.heap.size := hb3.size
    have c4 := Lib.hid (hi.out _ _ _ hX3.row (Nat.le_refl _))
    have hR3 := Lib.hid (hR2.out.below hb3 (by omega))
    have hX3' := Lib.hid hX3.row
    replace hb3 := Lib.hid (hb2.out.trans (hb3.mono (by omega)))
    clear hX3
    go_wp2_with fail
    refine c4.out.mono ?_
    rintro e w4 ⟨rfl, hb4⟩
    have z4 := hb4.size
    have hR4 := Lib.hid (hR3.out.below hb4 (by omega))
    have hX4 := Lib.hid (hX3'.out.below hb4 (Nat.le_refl _))
    replace hb4 := Lib.hid (hb3.out.trans (hb4.mono (by omega)))
    clear c4
    go_wp2_with fail
    refine (to_ints _ xs _ _ hR4.out (by omega) (by omega)).mono ?_
    rintro e w6 ⟨t, rfl, hT6, hb6⟩
    obtain ⟨ta, tc, rfl, _⟩ := id hT6
    have z6 := hb6.size
    have hX6 := Lib.hid (hX4.out.below hb6 (by omega))
    have hT6' := Lib.hid hT6.row
    replace hb6 := Lib.hid (hb4.out.trans (hb6.mono (by omega)))
    clear hT6
    go_wp2_with fail
    refine (eq_ints _ _ xs xs w6.heap.size _ (hX6.out.mono (by omega)) hT6'.out (by omega) (by omega)).mono ?_
    rintro e w' ⟨rfl, n7, rfl⟩
    rw [hsamx.out]
    go_wp2_with fail
    go_ret
    exact ⟨rfl, below_drewN hb6.out n7⟩
theorem fll_len (n : Int) (xs : List Int) (k : Int) : (flL n xs k).length ≤ 1000000 := by
  unfold flL
  cases h : flO n xs k with
  | none => simp
  | some R =>
    obtain ⟨_, _, _, h1, _⟩ := flo_some h
    show R.length ≤ _
    omega
theorem Law_FlowerOf (n k : Int) (v : Value) (xs : List Int) (w : World) (hx : Row w w.heap.size v xs) (hl : xs.length ≤ 9223372036854775807) : Calls Try.prog 9 #[.int .i64 n, v, .int .i64 k] w fun e w' => e = .returned (.bool true) ∧ Below w.heap.size w w' :=
  law_FlowerOf n k v xs w hx hl _ _ _ (fun _ => fll_len n xs k) (fun W u S h1 h2 h3 => im_FlowerOf n k u xs S W h1 h2 h3) (fun W u S h1 h2 h3 => sp_FlowerOf n k u xs S W h1 h2 h3)
theorem Law_FlowerFree (n k : Int) (v : Value) (xs : List Int) (w : World) (hx : Row w w.heap.size v xs) (hl : xs.length ≤ 9223372036854775807) : Calls Try.prog 10 #[.int .i64 n, v, .int .i64 k] w fun e w' => e = .returned (.bool true) ∧ Below w.heap.size w w' :=
  law_FlowerFree n k v xs w hx hl _ (fun W u S h1 h2 h3 => im_FlowerFree n k u xs S W h1 h2 h3) (fun W u S h1 h2 h3 => sp_FlowerFree n k u xs S W h1 h2 h3)
end Go.Proofs.Ytfcegnnajpflmaa
