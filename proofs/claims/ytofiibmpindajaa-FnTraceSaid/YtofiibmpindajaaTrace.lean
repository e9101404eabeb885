/- The law FnTrace: traces have at most as many sets. -/
import Derived.Test.YtofiibmpindajaaDraw4
import Derived.Test.YtofiibmpindajaaLawsK
import Derived.Test.YtofiibmpindajaaFLaws
namespace Go.Proofs.Ytofiibmpindajaa
open Go.ChangeShapes Go.WideShapes Go.ChangeAt Go.RowKit Go.Proofs

theorem same_ints (v u : Value) (xs ys : List Int) (S : Nat) (w : World) (hx : Row w S v xs) (hy : Row w S u ys) (hl : xs.length ≤ 1073741824) (hm : ys.length ≤ 1073741824) :
    Calls Try.prog 11 #[v, u] w fun e w' => e = .returned (.bool (sameB xs ys)) ∧ ∃ n, w' = w.drewN n := by
  obtain ⟨a, cap, rfl, ha⟩ := hx
  obtain ⟨c, cap2, rfl, hc⟩ := hy
  by_cases hne : xs.length = ys.length
  · have hb : (((xs.length : Nat) : Int) != ((ys.length : Nat) : Int)) = false := by simp [hne]
    have hne' := Lib.hid hne
    have ha := Lib.hid ha
    have hc := Lib.hid hc
    clear hne
    go_enter Try.func11, Try.ntmps11
    go_wp2
    go_loopw [5] (fun i wr => ∃ k : Nat, k ≤ xs.length ∧ i = .int .i64 k ∧ Hid (∃ n, wr = w.drewN n) ∧ Hid (∀ j, j < k → xs.getD j 0 = ys.getD j 0)) (fun i _ => xs.length - (intOf i).toNat)
    case atStart => exact ⟨0, Nat.zero_le _, rfl, Lib.hid ⟨0, rfl⟩, Lib.hid (fun j hj => by omega)⟩
    case round =>
      obtain ⟨k, hk, rfl, hw, hsame⟩ := hrel
      obtain ⟨n, rfl⟩ := hw.out
      clear hw
      by_cases hlt : k < xs.length
      · obtain ⟨b1, o1, rfl, s1, c1⟩ := ha.out (by omega)
        have hlt2 : k < ys.length := by have := hne'.out; omega
        obtain ⟨b2, o2, rfl, s2, c2⟩ := hc.out (by omega)
        have k1 : (0 : Int) ≤ (k : Int) := by omega
        have k2 : (k : Int) < (xs.length : Nat) := by omega
        have k3 : (k : Int) < (ys.length : Nat) := by omega
        have e1 := c1 k hlt
        have e2 := c2 k hlt2
        obtain ⟨x, hx⟩ : ∃ x, xs.getD k 0 = x := ⟨_, rfl⟩
        obtain ⟨y, hy⟩ : ∃ y, ys.getD k 0 = y := ⟨_, rfl⟩
        rw [hx] at e1
        rw [hy] at e2
        by_cases hxy : x = y
        · have hsame' := Lib.hid (show ∀ j, j < k + 1 → xs.getD j 0 = ys.getD j 0 from fun j hj => by
            by_cases e : j = k
            · subst e; rw [hx, hy]; exact hxy
            · exact hsame.out j (by omega))
          have hd : (x != y) = false := by simp [hxy]
          clear hsame hxy hx hy c1 c2
          go_wp2
          go_quiet (fail)
          go_wp2
          go_roundw
          case rel => exact ⟨k + 1, by omega, by go_num, Lib.hid ⟨_, by first | rfl | exact drewN_add _ _ _⟩, hsame'⟩
          case measure => simp [intOf]; omega
        · have hf := Lib.hid (show false = sameB xs ys from (decide_eq_false (fun e => hxy (by rw [← hx, ← hy, e]))).symm)
          have hd : (x != y) = true := by simp [hxy]
          clear hsame hxy hx hy c1 c2
          go_wp2
          go_quiet (fail)
          go_wp2
          go_ret
          exact ⟨ret_bool hf.out, _, by first | rfl | exact drewN_add _ _ _⟩
      · have hf := Lib.hid (show true = sameB xs ys from (same_step hne'.out (fun j hj => hsame.out j (by omega))).symm)
        go_wp2
        go_ret
        exact ⟨ret_bool hf.out, _, rfl⟩
  · have hb : (((xs.length : Nat) : Int) != ((ys.length : Nat) : Int)) = true := by simp; omega
    have hf := Lib.hid (show false = sameB xs ys from (decide_eq_false (fun e => hne (by rw [e]))).symm)
    clear ha hc hne
    go_enter Try.func11, Try.ntmps11
    go_wp2
    go_ret
    exact ⟨ret_bool hf.out, 0, rfl⟩


theorem asc_sub {xs ys : List Int} (hx : Asc xs) (hy : Asc ys) (h : ∀ z ∈ xs, z ∈ ys) : xs.length ≤ ys.length := by
  have e : ys.filter (fun z => memB z xs) = xs := asc_ext (asc_filter hy _) hx (fun z => by
    rw [List.mem_filter]
    exact ⟨fun a => memB_yes a.2, fun a => ⟨h z a, memB_mk a⟩⟩)
  rw [← e]
  exact List.length_filter_le _ _
theorem ins_le (x : Int) (xs : List Int) : (insI x xs).length ≤ xs.length + 1 := by
  rcases (by cases memB x xs <;> simp : memB x xs = true ∨ memB x xs = false) with h | h
  · rw [ins_yes h]; omega
  · rw [ins_len h]; omega
theorem fold_le (xs : List Int) : ∀ a : List Int, (xs.foldl (fun a x => insI x a) a).length ≤ a.length + xs.length := by
  induction xs with
  | nil => intro a; simp
  | cons x xs ih => intro a; have := ih (insI x a); have := ins_le x a; simp only [List.foldl_cons, List.length_cons]; omega
theorem sort_le (xs : List Int) : (sortL xs).length ≤ xs.length := by have := fold_le xs []; simpa [sortL] using this
theorem sub_dec : ∀ s : Fin 256, ((upI 256).filter (fun z => andI z s.val == z)).length = 2 ^ cntTo s.val 8 := by decide +kernel
theorem andI_idem (x s : Int) : andI (andI x s) s = andI x s := by
  unfold andI
  simp only [Int.toNat_natCast]
  rw [Nat.and_assoc, Nat.and_self]
/-- what a trace has. -/
theorem trace_facts {n s : Int} {xs T : List Int} (hs : setB n s = true) (hf : famB n xs = true) (hT : sortL (xs.map (fun x => andI x s)) = T) :
    famB n T = true ∧ sortL (T.map (fun x => andI x s)) = T ∧ T.length ≤ xs.length ∧ ((T.length : Nat) : Int) ≤ 2 ^ (cntI s).toNat ∧ T.length ≤ 256 := by
  obtain ⟨n1, n2, hx⟩ := famB_all hf
  have hset : ∀ z ∈ T, setB n z = true := fun z hz => by
    rw [← hT, mem_sortL] at hz
    obtain ⟨y, hy, rfl⟩ := List.mem_map.1 hz
    exact andI_set (hx y hy) hs
  have hfix : ∀ z ∈ T, andI z s = z := fun z hz => by
    rw [← hT, mem_sortL] at hz
    obtain ⟨y, hy, rfl⟩ := List.mem_map.1 hz
    exact andI_idem y s
  have hA : Asc T := hT ▸ asc_sortL _
  obtain ⟨s1, s2⟩ := setB_lt hs
  refine ⟨famB_mk (ptsB_mk n1 n2) hset hA, ?_, ?_, ?_, asc_len256 hA (fun z hz => setB_lt (hset z hz))⟩
  · have e : T.map (fun x => andI x s) = T := by
      conv => rhs; rw [← List.map_id T]
      exact List.map_congr_left fun z hz => hfix z hz
    rw [e]; exact sortL_asc hA
  · have := sort_le (xs.map (fun x => andI x s))
    rw [hT, List.length_map] at this
    exact this
  · have h1 := asc_sub hA (asc_filter (asc_upI 256) (fun z => andI z s == z)) (fun z hz => List.mem_filter.2 ⟨mem_upI.2 (setB_lt (hset z hz)), by simp [hfix z hz]⟩)
    have h2 := sub_dec ⟨s.toNat, by omega⟩
    have e1 : ((s.toNat : Nat) : Int) = s := Int.toNat_of_nonneg s1
    simp only [e1] at h2
    rw [h2] at h1
    have e2 : (cntI s).toNat = cntTo s 8 := by unfold cntI; simp
    rw [e2]
    have : ((2 ^ cntTo s 8 : Nat) : Int) = 2 ^ cntTo s 8 := by simp
    omega
theorem cnt_pow (s : Int) : 0 ≤ cntI s ∧ cntI s ≤ 8 ∧ wrap64 (2 ^ (cntI s).toNat) = 2 ^ (cntI s).toNat := by
  have a : 0 ≤ cntI s ∧ cntI s ≤ 8 := ⟨by unfold cntI; omega, by have := cnt_le s 8; unfold cntI; omega⟩
  refine ⟨a.1, a.2, ?_⟩
  rcases (by omega : cntI s = 0 ∨ cntI s = 1 ∨ cntI s = 2 ∨ cntI s = 3 ∨ cntI s = 4 ∨ cntI s = 5 ∨ cntI s = 6 ∨ cntI s = 7 ∨ cntI s = 8) with h | h | h | h | h | h | h | h | h <;> rw [h] <;> decide +kernel

set_option maxRecDepth 100000 in
set_option maxHeartbeats 4000000 in
theorem law_FnTrace (v : Value) (a : Option Addr) (len cap : Nat) (w : World) (hv : v = .slice a len cap) (hc : len ≤ cap) (hcap : cap ≤ 9223372036854775807) (hB : Bytes w w.heap.size a len) :
    Calls Try.prog 3 #[v] w fun e w' => e = .returned (.bool true) ∧ Below w.heap.size w w' := by
  have h0 := Lib.hid (draw_FamilyTrace v a len cap w hv hc hcap hB)
  subst hv
  clear hB
  by_cases hbig : 1048576 < len
  · go_enter Try.func3, Try.ntmps3
    go_wp2_with fail
    go_ret
    exact ⟨rfl, Below.refl _ _⟩
  · go_enter Try.func3, Try.ntmps3
    go_wp2_with fail
    refine (h0.out).mono ?_
    rintro e w1 ⟨n, u, xs, s, rfl, hl, hO, hb⟩
    obtain ⟨ua, uc, rfl, _⟩ := id hO
    have z1 := hb.size
    have hi := im_FamilyTrace n s _ xs _ w1 hO.row (Nat.le_refl _) (by omega)
    obtain ⟨T, hT⟩ : ∃ T, sortL (xs.map (fun x => andI x s)) = T := ⟨_, rfl⟩
    have hs := fun (W : World) (S : Nat) (hR : Row W S (.slice ua xs.length uc) xs) (hS : S ≤ W.heap.size) => sp_FamilyTrace n s _ xs S W hR hS (by omega)
    rcases (by cases (setB n s && famB n xs) <;> simp : (setB n s && famB n xs) = true ∨ (setB n s && famB n xs) = false) with hbv | hbv
    · rw [Bool.and_eq_true] at hbv
      obtain ⟨f1, f2, f3, f4, f5⟩ := trace_facts hbv.1 hbv.2 hT
      have hb9 : (setB n s && famB n T) = true := by rw [hbv.1, f1]; rfl
      obtain ⟨s1, s2⟩ := setB_lt hbv.1
      obtain ⟨k1, k2, k3⟩ := cnt_pow s
      have hsz := law_size s s1 s2
      obtain ⟨ct, hct⟩ : ∃ ct, cntI s = ct := ⟨_, rfl⟩
      rw [hct] at k1 k2 k3 f4 hsz
      obtain ⟨PW, hPW⟩ : ∃ PW, (2 : Int) ^ ct.toNat = PW := ⟨_, rfl⟩
      rw [hPW] at k3 f4
      have hi2 := fun (W : World) (S : Nat) (v : Value) (hR : Row W S v T) (hS : S ≤ W.heap.size) => im_FamilyTrace n s v T S W hR hS (by omega)
      simp only [hb9, f2] at hi2
      have hbt : (setB n s && famB n xs) = true := by rw [hbv.1, hbv.2]; rfl
      simp only [hT, hbt] at hi hs
      replace hi := Lib.hid (show Calls _ _ _ _ (ListPost T true w1) from hi)
      replace hs := Lib.hid (show ∀ (W : World) (S : Nat), Row W S (.slice ua xs.length uc) xs → S ≤ W.heap.size → Calls Try.prog 10 #[.int .i64 n, .slice ua xs.length uc, .int .i64 s] W (ListPost T true W) from hs)
      replace hi2 := Lib.hid (show ∀ (W : World) (S : Nat) (v : Value), Row W S v T → S ≤ W.heap.size → Calls Try.prog 9 #[.int .i64 n, v, .int .i64 s] W (ListPost T true W) from hi2)
      replace hsz := Lib.hid hsz
      have hsame := same_self T
      replace hct := Lib.hid hct
      replace hO := Lib.hid hO
      replace hb := Lib.hid hb
      clear hbv hb9 hbt hT f1 f2
      go_wp2_with fail
      refine hi.out.mono ?_
      rintro e w2 ⟨v2, rfl, hO2, hb2'⟩
      obtain ⟨va, vc, rfl, _⟩ := id hO2
      have z2 := hb2'.size
      have hU := Lib.hid (hO.out.below hb2' (Nat.le_refl _))
      replace hO2 := Lib.hid hO2
      replace hb2' := Lib.hid (hb.out.trans (hb2'.mono z1))
      clear hi
      go_wp2_with fail
      refine (hs.out w2 _ hU.out.row z2).mono ?_
      rintro e w3 ⟨v3, rfl, hO3, hb3⟩
      obtain ⟨ya, yc, rfl, _⟩ := id hO3
      have z3 := hb3.size
      have hO23 := Lib.hid (hO2.out.below hb3 (Nat.le_refl _))
      replace hO3 := Lib.hid hO3
      replace hb3 := Lib.hid (hb2'.out.trans (hb3.mono (by omega)))
      have hq : ∀ W, (∃ q, W = w3.drewN q) → Calls Try.prog 11 #[.slice va T.length vc, .slice ya T.length yc] W fun e w' => e = .returned (.bool true) ∧ ∃ n, w' = W.drewN n := by
        rintro W ⟨q, rfl⟩
        have := same_ints (.slice va T.length vc) (.slice ya T.length yc) _ _ w3.heap.size (w3.drewN q) ((hO23.out.row.mono z3).drewN q) (hO3.out.row.drewN q) (by omega) (by omega)
        rw [hsame] at this
        exact this
      replace hq := Lib.hid hq
      clear hs
      go_wp2_with fail
      refine (hq.out w3 ⟨0, rfl⟩).mono ?_
      rintro e w4 ⟨rfl, q, rfl⟩
      have hO24 := Lib.hid (hO23.out.drewN q)
      have hb4 := Lib.hid (below_drewN hb3.out q)
      have z4 : w3.heap.size ≤ (w3.drewN q).heap.size := Nat.le_refl _
      obtain ⟨w4, hw4⟩ : ∃ w4, w3.drewN q = w4 := ⟨_, rfl⟩
      rw [hw4] at hO24 hb4 z4 ⊢
      go_wp2_with fail
      refine (hi2.out w4 w4.heap.size _ (hO24.out.row.mono (by omega)) (Nat.le_refl _)).mono ?_
      rintro e w5 ⟨v5, rfl, hO5, hb5⟩
      obtain ⟨xa, xc, rfl, _⟩ := id hO5
      have z5 := hb5.size
      have hO25 := Lib.hid (hO24.out.below hb5 (by omega))
      replace hO5 := Lib.hid hO5
      replace hb5 := Lib.hid (hb4.out.trans (hb5.mono (by omega)))
      have hq5 := same_ints (.slice xa T.length xc) (.slice va T.length vc) _ _ w5.heap.size w5 hO5.out.row (hO25.out.row.mono (by omega)) (by omega) (by omega)
      rw [hsame] at hq5
      replace hq5 := Lib.hid hq5
      go_wp2_with fail
      refine (hq5.out).mono ?_
      rintro e w6 ⟨rfl, q6, rfl⟩
      go_wp2_with fail
      refine (hsz.out _).mono ?_
      rintro e w' ⟨rfl, rfl⟩
      go_wp2_with fail
      go_ret
      exact ⟨rfl, below_drewN hb5.out _⟩
    · simp only [hT, hbv] at hi hs
      replace hi := Lib.hid (show Calls _ _ _ _ (ListPost [] false w1) from hi)
      replace hs := Lib.hid (show ∀ (W : World) (S : Nat), Row W S (.slice ua xs.length uc) xs → S ≤ W.heap.size → Calls Try.prog 10 #[.int .i64 n, .slice ua xs.length uc, .int .i64 s] W (ListPost [] false W) from hs)
      replace hO := Lib.hid hO
      replace hb := Lib.hid hb
      have hsame := same_self ([] : List Int)
      clear hbv hT
      go_wp2_with fail
      refine hi.out.mono ?_
      rintro e w2 ⟨v2, rfl, hO2, hb2'⟩
      obtain ⟨va, vc, rfl, _⟩ := id hO2
      have z2 := hb2'.size
      have hU := Lib.hid (hO.out.below hb2' (Nat.le_refl _))
      replace hO2 := Lib.hid hO2
      replace hb2' := Lib.hid (hb.out.trans (hb2'.mono z1))
      clear hi
      go_wp2_with fail
      refine (hs.out w2 _ hU.out.row z2).mono ?_
      rintro e w3 ⟨v3, rfl, hO3, hb3⟩
      obtain ⟨ya, yc, rfl, _⟩ := id hO3
      have z3 := hb3.size
      have hO23 := Lib.hid (hO2.out.below hb3 (Nat.le_refl _))
      replace hO3 := Lib.hid hO3
      replace hb3 := Lib.hid (hb2'.out.trans (hb3.mono (by omega)))
      have hq : ∀ W, (∃ q, W = w3.drewN q) → Calls Try.prog 11 #[.slice va ([] : List Int).length vc, .slice ya ([] : List Int).length yc] W fun e w' => e = .returned (.bool true) ∧ ∃ n, w' = W.drewN n := by
        rintro W ⟨q, rfl⟩
        have := same_ints (.slice va ([] : List Int).length vc) (.slice ya ([] : List Int).length yc) _ _ w3.heap.size (w3.drewN q) ((hO23.out.row.mono z3).drewN q) (hO3.out.row.drewN q) (by simp) (by simp)
        rw [hsame] at this
        exact this
      replace hq := Lib.hid hq
      clear hs
      go_wp2_with fail
      refine (hq.out w3 ⟨0, rfl⟩).mono ?_
      rintro e w4 ⟨rfl, q, rfl⟩
      go_wp2_with fail
      refine (hq.out _ ⟨q, rfl⟩).mono ?_
      rintro e w5 ⟨rfl, q5, rfl⟩
      go_wp2_with fail
      go_ret
      exact ⟨rfl, below_drewN hb3.out _⟩
end Go.Proofs.Ytofiibmpindajaa
