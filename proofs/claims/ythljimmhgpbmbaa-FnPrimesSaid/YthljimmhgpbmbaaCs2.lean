/- The model's UnionIn and MeetIn. -/
import Derived.Test.YthljimmhgpbmbaaCo1
import Derived.Test.YthljimmhgpbmbaaAs2
namespace Go.Proofs.Ythljimmhgpbmbaa
open Go.ChangeShapes Go.WideShapes Go.ChangeAt Go.RowKit Go.Proofs

theorem mem_get {xs : List Int} {x : Int} (h : x ∈ xs) : ∃ i, i < xs.length ∧ xs.getD i 0 = x := by
  obtain ⟨i, hi, e⟩ := List.mem_iff_getElem.1 h
  exact ⟨i, hi, by rw [List.getD_eq_getElem?_getD, List.getElem?_eq_getElem hi]; exact e⟩
theorem closed_yes {op : Int → Int → Int} (hs : Semi op) {xs : List Int} (hA : Asc xs) (h0 : ∀ z ∈ xs, 0 ≤ z) (h : ∀ a b, a < xs.length → b < a → op (xs.getD a 0) (xs.getD b 0) ∈ xs) : sameB (ucL op xs) xs = true := decide_eq_true ((ucL_fix hs hA h0).2 (fun x hx y hy => by
  obtain ⟨i, hi, rfl⟩ := mem_get hx
  obtain ⟨j, hj, rfl⟩ := mem_get hy
  rcases Nat.lt_trichotomy i j with h1 | h1 | h1
  · rw [hs.comm]; exact h j i hj h1
  · subst h1; rw [hs.idem _ (h0 _ hx)]; exact hx
  · exact h i j hi h1))
theorem closed_no {op : Int → Int → Int} (hs : Semi op) {xs : List Int} (h0 : ∀ z ∈ xs, 0 ≤ z) {x y : Int} (hx : x ∈ xs) (hy : y ∈ xs) (h : op x y ∉ xs) : sameB (ucL op xs) xs = false := decide_eq_false (fun e => h (by
  have := ucL_closed hs h0
  rw [e] at this
  exact this x hx y hy))

set_option maxRecDepth 20000 in
set_option maxHeartbeats 4000000 in
theorem clos_or (n : Int) (lv : Value) (xs : List Int) (S : Nat) (w : World) (hx : Row w S lv xs) (hS : S ≤ w.heap.size) (hf : famB n xs = true) :
    Calls Try.prog 51 #[.int .i64 n, lv, .bool true] w fun e w' => e = .returned (.bool (sameB (ucL orI xs) xs)) ∧ Below w.heap.size w w' := by
  obtain ⟨n1, n2, hset0⟩ := famB_all hf
  have l1 := famB_len hf
  have hyes := Lib.hid (closed_yes semi_or (famB_asc hf) (fun z hz => (famB_lt hf z hz).1))
  have hno := Lib.hid (fun (x y : Int) (hx : x ∈ xs) (hy : y ∈ xs) (h : orI x y ∉ xs) => closed_no semi_or (fun z hz => (famB_lt hf z hz).1) hx hy h)
  obtain ⟨a, cap, rfl, ha⟩ := id hx
  have hset : ∀ x, setB n x = true → ∃ t : Nat, x = t ∧ t < 2 ^ n.toNat := fun x h => set_nat h
  obtain ⟨p1, p2, p3⟩ := pow_nat n1 n2
  have hma := marks_at n _ xs S w hx hS (by omega) n1 n2 (List.all_eq_true.2 hset0)
  obtain ⟨N, hN⟩ : ∃ N : Nat, 2 ^ n.toNat = N := ⟨_, rfl⟩
  rw [hN] at p1 p2 p3 hset hma
  replace hma := Lib.hid hma
  replace hN := Lib.hid hN
  replace hset := Lib.hid hset
  replace hset0 := Lib.hid hset0
  replace ha := Lib.hid ha
  replace hf := Lib.hid hf
  obtain ⟨R, hR⟩ : ∃ R, sameB (ucL orI xs) xs = R := ⟨_, rfl⟩
  rw [hR] at hyes hno ⊢
  replace hR := Lib.hid hR
  clear hx
  go_enter Try.func51, Try.ntmps51
  go_wp2_with fail
  refine hma.out.mono ?_
  rintro e W2 ⟨b, rfl, hbB, hbW, hrow, hb2⟩
  replace hrow := Lib.hid hrow
  replace hb2 := Lib.hid hb2
  clear hma
  go_wp2_with fail
  go_loopw [8] (fun q wr => ∃ k : Nat, k ≤ xs.length ∧ q = .int .i64 k ∧ Hid (Below W2.heap.size W2 wr) ∧ Hid (∀ a b, a < k → b < a → orI (xs.getD a 0) (xs.getD b 0) ∈ xs)) (fun q _ => xs.length - (intOf q).toNat)
  case atStart => exact ⟨0, by omega, rfl, Lib.hid (Below.refl _ _), Lib.hid (fun a b h => by omega)⟩
  case round =>
    obtain ⟨k, hk, rfl, hbk, hall⟩ := hrel
    by_cases hlt : k < xs.length
    · obtain ⟨b1, o1, rfl, s1, c1⟩ := ha.out (by omega)
      have k1 : (0 : Int) ≤ (k : Int) := by omega
      have k2 : (k : Int) < (xs.length : Nat) := by omega
      obtain ⟨x, hx1⟩ : ∃ x, xs.getD k 0 = x := ⟨_, rfl⟩
      have hmx := Lib.hid (show x ∈ xs by rw [← hx1]; exact getD_mem hlt)
      replace hx1 := Lib.hid hx1
      replace c1 := Lib.hid c1
      go_wp2_with fail
      go_loopw [9] (fun q wr => ∃ j : Nat, j ≤ k ∧ q = .int .i64 j ∧ Hid (Below W2.heap.size W2 wr) ∧ Hid (∀ b, b < j → orI x (xs.getD b 0) ∈ xs)) (fun q _ => k - (intOf q).toNat)
      case atStart => exact ⟨0, by omega, rfl, hbk, Lib.hid (fun b h => by omega)⟩
      case round =>
        obtain ⟨j, hj, rfl, hbj, hin⟩ := hrel
        by_cases hlj : j < k
        · have j1 : (0 : Int) ≤ (j : Int) := by omega
          have j2 : (j : Int) < (xs.length : Nat) := by omega
          have j3 : (j : Int) < (k : Int) := by omega
          have hcc : ∀ i, i < xs.length → wr.cell? ⟨b1, o1 + i, none⟩ = some (.int .i64 (xs.getD i 0)) := fun i hi => (hbj.out.cell (p := ⟨b1, o1 + i, none⟩) (show b1 < W2.heap.size by have := hb2.out.size; omega)).trans ((hb2.out.cell (p := ⟨b1, o1 + i, none⟩) (show b1 < w.heap.size by omega)).trans (c1.out i hi))
          have e1 := hcc k hlt
          have e2 := hcc j (by omega)
          rw [hx1.out] at e1
          obtain ⟨y, hy0⟩ : ∃ y, xs.getD j 0 = y := ⟨_, rfl⟩
          have hmy : y ∈ xs := by rw [← hy0]; exact getD_mem (by omega)
          rw [hy0] at e2
          have hsx := hset0.out x hmx.out
          have hsy := hset0.out y hmy
          obtain ⟨x1, x2⟩ := setB_lt hsx
          obtain ⟨y1, y2⟩ := setB_lt hsy
          have ho := i64_orI x1 x2 y1 y2
          have hoa := i64_andI x1 x2 y1 y2
          obtain ⟨t, hte, ht⟩ := hset.out _ ((semi_or).keep n x y hsx hsy)
          rw [hte] at ho
          obtain ⟨r2, hr2⟩ : ∃ r2, andI x y = r2 := ⟨_, rfl⟩
          rw [hr2] at hoa
          replace hr2 := Lib.hid hr2
          have t1 : (0 : Int) ≤ (t : Int) := by omega
          have t2 : (t : Int) < (N : Nat) := by omega
          have e3 : wr.cell? ⟨b, t, none⟩ = some (.bool (memB (t : Int) xs)) := World.rowIs.cell (hrow.out.below hbj.out hbW) ht
          have hzz := hbj.out.size
          rcases (by cases memB (t : Int) xs <;> simp : memB (t : Int) xs = true ∨ memB (t : Int) xs = false) with hm | hm
          · rw [hm] at e3
            have hin' := Lib.hid (show ∀ b, b < j + 1 → orI x (xs.getD b 0) ∈ xs from fun b hb => by
              by_cases e : b = j
              · subst e; rw [hy0, hte]; exact memB_yes hm
              · exact hin.out b (by omega))
            replace hte := Lib.hid hte
            replace hy0 := Lib.hid hy0
            replace hm := Lib.hid hm
            replace hmy := Lib.hid hmy
            replace hcc := Lib.hid hcc
            replace hsx := Lib.hid hsx
            replace hsy := Lib.hid hsy
            go_wp2_with fail
            go_quiet (fail)
            go_wp2_with fail
            go_quiet (fail)
            go_wp2_with fail
            go_roundw
            case rel => exact ⟨j + 1, by omega, by go_num, Lib.hid (by first | exact below_drewN hbj.out _ | exact below_drewN (below_drewN hbj.out _) _), hin'⟩
            case measure => simp [intOf]; omega
          · rw [hm] at e3
            have hfin := Lib.hid (hno.out x y hmx.out hmy (by rw [hte]; exact memB_no hm))
            replace hte := Lib.hid hte
            replace hy0 := Lib.hid hy0
            replace hm := Lib.hid hm
            replace hmy := Lib.hid hmy
            replace hcc := Lib.hid hcc
            replace hsx := Lib.hid hsx
            replace hsy := Lib.hid hsy
            go_wp2_with fail
            go_quiet (fail)
            go_wp2_with fail
            go_quiet (fail)
            go_wp2_with fail
            go_ret
            exact ⟨ret_bool hfin.out.symm, by first | exact below_drewN (hb2.out.trans (hbj.out.mono hb2.out.size)) _ | exact below_drewN (below_drewN (hb2.out.trans (hbj.out.mono hb2.out.size)) _) _⟩
        · obtain rfl : j = k := by omega
          have hall' := Lib.hid (show ∀ a b, a < j + 1 → b < a → orI (xs.getD a 0) (xs.getD b 0) ∈ xs from fun a b h1 h2 => by
            by_cases e : a = j
            · subst e; rw [hx1.out]; exact hin.out b h2
            · exact hall.out a b (by omega) h2)
          go_wp2_with fail
          go_roundw
          case rel => exact ⟨j + 1, by omega, by go_num, hbj, hall'⟩
          case measure => simp [intOf]; omega
    · obtain rfl : k = xs.length := by omega
      have hfin := Lib.hid (hyes.out hall.out)
      go_wp2_with fail
      go_ret
      exact ⟨ret_bool hfin.out.symm, hb2.out.trans (hbk.out.mono hb2.out.size)⟩

set_option maxHeartbeats 2000000 in
theorem sp_UnionIn (n : Int) (lv : Value) (xs : List Int) (S : Nat) (w : World) (hx : Row w S lv xs) (hS : S ≤ w.heap.size) (hl : xs.length ≤ 100000000) :
    Calls Try.prog 20 #[.int .i64 n, lv] w fun e w' => e = .returned (.bool (famB n xs && sameB (ucL orI xs) xs)) ∧ Below w.heap.size w w' := by
  have h1 := sp_FamilyIn n lv xs S w hx (by omega)
  obtain ⟨a, cap, rfl, ha⟩ := id hx
  rcases (by cases famB n xs <;> simp : famB n xs = true ∨ famB n xs = false) with f1 | f1
  · rw [f1] at h1 ⊢
    rw [Bool.true_and]
    have hot := fun q : Nat => clos_or n _ xs S (w.drewN q) (hx.drewN q) hS f1
    obtain ⟨b, hb⟩ : ∃ b, sameB (ucL orI xs) xs = b := ⟨_, rfl⟩
    rw [hb] at hot ⊢
    replace hb := Lib.hid hb
    replace hot := Lib.hid hot
    replace h1 := Lib.hid h1
    replace f1 := Lib.hid f1
    clear hx ha
    go_enter Try.func20, Try.ntmps20
    go_wp2_with fail
    refine h1.out.mono ?_
    rintro e w1 ⟨rfl, q, rfl⟩
    clear h1
    go_wp2_with fail
    refine (hot.out q).mono ?_
    rintro e w3 ⟨rfl, hb3⟩
    replace hb3 := Lib.hid ((below_drewN (Below.refl w.heap.size w) q).trans hb3)
    go_wp2_with fail
    go_ret
    exact ⟨rfl, hb3.out⟩
  · rw [f1] at h1 ⊢
    rw [Bool.false_and]
    replace h1 := Lib.hid h1
    replace f1 := Lib.hid f1
    clear hx ha
    go_enter Try.func20, Try.ntmps20
    go_wp2_with fail
    refine h1.out.mono ?_
    rintro e w1 ⟨rfl, q, rfl⟩
    go_wp2_with fail
    go_ret
    exact ⟨rfl, below_drewN (Below.refl _ w) q⟩

set_option maxRecDepth 20000 in
set_option maxHeartbeats 4000000 in
theorem clos_and (n : Int) (lv : Value) (xs : List Int) (S : Nat) (w : World) (hx : Row w S lv xs) (hS : S ≤ w.heap.size) (hf : famB n xs = true) :
    Calls Try.prog 51 #[.int .i64 n, lv, .bool false] w fun e w' => e = .returned (.bool (sameB (ucL andI xs) xs)) ∧ Below w.heap.size w w' := by
  obtain ⟨n1, n2, hset0⟩ := famB_all hf
  have l1 := famB_len hf
  have hyes := Lib.hid (closed_yes semi_and (famB_asc hf) (fun z hz => (famB_lt hf z hz).1))
  have hno := Lib.hid (fun (x y : Int) (hx : x ∈ xs) (hy : y ∈ xs) (h : andI x y ∉ xs) => closed_no semi_and (fun z hz => (famB_lt hf z hz).1) hx hy h)
  obtain ⟨a, cap, rfl, ha⟩ := id hx
  have hset : ∀ x, setB n x = true → ∃ t : Nat, x = t ∧ t < 2 ^ n.toNat := fun x h => set_nat h
  obtain ⟨p1, p2, p3⟩ := pow_nat n1 n2
  have hma := marks_at n _ xs S w hx hS (by omega) n1 n2 (List.all_eq_true.2 hset0)
  obtain ⟨N, hN⟩ : ∃ N : Nat, 2 ^ n.toNat = N := ⟨_, rfl⟩
  rw [hN] at p1 p2 p3 hset hma
  replace hma := Lib.hid hma
  replace hN := Lib.hid hN
  replace hset := Lib.hid hset
  replace hset0 := Lib.hid hset0
  replace ha := Lib.hid ha
  replace hf := Lib.hid hf
  obtain ⟨R, hR⟩ : ∃ R, sameB (ucL andI xs) xs = R := ⟨_, rfl⟩
  rw [hR] at hyes hno ⊢
  replace hR := Lib.hid hR
  clear hx
  go_enter Try.func51, Try.ntmps51
  go_wp2_with fail
  refine hma.out.mono ?_
  rintro e W2 ⟨b, rfl, hbB, hbW, hrow, hb2⟩
  replace hrow := Lib.hid hrow
  replace hb2 := Lib.hid hb2
  clear hma
  go_wp2_with fail
  go_loopw [8] (fun q wr => ∃ k : Nat, k ≤ xs.length ∧ q = .int .i64 k ∧ Hid (Below W2.heap.size W2 wr) ∧ Hid (∀ a b, a < k → b < a → andI (xs.getD a 0) (xs.getD b 0) ∈ xs)) (fun q _ => xs.length - (intOf q).toNat)
  case atStart => exact ⟨0, by omega, rfl, Lib.hid (Below.refl _ _), Lib.hid (fun a b h => by omega)⟩
  case round =>
    obtain ⟨k, hk, rfl, hbk, hall⟩ := hrel
    by_cases hlt : k < xs.length
    · obtain ⟨b1, o1, rfl, s1, c1⟩ := ha.out (by omega)
      have k1 : (0 : Int) ≤ (k : Int) := by omega
      have k2 : (k : Int) < (xs.length : Nat) := by omega
      obtain ⟨x, hx1⟩ : ∃ x, xs.getD k 0 = x := ⟨_, rfl⟩
      have hmx := Lib.hid (show x ∈ xs by rw [← hx1]; exact getD_mem hlt)
      replace hx1 := Lib.hid hx1
      replace c1 := Lib.hid c1
      go_wp2_with fail
      go_loopw [9] (fun q wr => ∃ j : Nat, j ≤ k ∧ q = .int .i64 j ∧ Hid (Below W2.heap.size W2 wr) ∧ Hid (∀ b, b < j → andI x (xs.getD b 0) ∈ xs)) (fun q _ => k - (intOf q).toNat)
      case atStart => exact ⟨0, by omega, rfl, hbk, Lib.hid (fun b h => by omega)⟩
      case round =>
        obtain ⟨j, hj, rfl, hbj, hin⟩ := hrel
        by_cases hlj : j < k
        · have j1 : (0 : Int) ≤ (j : Int) := by omega
          have j2 : (j : Int) < (xs.length : Nat) := by omega
          have j3 : (j : Int) < (k : Int) := by omega
          have hcc : ∀ i, i < xs.length → wr.cell? ⟨b1, o1 + i, none⟩ = some (.int .i64 (xs.getD i 0)) := fun i hi => (hbj.out.cell (p := ⟨b1, o1 + i, none⟩) (show b1 < W2.heap.size by have := hb2.out.size; omega)).trans ((hb2.out.cell (p := ⟨b1, o1 + i, none⟩) (show b1 < w.heap.size by omega)).trans (c1.out i hi))
          have e1 := hcc k hlt
          have e2 := hcc j (by omega)
          rw [hx1.out] at e1
          obtain ⟨y, hy0⟩ : ∃ y, xs.getD j 0 = y := ⟨_, rfl⟩
          have hmy : y ∈ xs := by rw [← hy0]; exact getD_mem (by omega)
          rw [hy0] at e2
          have hsx := hset0.out x hmx.out
          have hsy := hset0.out y hmy
          obtain ⟨x1, x2⟩ := setB_lt hsx
          obtain ⟨y1, y2⟩ := setB_lt hsy
          have ho := i64_andI x1 x2 y1 y2
          have hoa := i64_andI x1 x2 y1 y2
          obtain ⟨t, hte, ht⟩ := hset.out _ ((semi_and).keep n x y hsx hsy)
          rw [hte] at ho
          clear hoa
          have t1 : (0 : Int) ≤ (t : Int) := by omega
          have t2 : (t : Int) < (N : Nat) := by omega
          have e3 : wr.cell? ⟨b, t, none⟩ = some (.bool (memB (t : Int) xs)) := World.rowIs.cell (hrow.out.below hbj.out hbW) ht
          have hzz := hbj.out.size
          rcases (by cases memB (t : Int) xs <;> simp : memB (t : Int) xs = true ∨ memB (t : Int) xs = false) with hm | hm
          · rw [hm] at e3
            have hin' := Lib.hid (show ∀ b, b < j + 1 → andI x (xs.getD b 0) ∈ xs from fun b hb => by
              by_cases e : b = j
              · subst e; rw [hy0, hte]; exact memB_yes hm
              · exact hin.out b (by omega))
            replace hte := Lib.hid hte
            replace hy0 := Lib.hid hy0
            replace hm := Lib.hid hm
            replace hmy := Lib.hid hmy
            replace hcc := Lib.hid hcc
            replace hsx := Lib.hid hsx
            replace hsy := Lib.hid hsy
            go_wp2_with fail
            go_quiet (fail)
            go_wp2_with fail
            go_roundw
            case rel => exact ⟨j + 1, by omega, by go_num, Lib.hid (by first | exact below_drewN hbj.out _ | exact below_drewN (below_drewN hbj.out _) _), hin'⟩
            case measure => simp [intOf]; omega
          · rw [hm] at e3
            have hfin := Lib.hid (hno.out x y hmx.out hmy (by rw [hte]; exact memB_no hm))
            replace hte := Lib.hid hte
            replace hy0 := Lib.hid hy0
            replace hm := Lib.hid hm
            replace hmy := Lib.hid hmy
            replace hcc := Lib.hid hcc
            replace hsx := Lib.hid hsx
            replace hsy := Lib.hid hsy
            go_wp2_with fail
            go_quiet (fail)
            go_wp2_with fail
            go_ret
            exact ⟨ret_bool hfin.out.symm, by first | exact below_drewN (hb2.out.trans (hbj.out.mono hb2.out.size)) _ | exact below_drewN (below_drewN (hb2.out.trans (hbj.out.mono hb2.out.size)) _) _⟩
        · obtain rfl : j = k := by omega
          have hall' := Lib.hid (show ∀ a b, a < j + 1 → b < a → andI (xs.getD a 0) (xs.getD b 0) ∈ xs from fun a b h1 h2 => by
            by_cases e : a = j
            · subst e; rw [hx1.out]; exact hin.out b h2
            · exact hall.out a b (by omega) h2)
          go_wp2_with fail
          go_roundw
          case rel => exact ⟨j + 1, by omega, by go_num, hbj, hall'⟩
          case measure => simp [intOf]; omega
    · obtain rfl : k = xs.length := by omega
      have hfin := Lib.hid (hyes.out hall.out)
      go_wp2_with fail
      go_ret
      exact ⟨ret_bool hfin.out.symm, hb2.out.trans (hbk.out.mono hb2.out.size)⟩

set_option maxHeartbeats 2000000 in
theorem sp_MeetIn (n : Int) (lv : Value) (xs : List Int) (S : Nat) (w : World) (hx : Row w S lv xs) (hS : S ≤ w.heap.size) (hl : xs.length ≤ 100000000) :
    Calls Try.prog 24 #[.int .i64 n, lv] w fun e w' => e = .returned (.bool (famB n xs && sameB (ucL andI xs) xs)) ∧ Below w.heap.size w w' := by
  have h1 := sp_FamilyIn n lv xs S w hx (by omega)
  obtain ⟨a, cap, rfl, ha⟩ := id hx
  rcases (by cases famB n xs <;> simp : famB n xs = true ∨ famB n xs = false) with f1 | f1
  · rw [f1] at h1 ⊢
    rw [Bool.true_and]
    have hot := fun q : Nat => clos_and n _ xs S (w.drewN q) (hx.drewN q) hS f1
    obtain ⟨b, hb⟩ : ∃ b, sameB (ucL andI xs) xs = b := ⟨_, rfl⟩
    rw [hb] at hot ⊢
    replace hb := Lib.hid hb
    replace hot := Lib.hid hot
    replace h1 := Lib.hid h1
    replace f1 := Lib.hid f1
    clear hx ha
    go_enter Try.func24, Try.ntmps24
    go_wp2_with fail
    refine h1.out.mono ?_
    rintro e w1 ⟨rfl, q, rfl⟩
    clear h1
    go_wp2_with fail
    refine (hot.out q).mono ?_
    rintro e w3 ⟨rfl, hb3⟩
    replace hb3 := Lib.hid ((below_drewN (Below.refl w.heap.size w) q).trans hb3)
    go_wp2_with fail
    go_ret
    exact ⟨rfl, hb3.out⟩
  · rw [f1] at h1 ⊢
    rw [Bool.false_and]
    replace h1 := Lib.hid h1
    replace f1 := Lib.hid f1
    clear hx ha
    go_enter Try.func24, Try.ntmps24
    go_wp2_with fail
    refine h1.out.mono ?_
    rintro e w1 ⟨rfl, q, rfl⟩
    go_wp2_with fail
    go_ret
    exact ⟨rfl, below_drewN (Below.refl _ w) q⟩
end Go.Proofs.Ythljimmhgpbmbaa
