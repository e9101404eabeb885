/- A list of sets sorted in place: pivots, patterns broken. -/
import Derived.Test.YtgfmfecalhmplaaDoorSrt4
import Derived.Test.YtgfmfecalhmplaaDoorBits
namespace Go.Proofs.YtgfmfecalhmplaaDoor
open Go.ChangeShapes Go.WideShapes Go.ChangeAt Go.RowKit Go.Proofs

/-- what a call that turns the counter in cell b alone leaves. -/
def TurnI (b : Nat) (w w' : World) : Prop := (∃ y, w'.cell? ⟨b, 0, none⟩ = some (.int .i64 y)) ∧ w'.frozen? ⟨b, 0, none⟩ = false ∧ w'.heap.size = w.heap.size ∧ ∀ (g cap : Nat) (xs : List Int) (w0 : World), b ≠ g → w0.heap.size ≤ b → St g cap xs w0 w → St g cap xs w0 w'
theorem TurnI.step {b : Nat} {w w1 : World} (h : TurnI b w w1) (x : Int) : TurnI b w (w1.setCell ⟨b, 0, none⟩ (.int .i64 x)) := by
  obtain ⟨⟨y, hy⟩, hf, hz, hs⟩ := h
  refine ⟨⟨x, World.cell?_setCell_same _ _ _ hy⟩, ?_, ?_, fun g cap xs w0 h1 h2 h3 => St.other (hs g cap xs w0 h1 h2 h3) h1 h2 _⟩
  · simpa using hf
  · simp [World.setCell]; exact hz
theorem TurnI.drewN {b : Nat} {w w1 : World} (h : TurnI b w w1) (n : Nat) : TurnI b w (w1.drewN n) := ⟨h.1, h.2.1, h.2.2.1, fun g cap xs w0 h1 h2 h3 => (h.2.2.2 g cap xs w0 h1 h2 h3).drewN n⟩
theorem TurnI.refl {b : Nat} {w : World} {x : Int} (h : w.cell? ⟨b, 0, none⟩ = some (.int .i64 x)) (hf : w.frozen? ⟨b, 0, none⟩ = false) : TurnI b w w := ⟨⟨x, h⟩, hf, rfl, fun _ _ _ _ _ _ h => h⟩
theorem TurnI.trans {b : Nat} {w w1 w2 : World} (h : TurnI b w w1) (k : TurnI b w1 w2) : TurnI b w w2 := ⟨k.1, k.2.1, k.2.2.1.trans h.2.2.1, fun g cap xs w0 h1 h2 h3 => k.2.2.2 g cap xs w0 h1 h2 (h.2.2.2 g cap xs w0 h1 h2 h3)⟩
/-- the list and the counter, side by side. -/
structure Side (g cap c : Nat) (xs : List Int) (w0 w : World) : Prop where
  st : St g cap xs w0 w
  ne : c ≠ g
  lo : w0.heap.size ≤ c
  tu : TurnI c w w
theorem Side.turn {g cap c : Nat} {xs : List Int} {w0 w w' : World} (h : Side g cap c xs w0 w) (k : TurnI c w w') : Side g cap c xs w0 w' := ⟨k.2.2.2 _ _ _ _ h.ne h.lo h.st, h.ne, h.lo, ⟨k.1, k.2.1, rfl, fun _ _ _ _ _ _ h => h⟩⟩
def TwoPost (g cap c : Nat) (xs : List Int) (w0 : World) (a b : Nat) (e : Ending) (w' : World) : Prop := ∃ p q : Nat, e = .returned (.tuple #[.int .i64 p, .int .i64 q]) ∧ ((p = a ∧ q = b) ∨ (p = b ∧ q = a)) ∧ Side g cap c xs w0 w'
set_option maxHeartbeats 1000000 in
theorem order2 {g cap c : Nat} {xs : List Int} {w0 w : World} (h : Side g cap c xs w0 w) (a b : Nat) (_hl : xs.length ≤ 1000) (ha : a < xs.length) (hb : b < xs.length) :
    Calls Tryd.prog 126 #[.slice (some ⟨g, 0, none⟩) xs.length cap, .int .i64 (a : Nat), .int .i64 (b : Nat), .pointer (some ⟨c, 0, none⟩)] w (TwoPost g cap c xs w0 a b) := by
  obtain ⟨x, e1⟩ := h.st.at ha
  obtain ⟨y, e2⟩ := h.st.at hb
  obtain ⟨⟨k, e3⟩, f3, _, _⟩ := h.tu
  have k1 : (0 : Int) ≤ (a : Int) := by omega
  have k2 : (a : Int) < (xs.length : Nat) := by omega
  have k3 : (0 : Int) ≤ (b : Int) := by omega
  have k4 : (b : Int) < (xs.length : Nat) := by omega
  have hq := lessq y x
  obtain ⟨v, hv⟩ : ∃ v, decide (y < x) = v := ⟨_, rfl⟩
  rw [hv] at hq
  replace hv := Lib.hid hv
  replace h := Lib.hid h
  rcases (by cases v <;> simp : v = true ∨ v = false) with rfl | rfl
  · go_enter Tryd.func126, Tryd.ntmps126
    go_wp2_with fail
    go_quiet ((go_at_call 116; exact Calls.quiet_of_same (hq.out _)))
    go_wp2_with fail
    go_ret2
    exact ⟨b, a, rfl, .inr ⟨rfl, rfl⟩, h.out.turn (((TurnI.refl e3 f3).drewN _).step _)⟩
  · go_enter Tryd.func126, Tryd.ntmps126
    go_wp2_with fail
    go_quiet ((go_at_call 116; exact Calls.quiet_of_same (hq.out _)))
    go_wp2_with fail
    go_ret2
    exact ⟨a, b, rfl, .inl ⟨rfl, rfl⟩, h.out.turn ((TurnI.refl e3 f3).drewN _)⟩
def OnePost (g cap c : Nat) (xs : List Int) (w0 : World) (p : Nat → Prop) (e : Ending) (w' : World) : Prop := ∃ m : Nat, e = .returned (.int .i64 m) ∧ p m ∧ Side g cap c xs w0 w'
set_option maxHeartbeats 1000000 in
theorem median {g cap c : Nat} {xs : List Int} {w0 w : World} (h : Side g cap c xs w0 w) (i j k : Nat) (hl : xs.length ≤ 1000) (hi : i < xs.length) (hj : j < xs.length) (hk : k < xs.length) :
    Calls Tryd.prog 125 #[.slice (some ⟨g, 0, none⟩) xs.length cap, .int .i64 (i : Nat), .int .i64 (j : Nat), .int .i64 (k : Nat), .pointer (some ⟨c, 0, none⟩)] w (OnePost g cap c xs w0 fun m => m = i ∨ m = j ∨ m = k) := by
  have h1 := Lib.hid (order2 h i j hl hi hj)
  clear h
  go_enter Tryd.func125, Tryd.ntmps125
  go_wp2_with fail
  refine h1.out.mono ?_
  rintro e w1 ⟨p, q, rfl, hpq, hs⟩
  have h2 := Lib.hid (order2 hs q k hl (by omega) hk)
  replace hs := Lib.hid hs
  clear h1
  go_wp2_with fail
  refine h2.out.mono ?_
  rintro e w2 ⟨r, s, rfl, hrs, hs2⟩
  have h3 := Lib.hid (order2 hs2 p r hl (by omega) (by omega))
  replace hs2 := Lib.hid hs2
  clear h2
  go_wp2_with fail
  refine h3.out.mono ?_
  rintro e w3 ⟨t, u, rfl, htu, hs3⟩
  replace hs3 := Lib.hid hs3
  clear h3
  go_wp2_with fail
  go_ret
  exact ⟨u, rfl, by omega, hs3.out⟩
theorem median_adj {g cap c : Nat} {xs : List Int} {w0 w : World} (h : Side g cap c xs w0 w) (i : Nat) (hl : xs.length ≤ 1000) (h1 : 1 ≤ i) (hi : i + 1 < xs.length) :
    Calls Tryd.prog 124 #[.slice (some ⟨g, 0, none⟩) xs.length cap, .int .i64 (i : Nat), .pointer (some ⟨c, 0, none⟩)] w (OnePost g cap c xs w0 fun m => i ≤ m + 1 ∧ m ≤ i + 1) := by
  obtain ⟨i0, hi0⟩ : ∃ i0, i = i0 + 1 := ⟨i - 1, by omega⟩
  obtain ⟨i1, hi1⟩ : ∃ i1, i + 1 = i1 := ⟨_, rfl⟩
  have q0 : (i : Int) - 1 = (i0 : Int) := by omega
  have q1 : (i : Int) + 1 = (i1 : Int) := by omega
  have hm := Lib.hid (median h i0 i i1 hl (by omega) (by omega) (by omega))
  have hg := Lib.hid (show i = i0 + 1 ∧ i + 1 = i1 from ⟨hi0, hi1⟩)
  clear hi0 hi1 h
  go_enter Tryd.func124, Tryd.ntmps124
  go_wp2_with fail
  refine hm.out.mono ?_
  rintro e w1 ⟨m, rfl, hm1, hs⟩
  replace hs := Lib.hid hs
  go_wp2_with fail
  go_ret
  exact ⟨m, rfl, by have := hg.out; omega, hs.out⟩
theorem St.alloc {g cap : Nat} {xs : List Int} {w0 w : World} (h : St g cap xs w0 w) (o : Obj) : St g cap xs w0 (w.alloc o) := by
  obtain ⟨ys, hq, ⟨cur, h1, h2, h3, h4⟩, hg⟩ := h
  have hlt := (Array.getElem?_eq_some_iff.1 h1).1
  exact ⟨ys, hq, ⟨cur, (Below.heap_alloc _ _ _ hlt).trans h1, h2, h3, h4⟩, ⟨hg.os, hg.tape, hg.output, Nat.le_trans hg.size (by simp), fun j hj hne => (Below.heap_alloc _ _ _ (Nat.lt_of_lt_of_le hj hg.size)).trans (hg.block j hj hne)⟩⟩
theorem Side.new {g cap : Nat} {xs : List Int} {w0 w : World} (h : St g cap xs w0 w) (x : Int) : Side g cap w.heap.size xs w0 (w.alloc (.cells #[.int .i64 x] 3)) := by
  have hlt := h.lt
  refine ⟨h.alloc _, by omega, h.size, TurnI.refl (x := x) ?_ ?_⟩
  · rw [cell_of_row _ _ 0 _ 3 (0, 0) (heap_alloc_new w _)]; rfl
  · exact frozen_of (heap_alloc_new w _) 0
/-- what choosePivot leaves. -/
def PivPost (g cap : Nat) (xs : List Int) (w0 : World) (a b : Nat) (e : Ending) (w' : World) : Prop := ∃ (m : Nat) (h : Int), e = .returned (.tuple #[.int .i64 m, .int .i64 h]) ∧ a ≤ m ∧ m < b ∧ 0 ≤ h ∧ h ≤ 2 ∧ St g cap xs w0 w'
set_option maxHeartbeats 4000000 in
theorem pivot_st {g cap : Nat} {xs : List Int} {w0 w : World} (h : St g cap xs w0 w) (a b : Nat) (hl : xs.length ≤ 1000) (hb : b ≤ xs.length) (hab : a + 13 ≤ b) :
    Calls Tryd.prog 113 #[.slice (some ⟨g, 0, none⟩) xs.length cap, .int .i64 (a : Nat), .int .i64 (b : Nat)] w (PivPost g cap xs w0 a b) := by
  have hs := Lib.hid (Side.new h 0)
  obtain ⟨L, hL⟩ : ∃ L : Nat, b - a = L := ⟨_, rfl⟩
  have hLi : (b : Int) - (a : Int) = (L : Int) := by omega
  obtain ⟨Q, hQ⟩ : ∃ Q : Nat, L / 4 = Q := ⟨_, rfl⟩
  have hQi : (L : Int) / 4 = (Q : Int) := by omega
  obtain ⟨I, hI⟩ : ∃ I : Nat, a + Q = I := ⟨_, rfl⟩
  have hIi : (a : Int) + (Q : Int) = (I : Int) := by omega
  obtain ⟨J, hJ⟩ : ∃ J : Nat, a + Q * 2 = J := ⟨_, rfl⟩
  have hJi : (a : Int) + (Q : Int) * 2 = (J : Int) := by omega
  obtain ⟨K, hK⟩ : ∃ K : Nat, a + Q * 3 = K := ⟨_, rfl⟩
  have hKi : (a : Int) + (Q : Int) * 3 = (K : Int) := by omega
  have hL8 : (8 : Int) ≤ (L : Int) := by omega
  have hin : Hid (a ≤ I ∧ I < b ∧ a ≤ J ∧ J < b ∧ a ≤ K ∧ K < b ∧ (50 ≤ L → a + 12 ≤ I ∧ I + 1 < b ∧ a + 12 ≤ J ∧ J + 1 < b ∧ a + 12 ≤ K ∧ K + 1 < b)) := Lib.hid (by refine ⟨?_, ?_, ?_, ?_, ?_, ?_, fun hh => ?_⟩ <;> omega)
  replace hL := Lib.hid hL
  replace hQ := Lib.hid hQ
  replace hI := Lib.hid hI
  replace hJ := Lib.hid hJ
  replace hK := Lib.hid hK
  clear h
  have hpost : ∀ (m : Nat) (w' : World), a ≤ m → m < b → Side g cap w.heap.size xs w0 w' → ∀ hh : Int, 0 ≤ hh → hh ≤ 2 → PivPost g cap xs w0 a b (.returned (.tuple #[.int .i64 m, .int .i64 hh])) w' := fun m w' h1 h2 h3 hh h4 h5 => ⟨m, hh, rfl, h1, h2, h4, h5, h3.st⟩
  replace hpost := Lib.hid hpost
  go_enter Tryd.func113, Tryd.ntmps113
  by_cases h50 : 50 ≤ L
  · have h50i : (50 : Int) ≤ (L : Int) := by omega
    obtain ⟨g1, g2, g3, g4, g5, g6, g7⟩ := hin.out
    obtain ⟨m1, m2, m3, m4, m5, m6⟩ := g7 h50
    have c1 := Lib.hid (median_adj hs.out I hl (by omega) (by omega))
    go_wp2_with fail
    refine c1.out.mono ?_
    rintro e w1 ⟨i, rfl, hi, hs1⟩
    have c2 := Lib.hid (median_adj hs1 J hl (by omega) (by omega))
    clear hs1 c1
    go_wp2_with fail
    refine c2.out.mono ?_
    rintro e w2 ⟨j, rfl, hj, hs2⟩
    have c3 := Lib.hid (median_adj hs2 K hl (by omega) (by omega))
    clear hs2 c2
    go_wp2_with fail
    refine c3.out.mono ?_
    rintro e w3 ⟨k, rfl, hk, hs3⟩
    have c4 := Lib.hid (median hs3 i j k hl (by omega) (by omega) (by omega))
    clear hs3 c3
    go_wp2_with fail
    refine c4.out.mono ?_
    rintro e w4 ⟨m, rfl, hm, hs4⟩
    have hm1 : a ≤ m := by omega
    have hm2 : m < b := by omega
    obtain ⟨⟨y, ey⟩, _, _, _⟩ := hs4.tu
    replace hs4 := Lib.hid hs4
    clear c4
    by_cases hy0 : y = 0
    · subst hy0
      go_wp2_with fail
      go_ret2
      exact hpost.out m _ hm1 hm2 hs4.out 1 (by omega) (by omega)
    · have hd0 : (y == 0) = false := by simp [hy0]
      by_cases hy12 : y = 12
      · subst hy12
        go_wp2_with fail
        go_ret2
        exact hpost.out m _ hm1 hm2 hs4.out 2 (by omega) (by omega)
      · have hd12 : (y == 12) = false := by simp [hy12]
        go_wp2_with fail
        go_ret2
        exact hpost.out m _ hm1 hm2 hs4.out 0 (by omega) (by omega)
  · have h50i : ¬ (50 : Int) ≤ (L : Int) := by omega
    obtain ⟨g1, g2, g3, g4, g5, g6, g7⟩ := hin.out
    have c4 := Lib.hid (median hs.out I J K hl (by omega) (by omega) (by omega))
    clear g7
    go_wp2_with fail
    refine c4.out.mono ?_
    rintro e w4 ⟨m, rfl, hm, hs4⟩
    have hm1 : a ≤ m := by omega
    have hm2 : m < b := by omega
    obtain ⟨⟨y, ey⟩, _, _, _⟩ := hs4.tu
    replace hs4 := Lib.hid hs4
    clear c4
    by_cases hy0 : y = 0
    · subst hy0
      go_wp2_with fail
      go_ret2
      exact hpost.out m _ hm1 hm2 hs4.out 1 (by omega) (by omega)
    · have hd0 : (y == 0) = false := by simp [hy0]
      by_cases hy12 : y = 12
      · subst hy12
        go_wp2_with fail
        go_ret2
        exact hpost.out m _ hm1 hm2 hs4.out 2 (by omega) (by omega)
      · have hd12 : (y == 12) = false := by simp [hy12]
        go_wp2_with fail
        go_ret2
        exact hpost.out m _ hm1 hm2 hs4.out 0 (by omega) (by omega)
end Go.Proofs.YtgfmfecalhmplaaDoor
