/- Scripts: Execute at a script that shows a level. -/
import Derived.Test.YtojfamjgghikoaaGreatDoorEx8
namespace Go.Proofs.YtojfamjgghikoaaGreatDoor
open Go.ChangeShapes Go.WideShapes Go.ChangeAt Go.RowKit Go.Proofs Go.Shelf

theorem Wrote.at {w : World} {b : Nat} {l : List UInt8} (h : Wrote w b l) : ∃ cs, w.heap[b]? = some (.cells cs 46 (0, 0)) := h.elim (fun ⟨_, _, h2, _⟩ => ⟨_, h2⟩) (fun ⟨_, _, h2, _⟩ => ⟨_, h2⟩)
theorem Wrote.below {w w' : World} {b : Nat} {l : List UInt8} (h : Wrote w b l) (hb : Below w.heap.size w w') : Wrote w' b l := by
  have key : ∀ p, Lib.BuilderAtF 46 5 b b p (Lib.byteCells l) w → Lib.BuilderAtF 46 5 b b p (Lib.byteCells l) w' := fun p ⟨h1, u, h2, h3, h4⟩ =>
    ⟨h1, u, (hb.block b (Array.getElem?_eq_some_iff.1 h2).1).trans h2, h3.kept (row := none) ⟨hb.os, hb.tape, hb.output, hb.size, fun i hi _ => hb.block i hi⟩ (by cases u.ownBlock <;> simp), h4⟩
  exact h.elim (fun x => .inl (key _ x)) (fun x => .inr (key _ x))
theorem kept_row {w w' : World} {b g : Nat} {c : Array Value} {t : TypeId} {cs : Array Value} (ho : Lib.OthersKept 5 (some b) w w') (hb : w.heap[b]? = some (.cells cs 46 (0, 0))) (hg : w.heap[g]? = some (.cells c t (0, 0))) (ht : t ≠ 5) (ht2 : t ≠ 46) : w'.heap[g]? = w.heap[g]? := by
  rw [hg]
  refine ho g _ hg (fun e => ?_) (fun c' fz e => ?_)
  · injection e with e
    subst e
    rw [hg] at hb
    injection hb with hb
    injection hb with _ hb _
    exact ht2 hb
  · injection e with _ e _
    exact ht e
theorem IntRow.others {w w' : World} {b B : Nat} {v : Value} {xs : List Int} {cs : Array Value} (h : IntRow w B v xs) (ho : Lib.OthersKept 5 (some b) w w') (hb : w.heap[b]? = some (.cells cs 46 (0, 0))) : IntRow w' B v xs := by
  obtain ⟨g, rfl, h2, c, h3, h4⟩ := h
  exact ⟨g, rfl, h2, c, (kept_row ho hb h3 (by decide) (by decide)).trans h3, h4⟩
/-- the lines' row. -/
def lnR (d k : Nat) : Obj := .cells #[.string (lnP d), .string (lnL k), .string lnS, .string ⟨#[]⟩] 9 (0, 0)
/-- what holds ahead of line j: the number of points, the family, what is written. -/
def ExIs (d k j : Nat) (n : Int) (v : Value) (l : List UInt8) (wr : World) : Prop :=
  (j = 0 ∧ n = 5 ∧ v = .slice none 0 0 ∧ l = []) ∨ (j = 1 ∧ n = (d : Nat) ∧ v = .slice none 0 0 ∧ l = [111, 107, 10]) ∨
  (j = 2 ∧ n = (d : Nat) ∧ IntRow wr 0 v (levL (d : Nat) (k : Nat)) ∧ l = [111, 107, 10, 111, 107, 10]) ∨ (j = 3 ∧ n = (d : Nat) ∧ IntRow wr 0 v (levL (d : Nat) (k : Nat)) ∧ l = [111, 107, 10, 111, 107, 10] ++ spB (levL (d : Nat) (k : Nat)) ++ [10])
structure ExSt (w : World) (d k j : Nat) (wr : World) : Prop where
  all : ∃ n v l, Bench wr w.heap.size n v ∧ Wrote wr (w.heap.size + 1) l ∧ ExIs d k j n v l wr
  row : wr.heap[w.heap.size + 1 + 1]? = some (lnR d k)
  bel : Below w.heap.size w wr
/-- a line is answered and written. -/
theorem ExSt.wrote {w : World} {d k j : Nat} {wr w2 w3 : World} {n n' : Int} {v v' : Value} {l A : List UInt8} (hB : Bench wr w.heap.size n v) (hW : Wrote wr (w.heap.size + 1) l) (hr : wr.heap[w.heap.size + 1 + 1]? = some (lnR d k)) (hb : Below w.heap.size w wr)
    (hO : Only w.heap.size wr w2) (hB2 : Bench w2 w.heap.size n' v') (hW3 : Wrote w3 (w.heap.size + 1) A) (hb3 : Below (w.heap.size + 1) w2 w3) (ho3 : Lib.OthersKept 5 (some (w.heap.size + 1)) w2 w3) (hx : ExIs d k j n' v' A w3) : ExSt w d k j w3 := by
  have hW2 := hW.only hO hB (by omega)
  obtain ⟨cs, hcs⟩ := hW2.at
  have hlt := hB2.lt
  have hr2 : w2.heap[w.heap.size + 1 + 1]? = some (lnR d k) := (hO.block _ (Array.getElem?_eq_some_iff.1 hr).1 (by intro e; injection e; omega)).trans hr
  have hb2 := hO.below hb (Nat.le_refl _) (by have := hB.lt; omega)
  exact ⟨⟨n', v', A, hB2.below hb3 (by omega), hW3, hx⟩, (kept_row ho3 hcs hr2 (by decide) (by decide)).trans hr2, hb2.trans (hb3.mono (by omega))⟩
/-- what the script of a level prints. -/
def scO (L : List Int) : List UInt8 := [111, 107, 10, 111, 107, 10] ++ spB L ++ [10] ++ [115, 101, 116, 115, 32] ++ Lib.decDigits L.length ++ [10]
set_option maxHeartbeats 8000000 in
theorem exec_level (d k : Nat) (w : World) (hs : szB (d : Nat) (k : Nat) = true) (d6 : d ≤ 6) :
    Calls Tryz.prog 10 #[.string (scL d k)] w fun e w' => e = .returned (.string ⟨(scO (levL (d : Nat) (k : Nat))).toArray⟩) ∧ Below w.heap.size w w' := by
  obtain ⟨n1, n2, k1, k2⟩ := szB_yes hs
  have hsz : (scL d k).size = 22 := rfl
  obtain ⟨hc3, hsp⟩ := split_dec ⟨d, by omega⟩ ⟨k, by omega⟩
  simp only at hc3 hsp
  have hsl := fun W => split_nl (scL d k) (by rw [hsz]; omega) W
  simp only [hc3, hsp] at hsl
  have hcf : Lib.cellsOf [lnP d, lnL k, lnS, ⟨#[]⟩] (3 + 1) = #[.string (lnP d), .string (lnL k), .string lnS, .string ⟨#[]⟩] := rfl
  simp only [hcf] at hsl
  obtain ⟨S, hS⟩ : ∃ S, scL d k = S := ⟨_, rfl⟩
  rw [hS] at hsz hsl ⊢
  have hsz2 : ((S.size : Nat) : Int) = 22 := by rw [hsz]; rfl
  replace hsl := Lib.hid hsl
  replace hS := Lib.hid hS
  clear hc3 hsp hcf
  have hLz : ∀ x ∈ levL (d : Nat) (k : Nat), 0 ≤ x ∧ x < 100 := fun x hx => by
    obtain ⟨_, _, h1, h2⟩ := setB_yes (levL_mem n1 n2 hx)
    rw [Int.toNat_natCast] at h2
    have h3 : (2 : Int) ^ d ≤ 64 := by
      have : ∀ n : Fin 7, (2 : Int) ^ n.val ≤ 64 := by decide
      exact this ⟨d, by omega⟩
    omega
  have hLl : (levL (d : Nat) (k : Nat)).length ≤ 64 := asc_len (levL_asc _ _) 0 64 (fun x hx => by
    obtain ⟨_, _, h1, h2⟩ := setB_yes (levL_mem n1 n2 hx)
    rw [Int.toNat_natCast] at h2
    have h3 : (2 : Int) ^ d ≤ 64 := by
      have : ∀ n : Fin 7, (2 : Int) ^ n.val ≤ 64 := by decide
      exact this ⟨d, by omega⟩
    omega)
  have hjl := join_le _ hLz
  have hspl : (spB (levL (d : Nat) (k : Nat))).length ≤ 200 := by
    unfold spB
    split
    · simp
    · omega
  have hI : ∀ wr v B, IntRow wr B v (levL (d : Nat) (k : Nat)) → IntRow wr 0 v (levL (d : Nat) (k : Nat)) := fun wr v B h => h.mono (Nat.zero_le _)
  go_enter Tryz.func10, Tryz.ntmps10
  go_wp2_with fail
  refine (hsl.out _).mono ?_
  rintro e w1 ⟨rfl, rfl⟩
  have st0 : ExSt w d k 0 ((((w.alloc (.cells #[.int .i64 5, .slice none 0 0] 43)).alloc (.cells #[.pointer none, .slice none 0 0] 46))).alloc (.cells #[.string (lnP d), .string (lnL k), .string lnS, .string ⟨#[]⟩] 9)) := by
    have hB1 : Bench (w.alloc (.cells #[.int .i64 5, .slice none 0 0] 43)) w.heap.size 5 (.slice none 0 0) := heap_alloc_new w _
    have e1 : (w.alloc (.cells #[.int .i64 5, .slice none 0 0] 43)).heap.size = w.heap.size + 1 := by simp
    have hf := Lib.fresh_isBuilder 46 5 (w.alloc (.cells #[.int .i64 5, .slice none 0 0] 43))
    rw [e1] at hf
    have hb1 := (Below.refl w.heap.size w).alloc (Nat.le_refl _) (.cells #[.int .i64 5, .slice none 0 0] 43)
    have hb2 := hb1.alloc (by simp) (.cells #[.pointer none, .slice none 0 0] 46)
    have hb3 := hb2.alloc (by simp; omega) (.cells #[.string (lnP d), .string (lnL k), .string lnS, .string ⟨#[]⟩] 9)
    refine ⟨⟨5, _, [], (hB1.below ((Below.refl _ _).alloc (Nat.le_refl _) _) (by simp)).below ((Below.refl _ _).alloc (Nat.le_refl _) _) (by simp; omega), ?_, .inl ⟨rfl, rfl, rfl, rfl⟩⟩, ?_, hb3⟩
    · exact Wrote.below (show Wrote _ _ [] from Lib.IsBuilderF.of hf) ((Below.refl _ _).alloc (Nat.le_refl _) _)
    · have := heap_alloc_new ((w.alloc (.cells #[.int .i64 5, .slice none 0 0] 43)).alloc (.cells #[.pointer none, .slice none 0 0] 46)) (.cells #[.string (lnP d), .string (lnL k), .string lnS, .string ⟨#[]⟩] 9)
      rw [World.size_alloc, World.size_alloc] at this
      exact this
  obtain ⟨W1, hW1⟩ : ∃ W1, (((w.alloc (.cells #[.int .i64 5, .slice none 0 0] 43)).alloc (.cells #[.pointer none, .slice none 0 0] 46))).alloc (.cells #[.string (lnP d), .string (lnL k), .string lnS, .string ⟨#[]⟩] 9) = W1 := ⟨_, rfl⟩
  rw [hW1] at st0 ⊢
  replace hW1 := Lib.hid hW1
  replace st0 := Lib.hid st0
  go_wp2_with fail
  go_loopw [21] (fun i wr => ∃ j : Nat, j ≤ 3 ∧ i = .int .i64 j ∧ Hid (ExSt w d k j wr)) (fun i _ => 3 - (intOf i).toNat)
  case atStart => exact ⟨0, by omega, rfl, st0⟩
  case round =>
    obtain ⟨j, hj, rfl, hst⟩ := hrel
    obtain ⟨⟨n, v, l, hB, hWr, hx⟩, hrow, hbel⟩ := hst.out
    clear hst
    have hlt := hB.lt
    have hbs := hbel.size
    by_cases hj3 : j < 3
    · have j1 : (0 : Int) ≤ (j : Int) := by omega
      have j2 : (j : Int) < 3 := by omega
      rcases (by omega : j = 0 ∨ j = 1 ∨ j = 2) with rfl | rfl | rfl
      · obtain ⟨rfl, rfl, rfl⟩ : n = 5 ∧ v = .slice none 0 0 ∧ l = [] := by
          rcases hx with ⟨_, h1, h2, h3⟩ | ⟨h0, _⟩ | ⟨h0, _⟩ | ⟨h0, _⟩
          · exact ⟨h1, h2, h3⟩
          all_goals omega
        have e1 : wr.cell? ⟨w.heap.size + 1 + 1, 0, none⟩ = some (.string (lnP d)) := by rw [cell_of_row _ _ 0 _ 9 (0, 0) hrow]; rfl
        have ha := Lib.hid (ans_P w.heap.size 5 (.slice none 0 0) d wr hB (by omega) (by omega))
        replace hB := Lib.hid hB
        replace hWr := Lib.hid hWr
        replace hrow := Lib.hid hrow
        replace hbel := Lib.hid hbel
        replace hx := Lib.hid hx
        go_wp2_with fail
        refine ha.out.mono ?_
        rintro e w2 ⟨rfl, hB2, hO2⟩
        have hw := Lib.hid (write_at (w.heap.size + 1) [] (⟨#[111, 107]⟩ ++ ⟨#[10]⟩) w2 (hWr.out.only hO2 hB.out (by omega)) (by decide) (by have := hO2.size; omega))
        replace hB2 := Lib.hid hB2
        replace hO2 := Lib.hid hO2
        go_wp2_with fail
        refine hw.out.mono ?_
        rintro e w3 ⟨rfl, hW3, hb3, ho3⟩
        have hn := Lib.hid (ExSt.wrote (j := 1) hB.out hWr.out hrow.out hbel.out hO2.out hB2.out hW3 hb3 ho3 (.inr (.inl ⟨rfl, rfl, rfl, rfl⟩)))
        clear hW3 hb3 ho3
        go_wp2_with fail
        go_roundw
        case rel => exact ⟨1, by omega, by go_num, hn⟩
        case measure => simp [intOf]
      · obtain ⟨rfl, rfl, rfl⟩ : n = (d : Nat) ∧ v = .slice none 0 0 ∧ l = [111, 107, 10] := by
          rcases hx with ⟨h0, _⟩ | ⟨_, h1, h2, h3⟩ | ⟨h0, _⟩ | ⟨h0, _⟩
          · omega
          · exact ⟨h1, h2, h3⟩
          all_goals omega
        have e1 : wr.cell? ⟨w.heap.size + 1 + 1, 1, none⟩ = some (.string (lnL k)) := by rw [cell_of_row _ _ 1 _ 9 (0, 0) hrow]; rfl
        have ha := Lib.hid (ans_L w.heap.size (d : Nat) (.slice none 0 0) k wr hB hs)
        replace hB := Lib.hid hB
        replace hWr := Lib.hid hWr
        replace hrow := Lib.hid hrow
        replace hbel := Lib.hid hbel
        replace hx := Lib.hid hx
        go_wp2_with fail
        refine ha.out.mono ?_
        rintro e w2 ⟨rfl, v2, hB2, hI2, hO2⟩
        have hW2 := hWr.out.only hO2 hB.out (by omega)
        obtain ⟨cs, hcs⟩ := hW2.at
        have hw := Lib.hid (write_at (w.heap.size + 1) [111, 107, 10] (⟨#[111, 107]⟩ ++ ⟨#[10]⟩) w2 hW2 (by decide) (by have := hO2.size; omega))
        replace hB2 := Lib.hid hB2
        replace hO2 := Lib.hid hO2
        replace hI2 := Lib.hid hI2
        replace hW2 := Lib.hid hW2
        replace hcs := Lib.hid hcs
        go_wp2_with fail
        refine hw.out.mono ?_
        rintro e w3 ⟨rfl, hW3, hb3, ho3⟩
        have hn := Lib.hid (ExSt.wrote (j := 2) hB.out hWr.out hrow.out hbel.out hO2.out hB2.out hW3 hb3 ho3 (.inr (.inr (.inl ⟨rfl, rfl, (hI2.out.others ho3 hcs.out).mono (Nat.zero_le _), rfl⟩))))
        clear hW3 hb3 ho3
        go_wp2_with fail
        go_roundw
        case rel => exact ⟨2, by omega, by go_num, hn⟩
        case measure => simp [intOf]
      · obtain ⟨rfl, hI0, rfl⟩ : n = (d : Nat) ∧ IntRow wr 0 v (levL (d : Nat) (k : Nat)) ∧ l = [111, 107, 10, 111, 107, 10] := by
          rcases hx with ⟨h0, _⟩ | ⟨h0, _⟩ | ⟨_, h1, h2, h3⟩ | ⟨h0, _⟩
          · omega
          · omega
          · exact ⟨h1, h2, h3⟩
          · omega
        have e1 : wr.cell? ⟨w.heap.size + 1 + 1, 2, none⟩ = some (.string lnS) := by rw [cell_of_row _ _ 2 _ 9 (0, 0) hrow]; rfl
        have ha := Lib.hid (ans_S w.heap.size (d : Nat) v (levL (d : Nat) (k : Nat)) wr hB hI0.row (by omega) hLz)
        have hsz3 : ((⟨(spB (levL (d : Nat) (k : Nat))).toArray⟩ : ByteArray) ++ ⟨#[10]⟩).data.toList = spB (levL (d : Nat) (k : Nat)) ++ [10] := by simp
        have hsz4 : ((⟨(spB (levL (d : Nat) (k : Nat))).toArray⟩ : ByteArray) ++ ⟨#[10]⟩).size = (spB (levL (d : Nat) (k : Nat))).length + 1 := by
          show ((⟨(spB (levL (d : Nat) (k : Nat))).toArray⟩ : ByteArray) ++ ⟨#[10]⟩).data.size = _
          rw [← Array.length_toList, hsz3]; simp
        obtain ⟨A, hA⟩ : ∃ A, spB (levL (d : Nat) (k : Nat)) = A := ⟨_, rfl⟩
        rw [hA] at ha hsz3 hsz4
        replace hB := Lib.hid hB
        replace hWr := Lib.hid hWr
        replace hrow := Lib.hid hrow
        replace hbel := Lib.hid hbel
        replace hx := Lib.hid hx
        replace hI0 := Lib.hid hI0
        replace hsz3 := Lib.hid hsz3
        replace hsz4 := Lib.hid hsz4
        go_wp2_with fail
        refine ha.out.mono ?_
        rintro e w2 ⟨rfl, hb2⟩
        have hO2 := Only.of_below (r := w.heap.size) hb2 (Nat.le_refl _)
        have hB2 := hB.out.below hb2 hlt
        have hW2 := hWr.out.only hO2 hB.out (by omega)
        obtain ⟨cs, hcs⟩ := hW2.at
        have hI2 : IntRow w2 0 v (levL (d : Nat) (k : Nat)) := hI0.out.heap (fun g hg => hb2.block g (by
          obtain ⟨g', e', _, hr'⟩ := hI0.out
          rw [e'] at hg
          have e2 : g' = g := Option.some.inj hg
          have := hr'.lt
          omega))
        have hAl : A.length ≤ 200 := by rw [← hA]; exact hspl
        have hw := Lib.hid (write_at (w.heap.size + 1) [111, 107, 10, 111, 107, 10] (⟨A.toArray⟩ ++ ⟨#[10]⟩) w2 hW2 (by rw [hsz4.out]; have := hAl; simp only [List.length_cons, List.length_nil]; omega) (by have := hb2.size; omega))
        rw [hsz3.out] at hw
        replace hA := Lib.hid hA
        replace hB2 := Lib.hid hB2
        replace hO2 := Lib.hid hO2
        replace hI2 := Lib.hid hI2
        replace hW2 := Lib.hid hW2
        replace hcs := Lib.hid hcs
        replace hb2 := Lib.hid hb2
        go_wp2_with fail
        refine hw.out.mono ?_
        rintro e w3 ⟨rfl, hW3, hb3, ho3⟩
        have hn := Lib.hid (ExSt.wrote (j := 3) hB.out hWr.out hrow.out hbel.out hO2.out hB2.out hW3 hb3 ho3 (.inr (.inr (.inr ⟨rfl, rfl, hI2.out.others ho3 hcs.out, by rw [hA.out]; simp⟩))))
        clear hW3 hb3 ho3
        go_wp2_with fail
        go_roundw
        case rel => exact ⟨3, by omega, by go_num, hn⟩
        case measure => simp [intOf]
    · obtain rfl : j = 3 := by omega
      obtain ⟨rfl, hI0, rfl⟩ : n = (d : Nat) ∧ IntRow wr 0 v (levL (d : Nat) (k : Nat)) ∧ l = [111, 107, 10, 111, 107, 10] ++ spB (levL (d : Nat) (k : Nat)) ++ [10] := by
        rcases hx with ⟨h0, _⟩ | ⟨h0, _⟩ | ⟨h0, _⟩ | ⟨_, h1, h2, h3⟩
        · omega
        · omega
        · omega
        · exact ⟨h1, h2, h3⟩
      obtain ⟨g, rfl, _, _⟩ := id hI0
      have hc := Lib.hid (wb_count w.heap.size (d : Nat) (some ⟨g, 0, none⟩) (levL (d : Nat) (k : Nat)).length (levL (d : Nat) (k : Nat)).length wr hB (by omega))
      obtain ⟨O, hO⟩ : ∃ O, ([111, 107, 10, 111, 107, 10] ++ spB (levL (d : Nat) (k : Nat)) ++ [10] : List UInt8) = O := ⟨_, rfl⟩
      obtain ⟨N, hN⟩ : ∃ N, (levL (d : Nat) (k : Nat)).length = N := ⟨_, rfl⟩
      have hN64 : N ≤ 64 := by omega
      have hOl : O.length ≤ 300 := by rw [← hO]; simp only [List.length_append, List.length_cons, List.length_nil]; omega
      have hscO : scO (levL (d : Nat) (k : Nat)) = O ++ (([115, 101, 116, 115, 32] ++ Lib.decDigits N) ++ [10]) := by rw [← hO, ← hN]; unfold scO; simp only [List.append_assoc]
      rw [hN] at hc
      rw [hO] at hWr
      have hD : (Lib.decDigits N).length ≤ 3 := by
        have : ∀ n : Fin 65, (Lib.decDigits n.val).length ≤ 3 := by decide +kernel
        exact this ⟨N, by omega⟩
      obtain ⟨R, hR⟩ : ∃ R : List UInt8, ([115, 101, 116, 115, 32] ++ Lib.decDigits N) ++ [10] = R := ⟨_, rfl⟩
      obtain ⟨Sb, hSb⟩ : ∃ Sb : ByteArray, (⟨#[115, 101, 116, 115, 32]⟩ ++ ⟨(Lib.decDigits N).toArray⟩ : ByteArray) ++ ⟨#[10]⟩ = Sb := ⟨_, rfl⟩
      have hSd : Sb.data.toList = R := by rw [← hSb, ← hR]; simp
      have hSs : Sb.size ≤ 9 := by
        show Sb.data.size ≤ 9
        rw [← Array.length_toList, hSd, ← hR]
        simp only [List.length_append, List.length_cons, List.length_nil]; omega
      rw [hR] at hscO
      have hw := Lib.hid (write_at (w.heap.size + 1) O Sb wr hWr (by omega) (by omega))
      rw [hSd] at hw
      replace hWr := Lib.hid hWr
      replace hB := Lib.hid hB
      replace hO := Lib.hid hO
      replace hN := Lib.hid hN
      replace hR := Lib.hid hR
      replace hSb := Lib.hid hSb
      replace hSd := Lib.hid hSd
      replace hscO := Lib.hid hscO
      replace hx := Lib.hid hx
      replace hI0 := Lib.hid hI0
      replace hrow := Lib.hid hrow
      replace hbel := Lib.hid hbel
      go_wp2_with fail
      refine hc.out.mono ?_
      rintro e w2 ⟨rfl, rfl⟩
      go_wp2_with fail
      rw [hSb.out]
      refine hw.out.mono ?_
      rintro e w3 ⟨rfl, hW3, hb3, ho3⟩
      have hcg := Lib.hid (Any.Builder_String_any_k { Tryz.lays156 with } Tryz.Builder_Extra_156 (w.heap.size + 1) (w.heap.size + 1) (O ++ R) w3 hW3 (by have := hb3.size; omega))
      replace hb3 := Lib.hid hb3
      replace hW3 := Lib.hid hW3
      clear ho3
      go_wp2_with fail
      refine hcg.out.mono ?_
      rintro e w4 ⟨rfl, _, hb4, _⟩
      replace hb4 := Lib.hid hb4
      go_wp2_with fail
      go_ret
      refine ⟨?_, hbel.out.trans ((hb3.out.trans hb4.out).mono (by omega))⟩
      rw [hscO.out]
      rfl
end Go.Proofs.YtojfamjgghikoaaGreatDoor
