/- Scripts: Execute at a script that tells a chain. -/
import Derived.Test.YtojfamjgghikoaaGreatDoorEc1
namespace Go.Proofs.YtojfamjgghikoaaGreatDoor
open Go.ChangeShapes Go.WideShapes Go.ChangeAt Go.RowKit Go.Proofs Go.Shelf

/-- a script of two lines. -/
def scC (N : Nat) (s : Int) : ByteArray := ⟨#[112, 111, 105, 110, 116, 115, 32, dgB N, 10, 99, 104, 97, 105, 110, 32] ++ (txtL s N).toArray ++ #[10]⟩
theorem scC_size (N : Nat) (s : Int) : (scC N s).size = N + 16 := by
  show (#[112, 111, 105, 110, 116, 115, 32, dgB N, 10, 99, 104, 97, 105, 110, 32] ++ (txtL s N).toArray ++ #[10] : Array UInt8).size = _
  rw [Array.size_append, Array.size_append]
  simp [txtL_len]
  omega
theorem splitC_dec : ∀ N : Fin 7, ∀ s : Fin 64, Lib.countB (scC N.val s.val) ⟨#[10]⟩ = 2 ∧ Lib.splitB ⟨#[10]⟩ 0 2 (scC N.val s.val) = [lnP N.val, lnC N.val s.val, ⟨#[]⟩] := by decide +kernel
theorem splitC {N : Nat} {s : Int} (hs : setB (N : Nat) s = true) (h6 : N ≤ 6) : Lib.countB (scC N s) ⟨#[10]⟩ = 2 ∧ Lib.splitB ⟨#[10]⟩ 0 2 (scC N s) = [lnP N, lnC N s, ⟨#[]⟩] := by
  obtain ⟨_, h1, h2, _⟩ := small6 hs h6
  obtain ⟨k, rfl⟩ := Int.eq_ofNat_of_zero_le h1
  exact splitC_dec ⟨N, by omega⟩ ⟨k, by omega⟩
/-- the lines' row. -/
def lnRC (N : Nat) (s : Int) : Obj := .cells #[.string (lnP N), .string (lnC N s), .string ⟨#[]⟩] 9 (0, 0)
/-- what holds ahead of line j. -/
def CxIs (N : Nat) (s : Int) (j : Nat) (n : Int) (v : Value) (l : List UInt8) : Prop :=
  (j = 0 ∧ n = 5 ∧ v = .slice none 0 0 ∧ l = []) ∨ (j = 1 ∧ n = (N : Nat) ∧ v = .slice none 0 0 ∧ l = [111, 107, 10]) ∨
  (j = 2 ∧ n = (N : Nat) ∧ v = .slice none 0 0 ∧ l = [111, 107, 10] ++ spB (chnL N s) ++ [10])
structure CxSt (w : World) (N : Nat) (s : Int) (j : Nat) (wr : World) : Prop where
  all : ∃ n v l, Bench wr w.heap.size n v ∧ Wrote wr (w.heap.size + 1) l ∧ CxIs N s j n v l
  row : wr.heap[w.heap.size + 1 + 1]? = some (lnRC N s)
  bel : Below w.heap.size w wr
/-- a line is answered and written. -/
theorem CxSt.wrote {w : World} {N : Nat} {s : Int} {j : Nat} {wr w2 w3 : World} {n n' : Int} {v v' : Value} {l A : List UInt8} (hB : Bench wr w.heap.size n v) (hW : Wrote wr (w.heap.size + 1) l) (hr : wr.heap[w.heap.size + 1 + 1]? = some (lnRC N s)) (hb : Below w.heap.size w wr)
    (hO : Only w.heap.size wr w2) (hB2 : Bench w2 w.heap.size n' v') (hW3 : Wrote w3 (w.heap.size + 1) A) (hb3 : Below (w.heap.size + 1) w2 w3) (ho3 : Lib.OthersKept 5 (some (w.heap.size + 1)) w2 w3) (hx : CxIs N s j n' v' A) : CxSt w N s j w3 := by
  have hW2 := hW.only hO hB (by omega)
  obtain ⟨cs, hcs⟩ := hW2.at
  have hlt := hB2.lt
  have hr2 : w2.heap[w.heap.size + 1 + 1]? = some (lnRC N s) := (hO.block _ (Array.getElem?_eq_some_iff.1 hr).1 (by intro e; injection e; omega)).trans hr
  have hb2 := hO.below hb (Nat.le_refl _) (by have := hB.lt; omega)
  exact ⟨⟨n', v', A, hB2.below hb3 (by omega), hW3, hx⟩, (kept_row ho3 hcs hr2 (by decide) (by decide)).trans hr2, hb2.trans (hb3.mono (by omega))⟩
/-- what the script of a chain prints. -/
def ocC (L : List Int) : List UInt8 := [111, 107, 10] ++ spB L ++ [10] ++ [115, 101, 116, 115, 32, 48, 10]
set_option maxHeartbeats 8000000 in
theorem exec_chain (N : Nat) (s : Int) (w : World) (hs : setB (N : Nat) s = true) (h6 : N ≤ 6) (hT : Tab w) :
    Calls Tryz.prog 10 #[.string (scC N s)] w fun e w' => e = .returned (.string ⟨(ocC (chnL N s)).toArray⟩) ∧ Below w.heap.size w w' := by
  obtain ⟨n1, s1, s2, s3⟩ := small6 hs h6
  have hsz : (scC N s).size ≤ 30 := by have := scC_size N s; omega
  obtain ⟨hc3, hsp⟩ := splitC hs h6
  have hsl := fun W => split_nl (scC N s) (by omega) W
  simp only [hc3, hsp] at hsl
  have hcf : Lib.cellsOf [lnP N, lnC N s, ⟨#[]⟩] (2 + 1) = #[.string (lnP N), .string (lnC N s), .string ⟨#[]⟩] := rfl
  simp only [hcf] at hsl
  obtain ⟨S, hS⟩ : ∃ S, scC N s = S := ⟨_, rfl⟩
  rw [hS] at hsz hsl ⊢
  have hsz2 : ¬ (600 : Int) < ((S.size : Nat) : Int) := by omega
  replace hsl := Lib.hid hsl
  replace hS := Lib.hid hS
  clear hc3 hsp hcf
  obtain ⟨hLz, hLl⟩ := chn6 hs h6
  have hjl := join_le _ hLz
  have hspl : (spB (chnL N s)).length ≤ 200 := by
    unfold spB
    split
    · simp
    · omega
  have htl := hT.lt
  replace hLz := Lib.hid hLz
  replace hLl := Lib.hid hLl
  replace hjl := Lib.hid hjl
  go_enter Tryz.func10, Tryz.ntmps10
  go_wp2_with fail
  refine (hsl.out _).mono ?_
  rintro e w1 ⟨rfl, rfl⟩
  have st0 : CxSt w N s 0 ((((w.alloc (.cells #[.int .i64 5, .slice none 0 0] 43)).alloc (.cells #[.pointer none, .slice none 0 0] 46))).alloc (.cells #[.string (lnP N), .string (lnC N s), .string ⟨#[]⟩] 9)) := by
    have hB1 : Bench (w.alloc (.cells #[.int .i64 5, .slice none 0 0] 43)) w.heap.size 5 (.slice none 0 0) := heap_alloc_new w _
    have e1 : (w.alloc (.cells #[.int .i64 5, .slice none 0 0] 43)).heap.size = w.heap.size + 1 := by simp
    have hf := Lib.fresh_isBuilder 46 5 (w.alloc (.cells #[.int .i64 5, .slice none 0 0] 43))
    rw [e1] at hf
    have hb1 := (Below.refl w.heap.size w).alloc (Nat.le_refl _) (.cells #[.int .i64 5, .slice none 0 0] 43)
    have hb2 := hb1.alloc (by simp) (.cells #[.pointer none, .slice none 0 0] 46)
    have hb3 := hb2.alloc (by simp; omega) (.cells #[.string (lnP N), .string (lnC N s), .string ⟨#[]⟩] 9)
    refine ⟨⟨5, _, [], (hB1.below ((Below.refl _ _).alloc (Nat.le_refl _) _) (by simp)).below ((Below.refl _ _).alloc (Nat.le_refl _) _) (by simp; omega), ?_, .inl ⟨rfl, rfl, rfl, rfl⟩⟩, ?_, hb3⟩
    · exact Wrote.below (show Wrote _ _ [] from Lib.IsBuilderF.of hf) ((Below.refl _ _).alloc (Nat.le_refl _) _)
    · have := heap_alloc_new ((w.alloc (.cells #[.int .i64 5, .slice none 0 0] 43)).alloc (.cells #[.pointer none, .slice none 0 0] 46)) (.cells #[.string (lnP N), .string (lnC N s), .string ⟨#[]⟩] 9)
      rw [World.size_alloc, World.size_alloc] at this
      exact this
  obtain ⟨W1, hW1⟩ : ∃ W1, (((w.alloc (.cells #[.int .i64 5, .slice none 0 0] 43)).alloc (.cells #[.pointer none, .slice none 0 0] 46))).alloc (.cells #[.string (lnP N), .string (lnC N s), .string ⟨#[]⟩] 9) = W1 := ⟨_, rfl⟩
  rw [hW1] at st0 ⊢
  replace hW1 := Lib.hid hW1
  replace st0 := Lib.hid st0
  go_wp2_with fail
  go_loopw [21] (fun i wr => ∃ j : Nat, j ≤ 2 ∧ i = .int .i64 j ∧ Hid (CxSt w N s j wr)) (fun i _ => 2 - (intOf i).toNat)
  case atStart => exact ⟨0, by omega, rfl, st0⟩
  case round =>
    obtain ⟨j, hj, rfl, hst⟩ := hrel
    obtain ⟨⟨n, v, l, hB, hWr, hx⟩, hrow, hbel⟩ := hst.out
    clear hst
    have hlt := hB.lt
    have hbs := hbel.size
    by_cases hj3 : j < 2
    · have j1 : (0 : Int) ≤ (j : Int) := by omega
      have j2 : (j : Int) < 2 := by omega
      rcases (by omega : j = 0 ∨ j = 1) with rfl | rfl
      · obtain ⟨rfl, rfl, rfl⟩ : n = 5 ∧ v = .slice none 0 0 ∧ l = [] := by
          rcases hx with ⟨_, h1, h2, h3⟩ | ⟨h0, _⟩ | ⟨h0, _⟩
          · exact ⟨h1, h2, h3⟩
          all_goals omega
        have e1 : wr.cell? ⟨w.heap.size + 1 + 1, 0, none⟩ = some (.string (lnP N)) := by rw [cell_of_row _ _ 0 _ 9 (0, 0) hrow]; rfl
        have ha := Lib.hid (ans_P w.heap.size 5 (.slice none 0 0) N wr hB (by omega) (by omega))
        replace hB := Lib.hid hB
        replace hWr := Lib.hid hWr
        replace hrow := Lib.hid hrow
        replace hbel := Lib.hid hbel
        replace hx := Lib.hid hx
        go_wp2_with fail
        refine ha.out.mono ?_
        rintro e w2 ⟨rfl, hB2, hO2⟩
        have hw := Lib.hid (write_at (w.heap.size + 1) [] (⟨#[111, 107]⟩ ++ ⟨#[10]⟩) w2 (hWr.out.only hO2 hB.out (by omega)) (by decide) (by have := hO2.size; omega))
        replace hB2 := Lib.hid hB2
        replace hO2 := Lib.hid hO2
        go_wp2_with fail
        refine hw.out.mono ?_
        rintro e w3 ⟨rfl, hW3, hb3, ho3⟩
        have hn := Lib.hid (CxSt.wrote (j := 1) hB.out hWr.out hrow.out hbel.out hO2.out hB2.out hW3 hb3 ho3 (.inr (.inl ⟨rfl, rfl, rfl, rfl⟩)))
        clear hW3 hb3 ho3
        go_wp2_with fail
        go_roundw
        case rel => exact ⟨1, by omega, by go_num, hn⟩
        case measure => simp [intOf]
      · obtain ⟨rfl, rfl, rfl⟩ : n = (N : Nat) ∧ v = .slice none 0 0 ∧ l = [111, 107, 10] := by
          rcases hx with ⟨h0, _⟩ | ⟨_, h1, h2, h3⟩ | ⟨h0, _⟩
          · omega
          · exact ⟨h1, h2, h3⟩
          · omega
        have e1 : wr.cell? ⟨w.heap.size + 1 + 1, 1, none⟩ = some (.string (lnC N s)) := by rw [cell_of_row _ _ 1 _ 9 (0, 0) hrow]; rfl
        have ha := Lib.hid (ans_C w.heap.size N (.slice none 0 0) s wr hB hs h6 (hT.below hbel htl))
        have hsz3 : ((⟨(spB (chnL N s)).toArray⟩ : ByteArray) ++ ⟨#[10]⟩).data.toList = spB (chnL N s) ++ [10] := by simp
        have hsz4 : ((⟨(spB (chnL N s)).toArray⟩ : ByteArray) ++ ⟨#[10]⟩).size = (spB (chnL N s)).length + 1 := by
          show ((⟨(spB (chnL N s)).toArray⟩ : ByteArray) ++ ⟨#[10]⟩).data.size = _
          rw [← Array.length_toList, hsz3]; simp
        obtain ⟨A, hA⟩ : ∃ A, spB (chnL N s) = A := ⟨_, rfl⟩
        rw [hA] at ha hsz3 hsz4
        replace hB := Lib.hid hB
        replace hWr := Lib.hid hWr
        replace hrow := Lib.hid hrow
        replace hbel := Lib.hid hbel
        replace hx := Lib.hid hx
        replace hsz3 := Lib.hid hsz3
        replace hsz4 := Lib.hid hsz4
        go_wp2_with fail
        refine ha.out.mono ?_
        rintro e w2 ⟨rfl, hb2⟩
        have hO2 := Only.of_below (r := w.heap.size) hb2 (Nat.le_refl _)
        have hB2 := hB.out.below hb2 hlt
        have hW2 := hWr.out.only hO2 hB.out (by omega)
        obtain ⟨cs, hcs⟩ := hW2.at
        have hAl : A.length ≤ 200 := by rw [← hA]; exact hspl
        have hw := Lib.hid (write_at (w.heap.size + 1) [111, 107, 10] (⟨A.toArray⟩ ++ ⟨#[10]⟩) w2 hW2 (by rw [hsz4.out]; have := hAl; simp only [List.length_cons, List.length_nil]; omega) (by have := hb2.size; omega))
        rw [hsz3.out] at hw
        replace hA := Lib.hid hA
        replace hB2 := Lib.hid hB2
        replace hO2 := Lib.hid hO2
        replace hW2 := Lib.hid hW2
        replace hcs := Lib.hid hcs
        replace hb2 := Lib.hid hb2
        go_wp2_with fail
        refine hw.out.mono ?_
        rintro e w3 ⟨rfl, hW3, hb3, ho3⟩
        have hn := Lib.hid (CxSt.wrote (j := 2) hB.out hWr.out hrow.out hbel.out hO2.out hB2.out hW3 hb3 ho3 (.inr (.inr ⟨rfl, rfl, rfl, by rw [hA.out]; simp⟩)))
        clear hW3 hb3 ho3
        go_wp2_with fail
        go_roundw
        case rel => exact ⟨2, by omega, by go_num, hn⟩
        case measure => simp [intOf]
    · obtain rfl : j = 2 := by omega
      obtain ⟨rfl, rfl, rfl⟩ : n = (N : Nat) ∧ v = .slice none 0 0 ∧ l = [111, 107, 10] ++ spB (chnL N s) ++ [10] := by
        rcases hx with ⟨h0, _⟩ | ⟨h0, _⟩ | ⟨_, h1, h2, h3⟩
        · omega
        · omega
        · exact ⟨h1, h2, h3⟩
      have hc := Lib.hid (wb_count w.heap.size (N : Nat) none 0 0 wr hB (by omega))
      rw [show (Lib.decDigits 0) = [48] by decide +kernel] at hc
      obtain ⟨O, hO⟩ : ∃ O, ([111, 107, 10] ++ spB (chnL N s) ++ [10] : List UInt8) = O := ⟨_, rfl⟩
      have hOl : O.length ≤ 300 := by rw [← hO]; simp only [List.length_append, List.length_cons, List.length_nil]; omega
      obtain ⟨R, hR⟩ : ∃ R : List UInt8, [115, 101, 116, 115, 32, 48, 10] = R := ⟨_, rfl⟩
      have hscO : ocC (chnL N s) = O ++ R := by rw [← hO, ← hR]; unfold ocC; simp only [List.append_assoc]
      rw [hO] at hWr
      obtain ⟨Sb, hSb⟩ : ∃ Sb : ByteArray, (⟨#[115, 101, 116, 115, 32]⟩ ++ ⟨#[48]⟩ : ByteArray) ++ ⟨#[10]⟩ = Sb := ⟨_, rfl⟩
      have hSd : Sb.data.toList = R := by rw [← hSb, ← hR]; rfl
      have hSs : Sb.size ≤ 9 := by
        show Sb.data.size ≤ 9
        rw [← Array.length_toList, hSd, ← hR]
        simp only [List.length_cons, List.length_nil]; omega
      have hw := Lib.hid (write_at (w.heap.size + 1) O Sb wr hWr (by omega) (by omega))
      rw [hSd] at hw
      replace hWr := Lib.hid hWr
      replace hB := Lib.hid hB
      replace hO := Lib.hid hO
      replace hR := Lib.hid hR
      replace hSb := Lib.hid hSb
      replace hSd := Lib.hid hSd
      replace hscO := Lib.hid hscO
      replace hx := Lib.hid hx
      replace hrow := Lib.hid hrow
      replace hbel := Lib.hid hbel
      go_wp2_with fail
      refine hc.out.mono ?_
      rintro e w2 ⟨rfl, rfl⟩
      go_wp2_with fail
      rw [hSb.out]
      refine hw.out.mono ?_
      rintro e w3 ⟨rfl, hW3, hb3, ho3⟩
      have hcg := Lib.hid (Any.Builder_String_any_k { Tryz.lays156 with } Tryz.Builder_Extra_156 (w.heap.size + 1) (w.heap.size + 1) (O ++ R) w3 hW3 (by have := hb3.size; omega))
      replace hb3 := Lib.hid hb3
      replace hW3 := Lib.hid hW3
      clear ho3
      go_wp2_with fail
      refine hcg.out.mono ?_
      rintro e w4 ⟨rfl, _, hb4, _⟩
      replace hb4 := Lib.hid hb4
      go_wp2_with fail
      go_ret
      refine ⟨?_, hbel.out.trans ((hb3.out.trans hb4.out).mono (by omega))⟩
      rw [hscO.out]
      rfl
end Go.Proofs.YtojfamjgghikoaaGreatDoor
