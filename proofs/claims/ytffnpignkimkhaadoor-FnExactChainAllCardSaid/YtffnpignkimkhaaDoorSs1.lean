/- Lists of lists of integers in memory: the law package's own helpers. -/
import Derived.Test.YtffnpignkimkhaaDoorSlices
import Derived.Test.YtffnpignkimkhaaDoorAppend
import Derived.BigQuiet
namespace Go.Proofs.YtffnpignkimkhaaDoor
open Go.ChangeShapes Go.WideShapes Go.ChangeAt Go.RowKit

/-- the n places at a hold V. -/
def Tbl (w : World) (S : Nat) (a : Option Addr) (n : Nat) (V : Nat → Value) : Prop := 0 < n → ∃ b off, a = some ⟨b, off, none⟩ ∧ b < S ∧ ∀ i, i < n → w.cell? ⟨b, off + i, none⟩ = some (V i)
/-- each of them reads as its list. -/
def RowsR (w : World) (S : Nat) (V : Nat → Value) (Ls : List (List Int)) : Prop := ∀ i, i < Ls.length → Row w S (V i) (Ls.getD i [])
theorem Tbl.below {w w' : World} {S B : Nat} {a : Option Addr} {n : Nat} {V : Nat → Value} (h : Tbl w S a n V) (hb : Below B w w') (hS : S ≤ B) : Tbl w' S a n V := fun hn => by
  obtain ⟨b, off, e, hs, hc⟩ := h hn
  exact ⟨b, off, e, hs, fun i hi => (hb.cell (p := ⟨b, off + i, none⟩) (show b < B by omega)).trans (hc i hi)⟩
theorem Tbl.mono {w : World} {S S' : Nat} {a : Option Addr} {n : Nat} {V : Nat → Value} (h : Tbl w S a n V) (hS : S ≤ S') : Tbl w S' a n V := fun hn => by
  obtain ⟨b, off, e, hs, hc⟩ := h hn
  exact ⟨b, off, e, by omega, hc⟩
theorem Tbl.drewN {w : World} {S : Nat} {a : Option Addr} {n : Nat} {V : Nat → Value} (h : Tbl w S a n V) (q : Nat) : Tbl (w.drewN q) S a n V := h
theorem RowsR.below {w w' : World} {S B : Nat} {V : Nat → Value} {Ls : List (List Int)} (h : RowsR w S V Ls) (hb : Below B w w') (hS : S ≤ B) : RowsR w' S V Ls := fun i hi => (h i hi).below hb hS
theorem RowsR.mono {w : World} {S S' : Nat} {V : Nat → Value} {Ls : List (List Int)} (h : RowsR w S V Ls) (hS : S ≤ S') : RowsR w S' V Ls := fun i hi => (h i hi).mono hS
theorem RowsR.drewN {w : World} {S : Nat} {V : Nat → Value} {Ls : List (List Int)} (h : RowsR w S V Ls) (q : Nat) : RowsR (w.drewN q) S V Ls := h
/-- no list is too long. -/
def Short (Ls : List (List Int)) : Prop := Ls.length ≤ 1000 ∧ ∀ i, i < Ls.length → (Ls.getD i []).length ≤ 1000
set_option maxHeartbeats 4000000 in
theorem eq_rows (Ls : List (List Int)) (a a' : Option Addr) (c c' : Nat) (V V' : Nat → Value) (S : Nat) (w : World) (hl : Short Ls) (h1 : Tbl w S a Ls.length V) (h2 : Tbl w S a' Ls.length V') (h3 : RowsR w S V Ls) (h4 : RowsR w S V' Ls) :
    Calls Tryd.prog 16 #[.slice a Ls.length c, .slice a' Ls.length c'] w fun e w' => e = .returned (.bool true) ∧ ∃ n, w' = w.drewN n := by
  obtain ⟨hl1, hl2⟩ := hl
  have hb : (((Ls.length : Nat) : Int) != ((Ls.length : Nat) : Int)) = false := by simp
  have hs : ∀ xs : List Int, sameB xs xs = true := fun _ => decide_eq_true rfl
  obtain ⟨n, hn⟩ : ∃ n, Ls.length = n := ⟨_, rfl⟩
  rw [hn] at h1 h2 hl1 hl2 hb ⊢
  replace hs := Lib.hid hs
  replace hl2 := Lib.hid hl2
  replace h1 := Lib.hid h1
  replace h2 := Lib.hid h2
  replace h3 := Lib.hid h3
  replace h4 := Lib.hid h4
  replace hn := Lib.hid hn
  go_enter Tryd.func16, Tryd.ntmps16
  go_wp2_with fail
  go_loopw [5] (fun i wr => ∃ k : Nat, k ≤ n ∧ i = .int .i64 k ∧ Hid (∃ q, wr = w.drewN q)) (fun i _ => n - (intOf i).toNat)
  case atStart => exact ⟨0, Nat.zero_le _, rfl, Lib.hid ⟨0, rfl⟩⟩
  case round =>
    obtain ⟨k, hk, rfl, hq⟩ := hrel
    obtain ⟨q, rfl⟩ := hq.out
    clear hq
    by_cases hlt : k < n
    · obtain ⟨b1, o1, rfl, s1, c1⟩ := h1.out (by omega)
      obtain ⟨b2, o2, rfl, s2, c2⟩ := h2.out (by omega)
      have k1 : (0 : Int) ≤ (k : Int) := by omega
      have k2 : (k : Int) < (n : Nat) := by omega
      have e1 : w.cell? ⟨b1, o1 + k, none⟩ = some (V k) := c1 k hlt
      have e2 : w.cell? ⟨b2, o2 + k, none⟩ = some (V' k) := c2 k hlt
      have hlk := hl2.out k hlt
      have he := fun m => eq_ints (V k) (V' k) _ _ S (w.drewN m) ((h3.out k (by rw [hn.out]; exact hlt)).drewN m) ((h4.out k (by rw [hn.out]; exact hlt)).drewN m) (by omega) (by omega)
      rw [hs.out] at he
      obtain ⟨x, hx⟩ : ∃ x, V k = x := ⟨_, rfl⟩
      obtain ⟨y, hy⟩ : ∃ y, V' k = y := ⟨_, rfl⟩
      rw [hx] at e1 he
      rw [hy] at e2 he
      have he2 := Lib.hid (fun j => show Calls Tryd.prog 11 #[x, y] ((w.drewN q).drewN j) fun e w' => e = .returned (.bool true) ∧ ∃ m, w' = ((w.drewN q).drewN j).drewN m from by rw [World.drewN_drewN]; exact he (q + j))
      have hre := Lib.hid (fun j => show ∃ p, (w.drewN q).drewN j = w.drewN p from ⟨_, drewN_add _ _ _⟩)
      have e1' : (w.drewN q).cell? ⟨b1, o1 + k, none⟩ = some x := e1
      have e2' : (w.drewN q).cell? ⟨b2, o2 + k, none⟩ = some y := e2
      obtain ⟨W0, hW0⟩ : ∃ W0, w.drewN q = W0 := ⟨_, rfl⟩
      rw [hW0] at he2 hre e1' e2' ⊢
      replace hW0 := Lib.hid hW0
      clear c1 c2 he e1 e2
      go_wp2_with fail
      go_quiet ((go_at_call 11; exact Calls.quiet_of (he2.out _)))
      go_wp2_with fail
      go_roundw
      case rel => exact ⟨k + 1, by omega, by go_num, Lib.hid (hre.out _)⟩
      case measure => simp [intOf]; omega
    · obtain rfl : k = n := by omega
      go_wp2_with fail
      go_ret
      exact ⟨rfl, q, rfl⟩
/-- how many numbers lie ahead of a list. -/
def ofsI (m : Int) (Ls : List (List Int)) : Nat → Int
  | 0 => m
  | i + 1 => ofsI m Ls i + (Ls.getD i []).length
theorem ofs_bd (m : Int) (Ls : List (List Int)) (hl : Short Ls) : ∀ i, i ≤ Ls.length → m ≤ ofsI m Ls i ∧ ofsI m Ls i ≤ m + 1000 * i
  | 0, _ => by unfold ofsI; omega
  | i + 1, h => by
    have h1 := ofs_bd m Ls hl i (by omega)
    have h2 := hl.2 i (by omega)
    unfold ofsI
    omega
/-- the lists filled with numbers from m on. -/
def MarkR (w : World) (S : Nat) (V : Nat → Value) (m : Int) (Ls : List (List Int)) : Prop := ∀ i, i < Ls.length → Row w S (V i) (marks (ofsI m Ls i) (Ls.getD i []).length)
theorem MarkR.below {w w' : World} {S B : Nat} {V : Nat → Value} {m : Int} {Ls : List (List Int)} (h : MarkR w S V m Ls) (hb : Below B w w') (hS : S ≤ B) : MarkR w' S V m Ls := fun i hi => (h i hi).below hb hS
theorem MarkR.drewN {w : World} {S : Nat} {V : Nat → Value} {m : Int} {Ls : List (List Int)} (h : MarkR w S V m Ls) (q : Nat) : MarkR (w.drewN q) S V m Ls := h
set_option maxHeartbeats 4000000 in
theorem held_rows (Ls : List (List Int)) (a : Option Addr) (c : Nat) (V : Nat → Value) (m : Int) (S : Nat) (w : World) (hl : Short Ls) (hm0 : 0 ≤ m) (hm : m ≤ 1000000) (h1 : Tbl w S a Ls.length V) (h3 : MarkR w S V m Ls) :
    Calls Tryd.prog 18 #[.slice a Ls.length c, .int .i64 m] w fun e w' => e = .returned (.int .i64 (ofsI m Ls Ls.length)) ∧ w = w' := by
  have hbd := ofs_bd m Ls hl
  obtain ⟨hl1, hl2⟩ := hl
  obtain ⟨n, hn⟩ : ∃ n, Ls.length = n := ⟨_, rfl⟩
  rw [hn] at h1 hl1 hl2 hbd ⊢
  replace hl2 := Lib.hid hl2
  replace hbd := Lib.hid hbd
  replace h1 := Lib.hid h1
  replace h3 := Lib.hid h3
  replace hn := Lib.hid hn
  go_enter Tryd.func18, Tryd.ntmps18
  go_wp2_with fail
  go_loopw [1, 5] (fun s i wr => wr = w ∧ ∃ k : Nat, k ≤ n ∧ i = .int .i64 k ∧ s = .int .i64 (ofsI m Ls k)) (fun _ i _ => n - (intOf i).toNat)
  case atStart => exact ⟨rfl, 0, Nat.zero_le _, rfl, rfl⟩
  case round =>
    obtain ⟨rfl, k, hk, rfl, rfl⟩ := hrel
    obtain ⟨o0, o1'⟩ := hbd.out k hk
    have hst : ofsI m Ls (k + 1) = ofsI m Ls k + (Ls.getD k []).length := rfl
    by_cases hlt : k < n
    · obtain ⟨b1, o1, rfl, s1, c1⟩ := h1.out (by omega)
      have k1 : (0 : Int) ≤ (k : Int) := by omega
      have k2 : (k : Int) < (n : Nat) := by omega
      have e1 := c1 k hlt
      have hlk := hl2.out k hlt
      have he := held_ints (V k) _ (ofsI m Ls k) S wr (h3.out k (by rw [hn.out]; exact hlt)) (by rw [marks_len]; omega) (by omega) (by omega)
      rw [heldV_marks] at he
      obtain ⟨o2, o3⟩ := hbd.out (k + 1) (by omega)
      rw [← hst] at he
      obtain ⟨X, hX⟩ : ∃ X, ofsI m Ls k = X := ⟨_, rfl⟩
      obtain ⟨Y, hY⟩ : ∃ Y, ofsI m Ls (k + 1) = Y := ⟨_, rfl⟩
      rw [hX] at he o0 o1' hst ⊢
      rw [hY] at he o2 o3 hst
      have hYn : ¬ (Y < 0) := by omega
      obtain ⟨x, hx⟩ : ∃ x, V k = x := ⟨_, rfl⟩
      rw [hx] at e1 he
      replace he := Lib.hid he
      replace hst := Lib.hid hst
      replace hX := Lib.hid hX
      replace hY := Lib.hid hY
      clear c1
      go_wp2_with (first | (go_at_call 13; refine he.out.mono ?_; rintro e w' ⟨rfl, rfl⟩))
      go_roundw
      case rel => exact ⟨trivial, k + 1, by omega, by go_num, by rw [hY.out]⟩
      case measure => simp [intOf]; omega
    · obtain rfl : k = n := by omega
      go_wp2_with fail
      go_ret
      exact ⟨rfl, rfl⟩
end Go.Proofs.YtffnpignkimkhaaDoor
