/- Chains have each set once, plain mathematics; the laws' comparison of lists of lists. -/
import Derived.Test.YtoglcinfnhhkhabDoorCa4
import Derived.Test.YtoglcinfnhhkhabDoorSameL
namespace Go.Proofs.YtoglcinfnhhkhabDoor
open Go.ChangeShapes Go.WideShapes Go.ChangeAt Go.RowKit Go.Proofs

set_option maxRecDepth 100000 in
set_option maxHeartbeats 4000000 in
theorem same_rows (Ls : List (List Int)) (a a' : Option Addr) (c c' : Nat) (V V' : Nat → Value) (S : Nat) (w : World) (hl : Short Ls) (h1 : Tbl w S a Ls.length V) (h2 : Tbl w S a' Ls.length V') (h3 : RowsR w S V Ls) (h4 : RowsR w S V' Ls) :
    Calls Tryd.prog 7 #[.slice a Ls.length c, .slice a' Ls.length c'] w fun e w' => e = .returned (.bool true) ∧ ∃ n, w' = w.drewN n := by
  obtain ⟨hl1, hl2⟩ := hl
  have hb : (((Ls.length : Nat) : Int) != ((Ls.length : Nat) : Int)) = false := by simp
  have hs : ∀ xs : List Int, sameB xs xs = true := fun _ => decide_eq_true rfl
  obtain ⟨n, hn⟩ : ∃ n, Ls.length = n := ⟨_, rfl⟩
  rw [hn] at h1 h2 hl1 hl2 hb ⊢
  replace hs := Lib.hid hs
  replace hl2 := Lib.hid hl2
  replace h1 := Lib.hid h1
  replace h2 := Lib.hid h2
  replace h3 := Lib.hid h3
  replace h4 := Lib.hid h4
  replace hn := Lib.hid hn
  go_enter Tryd.func7, Tryd.ntmps7
  go_wp2_with fail
  go_loopw [5] (fun i wr => ∃ k : Nat, k ≤ n ∧ i = .int .i64 k ∧ Hid (∃ q, wr = w.drewN q)) (fun i _ => n - (intOf i).toNat)
  case atStart => exact ⟨0, Nat.zero_le _, rfl, Lib.hid ⟨0, rfl⟩⟩
  case round =>
    obtain ⟨k, hk, rfl, hq⟩ := hrel
    obtain ⟨q, rfl⟩ := hq.out
    clear hq
    by_cases hlt : k < n
    · obtain ⟨b1, o1, rfl, s1, c1⟩ := h1.out (by omega)
      obtain ⟨b2, o2, rfl, s2, c2⟩ := h2.out (by omega)
      have k1 : (0 : Int) ≤ (k : Int) := by omega
      have k2 : (k : Int) < (n : Nat) := by omega
      have e1 : w.cell? ⟨b1, o1 + k, none⟩ = some (V k) := c1 k hlt
      have e2 : w.cell? ⟨b2, o2 + k, none⟩ = some (V' k) := c2 k hlt
      have hlk := hl2.out k hlt
      have he := fun m => same_l (V k) (V' k) _ _ S (w.drewN m) ((h3.out k (by rw [hn.out]; exact hlt)).drewN m) ((h4.out k (by rw [hn.out]; exact hlt)).drewN m) (by omega) (by omega)
      rw [hs.out] at he
      obtain ⟨x, hx⟩ : ∃ x, V k = x := ⟨_, rfl⟩
      obtain ⟨y, hy⟩ : ∃ y, V' k = y := ⟨_, rfl⟩
      rw [hx] at e1 he
      rw [hy] at e2 he
      have he2 := Lib.hid (fun j => show Calls Tryd.prog 17 #[x, y] ((w.drewN q).drewN j) fun e w' => e = .returned (.bool true) ∧ ∃ m, w' = ((w.drewN q).drewN j).drewN m from by rw [World.drewN_drewN]; exact he (q + j))
      have hre := Lib.hid (fun j => show ∃ p, (w.drewN q).drewN j = w.drewN p from ⟨_, drewN_add _ _ _⟩)
      have e1' : (w.drewN q).cell? ⟨b1, o1 + k, none⟩ = some x := e1
      have e2' : (w.drewN q).cell? ⟨b2, o2 + k, none⟩ = some y := e2
      obtain ⟨W0, hW0⟩ : ∃ W0, w.drewN q = W0 := ⟨_, rfl⟩
      rw [hW0] at he2 hre e1' e2' ⊢
      replace hW0 := Lib.hid hW0
      clear c1 c2 he e1 e2
      go_wp2_with fail
      go_quiet ((go_at_call 17; exact Calls.quiet_of (he2.out _)))
      go_wp2_with fail
      go_roundw
      case rel => exact ⟨k + 1, by omega, by go_num, Lib.hid (hre.out _)⟩
      case measure => simp [intOf]; omega
    · obtain rfl : k = n := by omega
      go_wp2_with fail
      go_ret
      exact ⟨rfl, q, rfl⟩
/-- what is counted when the first k sets of chain i are read. -/
def preL (Ls : List (List Int)) (i k : Nat) : List Int := (Ls.take i).flatten ++ (Ls.getD i []).take k
theorem pre_step {Ls : List (List Int)} {i k : Nat} (hk : k < (Ls.getD i []).length) {x : Int} (hx : (Ls.getD i []).getD k 0 = x) : preL Ls i (k + 1) = preL Ls i k ++ [x] := by
  unfold preL
  rw [List.take_add_one, List.getElem?_eq_getElem hk, ← List.append_assoc]
  rw [List.getD_eq_getElem?_getD, List.getElem?_eq_getElem hk] at hx
  simp only [Option.getD_some] at hx
  rw [hx]; rfl
theorem pre_next {Ls : List (List Int)} {i : Nat} (hi : i < Ls.length) : preL Ls (i + 1) 0 = preL Ls i (Ls.getD i []).length := by
  unfold preL
  rw [List.take_zero, List.append_nil, List.take_length, List.take_add_one, List.getElem?_eq_getElem hi, List.flatten_append, List.getD_eq_getElem?_getD, List.getElem?_eq_getElem hi]
  simp
theorem pre_all (Ls : List (List Int)) : preL Ls Ls.length 0 = Ls.flatten := by
  unfold preL
  rw [List.take_zero, List.append_nil, List.take_length]
theorem pre_sub {Ls : List (List Int)} {i : Nat} (hi : i < Ls.length) (k : Nat) : (preL Ls i k).Sublist Ls.flatten := by
  have e : Ls.flatten = (Ls.take i).flatten ++ ((Ls.getD i []) ++ (Ls.drop (i + 1)).flatten) := by
    conv => lhs; rw [← List.take_append_drop i Ls, List.flatten_append, List.drop_eq_getElem_cons hi, List.flatten_cons]
    rw [List.getD_eq_getElem?_getD, List.getElem?_eq_getElem hi]; rfl
  rw [e]
  unfold preL
  exact (List.Sublist.refl _).append ((List.take_sublist _ _).trans (List.sublist_append_left _ _))
/-- how often a set was counted. -/
def ctI (Ls : List (List Int)) (i k z : Nat) : Int := ((preL Ls i k).count (z : Int) : Nat)
theorem ct_step {Ls : List (List Int)} {i k : Nat} (hk : k < (Ls.getD i []).length) {x : Nat} (hx : (Ls.getD i []).getD k 0 = (x : Int)) (z : Nat) : ctI Ls i (k + 1) z = if z = x then ctI Ls i k z + 1 else ctI Ls i k z := by
  unfold ctI
  rw [pre_step hk hx, List.count_append, List.count_singleton]
  by_cases e : z = x
  · subst e; rw [if_pos rfl, if_pos (by simp)]; omega
  · rw [if_neg e, if_neg (by simp; omega)]; omega
/-- each set of n points is in just one chain; there are as many chains as sets of the middle size. -/
def onceB (N : Nat) : Bool := (List.range (2 ^ N)).all (fun z => (acL N (2 ^ N)).flatten.count ((z : Nat) : Int) == 1) && (acL N (2 ^ N)).flatten.all (fun z => decide (0 ≤ z ∧ z < (2 ^ N : Nat))) && decide (((acL N (2 ^ N)).length : Int) = chI (N : Nat) ((N / 2 : Nat) : Int))
set_option maxRecDepth 100000 in
theorem once_dec : ∀ N : Fin 7, 1 ≤ N.val → onceB N.val = true := by decide +kernel
theorem once_all {N : Nat} (h1 : 1 ≤ N) (h6 : N ≤ 6) : (∀ z, z < 2 ^ N → (acL N (2 ^ N)).flatten.count ((z : Nat) : Int) = 1) ∧ (∀ z ∈ (acL N (2 ^ N)).flatten, 0 ≤ z ∧ z < (2 ^ N : Nat)) ∧ ((acL N (2 ^ N)).length : Int) = chI (N : Nat) ((N / 2 : Nat) : Int) := by
  have h := once_dec ⟨N, by omega⟩ h1
  unfold onceB at h
  simp only [Bool.and_eq_true, List.all_eq_true, decide_eq_true_eq, beq_iff_eq] at h
  exact ⟨fun z hz => h.1.1 z (List.mem_range.2 hz), h.1.2, h.2⟩
theorem ct_bd {N : Nat} (h1 : 1 ≤ N) (h6 : N ≤ 6) {i : Nat} (hi : i < (acL N (2 ^ N)).length) (k z : Nat) (hz : z < 2 ^ N) : 0 ≤ ctI (acL N (2 ^ N)) i k z ∧ ctI (acL N (2 ^ N)) i k z ≤ 1 := by
  have h := (pre_sub hi k).count_le (z : Int)
  rw [(once_all h1 h6).1 z hz] at h
  unfold ctI
  omega
end Go.Proofs.YtoglcinfnhhkhabDoor
