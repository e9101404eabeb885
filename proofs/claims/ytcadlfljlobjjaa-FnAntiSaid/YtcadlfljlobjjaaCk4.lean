/- The program's common bottom. -/
import Derived.Test.YtcadlfljlobjjaaCk3
namespace Go.Proofs.Ytcadlfljlobjjaa
open Go.ChangeShapes Go.WideShapes Go.ChangeAt Go.RowKit Go.Proofs

theorem exA_stop (n b : Nat) : ∀ m k, k < m → exK n b k = false → exA n b m = false
  | 0, _, h, _ => by omega
  | m + 1, k, h, hk => by
    unfold exA
    by_cases e : k = m
    · subst e; rw [hk, Bool.and_false]
    · rw [exA_stop n b m k (by omega) hk, Bool.false_and]
theorem exact_all (n b : Nat) (w : World) (n8 : n ≤ 8) (hb1 : 1 ≤ b) (hb : b ≤ 1000) :
    Calls Try.prog 43 #[.int .i64 (n : Nat), .int .i64 (b : Nat)] w fun e w' => e = .returned (.bool (exA n b (n + 1))) ∧ Below w.heap.size w w' := by
  have hsh := Lib.hid (fun k W (hk : k ≤ n) => share_at n k W n8 hk)
  have hex := Lib.hid (fun k W (hk : k ≤ n) => exact_at (chN n k) b W (ch_N n8 hk).2.1 (by have := (ch_N n8 hk).2.2; omega) hb1 hb)
  have n0 : (0 : Int) ≤ (n : Int) := by omega
  have n80 : (n : Int) ≤ 8 := by omega
  have hw1 : IntKind.i64.wrap ((n : Int) + 1) = ((n + 1 : Nat) : Int) := by rw [IntKind.wrap_i64]; omega
  go_enter Try.func43, Try.ntmps43
  go_wp2_with fail
  go_loopw [8] (fun i wr => ∃ k : Nat, k ≤ n + 1 ∧ i = .int .i64 (k : Nat) ∧ Hid (exA n b k = true) ∧ Hid (Below w.heap.size w wr)) (fun i _ => n + 1 - (intOf i).toNat)
  case atStart => exact ⟨0, by omega, rfl, Lib.hid rfl, Lib.hid (Below.refl _ _)⟩
  case round =>
    obtain ⟨k, hk, rfl, hall, hbel⟩ := hrel
    have hsz := hbel.out.size
    by_cases hlt : k < n + 1
    · have k1 : (0 : Int) ≤ (k : Int) := by omega
      have k2 : (k : Int) < (n + 1 : Nat) := by omega
      have k3 : (k : Int) < (n : Int) + 1 := by omega
      have hkn : k ≤ n := by omega
      obtain ⟨bb, hbb⟩ : ∃ bb, exK n b k = bb := ⟨_, rfl⟩
      have hex' : ∀ W, Calls Try.prog 59 #[.agg #[.int .i64 1, .int .i64 (chN n k : Nat)], .int .i64 (b : Nat)] W fun e w' => e = .returned (.bool bb) ∧ Below W.heap.size W w' := fun W => by
        have h := hex.out k W hkn
        rwa [show exC (chN n k) b = exK n b k from rfl, hbb] at h
      have hsh' := Lib.hid (fun W => hsh.out k W hkn)
      replace hex' := Lib.hid hex'
      rcases (by cases bb <;> simp : bb = true ∨ bb = false) with rfl | rfl
      · have hn := Lib.hid (show exA n b (k + 1) = true by unfold exA; rw [hall.out, hbb]; rfl)
        replace hbb := Lib.hid hbb
        go_wp2_with fail
        refine (hsh'.out _).mono ?_
        rintro e w2 ⟨rfl, hb2⟩
        have hb2' := Lib.hid (hbel.out.trans (hb2.mono hsz))
        have hz2 := hb2'.out.size
        clear hb2
        go_wp2_with fail
        refine (hex'.out _).mono ?_
        rintro e w3 ⟨rfl, hb3⟩
        have hb3' := Lib.hid (hb2'.out.trans (hb3.mono hz2))
        clear hb3
        go_wp2_with fail
        go_roundw
        case rel => exact ⟨k + 1, by omega, by first | rfl | go_num, hn, hb3'⟩
        case measure => simp [intOf]; omega
      · have hn := Lib.hid (show false = exA n b (n + 1) from (exA_stop n b (n + 1) k hlt hbb).symm)
        replace hbb := Lib.hid hbb
        go_wp2_with fail
        refine (hsh'.out _).mono ?_
        rintro e w2 ⟨rfl, hb2⟩
        have hb2' := Lib.hid (hbel.out.trans (hb2.mono hsz))
        have hz2 := hb2'.out.size
        clear hb2
        go_wp2_with fail
        refine (hex'.out _).mono ?_
        rintro e w3 ⟨rfl, hb3⟩
        have hb3' := Lib.hid (hb2'.out.trans (hb3.mono hz2))
        clear hb3
        go_wp2_with fail
        go_ret
        exact ⟨ret_bool hn.out, hb3'.out⟩
    · obtain rfl : k = n + 1 := by omega
      have hn := Lib.hid (show true = exA n b (n + 1) from hall.out.symm)
      clear hall
      go_wp2_with fail
      go_ret
      exact ⟨ret_bool hn.out, hbel.out⟩
theorem bottom_at (n : Nat) (w : World) (n1 : 1 ≤ n) (n8 : n ≤ 8) :
    Calls Try.prog 21 #[.int .i64 (n : Nat)] w fun e w' => e = .returned (.int .i64 (cbN n : Nat)) ∧ Below w.heap.size w w' := by
  have hex := Lib.hid (fun b W (h1 : 1 ≤ b) (h2 : b ≤ 1000) => exact_all n b W n8 h1 h2)
  obtain ⟨c1, c2⟩ := cb_bd n
  have hless : Hid (∀ b : Nat, 1 ≤ b → b < cbN n → exA n b (n + 1) = false) := Lib.hid (fun b h1 h2 => cb_less ⟨n, by omega⟩ (by dsimp only; omega) ⟨b, by omega⟩ h1 h2)
  have hthis : Hid (exA n (cbN n) (n + 1) = true) := Lib.hid (cb_this ⟨n, by omega⟩ (by dsimp only; omega))
  obtain ⟨cb, hcb⟩ : ∃ cb, cbN n = cb := ⟨_, rfl⟩
  rw [hcb] at c1 c2 hless ⊢
  go_enter Try.func21, Try.ntmps21
  go_wp2_with fail
  go_loopw [3] (fun i wr => ∃ b : Nat, 1 ≤ b ∧ b ≤ cb ∧ i = .int .i64 (b : Nat) ∧ Hid (Below w.heap.size w wr)) (fun i _ => cb - (intOf i).toNat)
  case atStart => exact ⟨1, Nat.le_refl _, by omega, rfl, Lib.hid (Below.refl _ _)⟩
  case round =>
    obtain ⟨b, hb1, hb2, rfl, hbel⟩ := hrel
    have hsz := hbel.out.size
    have hx := hex.out b
    by_cases hlt : b < cb
    · have he := fun W => hx W hb1 (by omega)
      rw [show exA n b (n + 1) = false from hless.out b hb1 hlt] at he
      replace he := Lib.hid he
      clear hx
      go_wp2_with fail
      refine (he.out _).mono ?_
      rintro e w3 ⟨rfl, hb3⟩
      have hb3' := Lib.hid (hbel.out.trans (hb3.mono hsz))
      clear hb3
      go_wp2_with fail
      go_roundw
      case rel => exact ⟨b + 1, by omega, by omega, by first | rfl | go_num, hb3'⟩
      case measure => simp [intOf]; omega
    · have hbc : b = cb := by omega
      subst hbc
      have he := fun W => hx W hb1 (by omega)
      rw [show exA n b (n + 1) = true by have h := hthis.out; rwa [hcb] at h] at he
      replace he := Lib.hid he
      replace hcb := Lib.hid hcb
      clear hx
      go_wp2_with fail
      refine (he.out _).mono ?_
      rintro e w3 ⟨rfl, hb3⟩
      have hb3' := Lib.hid (hbel.out.trans (hb3.mono hsz))
      clear hb3
      go_wp2_with fail
      go_ret
      exact ⟨rfl, hb3'.out⟩
end Go.Proofs.Ytcadlfljlobjjaa
