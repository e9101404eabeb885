/- The longest of some chains of which a set is a part of the first set. -/
import Derived.Test.YtgkbaenjniapiaaCl1
import Derived.Test.YtgkbaenjniapiaaLk
namespace Go.Proofs.Ytgkbaenjniapiaa
open Go.ChangeShapes Go.WideShapes Go.ChangeAt Go.RowKit Go.Proofs

/-- the greatest length of the first j of some chains of which s is a part of the first set. -/
def lgst (s : Int) (C : Nat → List Int) : Nat → Nat
  | 0 => 0
  | j + 1 => max (lgst s C j) (if partB s ((C j).headD 0) then (C j).length else 0)
theorem lgst_le (s : Int) (C : Nat → List Int) (B : Nat) : ∀ j, (∀ i, i < j → (C i).length ≤ B) → lgst s C j ≤ B
  | 0, _ => Nat.zero_le _
  | j + 1, h => by
    have h1 := lgst_le s C B j (fun i hi => h i (by omega))
    have h2 := h j (by omega)
    unfold lgst
    split <;> omega
/-- the one that is found. -/
def bestV (s : Int) (C : Nat → List Int) (V : Nat → Value) : Nat → Value
  | 0 => .pointer none
  | j + 1 => if (if partB s ((C j).headD 0) then (C j).length else 0) > lgst s C j then V j else bestV s C V j
theorem best_ok {w : World} {s : Int} {C : Nat → List Int} {V : Nat → Value} : ∀ n, (∀ j, j < n → LinkV w (C j) (V j)) → ∃ L, LinkV w L (bestV s C V n) ∧ L.length = lgst s C n
  | 0, _ => ⟨[], rfl, rfl⟩
  | n + 1, h => by
    obtain ⟨L, h1, h2⟩ := best_ok (s := s) n (fun j hj => h j (by omega))
    rw [show bestV s C V (n + 1) = if (if partB s ((C n).headD 0) then (C n).length else 0) > lgst s C n then V n else bestV s C V n from rfl, show lgst s C (n + 1) = max (lgst s C n) (if partB s ((C n).headD 0) then (C n).length else 0) from rfl]
    by_cases hg : (if partB s ((C n).headD 0) then (C n).length else 0) > lgst s C n
    · rw [if_pos hg]
      refine ⟨C n, h n (by omega), ?_⟩
      by_cases hp : partB s ((C n).headD 0) = true
      · rw [if_pos hp] at hg ⊢; omega
      · rw [if_neg hp] at hg; omega
    · rw [if_neg hg]
      exact ⟨L, h1, by omega⟩
set_option maxHeartbeats 2000000 in
theorem over_chains (s : Int) (a : Option Addr) (n c : Nat) (V : Nat → Value) (C : Nat → List Int) (w : World) (hs1 : 0 ≤ s) (hs2 : s < 256) (hn : n ≤ 1000)
    (hrow : 0 < n → ∃ g off, a = some ⟨g, off, none⟩ ∧ ∀ j, j < n → w.cell? ⟨g, off + j, none⟩ = some (V j))
    (hlk : ∀ j, j < n → LinkV w (C j) (V j) ∧ (C j).length ≤ 1000 ∧ ∃ x T, C j = x :: T ∧ 0 ≤ x ∧ x < 256) :
    Calls Try.prog 51 #[.int .u64 s, .slice a n c] w fun e w' => e = .returned (bestV s C V n) ∧ w = w' := by
  replace hrow := Lib.hid hrow
  replace hlk := Lib.hid hlk
  have hn10 : (n : Int) ≤ 1000 := by omega
  go_enter Try.func51, Try.ntmps51
  go_wp2_with fail
  go_loop [5, 10] (fun p i => ∃ j : Nat, j ≤ n ∧ i = .int .i64 (j : Nat) ∧ Hid (p = bestV s C V j)) (fun _ i => n - (intOf i).toNat)
  case atStart => exact ⟨0, by omega, rfl, Lib.hid rfl⟩
  case round =>
    obtain ⟨j, hj, rfl, hp⟩ := hrel
    have hL := Lib.hid (show ∃ L : List Int, LinkV w L u5 ∧ L.length = lgst s C j by rw [hp.out]; exact best_ok j (fun i hi => (hlk.out i (by omega)).1))
    by_cases hlt : j < n
    · obtain ⟨g, off, rfl, hc⟩ := hrow.out (by omega)
      have j1 : (0 : Int) ≤ (j : Int) := by omega
      have j2 : (j : Int) < (n : Nat) := by omega
      have e1 := hc j hlt
      obtain ⟨hv, hcl, x, T, hCx, x1, x2⟩ := hlk.out j hlt
      obtain ⟨L, hLv, hLl⟩ := hL.out
      have hLb := lgst_le s C 1000 j (fun i hi => (hlk.out i (by omega)).2.1)
      have hst : lgst s C (j + 1) = max (lgst s C j) (if partB s ((C j).headD 0) then (C j).length else 0) := rfl
      have hst2 : bestV s C V (j + 1) = if (if partB s ((C j).headD 0) then (C j).length else 0) > lgst s C j then V j else bestV s C V j := rfl
      have hlen1 := length_at (C j) (V j) w hv hcl
      have hlen2 := length_at L u5 w hLv (by omega)
      rw [hLl] at hlen2
      obtain ⟨K, hK⟩ : ∃ K, C j = K := ⟨_, rfl⟩
      rw [hK] at hv hcl hCx hlen1 hst hst2
      subst hCx
      rw [List.headD_cons] at hst hst2
      obtain ⟨b, nx, hVb, hcell, hT⟩ := id hv
      obtain ⟨c0, c1⟩ := link_cells hcell
      obtain ⟨Vj, hVj⟩ : ∃ Vj, V j = Vj := ⟨_, rfl⟩
      rw [hVj] at e1 hVb hlen1 hv hst2
      subst hVb
      have hcall := set_part s x hs1 hs2 x1 x2 w
      obtain ⟨bb, hbb⟩ : ∃ bb, partB s x = bb := ⟨_, rfl⟩
      rw [hbb] at hcall hst hst2
      obtain ⟨M, hM⟩ : ∃ M, lgst s C j = M := ⟨_, rfl⟩
      rw [hM] at hst hst2 hLl hlen2 hLb
      obtain ⟨D, hD⟩ : ∃ D, (x :: T).length = D := ⟨_, rfl⟩
      rw [hD] at hst hst2 hcl hlen1
      replace hcall := Lib.hid hcall
      replace hlen1 := Lib.hid hlen1
      replace hlen2 := Lib.hid hlen2
      replace hv := Lib.hid hv
      replace hVj := Lib.hid hVj
      replace hbb := Lib.hid hbb
      replace hK := Lib.hid hK
      replace hM := Lib.hid hM
      replace hLv := Lib.hid hLv
      replace hD := Lib.hid hD
      clear hc hT hcell hL
      rcases (by cases bb <;> simp : bb = true ∨ bb = false) with rfl | rfl
      · rw [if_pos rfl] at hst hst2
        by_cases hgt : M < D
        · have hgi : (M : Int) < (D : Int) := by omega
          have hnx := Lib.hid (show (.pointer (some ⟨b, 0, none⟩) : Value) = bestV s C V (j + 1) by rw [hst2, if_pos hgt])
          replace hst2 := Lib.hid hst2
          replace hst := Lib.hid hst
          go_wp2_with (first | (go_at_call 80; refine hcall.out.mono ?_; rintro e w' ⟨rfl, rfl⟩) | (go_at_call 53; (with_reducible refine hlen1.out.mono ?_); rintro e w' ⟨rfl, rfl⟩) | (go_at_call 53; (with_reducible refine hlen2.out.mono ?_); rintro e w' ⟨rfl, rfl⟩))
          go_round
          case rel => exact ⟨j + 1, by omega, by first | rfl | go_num, hnx⟩
          case measure => simp [intOf]; omega
        · have hgi : ¬ ((M : Int) < (D : Int)) := by omega
          have hnx := Lib.hid (show u5 = bestV s C V (j + 1) by rw [hst2, if_neg (by omega)]; exact hp.out)
          replace hst2 := Lib.hid hst2
          replace hst := Lib.hid hst
          go_wp2_with (first | (go_at_call 80; refine hcall.out.mono ?_; rintro e w' ⟨rfl, rfl⟩) | (go_at_call 53; (with_reducible refine hlen1.out.mono ?_); rintro e w' ⟨rfl, rfl⟩) | (go_at_call 53; (with_reducible refine hlen2.out.mono ?_); rintro e w' ⟨rfl, rfl⟩))
          go_round
          case rel => exact ⟨j + 1, by omega, by first | rfl | go_num, hnx⟩
          case measure => simp [intOf]; omega
      · rw [if_neg (by simp)] at hst hst2
        have hnx := Lib.hid (show u5 = bestV s C V (j + 1) by rw [hst2]; exact hp.out)
        replace hst2 := Lib.hid hst2
        replace hst := Lib.hid hst
        go_wp2_with (first | (go_at_call 80; refine hcall.out.mono ?_; rintro e w' ⟨rfl, rfl⟩))
        go_round
        case rel => exact ⟨j + 1, by omega, by first | rfl | go_num, hnx⟩
        case measure => simp [intOf]; omega
    · obtain rfl : j = n := by omega
      go_wp2_with fail
      go_ret
      exact ⟨by rw [← hp.out]; rfl, rfl⟩
end Go.Proofs.Ytgkbaenjniapiaa
