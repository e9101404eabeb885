/- The model: families of lists, unions, common sets, what is left. -/
import Derived.Test.YtfcegnnajpflmaaSpec2
namespace Go.Proofs.Ytfcegnnajpflmaa
open Go.ChangeShapes Go.WideShapes Go.ChangeAt Go.RowKit Go.Proofs

theorem mkL_sort {n : Int} {xs : List Int} (hall : allB n xs = true) : mkL (fun j => memB (j : Nat) xs) (2 ^ n.toNat) = sortL xs := by
  refine asc_ext (mkL_asc _ _) (asc_sortL xs) fun z => ?_
  rw [mem_mkL, mem_sortL]
  constructor
  · rintro ⟨⟨h1, _⟩, h2⟩
    have := memB_yes h2
    rwa [Int.toNat_of_nonneg h1] at this
  · intro h
    obtain ⟨t, rfl, ht⟩ := set_nat (allB_yes hall z h)
    exact ⟨⟨by omega, by omega⟩, memB_mk (by simpa using h)⟩
theorem family_at (n : Int) (lv : Value) (xs : List Int) (S : Nat) (w : World) (hx : Row w S lv xs) (hS : S ≤ w.heap.size) (hl : xs.length ≤ 1073741824) (n1 : 1 ≤ n) (n2 : n ≤ 8) (hall : allB n xs = true) :
    Calls Try.prog 59 #[.int .i64 n, lv] w (IntsPost (sortL xs) w) := by
  have hm := Lib.hid (marks_at n lv xs S w hx hS hl n1 n2 hall)
  have hs := Lib.hid (mkL_sort hall)
  obtain ⟨p1, _, _⟩ := pow_nat n1 n2
  obtain ⟨N, hN⟩ : ∃ N : Nat, 2 ^ n.toNat = N := ⟨_, rfl⟩
  rw [hN] at hm hs p1
  obtain ⟨a, cap, rfl, _⟩ := id hx
  replace hN := Lib.hid hN
  replace hall := Lib.hid hall
  clear hx
  go_enter Try.func59, Try.ntmps59
  go_wp2_with fail
  refine hm.out.mono ?_
  rintro e w2 ⟨b, rfl, hb1, hb2, hM, hbel⟩
  have hl := Lib.hid (list_at b N _ w2 hM p1)
  replace hbel := Lib.hid hbel
  have hz := hbel.out.size
  clear hM hm
  go_wp2_with fail
  refine hl.out.mono ?_
  rintro e w3 ⟨v, rfl, hO, hb3⟩
  obtain ⟨a', c', rfl⟩ := hO.form
  rw [hs.out] at hO
  replace hO := Lib.hid hO
  replace hb3 := Lib.hid (hbel.out.trans (hb3.mono hz))
  rw [hs.out]
  go_wp2_with fail
  go_ret
  exact ⟨_, rfl, ⟨hO.out.1, by
    rcases hO.out.2 with hn | ⟨g, cap, cur, h, hB, rest⟩
    · exact .inl hn
    · exact .inr ⟨g, cap, cur, h, by omega, rest⟩⟩, hb3.out⟩
theorem OwnL.mono {w : World} {B B' : Nat} {v : Value} {xs : List Int} (h : OwnL w B v xs) (hB : B' ≤ B) : OwnL w B' v xs := by
  refine ⟨h.1, ?_⟩
  rcases h.2 with hn | ⟨g, cap, cur, rfl, hb, rest⟩
  · exact .inl hn
  · exact .inr ⟨g, cap, cur, rfl, by omega, rest⟩
theorem sp_both (n : Int) (lv lu : Value) (xs zs : List Int) (S : Nat) (w : World) (hx : Row w S lv xs) (hy : Row w S lu zs) (hl : xs.length ≤ 1073741824) (hl2 : zs.length ≤ 1073741824) :
    Calls Try.prog 44 #[.int .i64 n, lv, lu] w fun e w' => e = .returned (.bool (famB n xs && famB n zs)) ∧ ∃ q, w' = w.drewN q := by
  have h1 := sp_FamilyIn n lv xs S w hx hl
  have h2 := Lib.hid (fun q => sp_FamilyIn n lu zs S (w.drewN q) (hy.drewN q) hl2)
  obtain ⟨a, cap, rfl, _⟩ := id hx
  obtain ⟨b, cbp, rfl, _⟩ := id hy
  clear hx hy
  rcases (by cases famB n xs <;> simp : famB n xs = true ∨ famB n xs = false) with hf | hf
  · rw [hf] at h1 ⊢
    replace h1 := Lib.hid h1
    replace hf := Lib.hid hf
    rw [Bool.true_and]
    go_enter Try.func44, Try.ntmps44
    go_wp2_with fail
    refine h1.out.mono ?_
    rintro e w1 ⟨rfl, q, rfl⟩
    go_wp2_with fail
    refine (h2.out q).mono ?_
    rintro e w2 ⟨rfl, q2, rfl⟩
    go_wp2_with fail
    go_ret
    exact ⟨rfl, _, by first | rfl | exact World.drewN_drewN _ _ _⟩
  · rw [hf] at h1 ⊢
    replace h1 := Lib.hid h1
    replace hf := Lib.hid hf
    rw [Bool.false_and]
    go_enter Try.func44, Try.ntmps44
    go_wp2_with fail
    refine h1.out.mono ?_
    rintro e w1 ⟨rfl, q, rfl⟩
    go_wp2_with fail
    go_ret
    exact ⟨rfl, _, rfl⟩
end Go.Proofs.Ytfcegnnajpflmaa
