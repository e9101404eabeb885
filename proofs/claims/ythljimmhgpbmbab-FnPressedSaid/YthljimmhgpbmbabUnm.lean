/- The model's UpIn and DownIn. -/
import Derived.Test.YthljimmhgpbmbabAllC9
import Derived.Test.YthljimmhgpbmbabAs2
import Derived.Test.YthljimmhgpbmbabAllTs
import Derived.Test.YthljimmhgpbmbabAcLaw
namespace Go.Proofs.Ythljimmhgpbmbab
open Go.ChangeShapes Go.WideShapes Go.ChangeAt Go.RowKit Go.Proofs

theorem same_comm (xs ys : List Int) : sameB xs ys = sameB ys xs := decide_eq_decide.2 ⟨Eq.symm, Eq.symm⟩
set_option maxHeartbeats 2000000 in
theorem sp_UpIn (n : Int) (lv : Value) (xs : List Int) (S : Nat) (w : World) (hx : Row w S lv xs) (hS : S ≤ w.heap.size) (hl : xs.length ≤ 100000000) :
    Calls Try.prog 39 #[.int .i64 n, lv] w fun e w' => e = .returned (.bool (famB n xs && sameB (upF n xs) xs)) ∧ Below w.heap.size w w' := by
  have h1 := sp_FamilyIn n lv xs S w hx (by omega)
  obtain ⟨a, cap, rfl, ha⟩ := id hx
  rcases (by cases famB n xs <;> simp : famB n xs = true ∨ famB n xs = false) with f1 | f1
  · rw [f1] at h1 ⊢
    rw [Bool.true_and]
    obtain ⟨n1, n2, _⟩ := famB_all f1
    have l1 := famB_len f1
    have hot := fun q : Nat => clo_at n false _ xs S (w.drewN q) (hx.drewN q) hS l1 (famB_lt f1) n1 n2
    rw [← up_eq] at hot
    have hot : ∀ q : Nat, Calls Try.prog 78 #[.int .i64 n, .slice a xs.length cap, .bool false] (w.drewN q) (IntsPost (upF n xs) (w.drewN q)) := hot
    have hLl : (upF n xs).length ≤ 256 := upF_len n1 n2
    obtain ⟨L, hL⟩ : ∃ L, upF n xs = L := ⟨_, rfl⟩
    rw [hL] at hot hLl ⊢
    replace hL := Lib.hid hL
    rw [same_comm]
    have hxx := Lib.hid hx
    replace hot := Lib.hid hot
    replace h1 := Lib.hid h1
    replace f1 := Lib.hid f1
    clear hx ha
    go_enter Try.func39, Try.ntmps39
    go_wp2_with fail
    refine h1.out.mono ?_
    rintro e w1 ⟨rfl, q, rfl⟩
    clear h1
    go_wp2_with fail
    refine (hot.out q).mono ?_
    rintro e w3 ⟨v, rfl, hO, hb3⟩
    obtain ⟨x1, x2, rfl⟩ := hO.form
    have hz3 := hb3.size
    have hz3' : w.heap.size ≤ w3.heap.size := hz3
    have hsm := Lib.hid (same_ints _ _ xs L w3.heap.size w3 (((hxx.out.drewN q).below hb3 hS).mono (Nat.le_trans hS hz3')) hO.own.row (by omega) (by omega))
    replace hb3 := Lib.hid ((below_drewN (Below.refl w.heap.size w) q).trans hb3)
    clear hot hO
    go_wp2_with fail
    refine hsm.out.mono ?_
    rintro e w4 ⟨rfl, q4, rfl⟩
    go_wp2_with fail
    go_ret
    exact ⟨rfl, below_drewN hb3.out q4⟩
  · rw [f1] at h1 ⊢
    rw [Bool.false_and]
    replace h1 := Lib.hid h1
    replace f1 := Lib.hid f1
    clear hx ha
    go_enter Try.func39, Try.ntmps39
    go_wp2_with fail
    refine h1.out.mono ?_
    rintro e w1 ⟨rfl, q, rfl⟩
    go_wp2_with fail
    go_ret
    exact ⟨rfl, below_drewN (Below.refl _ w) q⟩

end Go.Proofs.Ythljimmhgpbmbab
