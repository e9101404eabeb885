/- The program's UpIn and DownIn. -/
import Derived.Test.YthljimmhgpbmbaaUnc
import Derived.Test.YthljimmhgpbmbaaAc2
namespace Go.Proofs.Ythljimmhgpbmbaa
open Go.ChangeShapes Go.WideShapes Go.ChangeAt Go.RowKit Go.Proofs

/-- all parts of the sets of a family. -/
def dnF (n : Int) (xs : List Int) : List Int := sortL ((sortL (upI (2 ^ n.toNat))).filter (fun s => xs.any (partB s)))
/-- all sets of which a set of a family is a part. -/
def upF (n : Int) (xs : List Int) : List Int := sortL ((sortL (upI (2 ^ n.toNat))).filter (fun s => xs.any (fun x => partB x s)))
theorem mem_dnF {n : Int} {xs : List Int} (h1 : 1 ≤ n) (h2 : n ≤ 8) {z : Int} : z ∈ dnF n xs ↔ setB n z = true ∧ ∃ x ∈ xs, partB z x = true := by
  unfold dnF
  rw [mem_sortL, List.mem_filter, mem_sortL, mem_upI, List.any_eq_true]
  have : ((2 ^ n.toNat : Nat) : Int) = 2 ^ n.toNat := by simp
  constructor
  · rintro ⟨⟨a, b⟩, c⟩; exact ⟨setB_mk ⟨h1, h2, a, by rw [← this]; exact b⟩, c⟩
  · rintro ⟨a, c⟩; obtain ⟨_, _, p, q⟩ := setB_yes a; exact ⟨⟨p, by rw [this]; exact q⟩, c⟩
theorem mem_upF {n : Int} {xs : List Int} (h1 : 1 ≤ n) (h2 : n ≤ 8) {z : Int} : z ∈ upF n xs ↔ setB n z = true ∧ ∃ x ∈ xs, partB x z = true := by
  unfold upF
  rw [mem_sortL, List.mem_filter, mem_sortL, mem_upI, List.any_eq_true]
  have : ((2 ^ n.toNat : Nat) : Int) = 2 ^ n.toNat := by simp
  constructor
  · rintro ⟨⟨a, b⟩, c⟩; exact ⟨setB_mk ⟨h1, h2, a, by rw [← this]; exact b⟩, c⟩
  · rintro ⟨a, c⟩; obtain ⟨_, _, p, q⟩ := setB_yes a; exact ⟨⟨p, by rw [this]; exact q⟩, c⟩
theorem dnF_len {n : Int} {xs : List Int} (h1 : 1 ≤ n) (h2 : n ≤ 8) : (dnF n xs).length ≤ 256 := asc_len256 (asc_sortL _) (fun _ hz => setB_lt ((mem_dnF h1 h2).1 hz).1)
theorem upF_len {n : Int} {xs : List Int} (h1 : 1 ≤ n) (h2 : n ≤ 8) : (upF n xs).length ≤ 256 := asc_len256 (asc_sortL _) (fun _ hz => setB_lt ((mem_upF h1 h2).1 hz).1)
set_option maxHeartbeats 1000000 in
theorem im_DownIn (n : Int) (lv : Value) (xs : List Int) (S : Nat) (w : World) (hx : Row w S lv xs) (hS : S ≤ w.heap.size) (hl : xs.length ≤ 100000000) :
    Calls Try.prog 34 #[.int .i64 n, lv] w fun e w' => e = .returned (.bool (famB n xs && sameB (dnF n xs) xs)) ∧ Below w.heap.size w w' := by
  have hm := unchanged_at 59 (enters_of Try.func59 (by kernel_rfl) rfl) n lv xs (ifL (famB n xs) (dnF n xs)) (famB n xs) S w hx hS hl (ifL_small (fun hf => by have h := dnF_len (xs := xs) (famB_all hf).1 (famB_all hf).2.1; omega)) (fun W u S' h1 h2 => im_ClosedDown n u xs S' W h1 h2 hl)
  rw [ifL_same] at hm
  replace hm := Lib.hid hm
  obtain ⟨la, lc, rfl, _⟩ := id hx
  clear hx
  go_enter Try.func34, Try.ntmps34
  go_wp2_with fail
  refine hm.out.mono ?_
  rintro e w2 ⟨rfl, hb⟩
  replace hb := Lib.hid hb
  clear hm
  go_wp2_with fail
  go_ret
  exact ⟨rfl, hb.out⟩
set_option maxHeartbeats 1000000 in
theorem im_UpIn (n : Int) (lv : Value) (xs : List Int) (S : Nat) (w : World) (hx : Row w S lv xs) (hS : S ≤ w.heap.size) (hl : xs.length ≤ 100000000) :
    Calls Try.prog 32 #[.int .i64 n, lv] w fun e w' => e = .returned (.bool (famB n xs && sameB (upF n xs) xs)) ∧ Below w.heap.size w w' := by
  have hm := unchanged_at 58 (enters_of Try.func58 (by kernel_rfl) rfl) n lv xs (ifL (famB n xs) (upF n xs)) (famB n xs) S w hx hS hl (ifL_small (fun hf => by have h := upF_len (xs := xs) (famB_all hf).1 (famB_all hf).2.1; omega)) (fun W u S' h1 h2 => im_ClosedUp n u xs S' W h1 h2 hl)
  rw [ifL_same] at hm
  replace hm := Lib.hid hm
  obtain ⟨la, lc, rfl, _⟩ := id hx
  clear hx
  go_enter Try.func32, Try.ntmps32
  go_wp2_with fail
  refine hm.out.mono ?_
  rintro e w2 ⟨rfl, hb⟩
  replace hb := Lib.hid hb
  clear hm
  go_wp2_with fail
  go_ret
  exact ⟨rfl, hb.out⟩
end Go.Proofs.Ythljimmhgpbmbaa
