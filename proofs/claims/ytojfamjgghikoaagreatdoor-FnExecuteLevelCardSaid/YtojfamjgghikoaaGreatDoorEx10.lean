/- Scripts: the law's way of writing numbers. -/
import Derived.Test.YtojfamjgghikoaaGreatDoorEx9
import Derived.Laws.BytesString
import Derived.Laws.IdiomStrings
namespace Go.Proofs.YtojfamjgghikoaaGreatDoor
open Go.ChangeShapes Go.WideShapes Go.ChangeAt Go.RowKit Go.Proofs Go.Shelf
attribute [local go_sem] Oper.semAt_some

theorem one_byte (n : Nat) (hn : n < 10) (w : World) : (Sem.run Tryz.prog (convert 22 9 (.slice (some ⟨w.heap.size, 0, none⟩) 1 1)) (w.alloc (.cells #[.int .u8 (48 + n)] 5))) = .ok (.string ⟨#[UInt8.ofNat (48 + n)]⟩) (w.alloc (.cells #[.int .u8 (48 + n)] 5)) := by
  have h := run_convert_bytes_back (P := Tryz.prog) (w.alloc (.cells #[.int .u8 (48 + n)] 5)) 22 9 5 ⟨w.heap.size, 0, none⟩ 1 [UInt8.ofNat (48 + n)] Tryz.underlying22 Tryz.underlying5 Tryz.underlying9 (by
      intro j hj
      have : j = 0 := by simpa using hj
      subst this
      simp [Addr.add]
      omega)
  exact h
theorem one_byte_at (n : Nat) (hn : n < 10) (w : World) (b : Nat) (hb : w.heap[b]? = some (.cells #[.int .u8 (48 + n)] 5 (0, 0))) : (Sem.run Tryz.prog (convert 22 9 (.slice (some ⟨b, 0, none⟩) 1 1)) w) = .ok (.string ⟨#[UInt8.ofNat (48 + n)]⟩) w := by
  have h := run_convert_bytes_back (P := Tryz.prog) w 22 9 5 ⟨b, 0, none⟩ 1 [UInt8.ofNat (48 + n)] Tryz.underlying22 Tryz.underlying5 Tryz.underlying9 (by
      intro j hj
      have : j = 0 := by simpa using hj
      subst this
      simp [Addr.add, World.cell?, hb]
      omega)
  exact h
theorem made_at (c : Obj) (W : World) : (W.alloc c).heap[W.heap.size]? = some c := Array.getElem?_push_size
theorem made_drew (c : Obj) (W : World) : (W.alloc c).drew.heap[W.heap.size]? = some c := made_at c W
theorem made_after {c : Obj} {W w' : World} (h : Below (W.alloc c).drew.heap.size (W.alloc c).drew w') : w'.heap[W.heap.size]? = some c :=
  (h.block _ (Array.getElem?_eq_some_iff.1 (made_drew c W)).1).trans (made_drew c W)
theorem of_drew {w w' : World} (h : Below w.drew.heap.size w.drew w') : Below w.heap.size w w' := ⟨h.os, h.tape, h.output, h.size, h.block⟩
set_option maxRecDepth 100000 in
set_option maxHeartbeats 2000000 in
theorem law_digits1 (n : Nat) (w : World) (hn : n < 10) :
    Calls Tryz.prog 18 #[.int .i64 n] w fun e w' => e = .returned (.string ⟨(Lib.decDigits n).toArray⟩) ∧ Below w.heap.size w w' := by
  rw [Lib.decDigits_one hn]
  have h1 : (n : Int) < 10 := by omega
  have hcv := one_byte n hn w
  obtain ⟨cb, hcb⟩ : ∃ c, UInt8.ofNat (48 + n) = c := ⟨_, rfl⟩
  rw [hcb] at hcv ⊢
  replace hcb := Lib.hid hcb
  go_enter Tryz.func18, Tryz.ntmps18
  go_wp2_with fail
  go_ret
  exact ⟨rfl, (Below.refl _ _).alloc (Nat.le_refl _) _⟩
set_option maxRecDepth 100000 in
set_option maxHeartbeats 2000000 in
theorem law_digits2 (n : Nat) (w : World) (hn : 10 ≤ n) (hn2 : n < 100) :
    Calls Tryz.prog 18 #[.int .i64 n] w fun e w' => e = .returned (.string ⟨(Lib.decDigits n).toArray⟩) ∧ Below w.heap.size w w' := by
  rw [Lib.decDigits_two (by omega) hn2]
  have h1 : ¬ (n : Int) < 10 := by omega
  have hd : Int.tdiv (n : Int) 10 = ((n / 10 : Nat) : Int) := by rw [Int.tdiv_eq_ediv_of_nonneg (by omega)]; omega
  have hm : Int.tmod (n : Int) 10 = ((n % 10 : Nat) : Int) := by rw [Int.tmod_eq_emod_of_nonneg (by omega)]; omega
  have hcv := fun W => one_byte (n % 10) (by omega) W
  have hcw := fun W b => one_byte_at (n % 10) (by omega) W b
  have hc := Lib.hid (fun W => law_digits1 (n / 10) W (by omega))
  rw [Lib.decDigits_one (show n / 10 < 10 by omega)] at hc
  obtain ⟨cb, hcb⟩ : ∃ c, UInt8.ofNat (48 + n % 10) = c := ⟨_, rfl⟩
  obtain ⟨ca, hca⟩ : ∃ c, UInt8.ofNat (48 + n / 10) = c := ⟨_, rfl⟩
  rw [hcb] at hcv hcw ⊢
  rw [hca] at hc ⊢
  obtain ⟨q, hq⟩ : ∃ q : Nat, n / 10 = q := ⟨_, rfl⟩
  obtain ⟨r, hr⟩ : ∃ q : Nat, n % 10 = q := ⟨_, rfl⟩
  rw [hq] at hd hc
  rw [hr] at hm hcv hcw
  have hcz := hcw ((w.alloc (.cells #[.int .u8 (48 + (r : Nat))] 5)).drew) w.heap.size (made_drew _ _)
  replace hcw := Lib.hid hcw
  have q0 : (0 : Int) ≤ (q : Nat) := by omega
  have q9 : (q : Int) < 10 := by omega
  have r0 : (0 : Int) ≤ (r : Nat) := by omega
  have r9 : (r : Int) < 10 := by omega
  have e1 : IntKind.i64.wrap ((q : Nat) : Int) = ((q : Nat) : Int) := by rw [IntKind.wrap_i64]; omega
  have e2 : IntKind.i64.wrap (48 + ((r : Nat) : Int)) = 48 + ((r : Nat) : Int) := by rw [IntKind.wrap_i64]; omega
  have e3 : IntKind.u8.wrap (48 + ((r : Nat) : Int)) = 48 + ((r : Nat) : Int) := by rw [IntKind.wrap_u8]; omega
  replace hq := Lib.hid hq
  replace hr := Lib.hid hr
  replace hcb := Lib.hid hcb
  replace hca := Lib.hid hca
  go_enter Tryz.func18, Tryz.ntmps18
  go_wp2_with fail
  go_region_with (go_at_call 18; (with_reducible refine (hc.out _).mono ?_); rintro e w' ⟨rfl, hbw⟩; (first | have cw := hcw.out w' w.heap.size (made_after hbw) | skip); replace hbw := Lib.hid hbw)
  all_goals go_wp2_with fail
  all_goals go_ret
  all_goals refine ⟨rfl, ?_⟩
  · exact (of_drew hbw.out).alloc (of_drew hbw.out).size _
  · exact ((Below.refl _ _).alloc (Nat.le_refl _) _).trans ((of_drew hbw.out).mono (by simp))
  · exact ((Below.refl _ _).alloc (Nat.le_refl _) _).trans ((of_drew hbw.out).mono (by simp))
theorem law_digits (n : Nat) (w : World) (hn : n < 100) :
    Calls Tryz.prog 18 #[.int .i64 n] w fun e w' => e = .returned (.string ⟨(Lib.decDigits n).toArray⟩) ∧ Below w.heap.size w w' := by
  by_cases h : n < 10
  · exact law_digits1 n w h
  · exact law_digits2 n w (by omega) hn
end Go.Proofs.YtojfamjgghikoaaGreatDoor
