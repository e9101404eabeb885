/- Scripts: a line is cut at its first space; the deferred closure that finds nothing to recover. -/
import Derived.Test.YtojfamjgghikoaaGreatDoorEx5
import Derived.Defers
import Derived.Recover
import Derived.Laws.Pointers
import Derived.Shelf.Strings.Cut
namespace Go.Proofs.YtojfamjgghikoaaGreatDoor
open Go.ChangeShapes Go.WideShapes Go.ChangeAt Go.RowKit Go.Proofs Go.Shelf

theorem ans_idle (p : Addr) (w : World) : CallsD Tryz.prog 52 #[.pointer (some p)] .returning w fun e u' w' => e = .returned (.tuple #[]) ∧ u' = .returning ∧ w' = w := by
  have hta : ∀ W, (Instr.typeAssert .nilIface 20 82 true).run Tryz.prog W = .ok (.tuple #[.string ByteArray.empty, .bool false]) W := fun _ => by kernel_rfl
  refine callsD_of_wpS Tryz.func52 rfl fun c₀ cs hu => ?_
  apply wpS_seq
  apply wpS_region
  simp [wpOpsS, go_sem, recoverD, hu, hta, Tryz.ntmps52, Exit.thenS]
  apply wpS_seq
  apply wpS_region
  simp [wpOpsS, go_sem, Exit.thenS]
  refine wpS_cond (t := false) (by simp [Act.eval, Array.replicate]) ?_
  simp only [Bool.false_eq_true, if_false]
  refine wpS_of_wp (wp_skip ?_)
  cases c₀
  simp_all [bodyPostS, results, Tryz.results52]
set_option maxHeartbeats 2000000 in
theorem cut_core (s sep : ByteArray) (hs : s.size ≤ 1000000) (hI : ∀ W, Calls Tryz.prog 140 #[.string s, .string sep] W fun e w' => e = .returned (.int .i64 (Lib.indexB s sep)) ∧ w' = W) (w : World) :
    Calls Tryz.prog 83 #[.string s, .string sep] w fun e w' => e = .returned (.tuple #[.string ⟨(Lib.cut s.data.toList sep.data.toList).1.toArray⟩, .string ⟨(Lib.cut s.data.toList sep.data.toList).2.1.toArray⟩, .bool (Lib.cut s.data.toList sep.data.toList).2.2]) ∧ ∃ n, w' = w.drewN n := by
  rcases Lib.indexB_cases s sep with hix | ⟨i, hix, hroom⟩
  · obtain ⟨e1, e2, e3⟩ := Lib.cutB_miss s sep hix
    rw [e1, e2, e3]
    rw [hix] at hI
    replace hI := Lib.hid hI
    clear e1 e2 e3 hix
    go_enter Tryz.func83, Tryz.ntmps83
    go_wp2_with (go_at_call 140; (with_reducible refine (hI.out _).mono ?_); rintro e w' ⟨rfl, rfl⟩)
    go_ret3
    exact ⟨rfl, 0, rfl⟩
  · obtain ⟨e1, e2, e3⟩ := Lib.cutB_hit s sep i hix
    rw [e1, e2, e3]
    rw [hix] at hI
    replace hI := Lib.hid hI
    have mixed := Tryz.lays219.mixed
    have c1 : (0 : Int) ≤ ↑i := by omega
    have c2 : (↑i : Int) ≤ ↑s.size := by omega
    have c3 : (0 : Int) ≤ ↑i + ↑sep.size := by omega
    have c4 : (↑i + ↑sep.size : Int) ≤ ↑s.size := by omega
    have c5 : ((i : Int) + (sep.size : Int)).toNat = i + sep.size := by omega
    have c6 : IntKind.i64.wrap ((i : Int) + (sep.size : Int)) = (i : Int) + (sep.size : Int) := by rw [IntKind.wrap_i64]; omega
    have c7 : wrap64 ((i : Int) + (sep.size : Int)) = (i : Int) + (sep.size : Int) := by unfold wrap64; omega
    clear e1 e2 e3 hix
    go_enter Tryz.func83, Tryz.ntmps83
    go_wp2_with (go_at_call 140; (with_reducible refine (hI.out _).mono ?_); rintro e w' ⟨rfl, rfl⟩)
    go_region_o
    go_wp2
    go_ret3
    exact ⟨rfl, 1, rfl⟩
theorem cut_one (s : ByteArray) (hs : s.size ≤ 1000000) (c : UInt8) (w : World) : Calls Tryz.prog 53 #[.string s, .string ⟨#[c]⟩] w fun e w' => e = .returned (.tuple #[.string ⟨(Lib.cut s.data.toList [c]).1.toArray⟩, .string ⟨(Lib.cut s.data.toList [c]).2.1.toArray⟩, .bool (Lib.cut s.data.toList [c]).2.2]) ∧ ∃ n, w' = w.drewN n := by
  have hc := Lib.hid (fun W => cut_core s ⟨#[c]⟩ hs (fun W => by
    have := Any.stringslite_Index_one Tryz.lays219 s c W
    rw [← Lib.index_one] at this
    exact this) W)
  go_enter Tryz.func53, Tryz.ntmps53
  go_wp2_with fail
  refine (hc.out _).mono ?_
  rintro e w' ⟨rfl, n, rfl⟩
  go_wp2_with fail
  go_ret3
  exact ⟨rfl, n, rfl⟩
end Go.Proofs.YtojfamjgghikoaaGreatDoor
