/- The law of chains: each set of a chain has this chain. -/
import Derived.Test.YtffnpignkimkhaaDoorCh4
import Derived.Test.YtffnpignkimkhaaDoorDrawS
import Derived.Test.YtffnpignkimkhaaDoorSizeL
import Derived.Test.YtffnpignkimkhaaDoorSameL
import Derived.BigQuiet
namespace Go.Proofs.YtffnpignkimkhaaDoor
open Go.ChangeShapes Go.WideShapes Go.ChangeAt Go.RowKit

theorem draw_ChainOf (v : Value) (a : Option Addr) (len cap : Nat) (w : World) (hv : v = .slice a len cap) (hc : len ≤ cap) (hcap : cap ≤ 9223372036854775807) (hB : Bytes w w.heap.size a len) :
    Calls Tryd.prog 6 #[v] w (OneDraw w) := by
  have h0 := Lib.hid (draw_one v a len cap w hv hc hcap hB)
  clear hv hc hcap hB
  go_enter Tryd.func6, Tryd.ntmps6
  go_wp2_with fail
  refine (h0.out).mono ?_
  rintro e w1 ⟨n, s, rfl, hb⟩
  replace hb := Lib.hid hb
  go_wp2_with fail
  go_ret2
  exact ⟨_, _, rfl, hb.out⟩
/-- each set of a chain has it; one point more each; the first and the last one together. -/
def chnOk (N : Nat) (s : Int) : Bool :=
  let L := chnL N s
  L.all (fun z => decide (0 ≤ z) && decide (z < 2 ^ N) && decide (chnL N z = L)) &&
  (List.range (L.length - 1)).all (fun i => decide (bits .andNot .i64 (L.getD i 0) (L.getD (i + 1) 0) = 0) && decide (cntI (L.getD (i + 1) 0) = cntI (L.getD i 0) + 1)) &&
  L.any (fun z => z == s) && decide (cntI (L.getD 0 0) + cntI (L.getD (L.length - 1) 0) = N) && decide (1 ≤ L.length)
set_option maxRecDepth 100000 in
theorem chn_ok : ∀ N : Fin 9, ∀ s : Fin 256, s.val < 2 ^ N.val → chnOk N.val s.val = true := by decide +kernel
theorem chn_law {N : Nat} {s : Int} (h8 : N ≤ 8) (s1 : 0 ≤ s) (s2 : s < 2 ^ N) :
    (∀ z ∈ chnL N s, 0 ≤ z ∧ z < 2 ^ N ∧ chnL N z = chnL N s) ∧ (∀ i, i + 1 < (chnL N s).length → bits .andNot .i64 ((chnL N s).getD i 0) ((chnL N s).getD (i + 1) 0) = 0 ∧ cntI ((chnL N s).getD (i + 1) 0) = cntI ((chnL N s).getD i 0) + 1) ∧
    (chnL N s).any (fun z => z == s) = true ∧ cntI ((chnL N s).getD 0 0) + cntI ((chnL N s).getD ((chnL N s).length - 1) 0) = N ∧ 1 ≤ (chnL N s).length := by
  have e2 : ((s.toNat : Nat) : Int) = s := Int.toNat_of_nonneg s1
  have hp : 2 ^ N ≤ 2 ^ 8 := Nat.pow_le_pow_right (by omega) h8
  have h2 : s.toNat < 2 ^ N := by
    have : ((s.toNat : Nat) : Int) < ((2 ^ N : Nat) : Int) := by rw [e2]; simpa using s2
    exact Int.ofNat_lt.1 this
  have h := chn_ok ⟨N, by omega⟩ ⟨s.toNat, by omega⟩ h2
  simp only [e2, chnOk, Bool.and_eq_true, decide_eq_true_eq] at h
  obtain ⟨⟨⟨⟨ha, hb⟩, hc⟩, hd⟩, he⟩ := h
  refine ⟨fun z hz => ?_, fun i hi => ?_, hc, hd, he⟩
  · have := List.all_eq_true.1 ha z hz
    simp only [Bool.and_eq_true, decide_eq_true_eq] at this
    exact ⟨this.1.1, this.1.2, this.2⟩
  · have := List.all_eq_true.1 hb i (List.mem_range.2 (by omega))
    simp only [Bool.and_eq_true, decide_eq_true_eq] at this
    exact this
end Go.Proofs.YtffnpignkimkhaaDoor
