/- commonPart and flowerIn. -/
import Derived.Test.YtilkcfikmlkeaaaFl1
namespace Go.Proofs.Ytilkcfikmlkeaaa
open Go.ChangeShapes Go.WideShapes Go.ChangeAt Go.RowKit Go.Proofs

/-- a list of sets, read, that fits its capacity. -/
def RRow (w : World) (S : Nat) (v : Value) (xs : List Int) : Prop :=
  ∃ a cap, v = .slice a xs.length cap ∧ xs.length ≤ cap ∧ cap ≤ 9223372036854775807 ∧ (0 < xs.length → ∃ b off, a = some ⟨b, off, none⟩ ∧ b < S ∧ ∀ i, i < xs.length → w.cell? ⟨b, off + i, none⟩ = some (.int .u64 (xs.getD i 0)))
theorem SetL.rrow {w : World} {B : Nat} {v : Value} {xs : List Int} (h : SetL w B v xs) : RRow w w.heap.size v xs := by
  have hlt := h.lt
  rcases h.out with ⟨rfl, rfl⟩ | ⟨g, cap, cur, rfl, hB, hg, hn, hm, hs, hc⟩
  · exact ⟨none, 0, rfl, by simp, by simp, fun h => by simp at h⟩
  · refine ⟨some ⟨g, 0, none⟩, cap, rfl, hn, by unfold maxLen at hm; omega, fun _ => ⟨g, 0, rfl, (hlt g rfl).2, fun i hi => ?_⟩⟩
    rw [Nat.zero_add]; exact hc i hi
theorem RRow.below {w w' : World} {S B : Nat} {v : Value} {xs : List Int} (h : RRow w S v xs) (hb : Below B w w') (hS : S ≤ B) : RRow w' S v xs := by
  obtain ⟨a, cap, rfl, h1, h2, h3⟩ := h
  refine ⟨a, cap, rfl, h1, h2, fun hl => ?_⟩
  obtain ⟨b, off, rfl, hs, hx⟩ := h3 hl
  exact ⟨b, off, rfl, hs, fun i hi => (hb.cell (p := ⟨b, off + i, none⟩) (show b < B by omega)).trans (hx i hi)⟩
theorem RRow.mono {w : World} {S S' : Nat} {v : Value} {xs : List Int} (h : RRow w S v xs) (hS : S ≤ S') : RRow w S' v xs := by
  obtain ⟨a, cap, rfl, h1, h2, h3⟩ := h
  refine ⟨a, cap, rfl, h1, h2, fun hl => ?_⟩
  obtain ⟨b, off, rfl, hs, hx⟩ := h3 hl
  exact ⟨b, off, rfl, by omega, hx⟩
theorem drop_get {L : List Int} {k : Nat} : (L.drop 1).getD k 0 = L.getD (1 + k) 0 := by simp [List.getD, Nat.add_comm]
theorem fold_take {T : List Int} {a x : Int} {k : Nat} (hk : k < T.length) (hx : T.getD k 0 = x) : (T.take (k + 1)).foldl andI a = andI ((T.take k).foldl andI a) x := by
  rw [take_snoc hk, hx, List.foldl_append]; rfl
set_option maxHeartbeats 1000000 in
theorem common_at (lv : Value) (L : List Int) (S : Nat) (w : World) (hx : RRow w S lv L) (h0 : 0 < L.length) (hl : L.length ≤ 100000) (hz : ∀ z ∈ L, 0 ≤ z ∧ z < 256) :
    Calls Try.prog 43 #[lv] w fun e w' => e = .returned (.int .u64 (coreI L)) ∧ w = w' := by
  obtain ⟨a, cap, rfl, hc1, hc2, ha⟩ := hx
  obtain ⟨b1, o1, rfl, t1, c1⟩ := ha h0
  have e0 : w.cell? ⟨b1, o1, none⟩ = some (.int .u64 (L.getD 0 0)) := by have := c1 0 h0; rwa [Nat.add_zero] at this
  obtain ⟨z1, z2⟩ := hz (L.getD 0 0) (getD_mem h0)
  obtain ⟨x0, hx0⟩ : ∃ x, L.getD 0 0 = x := ⟨_, rfl⟩
  have hco : coreI L = (L.drop 1).foldl andI x0 := by unfold coreI; rw [hx0]
  rw [hx0] at e0 z1 z2
  have hT : ∀ k, k < L.length - 1 → w.cell? ⟨b1, o1 + 1 + k, none⟩ = some (.int .u64 ((L.drop 1).getD k 0)) := fun k hk => by
    rw [drop_get, Nat.add_assoc]; exact c1 (1 + k) (by omega)
  have hTl : (L.drop 1).length = L.length - 1 := List.length_drop
  have hTz : ∀ k, k < L.length - 1 → 0 ≤ (L.drop 1).getD k 0 ∧ (L.drop 1).getD k 0 < 256 := fun k hk => hz _ (by rw [drop_get]; exact getD_mem (by omega))
  obtain ⟨T, hTT⟩ : ∃ T, L.drop 1 = T := ⟨_, rfl⟩
  rw [hTT] at hT hTl hTz hco
  obtain ⟨m, hm⟩ : ∃ m, L.length = m + 1 := ⟨L.length - 1, by omega⟩
  have i1 : (0 : Int) < (L.length : Nat) := by omega
  have i2 : (1 : Int) ≤ (L.length : Nat) := by omega
  have i3 : ((L.length : Nat) : Int) ≤ (cap : Nat) := by omega
  have hm1 : L.length - 1 = m := by omega
  have hmi : ((L.length : Nat) : Int) - 1 = (m : Nat) := by omega
  rw [hm1] at hT hTl hTz
  have hsub : ((L.length : Int) - 1).toNat = m := by omega
  replace hm1 := Lib.hid hm1
  replace hx0 := Lib.hid hx0
  replace hTT := Lib.hid hTT
  replace hco := Lib.hid hco
  replace hz := Lib.hid hz
  replace hT := Lib.hid hT
  replace hTz := Lib.hid hTz
  replace hTl := Lib.hid hTl
  replace hm := Lib.hid hm
  clear ha c1
  go_enter Try.func43, Try.ntmps43
  go_wp2_with fail
  all_goals
    rw [hm1.out]
    go_loop [3, 12] (fun c i => ∃ k : Nat, k ≤ m ∧ i = .int .i64 (k : Nat) ∧ c = .int .u64 ((T.take k).foldl andI x0)) (fun _ i => m - (intOf i).toNat)
    case atStart => exact ⟨0, by omega, rfl, rfl⟩
    case round =>
      obtain ⟨k, hk, rfl, rfl⟩ := hrel
      by_cases hlt : k < m
      · have hmm := hm.out
        have k1 : (0 : Int) ≤ (k : Int) := by omega
        have k2 : (k : Int) < (m : Nat) := by omega
        have e1 := hT.out k hlt
        obtain ⟨x, hx⟩ : ∃ x, T.getD k 0 = x := ⟨_, rfl⟩
        obtain ⟨x1, x2⟩ := hTz.out k hlt
        rw [hx] at e1 x1 x2
        have hst := fold_take (a := x0) (by have := hTl.out; omega) hx
        obtain ⟨y1, y2⟩ := foldl_bd (T.take k) z1 z2
        obtain ⟨y, hy⟩ : ∃ y, (T.take k).foldl andI x0 = y := ⟨_, rfl⟩
        rw [hy] at hst y1 y2 ⊢
        have hu := u64_andI y1 y2 x1 x2
        obtain ⟨d1, d2⟩ := andI_bd x y1 y2
        obtain ⟨d, hd⟩ : ∃ d, andI y x = d := ⟨_, rfl⟩
        rw [hd] at hu d1 d2 hst
        replace hst := Lib.hid hst
        replace hd := Lib.hid hd
        replace hy := Lib.hid hy
        replace hx := Lib.hid hx
        clear hmm
        first
          | (exfalso; have := hm.out; omega)
          | (go_wp2_with fail
             go_round
             case rel => exact ⟨k + 1, by omega, by first | rfl | go_num, by rw [hst.out]⟩
             case measure => simp [intOf]; omega)
      · obtain rfl : k = m := by omega
        have hf := Lib.hid (show (T.take k).foldl andI x0 = coreI L by rw [hco.out, List.take_of_length_le (by have := hTl.out; omega)])
        rw [hf.out]
        go_wp2_with fail
        go_ret
        exact ⟨rfl, rfl⟩
set_option maxHeartbeats 2000000 in
theorem flower_at (lv : Value) (L : List Int) (S : Nat) (w : World) (hx : RRow w S lv L) (h0 : 0 < L.length) (hl : L.length ≤ 100000) (hz : ∀ z ∈ L, 0 ≤ z ∧ z < 256) :
    Calls Try.prog 32 #[lv] w fun e w' => e = .returned (.bool (flowB L)) ∧ w = w' := by
  have hco := Lib.hid (common_at lv L S w hx h0 hl hz)
  obtain ⟨a, cap, rfl, hc1, hc2, ha⟩ := hx
  obtain ⟨b1, o1, rfl, t1, c1⟩ := ha h0
  obtain ⟨c, hc⟩ : ∃ c, coreI L = c := ⟨_, rfl⟩
  rw [hc] at hco
  have hyes := fun h => flow_yes (L := L) h
  have hno := fun i j x z hi hj hx hz h => flow_no (L := L) (i := i) (j := j) (x := x) (z := z) hi hj hx hz h
  rw [hc] at hyes hno
  replace hyes := Lib.hid hyes
  replace hno := Lib.hid hno
  replace hc := Lib.hid hc
  replace hz := Lib.hid hz
  replace c1 := Lib.hid c1
  have i3 : ((L.length : Nat) : Int) ≤ (cap : Nat) := by omega
  clear ha
  go_enter Try.func32, Try.ntmps32
  go_wp2_with (go_at_call 43; refine hco.out.mono ?_; rintro e w' ⟨rfl, rfl⟩)
  go_loop [12] (fun q => ∃ k : Nat, k ≤ L.length ∧ q = .int .i64 (k : Nat) ∧ Hid (FlTo c L k)) (fun q => L.length - (intOf q).toNat)
  case atStart => exact ⟨0, by omega, rfl, Lib.hid (fun i hi => by omega)⟩
  case round =>
    obtain ⟨k, hk, rfl, hn⟩ := hrel
    by_cases hlt : k < L.length
    · have k1 : (0 : Int) ≤ (k : Int) := by omega
      have k2 : (k : Int) < (L.length : Nat) := by omega
      have k3 : (k : Int) ≤ (cap : Nat) := by omega
      have e1 := c1.out k hlt
      obtain ⟨x, hx0⟩ : ∃ x, L.getD k 0 = x := ⟨_, rfl⟩
      obtain ⟨x1, x2⟩ := hz.out x (by rw [← hx0]; exact getD_mem hlt)
      rw [hx0] at e1
      replace hx0 := Lib.hid hx0
      go_wp2_with fail
      go_loop [21] (fun j => ∃ m : Nat, m ≤ k ∧ j = .int .i64 (m : Nat) ∧ Hid (FlRow c x L m)) (fun j => k - (intOf j).toNat)
      case atStart => exact ⟨0, by omega, rfl, Lib.hid (fun i hi => by omega)⟩
      case round =>
        obtain ⟨m, hm, rfl, hr⟩ := hrel
        by_cases hlm : m < k
        · have m1 : (0 : Int) ≤ (m : Int) := by omega
          have m2 : (m : Int) < (k : Nat) := by omega
          have e2 := c1.out m (by omega)
          obtain ⟨z, hz0⟩ : ∃ z, L.getD m 0 = z := ⟨_, rfl⟩
          obtain ⟨u1, u2⟩ := hz.out z (by rw [← hz0]; exact getD_mem (by omega))
          rw [hz0] at e2
          have hu := u64_andI x1 x2 u1 u2
          obtain ⟨d1, d2⟩ := andI_bd z x1 x2
          have hst := fun hv => flrow_step hr.out hz0 hv
          have hnn := hno.out k m x z hlt hlm hx0.out hz0
          obtain ⟨d, hd⟩ : ∃ d, andI x z = d := ⟨_, rfl⟩
          rw [hd] at hu d1 d2 hst hnn
          replace hz0 := Lib.hid hz0
          replace hd := Lib.hid hd
          by_cases hdc : d = c
          · have hbq : (d != c) = false := by simp [hdc]
            have hft := Lib.hid (hst hdc)
            replace hdc := Lib.hid hdc
            replace hst := Lib.hid hst
            replace hnn := Lib.hid hnn
            go_wp2_with fail
            go_round
            case rel => exact ⟨m + 1, by omega, by first | rfl | go_num, hft⟩
            case measure => simp [intOf]; omega
          · have hbq : (d != c) = true := by simp [hdc]
            have hB := Lib.hid (show false = flowB L from (hnn hdc).symm)
            replace hst := Lib.hid hst
            replace hnn := Lib.hid hnn
            go_wp2_with fail
            go_ret
            exact ⟨ret_bool hB.out, rfl⟩
        · obtain rfl : m = k := by omega
          have hst2 := Lib.hid (flto_step hn.out hx0.out hr.out)
          go_wp2_with fail
          go_round
          case rel => exact ⟨m + 1, by omega, by first | rfl | go_num, hst2⟩
          case measure => simp [intOf]; omega
    · obtain rfl : k = L.length := by omega
      have hB := Lib.hid (show true = flowB L from (hyes.out hn.out).symm)
      go_wp2_with fail
      go_ret
      exact ⟨ret_bool hB.out, rfl⟩
end Go.Proofs.Ytilkcfikmlkeaaa
