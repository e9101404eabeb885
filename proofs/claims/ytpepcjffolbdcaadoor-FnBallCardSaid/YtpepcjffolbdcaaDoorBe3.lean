/- Inner edges and edges: the model. -/
import Derived.Test.YtpepcjffolbdcaaDoorBe1
import Derived.Test.YtpepcjffolbdcaaDoorAllSp
namespace Go.Proofs.YtpepcjffolbdcaaDoor
open Go.ChangeShapes Go.WideShapes Go.ChangeAt Go.RowKit Go.Proofs

theorem nb_set : ∀ n : Fin 9, ∀ x : Fin 256, ∀ p : Fin 8, x.val < 2 ^ n.val → p.val < n.val → xorI (x.val : Nat) (2 ^ p.val) < 2 ^ n.val := by decide +kernel
theorem nb_bd {n x : Int} (h : setB n x = true) {p : Nat} (hp : (p : Int) < n) : ∃ t : Nat, xorI x (2 ^ p) = t ∧ t < 2 ^ n.toNat := by
  obtain ⟨n1, n2, x1, x2⟩ := setB_yes h
  have hb := setB_lt h
  have := nb_set ⟨n.toNat, by omega⟩ ⟨x.toNat, by omega⟩ ⟨p, by omega⟩ (nat_lt_pow x2) (by show p < n.toNat; omega)
  have e : ((x.toNat : Nat) : Int) = x := Int.toNat_of_nonneg x1
  simp only [e] at this
  refine ⟨(xorI x (2 ^ p)).toNat, ?_, ?_⟩
  · rw [Int.toNat_of_nonneg]; unfold xorI; omega
  · have h0 : 0 ≤ xorI x (2 ^ p) := by unfold xorI; omega
    have : ((2 ^ n.toNat : Nat) : Int) = 2 ^ n.toNat := by simp
    omega
theorem rowT_succ (P : Int → Nat → Bool) (s : Int) (N : Nat) : rowT P s (N + 1) = rowT P s N + (if P s N then 1 else 0) := rfl
set_option maxRecDepth 100000 in
set_option maxHeartbeats 2000000 in
theorem sp_edges (n : Int) (lv : Value) (xs : List Int) (S : Nat) (w : World) (hx : Row w S lv xs) (hS : S ≤ w.heap.size) (hf : famB n xs = true) :
    Calls Tryd.prog 47 #[.int .i64 n, lv] w fun e w' => e = .returned (.int .i64 (2 * ieN xs : Nat)) ∧ Below w.heap.size w w' := by
  obtain ⟨n1, n2, hset⟩ := famB_all hf
  have hlen := famB_len hf
  have hz := famB_lt hf
  have hie := Lib.hid (ie_model hf)
  have hmk := marks_at n lv xs S w hx hS (by omega) n1 n2 (famB_allB hf)
  have hnb := fun x (h : x ∈ xs) (p : Nat) (hp : (p : Int) < n) => nb_bd (hset x h) hp
  obtain ⟨M, hM⟩ : ∃ M : Nat, n.toNat = M := ⟨_, rfl⟩
  obtain rfl : n = (M : Nat) := by omega
  have hM8 : M ≤ 8 := by omega
  obtain ⟨N, hN⟩ : ∃ N : Nat, 2 ^ ((M : Nat) : Int).toNat = N := ⟨_, rfl⟩
  rw [hN] at hmk
  have hnb2 := Lib.hid (fun x (h : x ∈ xs) (p : Nat) (hp : p < M) => by have := hnb x h p (by omega); rwa [hN] at this)
  rw [hM] at hie
  obtain ⟨la, lc, rfl, ha⟩ := id hx
  replace ha := Lib.hid ha
  replace hz := Lib.hid hz
  replace hmk := Lib.hid hmk
  replace hN := Lib.hid hN
  replace hM := Lib.hid hM
  replace hf := Lib.hid hf
  clear hx hnb hset
  go_enter Tryd.func47, Tryd.ntmps47
  go_wp2_with fail
  refine hmk.out.mono ?_
  rintro e w2 ⟨b2, rfl, hb1, hb3, hMR, hbel⟩
  replace hMR := Lib.hid hMR
  replace hbel := Lib.hid hbel
  clear hmk
  go_wp2_with fail
  go_loopw [6, 7] (fun v i wr => ∃ k : Nat, k ≤ xs.length ∧ i = .int .i64 k ∧ v = .int .i64 (colT (nbP xs) (xs.take k) M : Nat) ∧ Hid (∃ q, wr = w2.drewN q)) (fun _ i _ => xs.length - (intOf i).toNat)
  case atStart => exact ⟨0, by omega, rfl, by rw [List.take_zero, colT_nil]; rfl, Lib.hid ⟨0, rfl⟩⟩
  case round =>
    obtain ⟨k, hk, rfl, rfl, hw⟩ := hrel
    by_cases hlt : k < xs.length
    · obtain ⟨b1, o1, rfl, t1, c1⟩ := ha.out (by omega)
      have k1 : (0 : Int) ≤ (k : Int) := by omega
      have k2 : (k : Int) < (xs.length : Nat) := by omega
      obtain ⟨x, hx⟩ : ∃ x, xs.getD k 0 = x := ⟨_, rfl⟩
      have hmx : x ∈ xs := by rw [← hx]; exact getD_mem hlt
      obtain ⟨x1, x2⟩ := hz.out x hmx
      have hR := Lib.hid (colT_take (nbP xs) hlt hx M)
      have hbd := colT_le (nbP xs) (xs.take k) M
      rw [List.length_take] at hbd
      have hbd2 : colT (nbP xs) (xs.take k) M ≤ 2048 := by
        have : M * (min k xs.length) ≤ 8 * 256 := Nat.mul_le_mul hM8 (by omega)
        omega
      obtain ⟨L, hL⟩ : ∃ L, colT (nbP xs) (xs.take k) M = L := ⟨_, rfl⟩
      rw [hL] at hR hbd2 ⊢
      have hc0 := Lib.hid (show w2.cell? ⟨b1, o1 + k, none⟩ = some (.int .i64 x) by
        rw [hbel.out.cell (p := ⟨b1, o1 + k, none⟩) (show b1 < w.heap.size by omega), ← hx]
        exact c1 k hlt)
      replace hL := Lib.hid hL
      replace hx := Lib.hid hx
      replace hmx := Lib.hid hmx
      clear c1 hbd
      go_wp2_with fail
      go_loopw [6, 8] (fun v i wq => ∃ j : Nat, j ≤ M ∧ i = .int .i64 j ∧ v = .int .i64 (L + rowT (nbP xs) x j : Nat) ∧ Hid (∃ q, wq = w2.drewN q)) (fun _ i _ => M - (intOf i).toNat)
      case atStart => exact ⟨0, by omega, rfl, rfl, hw⟩
      case round =>
        obtain ⟨j, hj, rfl, rfl, hw2⟩ := hrel
        by_cases hlj : j < M
        · have j1 : (0 : Int) ≤ (j : Int) := by omega
          have j2 : (j : Int) < (M : Nat) := by omega
          have j3 : (j : Int) < 64 := by omega
          have hwd : ∀ p, Hid (∃ q, wr.drewN p = w2.drewN q) := fun p => by
            obtain ⟨q, h⟩ := hw2.out
            exact Lib.hid ⟨q + p, by rw [h]; exact World.drewN_drewN _ _ _⟩
          have e1 : wr.cell? ⟨b1, o1 + k, none⟩ = some (.int .i64 x) := by
            obtain ⟨q, h⟩ := hw2.out
            rw [h]; exact hc0.out
          obtain ⟨t, ht, htN⟩ := hnb2.out x hmx.out j hlj
          have e2 : wr.cell? ⟨b2, t, none⟩ = some (.bool (memB (t : Nat) xs)) := by
            obtain ⟨q, h⟩ := hw2.out
            rw [h]; exact World.rowIs.cell hMR.out htN
          obtain ⟨g1, g2, g3⟩ := pow8 j1 (show (j : Int) ≤ 7 by omega)
          simp only [Int.toNat_natCast] at g1 g2 g3
          have hxo := i64_xorI (y := 2 ^ j) x1 x2 (by omega) (by omega)
          rw [ht] at hxo
          have hrw : rowT (nbP xs) x (j + 1) = rowT (nbP xs) x j + (if memB (t : Nat) xs then 1 else 0) := by rw [rowT_succ]; unfold nbP; rw [ht]
          have hrb := rowT_le (nbP xs) x j
          obtain ⟨R, hRR⟩ : ∃ R, rowT (nbP xs) x j = R := ⟨_, rfl⟩
          rw [hRR] at hrw hrb ⊢
          obtain ⟨Q, hQ⟩ : ∃ Q, (2 : Int) ^ j = Q := ⟨_, rfl⟩
          rw [hQ] at g1 g2 g3 hxo
          have t1' : (0 : Int) ≤ (t : Int) := by omega
          have t2' : (t : Int) < (N : Nat) := by omega
          replace hRR := Lib.hid hRR
          replace ht := Lib.hid ht
          clear hw2 hw
          rcases (by cases memB (t : Nat) xs <;> simp : memB (t : Nat) xs = true ∨ memB (t : Nat) xs = false) with hm | hm
          · rw [hm] at e2 hrw
            rw [if_pos rfl] at hrw
            replace hrw := Lib.hid hrw
            replace hm := Lib.hid hm
            go_wp2_with fail
            go_quiet (fail)
            go_wp2_with fail
            go_roundw
            case rel => exact ⟨j + 1, by omega, by go_num, by rw [hrw.out]; exact congrArg (Value.int .i64) (by omega), hwd _⟩
            case measure => simp [intOf]; omega
          · rw [hm] at e2 hrw
            rw [if_neg (by simp), Nat.add_zero] at hrw
            replace hrw := Lib.hid hrw
            replace hm := Lib.hid hm
            go_wp2_with fail
            go_quiet (fail)
            go_wp2_with fail
            go_roundw
            case rel => exact ⟨j + 1, by omega, by go_num, by rw [hrw.out]; rfl, hwd _⟩
            case measure => simp [intOf]; omega
        · obtain rfl : j = M := by omega
          clear hw
          go_wp2_with fail
          go_roundw
          case rel => exact ⟨k + 1, by omega, by go_num, by rw [hR.out], hw2⟩
          case measure => simp [intOf]; omega
    · obtain rfl : k = xs.length := by omega
      go_wp2_with fail
      go_ret
      refine ⟨?_, ?_⟩
      · rw [← hie.out, List.take_length]; rfl
      · obtain ⟨q, h⟩ := hw.out
        rw [h]; exact below_drewN hbel.out _
end Go.Proofs.YtpepcjffolbdcaaDoor
