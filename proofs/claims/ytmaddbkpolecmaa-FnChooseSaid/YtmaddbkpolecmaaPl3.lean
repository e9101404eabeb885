/- Laws of chapter 1 over the program: ways to choose, cascades. -/
import Derived.Test.YtmaddbkpolecmaaDrawS
import Derived.Test.YtmaddbkpolecmaaPl2
import Derived.Deep.RegionWith
namespace Go.Proofs.Ytmaddbkpolecmaa
open Go.ChangeShapes Go.WideShapes Go.ChangeAt Go.RowKit

theorem Rdr.drew {w : World} {r S : Nat} {p : Int} (h : Rdr w r S p) : Rdr w.drew r S p := h
set_option maxRecDepth 100000 in
set_option maxHeartbeats 1000000 in
theorem draw_Choose (v : Value) (a : Option Addr) (len cap : Nat) (w : World) (hv : v = .slice a len cap) (hc : len ≤ cap) (hcap : cap ≤ 9223372036854775807) (hB : Bytes w w.heap.size a len) :
    Calls Try.prog 18 #[v] w (OneDraw w) := by
  have h0 := Lib.hid (rd_open v a len cap w hv hc hcap hB)
  clear hv hc hcap hB
  go_enter Try.func18, Try.ntmps18
  go_wp2_with fail
  refine (h0.out).mono ?_
  rintro e w0 ⟨r, rfl, hr, hR0, hb0, hz0⟩
  have hrw : w.heap.size ≤ r := by omega
  replace hr := Lib.hid hr
  replace hR0 := Lib.hid hR0
  replace hb0 := Lib.hid hb0
  go_wp2_with fail
  refine (rd_pick r _ 0 42 w0 hR0.out (by omega) (by omega) (by omega)).mono ?_
  rintro e w1 ⟨n, rfl, hn, hR1, hO1⟩
  have hb1 := Lib.hid (hO1.below hb0.out hrw hb0.out.size)
  replace hR1 := Lib.hid hR1
  clear hn hO1 hR0
  go_wp2_with fail
  have hlt1 := hR1.out.lt
  have hp1 := Lib.hid (rd_pick r _ (0 + 1) 42 w1.drew (Rdr.drew hR1.out) (by omega) (by omega) (by omega))
  have p0 : (0 : Int) ≤ 0 + 1 + 1 := by omega
  have p1 : (0 : Int) + 1 + 1 ≤ 1000000 := by omega
  have p2 : (4 : Int) ≤ 1000000 := by omega
  have hbs := hb1.out.size
  go_region_with (first
    | (go_at_call 34; (with_reducible refine hp1.out.mono ?_); rintro e w2 ⟨x, rfl, ⟨x1, x2, x3, x4⟩, hR2, hO2⟩; have hb2 := hO2.below hb1.out.drew hrw hbs; replace hR2 := Lib.hid hR2; replace hb2 := Lib.hid hb2; clear x3 x4 hO2)
    | (go_at_call 34; ((with_reducible refine (rd_pick r _ (0 + 1 + 1) 4 w2 hR2.out p0 p1 p2).mono ?_); rintro e w3 ⟨y, rfl, ⟨y1, y2, y3, y4⟩, hR3, hO3⟩; have hb3 := hO3.below hb2.out hrw hb2.out.size; replace hb3 := Lib.hid hb3; have hq : 1 + y ≠ 0 := (by omega); have hwq : IntKind.i64.wrap (1 + y) = 1 + y := (by rw [IntKind.wrap_i64]; omega); clear y3 y4 hO3 hR3)))
  all_goals
    go_wp2_with fail
    go_ret2
    exact ⟨_, _, rfl, hb3.out⟩
theorem chc_dec : ∀ n : Fin 41, ∀ k : Fin 41, (k.val = 0 → chI n.val k.val = 1) ∧ (1 ≤ n.val → 1 ≤ k.val → chI n.val k.val = chI (n.val - 1) k.val + chI (n.val - 1) (k.val - 1)) := by decide +kernel
theorem chc_facts {n k : Int} (h : chooseOk n k) : (k = 0 → chI n k = 1) ∧ (1 ≤ n → 1 ≤ k → chI n k = chI (n - 1) k + chI (n - 1) (k - 1)) := by
  obtain ⟨n1, n2, k1, k2⟩ := h
  have h := chc_dec ⟨n.toNat, by omega⟩ ⟨k.toNat, by omega⟩
  have e1 : ((n.toNat : Nat) : Int) = n := Int.toNat_of_nonneg n1
  have e2 : ((k.toNat : Nat) : Int) = k := Int.toNat_of_nonneg k1
  simp only [e1, e2] at h
  exact ⟨fun e => h.1 (by omega), fun a b => h.2 (by omega) (by omega)⟩
set_option maxRecDepth 100000 in
set_option maxHeartbeats 2000000 in
theorem law_FnChoose (v : Value) (a : Option Addr) (len cap : Nat) (w : World) (hv : v = .slice a len cap) (hc : len ≤ cap) (hcap : cap ≤ 9223372036854775807) (hB : Bytes w w.heap.size a len) :
    Calls Try.prog 6 #[v] w fun e w' => e = .returned (.bool true) ∧ Below w.heap.size w w' := by
  have h0 := Lib.hid (draw_Choose v a len cap w hv hc hcap hB)
  subst hv
  clear hB
  by_cases hbig : 1048576 < len
  · go_enter Try.func6, Try.ntmps6
    go_wp2_with fail
    go_ret
    exact ⟨rfl, Below.refl _ _⟩
  · go_enter Try.func6, Try.ntmps6
    go_wp2_with fail
    refine (h0.out).mono ?_
    rintro e w1 ⟨n, k, rfl, hb⟩
    replace hb := Lib.hid hb
    by_cases h : chooseOk n k
    · obtain ⟨f1, f2⟩ := chc_facts h
      obtain ⟨n1, n2, k1, k2⟩ := id h
      have hbd := chI_bounds n1 (show n ≤ 41 by omega) k1 (show k ≤ 41 by omega)
      have c1 := Lib.hid (fun W => im_Choose_yes n k h W)
      have c2 := Lib.hid (fun W => sp_Choose_yes n k h W)
      obtain ⟨c, hcc⟩ : ∃ c, chI n k = c := ⟨_, rfl⟩
      rw [hcc] at c1 c2 f1 f2 hbd
      replace h := Lib.hid h
      replace hcc := Lib.hid hcc
      by_cases hn : 1 ≤ n
      · by_cases hk : 1 ≤ k
        · have f3 := f2 hn hk
          have c3 := Lib.hid (fun W => im_Choose_yes (n - 1) k (by unfold chooseOk; omega) W)
          have c4 := Lib.hid (fun W => im_Choose_yes (n - 1) (k - 1) (by unfold chooseOk; omega) W)
          have b3 := chI_bounds (n := n - 1) (k := k) (by omega) (by omega) (by omega) (by omega)
          have b4 := chI_bounds (n := n - 1) (k := k - 1) (by omega) (by omega) (by omega) (by omega)
          obtain ⟨x, hx⟩ : ∃ x, chI (n - 1) k = x := ⟨_, rfl⟩
          obtain ⟨y, hy⟩ : ∃ y, chI (n - 1) (k - 1) = y := ⟨_, rfl⟩
          rw [hx] at c3 f3 b3
          rw [hy] at c4 f3 b4
          obtain ⟨b5, b6⟩ := b3
          obtain ⟨b7, b8⟩ := b4
          replace hx := Lib.hid hx
          replace hy := Lib.hid hy
          have hfin := Lib.hid (show (c == x + y) = true by simp [f3])
          clear f1 f2 f3
          go_wp2_with (first
            | (go_at_call 19; first | ((with_reducible refine (c1.out _).mono ?_); rintro e w' ⟨rfl, rfl⟩) | ((with_reducible refine (c3.out _).mono ?_); rintro e w' ⟨rfl, rfl⟩) | ((with_reducible refine (c4.out _).mono ?_); rintro e w' ⟨rfl, rfl⟩))
            | (go_at_call 20; (with_reducible refine (c2.out _).mono ?_); rintro e w' ⟨rfl, rfl⟩))
          go_ret
          first | exact ⟨ret_bool hfin.out, hb.out⟩ | exact ⟨rfl, hb.out⟩
        · obtain rfl : k = 0 := by omega
          have f3 := f1 rfl
          subst f3
          clear f1 f2
          go_wp2_with (first
            | (go_at_call 19; (with_reducible refine (c1.out _).mono ?_); rintro e w' ⟨rfl, rfl⟩)
            | (go_at_call 20; (with_reducible refine (c2.out _).mono ?_); rintro e w' ⟨rfl, rfl⟩))
          go_ret
          exact ⟨rfl, hb.out⟩
      · obtain rfl : n = 0 := by omega
        by_cases hk : 1 ≤ k
        · clear f1 f2
          have hk2 : (0 : Int) < k := by omega
          go_wp2_with (first
            | (go_at_call 19; (with_reducible refine (c1.out _).mono ?_); rintro e w' ⟨rfl, rfl⟩)
            | (go_at_call 20; (with_reducible refine (c2.out _).mono ?_); rintro e w' ⟨rfl, rfl⟩))
          go_ret
          exact ⟨rfl, hb.out⟩
        · obtain rfl : k = 0 := by omega
          have f3 := f1 rfl
          subst f3
          clear f1 f2
          go_wp2_with (first
            | (go_at_call 19; (with_reducible refine (c1.out _).mono ?_); rintro e w' ⟨rfl, rfl⟩)
            | (go_at_call 20; (with_reducible refine (c2.out _).mono ?_); rintro e w' ⟨rfl, rfl⟩))
          go_ret
          exact ⟨rfl, hb.out⟩
    · have c1 := Lib.hid (fun W => im_Choose_no n k h W)
      have c2 := Lib.hid (fun W => sp_Choose_no n k h W)
      replace h := Lib.hid h
      go_wp2_with (first
        | (go_at_call 19; (with_reducible refine (c1.out _).mono ?_); rintro e w' ⟨rfl, rfl⟩)
        | (go_at_call 20; (with_reducible refine (c2.out _).mono ?_); rintro e w' ⟨rfl, rfl⟩))
      go_ret
      exact ⟨rfl, hb.out⟩
end Go.Proofs.Ytmaddbkpolecmaa
