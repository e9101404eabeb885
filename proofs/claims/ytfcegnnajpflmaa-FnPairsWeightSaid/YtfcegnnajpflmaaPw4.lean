/- The law FnPairsWeight. -/
import Derived.Test.YtfcegnnajpflmaaPw3
namespace Go.Proofs.Ytfcegnnajpflmaa
open Go.ChangeShapes Go.WideShapes Go.ChangeAt Go.RowKit Go.Proofs

theorem drawn_len {n : Int} {xs zs : List Int} (hD : Drawn n xs zs) : xs.length ≤ 100000000 ∧ zs.length ≤ 100000000 := by
  obtain ⟨N, K, rfl, hN1, hN6, hK, hsub, hz⟩ := hD
  have hm := hsub.length_le
  have h2 := List.length_filter_le (fun x => cntI x == (K : Nat)) (upI (2 ^ N))
  rw [upI_len] at h2
  have hp : 2 ^ N ≤ 2 ^ 6 := Nat.pow_le_pow_right (by omega) hN6
  have hp6 : (2 : Nat) ^ 6 = 64 := by decide
  have h3 : (lvN N K).length ≤ 2 ^ N := h2
  have hzl : zs.length = xs.length := by
    rcases hz with rfl | ⟨t, _, rfl⟩ <;> simp
  omega
set_option maxRecDepth 20000 in
set_option maxHeartbeats 8000000 in
theorem law_FnPairsWeight (v : Value) (a : Option Addr) (len cap : Nat) (w : World) (hv : v = .slice a len cap) (hc : len ≤ cap) (hcap : cap ≤ 9223372036854775807) (hB : Bytes w w.heap.size a len) :
    Calls Try.prog 3 #[v] w fun e w' => e = .returned (.bool true) ∧ Below w.heap.size w w' := by
  by_cases hbig : 1048576 < len
  · subst hv
    replace hB := Lib.hid hB
    go_enter Try.func3, Try.ntmps3
    go_wp2_with fail
    go_ret
    exact ⟨rfl, Below.refl _ _⟩
  have h0 := Lib.hid (draw_PairsWeight v a len cap w hv hc hcap hB)
  subst hv
  replace hB := Lib.hid hB
  go_enter Try.func3, Try.ntmps3
  go_wp2_with fail
  refine h0.out.mono ?_
  rintro e w1 ⟨n, va, vb, xs, zs, rfl, hD, hA, hBb, hb1⟩
  obtain ⟨hl1, hl2⟩ := drawn_len hD
  have s1 := hb1.size
  have c1 := im_PairsWeight n va vb xs zs _ w1 hA hBb (Nat.le_refl _) hl1 hl2
  have c2 := Lib.hid (fun W (h : Below w1.heap.size w1 W) => sp_PairsWeight n va vb xs zs w1.heap.size W (hA.below h (Nat.le_refl _)) (hBb.below h (Nat.le_refl _)) h.size hl1 hl2)
  have c3 := Lib.hid (fun W (h : Below w1.heap.size w1 W) => im_PairsWeight n vb va zs xs w1.heap.size W (hBb.below h (Nat.le_refl _)) (hA.below h (Nat.le_refl _)) h.size hl2 hl1)
  obtain ⟨aA, cA, rfl, _⟩ := id hA
  obtain ⟨aB, cB, rfl, _⟩ := id hBb
  replace hA := Lib.hid hA
  replace hBb := Lib.hid hBb
  replace hb1 := Lib.hid hb1
  clear h0
  rcases (by cases skwB n xs zs <;> simp : skwB n xs zs = true ∨ skwB n xs zs = false) with hs | hs
  · obtain ⟨q0, q1⟩ := pwv_le hD hs
    have hf := pwv_flip hs
    have hd1 : pwD n xs zs = 840 := by unfold pwD; rw [hs]; rfl
    have hs2 : skwB n zs xs = true := (skw_flip n xs zs).trans hs
    have hd2 : pwD n zs xs = 840 := by unfold pwD; rw [hs2]; rfl
    obtain ⟨c, hc0⟩ : ∃ c, pwV n xs zs = c := ⟨_, rfl⟩
    rw [hc0] at q0 q1 hf
    rw [hs, hd1, hc0] at c1
    have c2' : Hid (∀ W, Below w1.heap.size w1 W → Calls Try.prog 15 #[.int .i64 n, .slice aA xs.length cA, .slice aB zs.length cB] W (PairPost c 840 true W)) := Lib.hid (fun W h => by have := c2.out W h; rwa [hs, hd1, hc0] at this)
    have c3' : Hid (∀ W, Below w1.heap.size w1 W → Calls Try.prog 14 #[.int .i64 n, .slice aB zs.length cB, .slice aA xs.length cA] W (PairPost c 840 true W)) := Lib.hid (fun W h => by have := c3.out W h; rwa [hs2, hd2, hf] at this)
    replace c1 := Lib.hid c1
    replace hs := Lib.hid hs
    replace hf := Lib.hid hf
    replace hd1 := Lib.hid hd1
    replace hs2 := Lib.hid hs2
    replace hd2 := Lib.hid hd2
    replace hc0 := Lib.hid hc0
    replace hD := Lib.hid hD
    have hcc : (c != c) = false := by simp
    have hce : (c == c) = true := by simp
    clear c2 c3
    go_wp2_with fail
    refine c1.out.mono ?_
    rintro e w2 ⟨rfl, hb2⟩
    have d2 := Lib.hid (c2'.out w2 hb2)
    replace hb2 := Lib.hid hb2
    go_wp2_with fail
    refine d2.out.mono ?_
    rintro e w3 ⟨rfl, hb3⟩
    have hb3' := Lib.hid (hb2.out.trans (hb3.mono hb2.out.size))
    have d3 := Lib.hid (c3'.out w3 hb3'.out)
    clear hb3
    go_wp2_with fail
    refine d3.out.mono ?_
    rintro e w4 ⟨rfl, hb4⟩
    have hb5 := Lib.hid (hb1.out.trans ((hb3'.out.trans (hb4.mono hb3'.out.size)).mono s1))
    replace hb4 := Lib.hid hb4
    go_wp2_with fail
    go_ret
    exact ⟨rfl, hb5.out⟩
  · obtain ⟨c, hc0⟩ : ∃ c, pwV n xs zs = c := ⟨_, rfl⟩
    obtain ⟨d, hd0⟩ : ∃ d, pwD n xs zs = d := ⟨_, rfl⟩
    rw [hs, hd0, hc0] at c1
    have c2' : Hid (∀ W, Below w1.heap.size w1 W → Calls Try.prog 15 #[.int .i64 n, .slice aA xs.length cA, .slice aB zs.length cB] W (PairPost c d false W)) := Lib.hid (fun W h => by have := c2.out W h; rwa [hs, hd0, hc0] at this)
    replace c1 := Lib.hid c1
    replace hs := Lib.hid hs
    replace hc0 := Lib.hid hc0
    replace hd0 := Lib.hid hd0
    replace hD := Lib.hid hD
    have hcc : (c != c) = false := by simp
    have hce : (c == c) = true := by simp
    have hdd : (d != d) = false := by simp
    have hde : (d == d) = true := by simp
    clear c2 c3
    go_wp2_with fail
    refine c1.out.mono ?_
    rintro e w2 ⟨rfl, hb2⟩
    have d2 := Lib.hid (c2'.out w2 hb2)
    replace hb2 := Lib.hid hb2
    go_wp2_with fail
    refine d2.out.mono ?_
    rintro e w3 ⟨rfl, hb3⟩
    have hb5 := Lib.hid (hb1.out.trans ((hb2.out.trans (hb3.mono hb2.out.size)).mono s1))
    replace hb3 := Lib.hid hb3
    go_wp2_with fail
    go_ret
    exact ⟨rfl, hb5.out⟩
end Go.Proofs.Ytfcegnnajpflmaa
