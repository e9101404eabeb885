/- Laws of chapter 1 over the program and the table of bits: what is read has its text. -/
import Derived.Test.YtmaddbkpolecmaaDoorPd1
namespace Go.Proofs.YtmaddbkpolecmaaDoor
open Go.ChangeShapes Go.WideShapes Go.ChangeAt Go.RowKit

theorem bits_dec : ∀ k : Fin 8, ∀ x : Fin 256, x.val < 2 ^ k.val → (hasB x.val k.val = false ∧ hasB (x.val + 2 ^ k.val) k.val = true) ∧ ∀ j : Fin 8, j.val < k.val → hasB (x.val + 2 ^ k.val) j.val = hasB x.val j.val := by decide +kernel
theorem bits_step {x : Int} {k : Nat} (hk : k ≤ 7) (h1 : 0 ≤ x) (h2 : x < 2 ^ k) : hasB x k = false ∧ hasB (x + 2 ^ k) k = true ∧ ∀ j : Nat, j < k → hasB (x + 2 ^ k) j = hasB x j := by
  have e : ((x.toNat : Nat) : Int) = x := Int.toNat_of_nonneg h1
  have hlt : x.toNat < 2 ^ k := by
    have : ((x.toNat : Nat) : Int) < ((2 ^ k : Nat) : Int) := by rw [e]; simpa using h2
    exact Int.ofNat_lt.1 this
  have h256 : 2 ^ k ≤ 2 ^ 7 := Nat.pow_le_pow_right (by omega) hk
  obtain ⟨⟨a, b⟩, c⟩ := bits_dec ⟨k, by omega⟩ ⟨x.toNat, by omega⟩ hlt
  simp only [e] at a b c
  exact ⟨a, b, fun j hj => c ⟨j, by omega⟩ hj⟩
theorem rd_bytes (T : ByteArray) : ∀ (k : Nat) (x : Int), k ≤ 8 → rdTo T k = some x → ∀ j : Nat, j < k → byteAt T j = if hasB x j then 49 else 48 := by
  intro k
  induction k with
  | zero => intro x _ _ j hj; omega
  | succ k ih =>
    intro x hk h j hj
    simp only [rdTo] at h
    cases hr : rdTo T k with
    | none => rw [hr] at h; cases h
    | some y =>
      rw [hr] at h
      obtain ⟨y1, y2⟩ := rdTo_lt T k y hr
      obtain ⟨b1, b2, b3⟩ := bits_step (x := y) (k := k) (by omega) y1 y2
      by_cases h48 : byteAt T k = 48
      · simp only [h48, if_pos] at h
        have e : y = x := by simpa using h
        subst e
        by_cases e : j = k
        · subst e; rw [b1]; exact h48
        · exact ih y (by omega) hr j (by omega)
      · by_cases h49 : byteAt T k = 49
        · simp only [h49] at h
          have e : y + 2 ^ k = x := by simpa using h
          subst e
          by_cases e : j = k
          · subst e; rw [b2]; exact h49
          · rw [b3 j (by omega)]
            exact ih y (by omega) hr j (by omega)
        · simp [h48, h49] at h
theorem txt_read {T : ByteArray} {x : Int} (h8 : T.size ≤ 8) (h : rdTo T T.size = some x) : txt x T.size = T := by
  have hb := rd_bytes T T.size x h8 h
  have e : (txt x T.size).data = T.data := by
    apply Array.ext
    · show (txt x T.size).size = T.size
      exact txt_size x T.size
    · intro i h1 h2
      have hi : i < T.size := h2
      have g1 := hb i hi
      have g2 := byte_txt x T.size i hi
      rw [← g1] at g2
      unfold byteAt at g2
      rw [dif_pos (by rw [txt_size]; exact hi), dif_pos hi] at g2
      have g3 : ((txt x T.size).data[i]'h1).toNat = (T.data[i]'h2).toNat := by
        have : ((((txt x T.size).data[i]'h1).toNat : Nat) : Int) = (((T.data[i]'h2).toNat : Nat) : Int) := g2
        exact Int.ofNat_inj.1 this
      exact UInt8.toNat_inj.1 g3
  cases hT : txt x T.size with
  | mk d =>
    cases T with
    | mk d2 =>
      rw [hT] at e
      simp at e
      rw [e]
/-- what a draw of a number and a text gives. -/
def TextDraw (w : World) (e : Ending) (w' : World) : Prop := ∃ (n : Int) (T : ByteArray), e = .returned (.tuple #[.int .i64 n, .string T]) ∧ T.size ≤ 100 ∧ Below w.heap.size w w'
set_option maxRecDepth 100000 in
set_option maxHeartbeats 1000000 in
theorem rd_of (r S : Nat) (p : Int) (b : Nat) (w : World) (h : Rdr w r S p) (p0 : 0 ≤ p) (p1 : p ≤ 900000) (h0 : w.cell? ⟨b, 0, none⟩ = some (.string ⟨#[48]⟩)) (h1 : w.cell? ⟨b, 1, none⟩ = some (.string ⟨#[49]⟩)) (hb : b ≠ r) (hbl : b < w.heap.size) :
    Calls Tryd.prog 51 #[.pointer (some ⟨r, 0, none⟩), .slice (some ⟨b, 0, none⟩) 2 2] w fun e w' => ∃ T : ByteArray, e = .returned (.string T) ∧ T.size = 1 ∧ Rdr w' r S (p + 1) ∧ Only r w w' := by
  have hp := Lib.hid (rd_pick r S p 2 w h p0 (by omega) (by omega))
  clear h
  go_enter Tryd.func51, Tryd.ntmps51
  go_wp2_with fail
  refine hp.out.mono ?_
  rintro e w1 ⟨x, rfl, ⟨x1, x2, x3, x4⟩, hR, hO⟩
  have x5 : x < 2 := x3 (by omega)
  have hblk : w1.heap[b]? = w.heap[b]? := hO.block b hbl (by intro e; injection e; omega)
  have g0 := (World.cell?_of_block (a := ⟨b, 0, none⟩) hblk).trans h0
  have g1 := (World.cell?_of_block (a := ⟨b, 1, none⟩) hblk).trans h1
  replace hR := Lib.hid hR
  replace hO := Lib.hid hO
  clear x3 x4 hblk
  rcases (by omega : x = 0 ∨ x = 1) with rfl | rfl
  · go_wp2_with fail
    go_ret
    exact ⟨_, rfl, rfl, hR.out, hO.out⟩
  · go_wp2_with fail
    go_ret
    exact ⟨_, rfl, rfl, hR.out, hO.out⟩
set_option maxRecDepth 100000 in
set_option maxHeartbeats 1000000 in
theorem draw_SetRead (v : Value) (a : Option Addr) (len cap : Nat) (w : World) (hv : v = .slice a len cap) (hc : len ≤ cap) (hcap : cap ≤ 9223372036854775807) (hB : Bytes w w.heap.size a len) :
    Calls Tryd.prog 29 #[v] w (TextDraw w) := by
  have h0 := Lib.hid (rd_open v a len cap w hv hc hcap hB)
  clear hv hc hcap hB
  go_enter Tryd.func29, Tryd.ntmps29
  go_wp2_with fail
  refine (h0.out).mono ?_
  rintro e w0 ⟨r, rfl, hr, hR0, hb0, hz0⟩
  have hrw : w.heap.size ≤ r := by omega
  replace hr := Lib.hid hr
  replace hR0 := Lib.hid hR0
  replace hb0 := Lib.hid hb0
  go_wp2_with fail
  refine (rd_points r _ 0 w0 hR0.out (by omega) (by omega)).mono ?_
  rintro e w1 ⟨n, rfl, hn, hR1, hO1⟩
  have hn1 : 0 ≤ n ∧ n ≤ 9 := by unfold drawnPts at hn; omega
  obtain ⟨hn1, hn2⟩ := hn1
  have hb1 := Lib.hid (hO1.below hb0.out hrw hb0.out.size)
  replace hR1 := Lib.hid hR1
  clear hn hO1 hR0
  obtain ⟨N, hN⟩ : ∃ N : Nat, n = (N : Int) := ⟨n.toNat, by omega⟩
  subst hN
  go_wp2_with fail
  go_loopw [6, 7] (fun s i wr => ∃ (k : Nat) (T : ByteArray), k ≤ N ∧ i = .int .i64 k ∧ s = .string T ∧ T.size = k ∧ Hid (Rdr wr r w.heap.size (0 + 2 + (k : Int))) ∧ Hid (Below w.heap.size w wr)) (fun _ i _ => N - (intOf i).toNat)
  case atStart => exact ⟨0, ByteArray.empty, by omega, rfl, rfl, rfl, Lib.hid (by simpa using hR1.out), hb1⟩
  case round =>
    obtain ⟨k, T, hk, rfl, rfl, hT, hR, hb⟩ := hrel
    have hzz := hb.out.size
    have hrl := hR.out.lt
    by_cases hlt : k < N
    · have hTs : T.size ≤ 9 := by omega
      replace hT := Lib.hid hT
      have hof := Lib.hid (rd_of r w.heap.size (0 + 2 + (k : Int)) wr.heap.size (wr.alloc (.cells #[.string ⟨#[48]⟩, .string ⟨#[49]⟩] 9)) (hR.out.alloc _) (by omega) (by omega)
        (by rw [World.cell?_alloc_at _ _ _ _ rfl]; rfl) (by rw [World.cell?_alloc_at _ _ _ _ rfl]; rfl) (by omega) (by simp))
      go_wp2_with fail
      refine hof.out.mono ?_
      rintro e w2 ⟨U, rfl, hU, hR2, hO2⟩
      have hb2 := Lib.hid (hO2.below (hb.out.alloc hzz _) hrw (by simp; omega))
      have ep : 0 + 2 + (k : Int) + 1 = 0 + 2 + ((k + 1 : Nat) : Int) := by omega
      rw [ep] at hR2
      replace hR2 := Lib.hid hR2
      have hUs : U.size ≤ 9 := by omega
      have hTU := Lib.hid (show (T ++ U).size = k + 1 by rw [ByteArray.size_append, hT.out, hU])
      replace hU := Lib.hid hU
      replace ep := Lib.hid ep
      clear hO2
      go_wp2_with fail
      go_roundw
      case rel => exact ⟨k + 1, T ++ U, by omega, by go_num, rfl, hTU.out, hR2, hb2⟩
      case measure => simp [intOf]; omega
    · obtain rfl : k = N := by omega
      have hTs : T.size ≤ 9 := by omega
      replace hT := Lib.hid hT
      go_wp2_with fail
      refine (rd_pick r _ (0 + 2 + (k : Int)) 16 wr hR.out (by omega) (by omega) (by omega)).mono ?_
      rintro e w2 ⟨x, rfl, hx, hR2, hO2⟩
      have hb2 := Lib.hid (hO2.below hb.out hrw hzz)
      clear hx hR2 hO2
      rcases (by by_cases e : x = 0 <;> simp [e] : (x == 0) = true ∨ (x == 0) = false) with hz | hz
      · go_wp2_with fail
        go_ret2
        exact ⟨_, _, rfl, by rw [ByteArray.size_append]; have : (⟨#[49]⟩ : ByteArray).size = 1 := rfl; omega, hb2.out⟩
      · rcases (by by_cases e : x = 1 <;> simp [e] : (x == 1) = true ∨ (x == 1) = false) with hz1 | hz1
        · go_wp2_with fail
          go_ret2
          exact ⟨_, _, rfl, by rw [ByteArray.size_append]; have : (⟨#[50]⟩ : ByteArray).size = 1 := rfl; omega, hb2.out⟩
        · go_wp2_with fail
          go_ret2
          exact ⟨_, _, rfl, by omega, hb2.out⟩
set_option maxRecDepth 100000 in
set_option maxHeartbeats 2000000 in
theorem law_FnRead (v : Value) (a : Option Addr) (len cap : Nat) (w : World) (hv : v = .slice a len cap) (hc : len ≤ cap) (hcap : cap ≤ 9223372036854775807) (hB : Bytes w w.heap.size a len) (hT : Tab w) :
    Calls Tryd.prog 8 #[v] w fun e w' => e = .returned (.bool true) ∧ Below w.heap.size w w' := by
  have h0 := Lib.hid (draw_SetRead v a len cap w hv hc hcap hB)
  have htl := hT.lt
  replace hT := Lib.hid hT
  subst hv
  clear hB
  by_cases hbig : 1048576 < len
  · go_enter Tryd.func8, Tryd.ntmps8
    go_wp2_with fail
    go_ret
    exact ⟨rfl, Below.refl _ _⟩
  · go_enter Tryd.func8, Tryd.ntmps8
    go_wp2_with fail
    refine (h0.out).mono ?_
    rintro e w1 ⟨n, T, rfl, hTs, hb⟩
    have hz := hb.size
    have hT1 := Lib.hid (hT.out.below hb htl)
    replace hb := Lib.hid hb
    by_cases h : 1 ≤ n ∧ n ≤ 8 ∧ n = (T.size : Nat)
    · obtain ⟨n1, n2, rfl⟩ := h
      have c1 := fun W => im_read_yes T (by omega) (by omega) W
      have c2 := fun W => sp_read_yes T (by omega) (by omega) W
      cases hr : rdTo T T.size with
      | none =>
        obtain ⟨a1, a2⟩ := read_fail (Nat.le_refl _) hr
        rw [← a1, ← a2] at c1 c2
        replace c1 := Lib.hid c1
        replace c2 := Lib.hid c2
        replace hr := Lib.hid hr
        clear a1 a2
        go_wp2_with (first | (go_at_call 15; (with_reducible refine (c1.out _).mono ?_); rintro e w' ⟨rfl, rfl⟩) | (go_at_call 30; (with_reducible refine (c2.out _).mono ?_); rintro e w' ⟨rfl, rfl⟩))
        go_ret
        exact ⟨rfl, hb.out⟩
      | some x =>
        obtain ⟨a1, a2⟩ := read_done hr
        have hlt := rdTo_lt T T.size x hr
        rw [← a1, ← a2] at c1 c2
        have hset : setB (T.size : Nat) x = true := setB_mk ⟨n1, n2, hlt.1, by simpa using hlt.2⟩
        have c3 := im_text_yes T.size x hset w1 hT1.out
        rw [txt_read (by omega) hr] at c3
        replace c1 := Lib.hid c1
        replace c2 := Lib.hid c2
        replace c3 := Lib.hid c3
        replace hr := Lib.hid hr
        replace hset := Lib.hid hset
        clear a1 a2 hlt
        go_wp2_with (first | (go_at_call 15; (with_reducible refine (c1.out _).mono ?_); rintro e w' ⟨rfl, rfl⟩) | (go_at_call 30; (with_reducible refine (c2.out _).mono ?_); rintro e w' ⟨rfl, rfl⟩))
        refine c3.out.mono ?_
        rintro e w2 ⟨rfl, hb2⟩
        replace hb2 := Lib.hid (hb.out.trans (hb2.mono hz))
        go_wp2_with fail
        go_ret
        first | exact ⟨rfl, hb2.out⟩ | exact ⟨ret_bool (by simp), hb2.out⟩
    · have hno : ptsB n = false ∨ (ptsB n = true ∧ n ≠ (T.size : Nat)) := by
        rcases (by cases ptsB n <;> simp : ptsB n = true ∨ ptsB n = false) with hp | hp
        · have := ptsB_yes hp
          exact .inr ⟨hp, fun e => h ⟨this.1, this.2, e⟩⟩
        · exact .inl hp
      have c1 := Lib.hid (fun W => im_read_no n T hno W)
      have c2 := Lib.hid (fun W => sp_read_no n T hno W)
      replace h := Lib.hid h
      replace hno := Lib.hid hno
      go_wp2_with (first | (go_at_call 15; (with_reducible refine (c1.out _).mono ?_); rintro e w' ⟨rfl, rfl⟩) | (go_at_call 30; (with_reducible refine (c2.out _).mono ?_); rintro e w' ⟨rfl, rfl⟩))
      go_ret
      exact ⟨rfl, hb.out⟩
end Go.Proofs.YtmaddbkpolecmaaDoor
