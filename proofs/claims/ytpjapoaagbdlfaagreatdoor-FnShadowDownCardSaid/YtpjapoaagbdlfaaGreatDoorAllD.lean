/- Texts merged: XDraw XDrawS XDraw2 XDraw3 XDraw4 XDrawF. -/
import Derived.Test.YtpjapoaagbdlfaaGreatDoorAppend
import Derived.IntWalk
import Derived.Lib.MinMax
import Derived.RegionTactic
import Derived.Test.YtpjapoaagbdlfaaGreatDoorAllSp
namespace Go.Proofs.YtpjapoaagbdlfaaGreatDoor
section
/- The reader from which the laws draw their inputs: it hands out numbers in range, whatever the code is. -/
open Go.ChangeShapes Go.WideShapes Go.ChangeAt Go.RowKit

theorem xor_i64 (X : Int) (h1 : 0 ≤ X) (h2 : X < 1099511627776) : 0 ≤ bits .xor .i64 X (X / 64) ∧ bits .xor .i64 X (X / 64) < 1099511627776 := by
  obtain ⟨a, rfl⟩ := Int.eq_ofNat_of_zero_le h1
  have hb : ((a : Int) / 64) = ((a / 64 : Nat) : Int) := by omega
  rw [hb]
  have ha : a < 1099511627776 := by omega
  have hx : a ^^^ (a / 64) < 2 ^ 40 := Nat.xor_lt_two_pow (by omega) (by omega)
  have h1' : (BitVec.ofInt 64 (a : Int)).toNat = a := by
    rw [BitVec.ofInt_natCast, BitVec.toNat_ofNat]; exact Nat.mod_eq_of_lt (by omega)
  have h2' : (BitVec.ofInt 64 ((a / 64 : Nat) : Int)).toNat = a / 64 := by
    rw [BitVec.ofInt_natCast, BitVec.toNat_ofNat]; exact Nat.mod_eq_of_lt (by omega)
  have e : bits .xor .i64 (a : Int) ((a / 64 : Nat) : Int) = ((a ^^^ (a / 64) : Nat) : Int) := by
    show IntKind.i64.wrap ((BitVec.ofInt 64 (a : Int) ^^^ BitVec.ofInt 64 ((a / 64 : Nat) : Int)).toNat : Int) = _
    rw [BitVec.toNat_xor, h1', h2']
    exact IntWalk.i64_in _ (by omega)
  rw [e]
  omega

/-- the code's bytes as the reader holds them: cells below block S. -/
def Bytes (w : World) (S : Nat) (a : Option Addr) (len : Nat) : Prop := 0 < len → ∃ b off, a = some ⟨b, off, none⟩ ∧ b < S ∧ ∀ i, i < len → ∃ x : Int, 0 ≤ x ∧ x < 256 ∧ w.cell? ⟨b, off + i, none⟩ = some (.int .u8 x)
/-- the reader in block r: its code and its place. -/
def Rdr (w : World) (r S : Nat) (p : Int) : Prop :=
  S ≤ r ∧ w.frozen? ⟨r, 0, none⟩ = false ∧ w.frozen? ⟨r, 1, none⟩ = false ∧ w.cell? ⟨r, 1, none⟩ = some (.int .i64 p) ∧
  ∃ a len cap, w.cell? ⟨r, 0, none⟩ = some (.slice a len cap) ∧ len ≤ 2000 ∧ Bytes w S a len
/-- all that was there but block r is as it was. -/
def Only (r : Nat) (w w' : World) : Prop := w.grownBy w' (some r)
theorem Only.refl (r : Nat) (w : World) : Only r w w := World.grownBy.refl w _
theorem only_set {r : Nat} {w : World} (o : Nat) (v : Value) : Only r w (w.setCell ⟨r, o, none⟩ v) :=
  ⟨rfl, rfl, rfl, by simp, fun i _ hne => Below.heap_setCell _ _ _ _ (fun e => hne (by rw [e]))⟩
theorem Only.drewN {r : Nat} {w w' : World} (h : Only r w w') (n : Nat) : Only r w (w'.drewN n) := ⟨h.os, h.tape, h.output, h.size, h.block⟩
theorem Only.trans {r : Nat} {a b c : World} (h : Only r a b) (k : Only r b c) : Only r a c :=
  ⟨k.os.trans h.os, k.tape.trans h.tape, k.output.trans h.output, Nat.le_trans h.size k.size, fun i hi hne => (k.block i (Nat.lt_of_lt_of_le hi h.size) hne).trans (h.block i hi hne)⟩
theorem Only.of_below {r B : Nat} {w w' : World} (h : Below B w w') (hB : w.heap.size ≤ B) : Only r w w' := ⟨h.os, h.tape, h.output, h.size, fun i hi _ => h.block i (by omega)⟩
theorem Only.alloc {r : Nat} {a w : World} (h : Only r a w) (o : Obj) : Only r a (w.alloc o) := h.trans (Only.of_below ((Below.refl _ w).alloc (Nat.le_refl _) o) (Nat.le_refl _))
theorem Only.below {r B : Nat} {a w w' : World} (h : Only r w w') (hb : Below B a w) (hr : B ≤ r) (hs : B ≤ w.heap.size) : Below B a w' :=
  hb.grown h hs (fun k e => by cases e; exact hr)
theorem OwnL.only {r : Nat} {w w' : World} {B : Nat} {v : Value} {xs : List Int} (h : OwnL w B v xs) (ho : Only r w w') (hr : r < B) : OwnL w' B v xs :=
  World.ownsRow.kept h ho (by
    cases hv : v.ownBlock with
    | none => exact .inl rfl
    | some k =>
      have := World.ownsRow.lt h k hv
      exact .inr (by rintro ⟨rfl⟩; omega))
/-- the reader lies on where all that changes lies behind it. -/
theorem Rdr.below {w w' : World} {r S B : Nat} {p : Int} (h : Rdr w r S p) (hb : Below B w w') (hr : r < B) : Rdr w' r S p := by
  obtain ⟨h1, h2, h3, h4, a, len, cap, h5, h6, h7⟩ := h
  refine ⟨h1, (hb.frozen (p := ⟨r, 0, none⟩) hr).trans h2, (hb.frozen (p := ⟨r, 1, none⟩) hr).trans h3, (hb.cell (p := ⟨r, 1, none⟩) hr).trans h4, a, len, cap, (hb.cell (p := ⟨r, 0, none⟩) hr).trans h5, h6, fun hl => ?_⟩
  obtain ⟨b, off, rfl, hbS, hc⟩ := h7 hl
  refine ⟨b, off, rfl, hbS, fun i hi => ?_⟩
  obtain ⟨x, x1, x2, hx⟩ := hc i hi
  exact ⟨x, x1, x2, (hb.cell (p := ⟨b, off + i, none⟩) (show b < B by omega)).trans hx⟩

/-- what pick gives for n. -/
def Picked (n x : Int) : Prop := 0 ≤ x ∧ x ≤ 1000000 ∧ (1 ≤ n → x < n) ∧ (n < 1 → x = 0)
theorem picked_0 {n : Int} (h : n < 1) : Picked n 0 := ⟨by omega, by omega, by omega, fun _ => rfl⟩
theorem picked_e {n : Int} : Picked n 0 := ⟨by omega, by omega, by omega, fun _ => rfl⟩
theorem picked_mod {n X : Int} (h1 : 1 ≤ n) (h2 : n ≤ 1000000) : Picked n (X % n) := by
  have a := Int.emod_nonneg X (show n ≠ 0 by omega)
  have b := Int.emod_lt_of_pos X (show 0 < n by omega)
  exact ⟨a, by omega, fun _ => b, by omega⟩
theorem picked_tmod {n X : Int} (h0 : 0 ≤ X) (h1 : 1 ≤ n) (h2 : n ≤ 1000000) : Picked n (X.tmod n) := by
  rw [Int.tmod_eq_emod_of_nonneg h0]; exact picked_mod h1 h2
set_option maxRecDepth 100000 in
set_option maxHeartbeats 1000000 in
theorem rd_pick (r S : Nat) (p n : Int) (w : World) (h : Rdr w r S p) (p0 : 0 ≤ p) (p1 : p ≤ 1000000) (hn : n ≤ 1000000) : Calls Tryz.prog 47 #[.pointer (some ⟨r, 0, none⟩), .int .i64 n] w fun e w' =>
    ∃ x, e = .returned (.int .i64 x) ∧ Picked n x ∧ Rdr w' r S (p + 1) ∧ Only r w w' := by
  obtain ⟨h1, h2, h3, h4, a, len, cap, h5, h6, h7⟩ := h
  have g1 : (w.setCell ⟨r, 1, none⟩ (.int .i64 (p + 1))).cell? ⟨r, 1, none⟩ = some (.int .i64 (p + 1)) := World.cell?_setCell_same _ _ _ h4
  have g0 : (w.setCell ⟨r, 1, none⟩ (.int .i64 (p + 1))).cell? ⟨r, 0, none⟩ = some (.slice a len cap) := by
    rw [World.cell?_setCell_other _ _ _ _ (by intro e; injection e; omega)]; exact h5
  have h7' : Bytes (w.setCell ⟨r, 1, none⟩ (.int .i64 (p + 1))) S a len := fun hl => by
    obtain ⟨b, off, ha, hbS, hc⟩ := h7 hl
    refine ⟨b, off, ha, hbS, fun i hi => ?_⟩
    obtain ⟨x, x1, x2, hx⟩ := hc i hi
    exact ⟨x, x1, x2, by rw [World.cell?_setCell_other _ _ _ _ (by intro e; injection e; omega)]; exact hx⟩
  have hR := Lib.hid (show Rdr (w.setCell ⟨r, 1, none⟩ (.int .i64 (p + 1))) r S (p + 1) from
    ⟨h1, by rw [World.frozen?_setCell]; exact h2, by rw [World.frozen?_setCell]; exact h3, g1, a, len, cap, g0, h6, h7'⟩)
  have hO := Lib.hid (only_set (r := r) (w := w) 1 (.int .i64 (p + 1)))
  have hR' : Hid (∀ k, Rdr ((w.setCell ⟨r, 1, none⟩ (.int .i64 (p + 1))).drewN k) r S (p + 1)) := Lib.hid (fun k => hR.out)
  by_cases hn1 : n < 1
  · clear h7 h7'
    go_enter Tryz.func47, Tryz.ntmps47
    go_wp2
    go_ret
    exact ⟨0, rfl, picked_e, hR.out, hO.out⟩
  · by_cases hlen : len = 0
    · subst hlen
      clear h7 h7'
      go_enter Tryz.func47, Tryz.ntmps47
      go_wp2
      go_ret
      exact ⟨0, rfl, picked_e, hR.out, hO.out⟩
    · obtain ⟨b, off, rfl, hbS, hc⟩ := h7' (by omega)
      have hlz : (((len : Nat) : Int) == 0) = false := by simp; omega
      have hl1 : (1 : Int) ≤ (len : Nat) := by omega
      have hl2 : ((len : Nat) : Int) ≤ 2000 := by omega
      clear h7
      by_cases hlt : p < (len : Nat)
      · obtain ⟨x, x1, x2, hx⟩ := hc p.toNat (by omega)
        have hpk := Lib.hid (picked_mod (n := n) (X := x) (by omega) hn)
        clear hc hlen
        go_enter Tryz.func47, Tryz.ntmps47
        go_wp2
        go_ret
        exact ⟨_, rfl, hpk.out, hR.out, hO.out⟩
      · obtain ⟨x, x1, x2, hx⟩ := hc (p % (len : Nat)).toNat (by have := Int.emod_lt_of_pos p (show (0 : Int) < (len : Nat) by omega); have := Int.emod_nonneg p (show ((len : Nat) : Int) ≠ 0 by omega); omega)
        obtain ⟨y, y1, y2, hy⟩ := hc ((p * 7 + 3) % (len : Nat)).toNat (by have := Int.emod_lt_of_pos (p * 7 + 3) (show (0 : Int) < (len : Nat) by omega); have := Int.emod_nonneg (p * 7 + 3) (show ((len : Nat) : Int) ≠ 0 by omega); omega)
        have m1 := Int.emod_nonneg p (show ((len : Nat) : Int) ≠ 0 by omega)
        have m2 := Int.emod_lt_of_pos p (show (0 : Int) < (len : Nat) by omega)
        have m3 := Int.emod_nonneg (p * 7 + 3) (show ((len : Nat) : Int) ≠ 0 by omega)
        have m4 := Int.emod_lt_of_pos (p * 7 + 3) (show (0 : Int) < (len : Nat) by omega)
        have q1 : 0 ≤ p / (len : Nat) := Int.ediv_nonneg p0 (by omega)
        have hX := Lib.hid (xor_i64 (x * 131 + y * 1117 + p * 29 + p / (len : Nat) * 53) (by have := Int.ediv_nonneg p0 (show (0 : Int) ≤ (len : Nat) by omega); omega) (by have := Int.ediv_le_self (len : Nat) p0; omega)).1
        have q2 : p / (len : Nat) ≤ 1000000 := Int.le_trans (Int.ediv_le_self _ p0) p1
        clear hc hlen
        go_enter Tryz.func47, Tryz.ntmps47
        go_wp2
        go_quiet (fail)
        go_wp2
        go_ret
        exact ⟨_, rfl, picked_tmod hX.out (by omega) hn, hR'.out _, hO.out.drewN _⟩

theorem rd_open (v : Value) (a : Option Addr) (len cap : Nat) (w : World) (hv : v = .slice a len cap) (hc : len ≤ cap) (hcap : cap ≤ 9223372036854775807) (hB : Bytes w w.heap.size a len) : Calls Tryz.prog 21 #[v] w fun e w' =>
    ∃ r, e = .returned (.pointer (some ⟨r, 0, none⟩)) ∧ r = w.heap.size ∧ Rdr w' r w.heap.size 0 ∧ Below w.heap.size w w' ∧ w'.heap.size = w.heap.size + 1 := by
  subst hv
  have mk : ∀ l, l ≤ len → l ≤ 2000 → ∀ c, Hid (Rdr (w.alloc (.cells #[.slice a l c, .int .i64 0] 68)) w.heap.size w.heap.size 0) := fun l hl hl2 c => by
    refine ⟨Nat.le_refl _, World.frozen?_alloc_at _ _ _ _ rfl, World.frozen?_alloc_at _ _ _ _ rfl, by rw [World.cell?_alloc_at _ _ _ _ rfl]; rfl, a, l, c, by rw [World.cell?_alloc_at _ _ _ _ rfl]; rfl, hl2, fun hp => ?_⟩
    obtain ⟨b, off, ha, hbS, hcc⟩ := hB (by omega)
    refine ⟨b, off, ha, hbS, fun i hi => ?_⟩
    obtain ⟨x, x1, x2, hx⟩ := hcc i (by omega)
    exact ⟨x, x1, x2, by rw [World.cell?_alloc_past _ _ _ hbS]; exact hx⟩
  by_cases hbig : 2000 < len
  · have m := mk 2000 (by omega) (Nat.le_refl _) cap
    obtain ⟨b, off, rfl, hbS, hcc⟩ := hB (by omega)
    have k1 : (2000 : Int) ≤ (cap : Nat) := by omega
    clear mk hcc
    go_enter Tryz.func21, Tryz.ntmps21
    go_wp2
    go_ret
    exact ⟨_, rfl, rfl, m.out, (Below.refl _ _).alloc (Nat.le_refl _) _, by simp⟩
  · have m := mk len (Nat.le_refl _) (by omega) cap
    clear mk
    go_enter Tryz.func21, Tryz.ntmps21
    go_wp2
    go_ret
    exact ⟨_, rfl, rfl, m.out, (Below.refl _ _).alloc (Nat.le_refl _) _, by simp⟩

/-- what a drawn number of points is. -/
def drawnPts (n : Int) : Prop := n = 0 ∨ n = 9 ∨ (1 ≤ n ∧ n ≤ 6)
theorem Rdr.lt {w : World} {r S : Nat} {p : Int} (h : Rdr w r S p) : r < w.heap.size := cell_lt h.2.2.2.1
theorem Rdr.alloc {w : World} {r S : Nat} {p : Int} (h : Rdr w r S p) (o : Obj) : Rdr (w.alloc o) r S p := h.below ((Below.refl _ w).alloc (Nat.le_refl _) o) h.lt
theorem Rdr.drewN {w : World} {r S : Nat} {p : Int} (h : Rdr w r S p) (n : Nat) : Rdr (w.drewN n) r S p := h
set_option maxRecDepth 100000 in
theorem rd_points (r S : Nat) (p : Int) (w : World) (h : Rdr w r S p) (p0 : 0 ≤ p) (p1 : p ≤ 999990) : Calls Tryz.prog 72 #[.pointer (some ⟨r, 0, none⟩)] w fun e w' =>
    ∃ n, e = .returned (.int .i64 n) ∧ drawnPts n ∧ Rdr w' r S (p + 2) ∧ Only r w w' := by
  have h1 := Lib.hid (rd_pick r S p 30 w h p0 (by omega) (by omega))
  have ep : p + 1 + 1 = p + 2 := by omega
  clear h
  go_enter Tryz.func72, Tryz.ntmps72
  go_wp2_with fail
  refine (h1.out).mono ?_
  rintro e w1 ⟨x, rfl, hx, hR1, hO1⟩
  have hR1 := Lib.hid hR1
  have hO1 := Lib.hid hO1
  rcases (by by_cases e : x = 0 <;> simp [e] : (x == 0) = true ∨ (x == 0) = false) with hz | hz
  · have hlt := hR1.out.lt
    go_wp2_with fail
    refine (rd_pick r S (p + 1) 2 _ (hR1.out.alloc _) (by omega) (by omega) (by omega)).mono ?_
    rintro e w2 ⟨y, rfl, ⟨y1, y2, y3, y4⟩, hR2, hO2⟩
    have y5 : y < 2 := y3 (by omega)
    have hc : ∀ j, (w1.alloc (.cells #[.int .i64 0, .int .i64 9] 3)).cell? ⟨w1.heap.size, j, none⟩ = (#[Value.int .i64 0, .int .i64 9] : Array Value)[j]? := fun j => by
      rw [World.cell?_alloc_at _ _ _ _ rfl]
    have hc0 := hO2.cell (hc 0) (by simp; omega)
    have hc1 := hO2.cell (hc 1) (by simp; omega)
    have hR2 := Lib.hid hR2
    have hO2 := Lib.hid (hO1.out.trans ((Only.refl r w1).alloc _ |>.trans hO2))
    clear y3 y4 hc
    rcases (by omega : y = 0 ∨ y = 1) with rfl | rfl
    · go_wp2_with fail
      go_ret
      exact ⟨0, rfl, .inl rfl, ep ▸ hR2.out, hO2.out⟩
    · go_wp2_with fail
      go_ret
      exact ⟨9, rfl, .inr (.inl rfl), ep ▸ hR2.out, hO2.out⟩
  · clear hx
    go_wp2_with fail
    refine (rd_pick r S (p + 1) 6 _ hR1.out (by omega) (by omega) (by omega)).mono ?_
    rintro e w2 ⟨y, rfl, ⟨y1, y2, y3, y4⟩, hR2, hO2⟩
    have y5 : y < 6 := y3 (by omega)
    have hR2 := Lib.hid hR2
    have hO2 := Lib.hid hO2
    clear y3 y4
    go_wp2_with fail
    go_ret
    exact ⟨_, rfl, .inr (.inr ⟨by omega, by omega⟩), ep ▸ hR2.out, hO1.out.trans hO2.out⟩

theorem wf_u8 {n : Int} (h : (Lit.int .u8 n).wf = true) : 0 ≤ n ∧ n < 256 := by
  have hmin : IntKind.u8.min = 0 := by decide
  have hmax : IntKind.u8.max = 255 := by decide
  simp [Lit.wf, hmin, hmax] at h
  omega
/-- what a frame knows of the code that came in. -/
theorem bytes_of {w : World} {a : Option Addr} {len cap : Nat} {zs : List Int}
    (h : (a = none ∧ len = 0 ∧ cap = 0 ∧ zs = []) ∨ ∃ x, a = some x ∧ len ≤ cap ∧ cap ≤ maxLen ∧ zs.length = cap ∧ (∀ i, i < zs.length → w.cell? (x.add i) = some (.int .u8 (zs.getD i 0))) ∧ ∀ n ∈ zs, (Lit.int .u8 n).wf = true) :
    len ≤ cap ∧ cap ≤ 9223372036854775807 ∧ Bytes w w.heap.size a len := by
  rcases h with ⟨rfl, rfl, rfl, rfl⟩ | ⟨x, rfl, hl, hm, hz, hc, hw⟩
  · exact ⟨Nat.le_refl _, by omega, fun h => by omega⟩
  · refine ⟨hl, by unfold maxLen at hm; omega, fun hp => ?_⟩
    have h0 := hc 0 (by omega)
    obtain ⟨b, off, spot⟩ := x
    have hspot : spot = none := by simpa [Addr.add] using World.cell?_spot h0
    subst hspot
    have hadd : ∀ i, (⟨b, off, none⟩ : Addr).add i = ⟨b, off + i, none⟩ := fun i => by simp [Addr.add]
    refine ⟨b, off, rfl, ?_, fun i hi => ?_⟩
    · have := cell_lt h0
      rw [hadd] at this
      exact this
    · have hi' : i < zs.length := by omega
      have hm := hw (zs.getD i 0) (by rw [List.getD_eq_getElem?_getD, List.getElem?_eq_getElem hi']; exact List.getElem_mem hi')
      have := wf_u8 hm
      exact ⟨_, this.1, this.2, by rw [← hadd, hc i hi']⟩

end
section
/- The laws' reader: drawn sets. -/
open Go.ChangeShapes Go.WideShapes Go.ChangeAt Go.RowKit Go.Proofs

theorem cap_at (n : Int) (h0 : 0 ≤ n) (h9 : n ≤ 9) (w : World) : Calls Tryz.prog 77 #[.int .i64 n] w fun e w' => ∃ c, e = .returned (.int .i64 c) ∧ (1 ≤ c ∧ c ≤ 256) ∧ w = w' := by
  rcases (by omega : n = 0 ∨ n = 1 ∨ n = 2 ∨ n = 3 ∨ n = 4 ∨ n = 5 ∨ n = 6 ∨ n = 7 ∨ n = 8 ∨ n = 9) with rfl | rfl | rfl | rfl | rfl | rfl | rfl | rfl | rfl | rfl
  all_goals
    go_enter Tryz.func77, Tryz.ntmps77
    go_wp2
    go_ret
    exact ⟨_, rfl, ⟨by decide +kernel, by decide +kernel⟩, rfl⟩
/-- what a draw of a number leaves. -/
def NumDraw (r S : Nat) (p : Int) (w : World) (e : Ending) (w' : World) : Prop := ∃ s p', e = .returned (.int .i64 s) ∧ -1 ≤ s ∧ s ≤ 1000000 ∧ Rdr w' r S p' ∧ 0 ≤ p' ∧ p' ≤ p + 100 ∧ Only r w w'
/-- what a draw of a number and a set gives. -/
def OneDraw (w : World) (e : Ending) (w' : World) : Prop := ∃ n s, e = .returned (.tuple #[.int .i64 n, .int .i64 s]) ∧ Below w.heap.size w w'
end
section
/- The laws' reader: drawn families and sets. -/
open Go.ChangeShapes Go.WideShapes Go.ChangeAt Go.RowKit Go.Proofs

theorem part_at (a b : Int) (w : World) : Calls Tryz.prog 98 #[.int .i64 a, .int .i64 b] w fun e w' => ∃ c, e = .returned (.bool c) ∧ w = w' := by
  go_enter Tryz.func98, Tryz.ntmps98
  go_wp2
  go_ret
  exact ⟨_, rfl, rfl⟩

end
section
/- The laws' reader: sets below or above those of a list. -/
open Go.ChangeShapes Go.WideShapes Go.ChangeAt Go.RowKit Go.Proofs

/-- some list of at most m numbers. -/
def SomeInts (m : Nat) (w : World) (e : Ending) (w' : World) : Prop := ∃ v L, e = .returned v ∧ L.length ≤ m ∧ OwnL w' w.heap.size v L ∧ Below w.heap.size w w'
set_option maxHeartbeats 4000000 in
theorem closed_at (n : Int) (lv : Value) (xs : List Int) (S : Nat) (dn : Bool) (w : World) (hx : Row w S lv xs) (hS : S ≤ w.heap.size) (hl : xs.length ≤ 1000) (n1 : 1 ≤ n) (n2 : n ≤ 8) :
    Calls Tryz.prog 80 #[.int .i64 n, lv, .bool dn] w (SomeInts 256 w) := by
  obtain ⟨a, cap, rfl, ha⟩ := hx
  obtain ⟨p1, p2, p3⟩ := pow_nat n1 n2
  obtain ⟨N, hN⟩ : ∃ N : Nat, 2 ^ n.toNat = N := ⟨_, rfl⟩
  rw [hN] at p1 p2 p3
  have hNi : (2 : Int) ^ n.toNat = (N : Nat) := by rw [← hN]; simp
  replace ha := Lib.hid ha
  replace hN := Lib.hid hN
  replace hNi := Lib.hid hNi
  have hn0 : (0 : Int) ≤ n := by omega
  have hn64 : n < 64 := by omega
  go_enter Tryz.func80, Tryz.ntmps80
  go_wp2_with fail
  go_loopw [7, 8] (fun v q wr => ∃ (k : Nat) (L : List Int), k ≤ N ∧ q = .int .i64 k ∧ L.length ≤ k ∧ Hid (OwnL wr w.heap.size v L) ∧ Hid (Below w.heap.size w wr)) (fun _ q _ => N - (intOf q).toNat)
  case atStart => exact ⟨0, [], by omega, rfl, by simp, Lib.hid (OwnL.lit w (Nat.le_refl _)), Lib.hid ((Below.refl _ _).alloc (Nat.le_refl _) _)⟩
  case round =>
    obtain ⟨k, L, hk, rfl, hLk, hown, hbel⟩ := hrel
    obtain ⟨a', c', rfl⟩ := hown.out.form
    have hsz := hbel.out.size
    by_cases hlt : k < N
    · have k1 : (0 : Int) ≤ (k : Int) := by omega
      have k2 : (k : Int) < (N : Nat) := by omega
      have hr := Lib.hid (show ∀ j, j < xs.length → ∃ b off, a = some ⟨b, off, none⟩ ∧ wr.cell? ⟨b, off + j, none⟩ = some (.int .i64 (xs.getD j 0)) from fun j hj => by
        obtain ⟨b1, o1, e, s1, c1⟩ := ha.out (by omega)
        exact ⟨b1, o1, e, (hbel.out.cell (p := ⟨b1, o1 + j, none⟩) (show b1 < w.heap.size by omega)).trans (c1 j hj)⟩)
      go_wp2_with fail
      replace p3 := Lib.hid p3
      go_loop [9, 10] (fun b i => ∃ (j : Nat) (bb : Bool), j ≤ xs.length ∧ i = .int .i64 j ∧ b = .bool bb) (fun _ i => xs.length - (intOf i).toNat)
      case atStart => exact ⟨0, false, by omega, rfl, rfl⟩
      case round =>
        obtain ⟨j, bb, hj, rfl, rfl⟩ := hrel
        by_cases hlj : j < xs.length
        · obtain ⟨b1, o1, rfl, e1⟩ := hr.out j hlj
          have j1 : (0 : Int) ≤ (j : Int) := by omega
          have j2 : (j : Int) < (xs.length : Nat) := by omega
          obtain ⟨x, hx0⟩ : ∃ x, xs.getD j 0 = x := ⟨_, rfl⟩
          rw [hx0] at e1
          replace hx0 := Lib.hid hx0
          cases bb
          · cases dn
            · go_wp2_with fail
              refine (part_at _ _ _).mono ?_
              rintro e w' ⟨c9, rfl, rfl⟩
              cases c9
              all_goals
                go_wp2_with fail
                first | (exact ⟨⟨j + 1, _, by omega, by go_num, rfl⟩, by simp [intOf]; omega⟩) | (refine ⟨⟨trivial, ?_⟩, by simp [intOf]; omega⟩; (repeat apply Exists.intro); refine ⟨?_, rfl⟩; exact ⟨j + 1, _, by omega, by go_num, rfl⟩)
            · go_wp2_with fail
              refine (part_at _ _ _).mono ?_
              rintro e w' ⟨c9, rfl, rfl⟩
              cases c9
              all_goals
                go_wp2_with fail
                first | (exact ⟨⟨j + 1, _, by omega, by go_num, rfl⟩, by simp [intOf]; omega⟩) | (refine ⟨⟨trivial, ?_⟩, by simp [intOf]; omega⟩; (repeat apply Exists.intro); refine ⟨?_, rfl⟩; exact ⟨j + 1, _, by omega, by go_num, rfl⟩)
          · cases dn
            all_goals
              go_wp2_with fail
              first | (exact ⟨⟨j + 1, _, by omega, by go_num, rfl⟩, by simp [intOf]; omega⟩) | (refine ⟨⟨trivial, ?_⟩, by simp [intOf]; omega⟩; (repeat apply Exists.intro); refine ⟨?_, rfl⟩; exact ⟨j + 1, _, by omega, by go_num, rfl⟩)
        · obtain rfl : j = xs.length := by omega
          cases bb
          · go_wp2_with fail
            first | (exact ⟨⟨k + 1, L, by omega, by go_num, by omega, hown, hbel⟩, by simp [intOf]; omega⟩) | (go_roundw; (case rel => exact ⟨k + 1, L, by omega, by go_num, by omega, hown, hbel⟩); (case measure => simp [intOf]; omega))
          · have hB1 : w.heap.size ≤ (wr.alloc (.cells #[.int .i64 (k : Int)] 3)).heap.size := by rw [World.size_alloc]; omega
            go_wp2_with (at_builtin; refine app_int rfl _ _ rfl w.heap.size _ L rfl (hown.out.alloc _) (k : Int) wr.heap.size rfl (cell_new _ _ _) (by omega) hB1 ?_; intro v' w1 hown1 hb1)
            replace hown1 := Lib.hid hown1
            have hb2 := Lib.hid ((hbel.out.alloc hsz _).trans hb1)
            have hlen1 : (L ++ [(k : Int)]).length ≤ k + 1 := by simp; omega
            first | (exact ⟨⟨k + 1, _, by omega, by go_num, hlen1, hown1, hb2⟩, by simp [intOf]; omega⟩) | (go_roundw; (case rel => exact ⟨k + 1, _, by omega, by go_num, hlen1, hown1, hb2⟩); (case measure => simp [intOf]; omega))
    · obtain rfl : k = N := by omega
      go_wp2_with fail
      go_ret
      exact ⟨_, L, rfl, by omega, hown.out, hbel.out⟩

end
section
/- The laws' reader: drawn families. -/
open Go.ChangeShapes Go.WideShapes Go.ChangeAt Go.RowKit Go.Proofs

theorem Own.only {r : Nat} {w w' : World} {C S : Nat} {v : Value} {xs : List Int} (h : Own w C S v xs) (ho : Only r w w') (hr : r < C) (hS : S ≤ w.heap.size) : Own w' C S v xs := by
  obtain ⟨a, cap, rfl, h⟩ := h
  refine ⟨a, cap, rfl, fun hl => ?_⟩
  obtain ⟨b, off, rfl, hB, hs, hc, hf⟩ := h hl
  have hb : w'.heap[b]? = w.heap[b]? := ho.block b (by omega) (by intro e; injection e; omega)
  exact ⟨b, off, rfl, hB, hs, fun i hi => (World.cell?_of_block (a := ⟨b, off + i, none⟩) hb).trans (hc i hi), fun i hi => (World.frozen?_of_block (a := ⟨b, off + i, none⟩) hb).trans (hf i hi)⟩
theorem Only.then {r B : Nat} {a w w' : World} (h : Only r a w) (hb : Below B w w') (hB : a.heap.size ≤ B) : Only r a w' :=
  ⟨hb.os.trans h.os, hb.tape.trans h.tape, hb.output.trans h.output, Nat.le_trans h.size hb.size, fun i hi hne => (hb.block i (by omega)).trans (h.block i hi hne)⟩
/-- what a drawn family is. -/
def FamDraw (r S : Nat) (p : Int) (w : World) (e : Ending) (w' : World) : Prop := ∃ v L p', e = .returned v ∧ L.length ≤ 300 ∧ Own w' w.heap.size w'.heap.size v L ∧ Rdr w' r S p' ∧ 0 ≤ p' ∧ p' ≤ p + 100 ∧ Only r w w'
set_option maxRecDepth 100000 in
set_option maxHeartbeats 4000000 in
theorem draw_family (r S : Nat) (p n : Int) (w : World) (h : Rdr w r S p) (p0 : 0 ≤ p) (p1 : p ≤ 900000) (h0 : 0 ≤ n) (h9 : n ≤ 9) : Calls Tryz.prog 48 #[.pointer (some ⟨r, 0, none⟩), .int .i64 n] w (FamDraw r S p w) := by
  have hcap := Lib.hid (cap_at n h0 h9)
  have hrl := h.lt
  have hR0 := Lib.hid (h.alloc (.cells #[] 3))
  clear h
  go_enter Tryz.func48, Tryz.ntmps48
  go_wp2_with fail
  refine (rd_pick r S p 10 _ hR0.out p0 (by omega) (by omega)).mono ?_
  rintro e w1 ⟨m, rfl, ⟨m1, m2, m3, m4⟩, hR1, hO1⟩
  have m5 : m < 10 := m3 (by omega)
  have hL1 := Lib.hid ((OwnL.lit w (Nat.le_refl w.heap.size)).only hO1 hrl)
  replace hO1 := Lib.hid (((Only.refl r w).alloc _).trans hO1)
  replace hR1 := Lib.hid hR1
  clear m3 m4 hR0
  go_wp2_with fail
  go_loopw [5, 7] (fun u i wr => ∃ (k : Nat) (acc : List Int), (k : Int) ≤ m ∧ i = .int .i64 k ∧ acc.length = k ∧ Hid (OwnL wr w.heap.size u acc) ∧ Hid (Rdr wr r S (p + 1 + (k : Int))) ∧ Hid (Only r w wr)) (fun _ i _ => (m - intOf i).toNat)
  case atStart => exact ⟨0, [], by omega, rfl, rfl, hL1, Lib.hid (by simpa using hR1.out), hO1⟩
  case round =>
    obtain ⟨k, acc, hk, rfl, hac, hown, hR, hO⟩ := hrel
    have hzz := hO.out.size
    have hac9 : (acc.length : Int) ≤ 10 := by omega
    obtain ⟨a', c', rfl⟩ := hown.out.form
    replace hac := Lib.hid hac
    by_cases hlt : (k : Int) < m
    · go_wp2_with fail
      refine (hcap.out _).mono ?_
      rintro e w' ⟨c, rfl, ⟨c1, c2⟩, rfl⟩
      go_wp2_with fail
      refine (rd_pick r S (p + 1 + (k : Int)) c _ hR.out (by omega) (by omega) (by omega)).mono ?_
      rintro e w4 ⟨z, rfl, hz, hR4, hO4⟩
      clear hz
      have hown4 := Lib.hid (hown.out.only hO4 hrl)
      have hO5 := Lib.hid (hO.out.trans hO4)
      have ep : p + 1 + (k : Int) + 1 = p + 1 + ((k + 1 : Nat) : Int) := by omega
      rw [ep] at hR4
      replace hR4 := Lib.hid hR4
      replace ep := Lib.hid ep
      have hlt4 := hO5.out.size
      clear hO4
      go_wp2_with (at_builtin; refine app_int rfl _ _ rfl w.heap.size _ acc rfl (hown4.out.alloc _) z w4.heap.size rfl (cell_new _ _ _) (by omega) (by simp; omega) ?_; intro v' w5 hown5 hb5)
      go_roundw
      case rel => exact ⟨k + 1, acc ++ [z], by omega, by go_num, by rw [List.length_append, hac.out]; rfl, Lib.hid hown5, Lib.hid ((hR4.out.alloc _).below hb5 hrl), Lib.hid ((hO5.out.alloc _).then hb5 (Nat.le_refl _))⟩
      case measure => simp [intOf]; omega
    · have hfo := Lib.hid (sp_FamilyOf n (.slice a' acc.length c') acc wr.heap.size wr hown.out.own.row (Nat.le_refl _) (by omega))
      obtain ⟨p2, hp2⟩ : ∃ p2, p + 1 + (k : Int) = p2 := ⟨_, rfl⟩
      rw [hp2] at hR
      have q1 : 0 ≤ p2 := by omega
      have q2 : p2 ≤ p + 11 := by omega
      clear hp2
      go_wp2_with fail
      refine (hfo.out).mono ?_
      rintro e w2 ⟨v2, rfl, hF2, hb2⟩
      have hrl2 : r < wr.heap.size := by omega
      have hown2 := Lib.hid (hown.out.below hb2 (Nat.le_refl _))
      have hR2 := Lib.hid (hR.out.below hb2 hrl2)
      have hO2 := Lib.hid (hO.out.trans (Only.of_below hb2 (Nat.le_refl _)))
      have hz2 := hb2.size
      obtain ⟨fa, fc, rfl, _⟩ := id hF2
      rcases (by cases colB n acc <;> simp : colB n acc = true ∨ colB n acc = false) with hcb | hcb
      · have hfl := colB_len hcb
        have hfe : famOfL n acc = sortL acc := by unfold famOfL; rw [if_pos hcb]
        have hset := Lib.hid (fun z (hz : z ∈ sortL acc) => setB_lt ((colB_lt hcb).2.2 z (mem_sortL.1 hz)))
        obtain ⟨n1, n2, _⟩ := colB_lt hcb
        obtain ⟨F, hFF⟩ : ∃ F, sortL acc = F := ⟨_, rfl⟩
        rw [hfe] at hF2 ⊢
        rw [hFF] at hF2 hfl hset ⊢
        rw [hcb]
        replace hF2 := Lib.hid hF2
        replace hFF := Lib.hid hFF
        replace hcb := Lib.hid hcb
        clear hfo hfe hb2 hown hR hO
        go_wp2_with fail
        refine (rd_pick r S p2 24 _ hR2.out (by omega) (by omega) (by omega)).mono ?_
        rintro e w3 ⟨x, rfl, hx, hR3, hO3⟩
        have hF3 := Lib.hid (hF2.out.only hO3 hrl2 (Nat.le_refl _))
        have hz33 := hO3.size
        have hown3 := Lib.hid (hown2.out.only hO3 hrl)
        replace hR3 := Lib.hid hR3
        replace hO3 := Lib.hid (hO2.out.trans hO3)
        clear hx hown2 hR2 hO2 hF2
        rcases (by by_cases e : x = 0 <;> simp [e] : (x == 0) = true ∨ (x == 0) = false) with hz | hz
        · go_wp2_with fail
          go_ret
          exact ⟨_, acc, _, rfl, by omega, hown3.out.own, hR3.out, by omega, by omega, hO3.out⟩
        · go_wp2_with fail
          refine (rd_pick r S (p2 + 1) 5 _ hR3.out (by omega) (by omega) (by omega)).mono ?_
          rintro e w4 ⟨y, rfl, ⟨y1, y2, y3, y4⟩, hR4, hO4⟩
          have y5 : y < 5 := y3 (by omega)
          have hz3 := hO4.size
          have hF4 := Lib.hid (hF3.out.only hO4 hrl2 hz33)
          replace hR4 := Lib.hid hR4
          replace hO4 := Lib.hid (hO3.out.trans hO4)
          clear y3 y4 hown3 hR3 hO3 hF3
          rcases (by omega : y = 0 ∨ y = 1 ∨ 2 ≤ y) with rfl | rfl | hy
          · go_wp2_with fail
            have hS24 : w2.heap.size ≤ w4.heap.size := by omega
            go_loopw [10, 11] (fun v q wq => ∃ (j : Nat) (L : List Int), j ≤ F.length ∧ q = .int .i64 j ∧ L.length ≤ j ∧ Hid (OwnL wq w4.heap.size v L) ∧ Hid (Below w4.heap.size w4 wq)) (fun _ q _ => F.length - (intOf q).toNat)
            case atStart => exact ⟨0, [], by omega, rfl, by simp, Lib.hid (OwnL.lit w4 (Nat.le_refl _)), Lib.hid ((Below.refl _ _).alloc (Nat.le_refl _) _)⟩
            case round =>
              obtain ⟨j, L, hj, rfl, hLj, hown5, hbel⟩ := hrel
              obtain ⟨a5, c5, rfl⟩ := hown5.out.form
              have hsz := hbel.out.size
              by_cases hlj : j < F.length
              · obtain ⟨a6, c6, e6, hcell⟩ := hF4.out
                injection e6 with e7 e8 e9
                subst e7 e9
                obtain ⟨b1, o1, rfl, s0, s1, cc, _⟩ := hcell (by omega)
                have j1 : (0 : Int) ≤ (j : Int) := by omega
                have j2 : (j : Int) < (F.length : Nat) := by omega
                have e1 := (hbel.out.cell (p := ⟨b1, o1 + j, none⟩) (show b1 < w4.heap.size by omega)).trans (cc j hlj)
                obtain ⟨z, hz0⟩ : ∃ z, F.getD j 0 = z := ⟨_, rfl⟩
                rw [hz0] at e1
                obtain ⟨z1, z2⟩ := hset.out z (by rw [← hz0]; exact getD_mem hlj)
                obtain ⟨t, ht⟩ : ∃ t, cntI z = t := ⟨_, rfl⟩
                have hsz1 := l1size z z1 z2
                rw [ht] at hsz1
                replace hsz1 := Lib.hid hsz1
                replace ht := Lib.hid ht
                replace hz0 := Lib.hid hz0
                clear cc hcell
                have hB1 : w4.heap.size ≤ (wr.alloc (.cells #[.int .i64 z] 3)).heap.size := by rw [World.size_alloc]; omega
                have hLL : L.length ≤ 1073741824 := by omega
                go_wp2_with (first | (go_at_call 79; refine (hsz1.out _).mono ?_; rintro e w' ⟨rfl, rfl⟩) | (at_builtin; refine app_int rfl _ _ rfl w4.heap.size _ L rfl (hown5.out.alloc _) z wr.heap.size rfl (cell_new _ _ _) hLL hB1 ?_; intro v' w7 hown7 hb7))
                · exact ⟨⟨j + 1, L ++ [z], by omega, by go_num, by simp; omega, Lib.hid hown7, Lib.hid ((hbel.out.alloc hsz _).trans hb7)⟩, by simp [intOf]; omega⟩
                · exact ⟨⟨j + 1, L, by omega, by go_num, by omega, hown5, hbel⟩, by simp [intOf]; omega⟩
              · go_wp2_with fail
                go_ret
                exact ⟨_, L, _, rfl, by omega, hown5.out.own.mono (by omega) (Nat.le_refl _), hR4.out.below hbel.out (by omega), by omega, by omega, hO4.out.then hbel.out (by omega)⟩
          · go_wp2_with fail
            refine (rd_pick r S (p2 + 1 + 1) 2 _ hR4.out (by omega) (by omega) (by omega)).mono ?_
            rintro e w5 ⟨z, rfl, hz5, hR5, hO5⟩
            have hF5 := Lib.hid (hF4.out.only hO5 hrl2 (by omega))
            have hz45 := hO5.size
            replace hR5 := Lib.hid hR5
            replace hO5 := Lib.hid (hO4.out.trans hO5)
            clear hz5 hF4 hR4 hO4
            have hcl := Lib.hid (fun dn => closed_at n (.slice fa F.length fc) F w5.heap.size dn w5 (hF5.out.row.mono (by omega)) (Nat.le_refl _) (by omega) n1 n2)
            go_wp2_with fail
            refine (hcl.out _).mono ?_
            rintro e w6 ⟨v6, L6, rfl, hL6, hown6, hb6⟩
            obtain ⟨a6, c6, rfl⟩ := hown6.form
            have hz56 := hb6.size
            replace hown6 := Lib.hid hown6
            replace hb6 := Lib.hid hb6
            clear hcl
            go_wp2_with fail
            go_ret
            exact ⟨_, L6, _, rfl, by omega, hown6.out.own.mono (by omega) (Nat.le_refl _), hR5.out.below hb6.out (by omega), by omega, by omega, hO5.out.then hb6.out (by omega)⟩
          · have hy0 : (y == 0) = false := by simp; omega
            have hy1 : (y == 1) = false := by simp; omega
            go_wp2_with fail
            go_ret
            exact ⟨_, F, _, rfl, by omega, hF4.out.mono (by omega) (by omega), hR4.out, by omega, by omega, hO4.out⟩
      · replace hcb := Lib.hid hcb
        rw [hcb.out]
        replace hF2 := Lib.hid hF2
        clear hfo
        go_wp2_with fail
        go_ret
        exact ⟨_, acc, _, rfl, by omega, hown2.out.own, hR2.out, by omega, by omega, hO2.out⟩

/-- what a draw of a number, a family and a set gives. -/
def BothDraw (w : World) (e : Ending) (w' : World) : Prop := ∃ n u xs s, e = .returned (.tuple #[.int .i64 n, u, .int .i64 s]) ∧ xs.length ≤ 300 ∧ Own w' w.heap.size w'.heap.size u xs ∧ Below w.heap.size w w'
end
section
/- The laws' reader: families drawn alone, in twos, with a point. -/
open Go.ChangeShapes Go.WideShapes Go.ChangeAt Go.RowKit Go.Proofs

/-- what a draw of a number and a family gives. -/
def GivenDraw (w : World) (e : Ending) (w' : World) : Prop := ∃ n u xs, e = .returned (.tuple #[.int .i64 n, u]) ∧ xs.length ≤ 300 ∧ Own w' w.heap.size w'.heap.size u xs ∧ Below w.heap.size w w'
/-- what a draw of a number and two families gives. -/
def TwoDraw (w : World) (e : Ending) (w' : World) : Prop := ∃ n u xs v ys, e = .returned (.tuple #[.int .i64 n, u, v]) ∧ xs.length ≤ 300 ∧ ys.length ≤ 300 ∧ Own w' w.heap.size w'.heap.size u xs ∧ Own w' w.heap.size w'.heap.size v ys ∧ Below w.heap.size w w'
/-- what a draw of a number, a family and a point gives. -/
def WithDraw (w : World) (e : Ending) (w' : World) : Prop := ∃ n u xs p, e = .returned (.tuple #[.int .i64 n, u, .int .i64 p]) ∧ xs.length ≤ 300 ∧ Own w' w.heap.size w'.heap.size u xs ∧ Below w.heap.size w w'
set_option maxRecDepth 100000 in
set_option maxHeartbeats 1000000 in
theorem draw_given (v : Value) (a : Option Addr) (len cap : Nat) (w : World) (hv : v = .slice a len cap) (hc : len ≤ cap) (hcap : cap ≤ 9223372036854775807) (hB : Bytes w w.heap.size a len) :
    Calls Tryz.prog 41 #[v] w (GivenDraw w) := by
  have h0 := Lib.hid (rd_open v a len cap w hv hc hcap hB)
  clear hv hc hcap hB
  go_enter Tryz.func41, Tryz.ntmps41
  go_wp2_with fail
  refine (h0.out).mono ?_
  rintro e w0 ⟨r, rfl, hr, hR0, hb0, hz0⟩
  have hrw : w.heap.size ≤ r := by omega
  replace hr := Lib.hid hr
  replace hR0 := Lib.hid hR0
  replace hb0 := Lib.hid hb0
  go_wp2_with fail
  refine (rd_points r _ 0 w0 hR0.out (by omega) (by omega)).mono ?_
  rintro e w1 ⟨n, rfl, hn, hR1, hO1⟩
  have hn1 : 0 ≤ n ∧ n ≤ 9 := by unfold drawnPts at hn; omega
  obtain ⟨hn1, hn2⟩ := hn1
  have hb1 := Lib.hid (hO1.below hb0.out hrw hb0.out.size)
  replace hR1 := Lib.hid hR1
  clear hn hO1 hR0
  go_wp2_with fail
  refine (draw_family r _ (0 + 2) n w1 hR1.out (by omega) (by omega) hn1 hn2).mono ?_
  rintro e w2 ⟨v2, L, p2, rfl, hL, hF2, hR2, q1, q2, hO2⟩
  obtain ⟨fa, fc, rfl, _⟩ := id hF2
  have hz01 := hb1.out.size
  have hb2 := Lib.hid (hO2.below hb1.out hrw hb1.out.size)
  replace hF2 := Lib.hid hF2
  clear hO2 hR1 hR2
  go_wp2_with fail
  go_ret2
  exact ⟨_, _, L, rfl, hL, hF2.out.mono (by omega) (Nat.le_refl _), hb2.out⟩
end
end Go.Proofs.YtpjapoaagbdlfaaGreatDoor
