/- Texts merged: XDraw XDrawS XDraw2 XDraw3 XDraw4 XDrawF. -/
import Derived.Test.YtojfamjgghikoaaGreatDoorAppend
import Derived.IntWalk
import Derived.Lib.MinMax
import Derived.RegionTactic
import Derived.Test.YtojfamjgghikoaaGreatDoorAllSp
namespace Go.Proofs.YtojfamjgghikoaaGreatDoor
section
/- The reader from which the laws draw their inputs: it hands out numbers in range, whatever the code is. -/
open Go.ChangeShapes Go.WideShapes Go.ChangeAt Go.RowKit

theorem xor_i64 (X : Int) (h1 : 0 ≤ X) (h2 : X < 1099511627776) : 0 ≤ bits .xor .i64 X (X / 64) ∧ bits .xor .i64 X (X / 64) < 1099511627776 := by
  obtain ⟨a, rfl⟩ := Int.eq_ofNat_of_zero_le h1
  have hb : ((a : Int) / 64) = ((a / 64 : Nat) : Int) := by omega
  rw [hb]
  have ha : a < 1099511627776 := by omega
  have hx : a ^^^ (a / 64) < 2 ^ 40 := Nat.xor_lt_two_pow (by omega) (by omega)
  have h1' : (BitVec.ofInt 64 (a : Int)).toNat = a := by
    rw [BitVec.ofInt_natCast, BitVec.toNat_ofNat]; exact Nat.mod_eq_of_lt (by omega)
  have h2' : (BitVec.ofInt 64 ((a / 64 : Nat) : Int)).toNat = a / 64 := by
    rw [BitVec.ofInt_natCast, BitVec.toNat_ofNat]; exact Nat.mod_eq_of_lt (by omega)
  have e : bits .xor .i64 (a : Int) ((a / 64 : Nat) : Int) = ((a ^^^ (a / 64) : Nat) : Int) := by
    show IntKind.i64.wrap ((BitVec.ofInt 64 (a : Int) ^^^ BitVec.ofInt 64 ((a / 64 : Nat) : Int)).toNat : Int) = _
    rw [BitVec.toNat_xor, h1', h2']
    exact IntWalk.i64_in _ (by omega)
  rw [e]
  omega

/-- the code's bytes as the reader holds them: cells below block S. -/
def Bytes (w : World) (S : Nat) (a : Option Addr) (len : Nat) : Prop := 0 < len → ∃ b off, a = some ⟨b, off, none⟩ ∧ b < S ∧ ∀ i, i < len → ∃ x : Int, 0 ≤ x ∧ x < 256 ∧ w.cell? ⟨b, off + i, none⟩ = some (.int .u8 x)
/-- the reader in block r: its code and its place. -/
def Rdr (w : World) (r S : Nat) (p : Int) : Prop :=
  S ≤ r ∧ w.frozen? ⟨r, 0, none⟩ = false ∧ w.frozen? ⟨r, 1, none⟩ = false ∧ w.cell? ⟨r, 1, none⟩ = some (.int .i64 p) ∧
  ∃ a len cap, w.cell? ⟨r, 0, none⟩ = some (.slice a len cap) ∧ len ≤ 2000 ∧ Bytes w S a len
/-- all that was there but block r is as it was. -/
def Only (r : Nat) (w w' : World) : Prop := w.grownBy w' (some r)
theorem Only.refl (r : Nat) (w : World) : Only r w w := World.grownBy.refl w _
theorem only_set {r : Nat} {w : World} (o : Nat) (v : Value) : Only r w (w.setCell ⟨r, o, none⟩ v) :=
  ⟨rfl, rfl, rfl, by simp, fun i _ hne => Below.heap_setCell _ _ _ _ (fun e => hne (by rw [e]))⟩
theorem Only.drewN {r : Nat} {w w' : World} (h : Only r w w') (n : Nat) : Only r w (w'.drewN n) := ⟨h.os, h.tape, h.output, h.size, h.block⟩
theorem Only.trans {r : Nat} {a b c : World} (h : Only r a b) (k : Only r b c) : Only r a c :=
  ⟨k.os.trans h.os, k.tape.trans h.tape, k.output.trans h.output, Nat.le_trans h.size k.size, fun i hi hne => (k.block i (Nat.lt_of_lt_of_le hi h.size) hne).trans (h.block i hi hne)⟩
theorem Only.of_below {r B : Nat} {w w' : World} (h : Below B w w') (hB : w.heap.size ≤ B) : Only r w w' := ⟨h.os, h.tape, h.output, h.size, fun i hi _ => h.block i (by omega)⟩
theorem Only.alloc {r : Nat} {a w : World} (h : Only r a w) (o : Obj) : Only r a (w.alloc o) := h.trans (Only.of_below ((Below.refl _ w).alloc (Nat.le_refl _) o) (Nat.le_refl _))
theorem Only.below {r B : Nat} {a w w' : World} (h : Only r w w') (hb : Below B a w) (hr : B ≤ r) (hs : B ≤ w.heap.size) : Below B a w' :=
  hb.grown h hs (fun k e => by cases e; exact hr)
theorem OwnL.only {r : Nat} {w w' : World} {B : Nat} {v : Value} {xs : List Int} (h : OwnL w B v xs) (ho : Only r w w') (hr : r < B) : OwnL w' B v xs :=
  World.ownsRow.kept h ho (by
    cases hv : v.ownBlock with
    | none => exact .inl rfl
    | some k =>
      have := World.ownsRow.lt h k hv
      exact .inr (by rintro ⟨rfl⟩; omega))
/-- the reader lies on where all that changes lies behind it. -/
theorem Rdr.below {w w' : World} {r S B : Nat} {p : Int} (h : Rdr w r S p) (hb : Below B w w') (hr : r < B) : Rdr w' r S p := by
  obtain ⟨h1, h2, h3, h4, a, len, cap, h5, h6, h7⟩ := h
  refine ⟨h1, (hb.frozen (p := ⟨r, 0, none⟩) hr).trans h2, (hb.frozen (p := ⟨r, 1, none⟩) hr).trans h3, (hb.cell (p := ⟨r, 1, none⟩) hr).trans h4, a, len, cap, (hb.cell (p := ⟨r, 0, none⟩) hr).trans h5, h6, fun hl => ?_⟩
  obtain ⟨b, off, rfl, hbS, hc⟩ := h7 hl
  refine ⟨b, off, rfl, hbS, fun i hi => ?_⟩
  obtain ⟨x, x1, x2, hx⟩ := hc i hi
  exact ⟨x, x1, x2, (hb.cell (p := ⟨b, off + i, none⟩) (show b < B by omega)).trans hx⟩

/-- what pick gives for n. -/
def Picked (n x : Int) : Prop := 0 ≤ x ∧ x ≤ 1000000 ∧ (1 ≤ n → x < n) ∧ (n < 1 → x = 0)
theorem picked_0 {n : Int} (h : n < 1) : Picked n 0 := ⟨by omega, by omega, by omega, fun _ => rfl⟩
theorem picked_e {n : Int} : Picked n 0 := ⟨by omega, by omega, by omega, fun _ => rfl⟩
theorem picked_mod {n X : Int} (h1 : 1 ≤ n) (h2 : n ≤ 1000000) : Picked n (X % n) := by
  have a := Int.emod_nonneg X (show n ≠ 0 by omega)
  have b := Int.emod_lt_of_pos X (show 0 < n by omega)
  exact ⟨a, by omega, fun _ => b, by omega⟩
theorem picked_tmod {n X : Int} (h0 : 0 ≤ X) (h1 : 1 ≤ n) (h2 : n ≤ 1000000) : Picked n (X.tmod n) := by
  rw [Int.tmod_eq_emod_of_nonneg h0]; exact picked_mod h1 h2
set_option maxRecDepth 100000 in
set_option maxHeartbeats 1000000 in
theorem rd_pick (r S : Nat) (p n : Int) (w : World) (h : Rdr w r S p) (p0 : 0 ≤ p) (p1 : p ≤ 1000000) (hn : n ≤ 1000000) : Calls Tryz.prog 25 #[.pointer (some ⟨r, 0, none⟩), .int .i64 n] w fun e w' =>
    ∃ x, e = .returned (.int .i64 x) ∧ Picked n x ∧ Rdr w' r S (p + 1) ∧ Only r w w' := by
  obtain ⟨h1, h2, h3, h4, a, len, cap, h5, h6, h7⟩ := h
  have g1 : (w.setCell ⟨r, 1, none⟩ (.int .i64 (p + 1))).cell? ⟨r, 1, none⟩ = some (.int .i64 (p + 1)) := World.cell?_setCell_same _ _ _ h4
  have g0 : (w.setCell ⟨r, 1, none⟩ (.int .i64 (p + 1))).cell? ⟨r, 0, none⟩ = some (.slice a len cap) := by
    rw [World.cell?_setCell_other _ _ _ _ (by intro e; injection e; omega)]; exact h5
  have h7' : Bytes (w.setCell ⟨r, 1, none⟩ (.int .i64 (p + 1))) S a len := fun hl => by
    obtain ⟨b, off, ha, hbS, hc⟩ := h7 hl
    refine ⟨b, off, ha, hbS, fun i hi => ?_⟩
    obtain ⟨x, x1, x2, hx⟩ := hc i hi
    exact ⟨x, x1, x2, by rw [World.cell?_setCell_other _ _ _ _ (by intro e; injection e; omega)]; exact hx⟩
  have hR := Lib.hid (show Rdr (w.setCell ⟨r, 1, none⟩ (.int .i64 (p + 1))) r S (p + 1) from
    ⟨h1, by rw [World.frozen?_setCell]; exact h2, by rw [World.frozen?_setCell]; exact h3, g1, a, len, cap, g0, h6, h7'⟩)
  have hO := Lib.hid (only_set (r := r) (w := w) 1 (.int .i64 (p + 1)))
  have hR' : Hid (∀ k, Rdr ((w.setCell ⟨r, 1, none⟩ (.int .i64 (p + 1))).drewN k) r S (p + 1)) := Lib.hid (fun k => hR.out)
  by_cases hn1 : n < 1
  · clear h7 h7'
    go_enter Tryz.func25, Tryz.ntmps25
    go_wp2
    go_ret
    exact ⟨0, rfl, picked_e, hR.out, hO.out⟩
  · by_cases hlen : len = 0
    · subst hlen
      clear h7 h7'
      go_enter Tryz.func25, Tryz.ntmps25
      go_wp2
      go_ret
      exact ⟨0, rfl, picked_e, hR.out, hO.out⟩
    · obtain ⟨b, off, rfl, hbS, hc⟩ := h7' (by omega)
      have hlz : (((len : Nat) : Int) == 0) = false := by simp; omega
      have hl1 : (1 : Int) ≤ (len : Nat) := by omega
      have hl2 : ((len : Nat) : Int) ≤ 2000 := by omega
      clear h7
      by_cases hlt : p < (len : Nat)
      · obtain ⟨x, x1, x2, hx⟩ := hc p.toNat (by omega)
        have hpk := Lib.hid (picked_mod (n := n) (X := x) (by omega) hn)
        clear hc hlen
        go_enter Tryz.func25, Tryz.ntmps25
        go_wp2
        go_ret
        exact ⟨_, rfl, hpk.out, hR.out, hO.out⟩
      · obtain ⟨x, x1, x2, hx⟩ := hc (p % (len : Nat)).toNat (by have := Int.emod_lt_of_pos p (show (0 : Int) < (len : Nat) by omega); have := Int.emod_nonneg p (show ((len : Nat) : Int) ≠ 0 by omega); omega)
        obtain ⟨y, y1, y2, hy⟩ := hc ((p * 7 + 3) % (len : Nat)).toNat (by have := Int.emod_lt_of_pos (p * 7 + 3) (show (0 : Int) < (len : Nat) by omega); have := Int.emod_nonneg (p * 7 + 3) (show ((len : Nat) : Int) ≠ 0 by omega); omega)
        have m1 := Int.emod_nonneg p (show ((len : Nat) : Int) ≠ 0 by omega)
        have m2 := Int.emod_lt_of_pos p (show (0 : Int) < (len : Nat) by omega)
        have m3 := Int.emod_nonneg (p * 7 + 3) (show ((len : Nat) : Int) ≠ 0 by omega)
        have m4 := Int.emod_lt_of_pos (p * 7 + 3) (show (0 : Int) < (len : Nat) by omega)
        have q1 : 0 ≤ p / (len : Nat) := Int.ediv_nonneg p0 (by omega)
        have hX := Lib.hid (xor_i64 (x * 131 + y * 1117 + p * 29 + p / (len : Nat) * 53) (by have := Int.ediv_nonneg p0 (show (0 : Int) ≤ (len : Nat) by omega); omega) (by have := Int.ediv_le_self (len : Nat) p0; omega)).1
        have q2 : p / (len : Nat) ≤ 1000000 := Int.le_trans (Int.ediv_le_self _ p0) p1
        clear hc hlen
        go_enter Tryz.func25, Tryz.ntmps25
        go_wp2
        go_quiet (fail)
        go_wp2
        go_ret
        exact ⟨_, rfl, picked_tmod hX.out (by omega) hn, hR'.out _, hO.out.drewN _⟩

theorem rd_open (v : Value) (a : Option Addr) (len cap : Nat) (w : World) (hv : v = .slice a len cap) (hc : len ≤ cap) (hcap : cap ≤ 9223372036854775807) (hB : Bytes w w.heap.size a len) : Calls Tryz.prog 24 #[v] w fun e w' =>
    ∃ r, e = .returned (.pointer (some ⟨r, 0, none⟩)) ∧ r = w.heap.size ∧ Rdr w' r w.heap.size 0 ∧ Below w.heap.size w w' ∧ w'.heap.size = w.heap.size + 1 := by
  subst hv
  have mk : ∀ l, l ≤ len → l ≤ 2000 → ∀ c, Hid (Rdr (w.alloc (.cells #[.slice a l c, .int .i64 0] 78)) w.heap.size w.heap.size 0) := fun l hl hl2 c => by
    refine ⟨Nat.le_refl _, World.frozen?_alloc_at _ _ _ _ rfl, World.frozen?_alloc_at _ _ _ _ rfl, by rw [World.cell?_alloc_at _ _ _ _ rfl]; rfl, a, l, c, by rw [World.cell?_alloc_at _ _ _ _ rfl]; rfl, hl2, fun hp => ?_⟩
    obtain ⟨b, off, ha, hbS, hcc⟩ := hB (by omega)
    refine ⟨b, off, ha, hbS, fun i hi => ?_⟩
    obtain ⟨x, x1, x2, hx⟩ := hcc i (by omega)
    exact ⟨x, x1, x2, by rw [World.cell?_alloc_past _ _ _ hbS]; exact hx⟩
  by_cases hbig : 2000 < len
  · have m := mk 2000 (by omega) (Nat.le_refl _) cap
    obtain ⟨b, off, rfl, hbS, hcc⟩ := hB (by omega)
    have k1 : (2000 : Int) ≤ (cap : Nat) := by omega
    clear mk hcc
    go_enter Tryz.func24, Tryz.ntmps24
    go_wp2
    go_ret
    exact ⟨_, rfl, rfl, m.out, (Below.refl _ _).alloc (Nat.le_refl _) _, by simp⟩
  · have m := mk len (Nat.le_refl _) (by omega) cap
    clear mk
    go_enter Tryz.func24, Tryz.ntmps24
    go_wp2
    go_ret
    exact ⟨_, rfl, rfl, m.out, (Below.refl _ _).alloc (Nat.le_refl _) _, by simp⟩

/-- what a drawn number of points is. -/
def drawnPts (n : Int) : Prop := n = 0 ∨ n = 9 ∨ (1 ≤ n ∧ n ≤ 6)
theorem Rdr.lt {w : World} {r S : Nat} {p : Int} (h : Rdr w r S p) : r < w.heap.size := cell_lt h.2.2.2.1
theorem Rdr.alloc {w : World} {r S : Nat} {p : Int} (h : Rdr w r S p) (o : Obj) : Rdr (w.alloc o) r S p := h.below ((Below.refl _ w).alloc (Nat.le_refl _) o) h.lt
theorem Rdr.drewN {w : World} {r S : Nat} {p : Int} (h : Rdr w r S p) (n : Nat) : Rdr (w.drewN n) r S p := h
set_option maxRecDepth 100000 in
theorem rd_points (r S : Nat) (p : Int) (w : World) (h : Rdr w r S p) (p0 : 0 ≤ p) (p1 : p ≤ 999990) : Calls Tryz.prog 35 #[.pointer (some ⟨r, 0, none⟩)] w fun e w' =>
    ∃ n, e = .returned (.int .i64 n) ∧ drawnPts n ∧ Rdr w' r S (p + 2) ∧ Only r w w' := by
  have h1 := Lib.hid (rd_pick r S p 30 w h p0 (by omega) (by omega))
  have ep : p + 1 + 1 = p + 2 := by omega
  clear h
  go_enter Tryz.func35, Tryz.ntmps35
  go_wp2_with fail
  refine (h1.out).mono ?_
  rintro e w1 ⟨x, rfl, hx, hR1, hO1⟩
  have hR1 := Lib.hid hR1
  have hO1 := Lib.hid hO1
  rcases (by by_cases e : x = 0 <;> simp [e] : (x == 0) = true ∨ (x == 0) = false) with hz | hz
  · have hlt := hR1.out.lt
    go_wp2_with fail
    refine (rd_pick r S (p + 1) 2 _ (hR1.out.alloc _) (by omega) (by omega) (by omega)).mono ?_
    rintro e w2 ⟨y, rfl, ⟨y1, y2, y3, y4⟩, hR2, hO2⟩
    have y5 : y < 2 := y3 (by omega)
    have hc : ∀ j, (w1.alloc (.cells #[.int .i64 0, .int .i64 9] 3)).cell? ⟨w1.heap.size, j, none⟩ = (#[Value.int .i64 0, .int .i64 9] : Array Value)[j]? := fun j => by
      rw [World.cell?_alloc_at _ _ _ _ rfl]
    have hc0 := hO2.cell (hc 0) (by simp; omega)
    have hc1 := hO2.cell (hc 1) (by simp; omega)
    have hR2 := Lib.hid hR2
    have hO2 := Lib.hid (hO1.out.trans ((Only.refl r w1).alloc _ |>.trans hO2))
    clear y3 y4 hc
    rcases (by omega : y = 0 ∨ y = 1) with rfl | rfl
    · go_wp2_with fail
      go_ret
      exact ⟨0, rfl, .inl rfl, ep ▸ hR2.out, hO2.out⟩
    · go_wp2_with fail
      go_ret
      exact ⟨9, rfl, .inr (.inl rfl), ep ▸ hR2.out, hO2.out⟩
  · clear hx
    go_wp2_with fail
    refine (rd_pick r S (p + 1) 6 _ hR1.out (by omega) (by omega) (by omega)).mono ?_
    rintro e w2 ⟨y, rfl, ⟨y1, y2, y3, y4⟩, hR2, hO2⟩
    have y5 : y < 6 := y3 (by omega)
    have hR2 := Lib.hid hR2
    have hO2 := Lib.hid hO2
    clear y3 y4
    go_wp2_with fail
    go_ret
    exact ⟨_, rfl, .inr (.inr ⟨by omega, by omega⟩), ep ▸ hR2.out, hO1.out.trans hO2.out⟩

theorem wf_u8 {n : Int} (h : (Lit.int .u8 n).wf = true) : 0 ≤ n ∧ n < 256 := by
  have hmin : IntKind.u8.min = 0 := by decide
  have hmax : IntKind.u8.max = 255 := by decide
  simp [Lit.wf, hmin, hmax] at h
  omega
/-- what a frame knows of the code that came in. -/
theorem bytes_of {w : World} {a : Option Addr} {len cap : Nat} {zs : List Int}
    (h : (a = none ∧ len = 0 ∧ cap = 0 ∧ zs = []) ∨ ∃ x, a = some x ∧ len ≤ cap ∧ cap ≤ maxLen ∧ zs.length = cap ∧ (∀ i, i < zs.length → w.cell? (x.add i) = some (.int .u8 (zs.getD i 0))) ∧ ∀ n ∈ zs, (Lit.int .u8 n).wf = true) :
    len ≤ cap ∧ cap ≤ 9223372036854775807 ∧ Bytes w w.heap.size a len := by
  rcases h with ⟨rfl, rfl, rfl, rfl⟩ | ⟨x, rfl, hl, hm, hz, hc, hw⟩
  · exact ⟨Nat.le_refl _, by omega, fun h => by omega⟩
  · refine ⟨hl, by unfold maxLen at hm; omega, fun hp => ?_⟩
    have h0 := hc 0 (by omega)
    obtain ⟨b, off, spot⟩ := x
    have hspot : spot = none := by simpa [Addr.add] using World.cell?_spot h0
    subst hspot
    have hadd : ∀ i, (⟨b, off, none⟩ : Addr).add i = ⟨b, off + i, none⟩ := fun i => by simp [Addr.add]
    refine ⟨b, off, rfl, ?_, fun i hi => ?_⟩
    · have := cell_lt h0
      rw [hadd] at this
      exact this
    · have hi' : i < zs.length := by omega
      have hm := hw (zs.getD i 0) (by rw [List.getD_eq_getElem?_getD, List.getElem?_eq_getElem hi']; exact List.getElem_mem hi')
      have := wf_u8 hm
      exact ⟨_, this.1, this.2, by rw [← hadd, hc i hi']⟩

end
section
/- The laws' reader: drawn sets. -/
open Go.ChangeShapes Go.WideShapes Go.ChangeAt Go.RowKit Go.Proofs

theorem cap_at (n : Int) (h0 : 0 ≤ n) (h9 : n ≤ 9) (w : World) : Calls Tryz.prog 133 #[.int .i64 n] w fun e w' => ∃ c, e = .returned (.int .i64 c) ∧ (1 ≤ c ∧ c ≤ 256) ∧ w = w' := by
  rcases (by omega : n = 0 ∨ n = 1 ∨ n = 2 ∨ n = 3 ∨ n = 4 ∨ n = 5 ∨ n = 6 ∨ n = 7 ∨ n = 8 ∨ n = 9) with rfl | rfl | rfl | rfl | rfl | rfl | rfl | rfl | rfl | rfl
  all_goals
    go_enter Tryz.func133, Tryz.ntmps133
    go_wp2
    go_ret
    exact ⟨_, rfl, ⟨by decide +kernel, by decide +kernel⟩, rfl⟩
/-- what a draw of a number leaves. -/
def NumDraw (r S : Nat) (p : Int) (w : World) (e : Ending) (w' : World) : Prop := ∃ s p', e = .returned (.int .i64 s) ∧ -1 ≤ s ∧ s ≤ 1000000 ∧ Rdr w' r S p' ∧ 0 ≤ p' ∧ p' ≤ p + 100 ∧ Only r w w'
set_option maxHeartbeats 1000000 in
theorem draw_set (r S : Nat) (p n : Int) (w : World) (h : Rdr w r S p) (p0 : 0 ≤ p) (p1 : p ≤ 900000) (h0 : 0 ≤ n) (h9 : n ≤ 9) : Calls Tryz.prog 69 #[.pointer (some ⟨r, 0, none⟩), .int .i64 n] w (NumDraw r S p w) := by
  have h1 := Lib.hid (rd_pick r S p 24 w h p0 (by omega) (by omega))
  have hcap := Lib.hid (cap_at n h0 h9)
  clear h
  go_enter Tryz.func69, Tryz.ntmps69
  go_wp2_with fail
  refine (h1.out).mono ?_
  rintro e w1 ⟨x, rfl, hx, hR1, hO1⟩
  replace hR1 := Lib.hid hR1
  replace hO1 := Lib.hid hO1
  clear hx
  rcases (by by_cases e : x = 0 <;> simp [e] : (x == 0) = true ∨ (x == 0) = false) with hz | hz
  · go_wp2_with fail
    refine (hcap.out _).mono ?_
    rintro e w' ⟨c, rfl, ⟨c1, c2⟩, rfl⟩
    have hR2 := Lib.hid (rd_pick r S (p + 1) 2 _ (hR1.out.alloc (.cells #[.int .i64 (-1), .int .i64 c] 3)) (by omega) (by omega) (by omega))
    have hlt := hR1.out.lt
    go_wp2_with fail
    refine (hR2.out).mono ?_
    rintro e w2 ⟨y, rfl, ⟨y1, y2, y3, y4⟩, hR3, hO3⟩
    have y5 : y < 2 := y3 (by omega)
    have hc : ∀ j, (w1.alloc (.cells #[.int .i64 (-1), .int .i64 c] 3)).cell? ⟨w1.heap.size, j, none⟩ = (#[Value.int .i64 (-1), .int .i64 c] : Array Value)[j]? := fun j => by
      rw [World.cell?_alloc_at _ _ _ _ rfl]
    have hc0 := hO3.cell (hc 0) (by simp; omega)
    have hc1 := hO3.cell (hc 1) (by simp; omega)
    replace hR3 := Lib.hid hR3
    replace hO3 := Lib.hid (hO1.out.trans ((Only.refl r w1).alloc _ |>.trans hO3))
    clear y3 y4 hc hR2
    rcases (by omega : y = 0 ∨ y = 1) with rfl | rfl
    · go_wp2_with fail
      go_ret
      exact ⟨_, _, rfl, by omega, by omega, hR3.out, by omega, by omega, hO3.out⟩
    · go_wp2_with fail
      go_ret
      exact ⟨_, _, rfl, by omega, by omega, hR3.out, by omega, by omega, hO3.out⟩
  · go_wp2_with fail
    refine (hcap.out _).mono ?_
    rintro e w' ⟨c, rfl, ⟨c1, c2⟩, rfl⟩
    have hR2 := Lib.hid (rd_pick r S (p + 1) c _ hR1.out (by omega) (by omega) (by omega))
    go_wp2_with fail
    refine (hR2.out).mono ?_
    rintro e w2 ⟨y, rfl, ⟨y1, y2, y3, y4⟩, hR3, hO3⟩
    replace hR3 := Lib.hid hR3
    replace hO3 := Lib.hid (hO1.out.trans hO3)
    clear y3 y4 hR2
    go_wp2_with fail
    go_ret
    exact ⟨_, _, rfl, by omega, by omega, hR3.out, by omega, by omega, hO3.out⟩
/-- what a draw of a number and a set gives. -/
def OneDraw (w : World) (e : Ending) (w' : World) : Prop := ∃ n s, e = .returned (.tuple #[.int .i64 n, .int .i64 s]) ∧ Below w.heap.size w w'
set_option maxRecDepth 100000 in
set_option maxHeartbeats 1000000 in
theorem draw_one (v : Value) (a : Option Addr) (len cap : Nat) (w : World) (hv : v = .slice a len cap) (hc : len ≤ cap) (hcap : cap ≤ 9223372036854775807) (hB : Bytes w w.heap.size a len) :
    Calls Tryz.prog 42 #[v] w (OneDraw w) := by
  have h0 := Lib.hid (rd_open v a len cap w hv hc hcap hB)
  clear hv hc hcap hB
  go_enter Tryz.func42, Tryz.ntmps42
  go_wp2_with fail
  refine (h0.out).mono ?_
  rintro e w0 ⟨r, rfl, hr, hR0, hb0, hz0⟩
  have hrw : w.heap.size ≤ r := by omega
  replace hr := Lib.hid hr
  replace hR0 := Lib.hid hR0
  replace hb0 := Lib.hid hb0
  go_wp2_with fail
  refine (rd_points r _ 0 w0 hR0.out (by omega) (by omega)).mono ?_
  rintro e w1 ⟨n, rfl, hn, hR1, hO1⟩
  have hn1 : 0 ≤ n ∧ n ≤ 9 := by unfold drawnPts at hn; omega
  obtain ⟨hn1, hn2⟩ := hn1
  have hb1 := Lib.hid (hO1.below hb0.out hrw hb0.out.size)
  replace hR1 := Lib.hid hR1
  clear hn hO1 hR0
  go_wp2_with fail
  refine (draw_set r _ (0 + 2) n w1 hR1.out (by omega) (by omega) hn1 hn2).mono ?_
  rintro e w2 ⟨s, p2, rfl, s1, s2, hR2, q1, q2, hO2⟩
  have hb2 := Lib.hid (hO2.below hb1.out hrw hb1.out.size)
  clear hO2 hR1 hR2
  go_wp2_with fail
  go_ret2
  exact ⟨_, _, rfl, hb2.out⟩
end
section
/- The laws' reader: drawn families and sets. -/
open Go.ChangeShapes Go.WideShapes Go.ChangeAt Go.RowKit Go.Proofs

theorem part_at (a b : Int) (w : World) : Calls Tryz.prog 238 #[.int .i64 a, .int .i64 b] w fun e w' => ∃ c, e = .returned (.bool c) ∧ w = w' := by
  go_enter Tryz.func238, Tryz.ntmps238
  go_wp2
  go_ret
  exact ⟨_, rfl, rfl⟩

end
section
/- The laws' reader: sets below or above those of a list. -/
open Go.ChangeShapes Go.WideShapes Go.ChangeAt Go.RowKit Go.Proofs

/-- some list of at most m numbers. -/
def SomeInts (m : Nat) (w : World) (e : Ending) (w' : World) : Prop := ∃ v L, e = .returned v ∧ L.length ≤ m ∧ OwnL w' w.heap.size v L ∧ Below w.heap.size w w'
set_option maxHeartbeats 4000000 in
theorem closed_at (n : Int) (lv : Value) (xs : List Int) (S : Nat) (dn : Bool) (w : World) (hx : Row w S lv xs) (hS : S ≤ w.heap.size) (hl : xs.length ≤ 1000) (n1 : 1 ≤ n) (n2 : n ≤ 8) :
    Calls Tryz.prog 169 #[.int .i64 n, lv, .bool dn] w (SomeInts 256 w) := by
  obtain ⟨a, cap, rfl, ha⟩ := hx
  obtain ⟨p1, p2, p3⟩ := pow_nat n1 n2
  obtain ⟨N, hN⟩ : ∃ N : Nat, 2 ^ n.toNat = N := ⟨_, rfl⟩
  rw [hN] at p1 p2 p3
  have hNi : (2 : Int) ^ n.toNat = (N : Nat) := by rw [← hN]; simp
  replace ha := Lib.hid ha
  replace hN := Lib.hid hN
  replace hNi := Lib.hid hNi
  have hn0 : (0 : Int) ≤ n := by omega
  have hn64 : n < 64 := by omega
  go_enter Tryz.func169, Tryz.ntmps169
  go_wp2_with fail
  go_loopw [7, 8] (fun v q wr => ∃ (k : Nat) (L : List Int), k ≤ N ∧ q = .int .i64 k ∧ L.length ≤ k ∧ Hid (OwnL wr w.heap.size v L) ∧ Hid (Below w.heap.size w wr)) (fun _ q _ => N - (intOf q).toNat)
  case atStart => exact ⟨0, [], by omega, rfl, by simp, Lib.hid (OwnL.lit w (Nat.le_refl _)), Lib.hid ((Below.refl _ _).alloc (Nat.le_refl _) _)⟩
  case round =>
    obtain ⟨k, L, hk, rfl, hLk, hown, hbel⟩ := hrel
    obtain ⟨a', c', rfl⟩ := hown.out.form
    have hsz := hbel.out.size
    by_cases hlt : k < N
    · have k1 : (0 : Int) ≤ (k : Int) := by omega
      have k2 : (k : Int) < (N : Nat) := by omega
      have hr := Lib.hid (show ∀ j, j < xs.length → ∃ b off, a = some ⟨b, off, none⟩ ∧ wr.cell? ⟨b, off + j, none⟩ = some (.int .i64 (xs.getD j 0)) from fun j hj => by
        obtain ⟨b1, o1, e, s1, c1⟩ := ha.out (by omega)
        exact ⟨b1, o1, e, (hbel.out.cell (p := ⟨b1, o1 + j, none⟩) (show b1 < w.heap.size by omega)).trans (c1 j hj)⟩)
      go_wp2_with fail
      replace p3 := Lib.hid p3
      go_loop [9, 10] (fun b i => ∃ (j : Nat) (bb : Bool), j ≤ xs.length ∧ i = .int .i64 j ∧ b = .bool bb) (fun _ i => xs.length - (intOf i).toNat)
      case atStart => exact ⟨0, false, by omega, rfl, rfl⟩
      case round =>
        obtain ⟨j, bb, hj, rfl, rfl⟩ := hrel
        by_cases hlj : j < xs.length
        · obtain ⟨b1, o1, rfl, e1⟩ := hr.out j hlj
          have j1 : (0 : Int) ≤ (j : Int) := by omega
          have j2 : (j : Int) < (xs.length : Nat) := by omega
          obtain ⟨x, hx0⟩ : ∃ x, xs.getD j 0 = x := ⟨_, rfl⟩
          rw [hx0] at e1
          replace hx0 := Lib.hid hx0
          cases bb
          · cases dn
            · go_wp2_with fail
              refine (part_at _ _ _).mono ?_
              rintro e w' ⟨c9, rfl, rfl⟩
              cases c9
              all_goals
                go_wp2_with fail
                first | (exact ⟨⟨j + 1, _, by omega, by go_num, rfl⟩, by simp [intOf]; omega⟩) | (refine ⟨⟨trivial, ?_⟩, by simp [intOf]; omega⟩; (repeat apply Exists.intro); refine ⟨?_, rfl⟩; exact ⟨j + 1, _, by omega, by go_num, rfl⟩)
            · go_wp2_with fail
              refine (part_at _ _ _).mono ?_
              rintro e w' ⟨c9, rfl, rfl⟩
              cases c9
              all_goals
                go_wp2_with fail
                first | (exact ⟨⟨j + 1, _, by omega, by go_num, rfl⟩, by simp [intOf]; omega⟩) | (refine ⟨⟨trivial, ?_⟩, by simp [intOf]; omega⟩; (repeat apply Exists.intro); refine ⟨?_, rfl⟩; exact ⟨j + 1, _, by omega, by go_num, rfl⟩)
          · cases dn
            all_goals
              go_wp2_with fail
              first | (exact ⟨⟨j + 1, _, by omega, by go_num, rfl⟩, by simp [intOf]; omega⟩) | (refine ⟨⟨trivial, ?_⟩, by simp [intOf]; omega⟩; (repeat apply Exists.intro); refine ⟨?_, rfl⟩; exact ⟨j + 1, _, by omega, by go_num, rfl⟩)
        · obtain rfl : j = xs.length := by omega
          cases bb
          · go_wp2_with fail
            first | (exact ⟨⟨k + 1, L, by omega, by go_num, by omega, hown, hbel⟩, by simp [intOf]; omega⟩) | (go_roundw; (case rel => exact ⟨k + 1, L, by omega, by go_num, by omega, hown, hbel⟩); (case measure => simp [intOf]; omega))
          · have hB1 : w.heap.size ≤ (wr.alloc (.cells #[.int .i64 (k : Int)] 3)).heap.size := by rw [World.size_alloc]; omega
            go_wp2_with (at_builtin; refine app_int rfl _ _ rfl w.heap.size _ L rfl (hown.out.alloc _) (k : Int) wr.heap.size rfl (cell_new _ _ _) (by omega) hB1 ?_; intro v' w1 hown1 hb1)
            replace hown1 := Lib.hid hown1
            have hb2 := Lib.hid ((hbel.out.alloc hsz _).trans hb1)
            have hlen1 : (L ++ [(k : Int)]).length ≤ k + 1 := by simp; omega
            first | (exact ⟨⟨k + 1, _, by omega, by go_num, hlen1, hown1, hb2⟩, by simp [intOf]; omega⟩) | (go_roundw; (case rel => exact ⟨k + 1, _, by omega, by go_num, hlen1, hown1, hb2⟩); (case measure => simp [intOf]; omega))
    · obtain rfl : k = N := by omega
      go_wp2_with fail
      go_ret
      exact ⟨_, L, rfl, by omega, hown.out, hbel.out⟩

end
section
/- The laws' reader: drawn families. -/
open Go.ChangeShapes Go.WideShapes Go.ChangeAt Go.RowKit Go.Proofs

theorem Own.only {r : Nat} {w w' : World} {C S : Nat} {v : Value} {xs : List Int} (h : Own w C S v xs) (ho : Only r w w') (hr : r < C) (hS : S ≤ w.heap.size) : Own w' C S v xs := by
  obtain ⟨a, cap, rfl, h⟩ := h
  refine ⟨a, cap, rfl, fun hl => ?_⟩
  obtain ⟨b, off, rfl, hB, hs, hc, hf⟩ := h hl
  have hb : w'.heap[b]? = w.heap[b]? := ho.block b (by omega) (by intro e; injection e; omega)
  exact ⟨b, off, rfl, hB, hs, fun i hi => (World.cell?_of_block (a := ⟨b, off + i, none⟩) hb).trans (hc i hi), fun i hi => (World.frozen?_of_block (a := ⟨b, off + i, none⟩) hb).trans (hf i hi)⟩
theorem Only.then {r B : Nat} {a w w' : World} (h : Only r a w) (hb : Below B w w') (hB : a.heap.size ≤ B) : Only r a w' :=
  ⟨hb.os.trans h.os, hb.tape.trans h.tape, hb.output.trans h.output, Nat.le_trans h.size hb.size, fun i hi hne => (hb.block i (by omega)).trans (h.block i hi hne)⟩
/-- what a drawn family is. -/
def FamDraw (r S : Nat) (p : Int) (w : World) (e : Ending) (w' : World) : Prop := ∃ v L p', e = .returned v ∧ L.length ≤ 300 ∧ Own w' w.heap.size w'.heap.size v L ∧ Rdr w' r S p' ∧ 0 ≤ p' ∧ p' ≤ p + 100 ∧ Only r w w'
/-- what a draw of a number, a family and a set gives. -/
def BothDraw (w : World) (e : Ending) (w' : World) : Prop := ∃ n u xs s, e = .returned (.tuple #[.int .i64 n, u, .int .i64 s]) ∧ xs.length ≤ 300 ∧ Own w' w.heap.size w'.heap.size u xs ∧ Below w.heap.size w w'
end
section
/- The laws' reader: families drawn alone, in twos, with a point. -/
open Go.ChangeShapes Go.WideShapes Go.ChangeAt Go.RowKit Go.Proofs

/-- what a draw of a number and a family gives. -/
def GivenDraw (w : World) (e : Ending) (w' : World) : Prop := ∃ n u xs, e = .returned (.tuple #[.int .i64 n, u]) ∧ xs.length ≤ 300 ∧ Own w' w.heap.size w'.heap.size u xs ∧ Below w.heap.size w w'
/-- what a draw of a number and two families gives. -/
def TwoDraw (w : World) (e : Ending) (w' : World) : Prop := ∃ n u xs v ys, e = .returned (.tuple #[.int .i64 n, u, v]) ∧ xs.length ≤ 300 ∧ ys.length ≤ 300 ∧ Own w' w.heap.size w'.heap.size u xs ∧ Own w' w.heap.size w'.heap.size v ys ∧ Below w.heap.size w w'
/-- what a draw of a number, a family and a point gives. -/
def WithDraw (w : World) (e : Ending) (w' : World) : Prop := ∃ n u xs p, e = .returned (.tuple #[.int .i64 n, u, .int .i64 p]) ∧ xs.length ≤ 300 ∧ Own w' w.heap.size w'.heap.size u xs ∧ Below w.heap.size w w'
end
end Go.Proofs.YtojfamjgghikoaaGreatDoor
