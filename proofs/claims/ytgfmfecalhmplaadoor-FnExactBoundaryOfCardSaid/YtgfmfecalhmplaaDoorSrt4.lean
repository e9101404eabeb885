/- A list of sets sorted in place: bits.Len, random numbers, pivots. -/
import Derived.Test.YtgfmfecalhmplaaDoorSrt3
import Derived.Lib.Tables
namespace Go.Proofs.YtgfmfecalhmplaaDoor
open Go.ChangeShapes Go.WideShapes Go.ChangeAt Go.RowKit Go.Proofs

theorem tab_size : Lib.len8tab.size = 256 := by decide +kernel
theorem tab_dec : ∀ i : Fin 256, 1 ≤ i.val → (2 : Nat) ^ (Lib.len8tab[i.val]'(by rw [tab_size]; exact i.isLt)).toNat ≤ 2 * i.val ∧ (Lib.len8tab[i.val]'(by rw [tab_size]; exact i.isLt)).toNat ≤ 8 := by decide +kernel
/-- what bits.Len says. -/
def LenPost (x : Int) (w : World) (e : Ending) (w' : World) : Prop := ∃ r : Nat, e = .returned (.int .i64 r) ∧ r ≤ 9 ∧ ((2 ^ r : Nat) : Int) ≤ 2 * x ∧ w = w'
set_option maxHeartbeats 1000000 in
set_option maxRecDepth 1000000 in
theorem len64_lo (x : Int) (h0 : 1 ≤ x) (h1 : x < 256) (w : World) : Calls Tryd.prog 120 #[.int .u64 x] w (LenPost x w) := by
  have hx : x.toNat < Lib.len8tab.size := by rw [tab_size]; omega
  obtain ⟨t1, t2⟩ := tab_dec ⟨x.toNat, by omega⟩ (by show 1 ≤ x.toNat; omega)
  have t1 := Lib.hid t1
  have t2 := Lib.hid t2
  replace hx := Lib.hid hx
  have hsz := Lib.hid tab_size
  go_enter Tryd.func120, Tryd.ntmps120
  go_wp2
  · go_ret
    refine ⟨(Lib.len8tab[x.toNat]'hx.out).toNat, ret_int (by first | rfl | (have := t2.out; unfold wrap64; omega)), by have := t2.out; omega, ?_, rfl⟩
    have h2 : ((2 ^ (Lib.len8tab[x.toNat]'hx.out).toNat : Nat) : Int) ≤ ((2 * x.toNat : Nat) : Int) := Int.ofNat_le.2 t1.out
    omega
  · exfalso
    have := hsz.out
    omega
set_option maxHeartbeats 1000000 in
set_option maxRecDepth 1000000 in
theorem len64_hi (w : World) : Calls Tryd.prog 120 #[.int .u64 256] w (LenPost 256 w) := by
  go_enter Tryd.func120, Tryd.ntmps120
  go_wp2
  go_ret
  exact ⟨9, ret_int (by decide +kernel), by omega, by omega, rfl⟩
theorem len_ok (x : Int) (h0 : 1 ≤ x) (h1 : x ≤ 256) (w : World) : Calls Tryd.prog 109 #[.int .u64 x] w (LenPost x w) := by
  have h64 : ∀ W, Calls Tryd.prog 120 #[.int .u64 x] W (LenPost x W) := fun W => by
    by_cases h : x < 256
    · exact len64_lo x h0 h W
    · obtain rfl : x = 256 := by omega
      exact len64_hi W
  replace h64 := Lib.hid h64
  go_enter Tryd.func109, Tryd.ntmps109
  go_wp2_with (go_at_call 120; refine (h64.out _).mono ?_; rintro e w' ⟨r, rfl, r1, r2, rfl⟩)
  go_ret
  exact ⟨r, rfl, r1, r2, rfl⟩
theorem wrap_pow : ∀ r : Fin 10, IntKind.u64.wrap ((2 : Int) ^ r.val) = ((2 ^ r.val : Nat) : Int) ∧ 1 ≤ 2 ^ r.val ∧ 2 ^ r.val ≤ 512 := by decide +kernel
theorem ret_u {a b : Int} (h : a = b) : Ending.returned (.int .u64 a) = .returned (.int .u64 b) := by rw [h]
theorem next_pow (x : Int) (h0 : 1 ≤ x) (h1 : x ≤ 256) (w : World) : Calls Tryd.prog 122 #[.int .i64 x] w fun e w' => ∃ M : Nat, e = .returned (.int .u64 M) ∧ 1 ≤ M ∧ M ≤ 512 ∧ (M : Int) ≤ 2 * x ∧ w = w' := by
  have h := Lib.hid (len_ok x h0 h1)
  go_enter Tryd.func122, Tryd.ntmps122
  go_wp2_with (go_at_call 109; refine (h.out _).mono ?_; rintro e w' ⟨r, rfl, r1, r2, rfl⟩)
  obtain ⟨p1, p2, p3⟩ := wrap_pow ⟨r, by omega⟩
  go_ret
  exact ⟨2 ^ r, ret_u p1, p2, p3, r2, rfl⟩
/-- what a 64-bit operator leaves lies in range. -/
theorem u64_rng (x : Int) : 0 ≤ IntKind.u64.wrap x ∧ IntKind.u64.wrap x < 18446744073709551616 := by
  rw [IntKind.wrap_u64]; omega
theorem xor_rng (a b : Int) : 0 ≤ bits .xor .u64 a b ∧ bits .xor .u64 a b < 18446744073709551616 := by
  show 0 ≤ IntKind.u64.wrap _ ∧ IntKind.u64.wrap _ < 18446744073709551616
  exact u64_rng _
theorem St.other {g cap : Nat} {xs : List Int} {w0 w : World} (h : St g cap xs w0 w) {p : Addr} (hp : p.block ≠ g) (hb : w0.heap.size ≤ p.block) (v : Value) : St g cap xs w0 (w.setCell p v) := by
  obtain ⟨ys, hq, ⟨cur, h1, h2, h3, h4⟩, hg⟩ := h
  refine ⟨ys, hq, ⟨cur, (heap_setCell_other w p g v (fun e => hp e.symm)).trans h1, h2, h3, h4⟩, ⟨hg.os, hg.tape, hg.output, Nat.le_trans hg.size (by simp [World.setCell]), fun j hj hne => ?_⟩⟩
  exact (heap_setCell_other w p j v (by omega)).trans (hg.block j hj hne)
/-- what a call that turns cell b alone leaves. -/
def TurnB (b : Nat) (w w' : World) : Prop := (∃ y, w'.cell? ⟨b, 0, none⟩ = some (.int .u64 y)) ∧ w'.frozen? ⟨b, 0, none⟩ = false ∧ w'.heap.size = w.heap.size ∧ ∀ (g cap : Nat) (xs : List Int) (w0 : World), b ≠ g → w0.heap.size ≤ b → St g cap xs w0 w → St g cap xs w0 w'
theorem TurnB.step {b : Nat} {w w1 : World} (h : TurnB b w w1) (x : Int) : TurnB b w ((w1.setCell ⟨b, 0, none⟩ (.int .u64 x)).drew) := by
  obtain ⟨⟨y, hy⟩, hf, hz, hs⟩ := h
  refine ⟨⟨x, World.cell?_setCell_same _ _ _ hy⟩, ?_, ?_, fun g cap xs w0 h1 h2 h3 => (St.other (hs g cap xs w0 h1 h2 h3) h1 h2 _).drew⟩
  · show (w1.setCell ⟨b, 0, none⟩ (.int .u64 x)).frozen? ⟨b, 0, none⟩ = false
    simpa using hf
  · show (w1.setCell ⟨b, 0, none⟩ (.int .u64 x)).heap.size = w.heap.size
    simp [World.setCell]; exact hz
theorem TurnB.refl {b : Nat} {w : World} {x : Int} (h : w.cell? ⟨b, 0, none⟩ = some (.int .u64 x)) (hf : w.frozen? ⟨b, 0, none⟩ = false) : TurnB b w w := ⟨⟨x, h⟩, hf, rfl, fun _ _ _ _ _ _ h => h⟩
/-- what Next leaves: some number in the cell. -/
def NextPost (b : Nat) (w : World) (e : Ending) (w' : World) : Prop := ∃ x : Int, e = .returned (.int .u64 x) ∧ 0 ≤ x ∧ x < 18446744073709551616 ∧ TurnB b w w'
set_option maxHeartbeats 1000000 in
theorem next_any (b : Nat) (x : Int) (w : World) (h : w.cell? ⟨b, 0, none⟩ = some (.int .u64 x)) (hf : w.frozen? ⟨b, 0, none⟩ = false) :
    Calls Tryd.prog 123 #[.pointer (some ⟨b, 0, none⟩)] w (NextPost b w) := by
  have ht := TurnB.refl h hf
  obtain ⟨y1, e1⟩ : ∃ y, bits .xor .u64 x (IntKind.u64.wrap (x * 8192)) = y := ⟨_, rfl⟩
  have h1 := Lib.hid (ht.step y1)
  clear ht
  go_enter Tryd.func123, Tryd.ntmps123
  go_wp2
  go_region
  generalize (w.setCell ⟨b, 0, none⟩ (.int .u64 y1)).drew = w1 at *
  clear e1 h hf
  obtain ⟨⟨x1, c1⟩, f1, z1, s1⟩ := id h1.out
  replace s1 := Lib.hid s1
  obtain ⟨y2, e2⟩ : ∃ y, bits .xor .u64 x1 (x1 / 128) = y := ⟨_, rfl⟩
  have h2 := Lib.hid (h1.out.step y2)
  go_wp2
  go_region
  generalize (w1.setCell ⟨b, 0, none⟩ (.int .u64 y2)).drew = w2 at *
  clear e2 h1 c1 f1 z1 s1
  obtain ⟨⟨x2, c2⟩, f2, z2, s2⟩ := id h2.out
  replace s2 := Lib.hid s2
  have hrg := xor_rng x2 (IntKind.u64.wrap (x2 * 131072))
  obtain ⟨y3, e3⟩ : ∃ y, bits .xor .u64 x2 (IntKind.u64.wrap (x2 * 131072)) = y := ⟨_, rfl⟩
  rw [e3] at hrg
  obtain ⟨r1, r2⟩ := hrg
  have h3 := Lib.hid (h2.out.step y3)
  have c3 : ((w2.setCell ⟨b, 0, none⟩ (.int .u64 y3)).drew).cell? ⟨b, 0, none⟩ = some (.int .u64 y3) := World.cell?_setCell_same _ _ _ c2
  go_wp2
  go_region
  generalize (w2.setCell ⟨b, 0, none⟩ (.int .u64 y3)).drew = w3 at *
  clear e3 h2 c2 f2 z2 s2
  go_wp2
  go_ret
  exact ⟨y3, rfl, r1, r2, h3.out⟩
end Go.Proofs.YtgfmfecalhmplaaDoor
