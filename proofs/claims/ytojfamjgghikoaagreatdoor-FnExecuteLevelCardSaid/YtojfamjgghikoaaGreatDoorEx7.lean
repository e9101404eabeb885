/- Scripts: lines are answered: points, level, show. -/
import Derived.Test.YtojfamjgghikoaaGreatDoorEx6
namespace Go.Proofs.YtojfamjgghikoaaGreatDoor
open Go.ChangeShapes Go.WideShapes Go.ChangeAt Go.RowKit Go.Proofs Go.Shelf

/-- a digit. -/
def dgB (d : Nat) : UInt8 := UInt8.ofNat (48 + d)
theorem dg_parse : ∀ d : Fin 10, Lib.parseUintB 64 [dgB d.val] = .ok d.val := by decide +kernel
theorem only_cell9 {r b o : Nat} {w W : World} (h : Only r w W) (hb : w.heap.size ≤ b) (v : Value) : Only r w (W.setCell ⟨b, o, none⟩ v) :=
  ⟨h.os, h.tape, h.output, by rw [World.size_setCell]; exact h.size, fun i hi hne => (Below.heap_setCell _ _ _ _ (by show i ≠ b; omega)).trans (h.block i hi hne)⟩
theorem Bench.other9 {w : World} {b : Nat} {n : Int} {v : Value} (h : Bench w b n v) {a : Addr} (ha : a.block ≠ b) (u : Value) : Bench (w.setCell a u) b n v := (Below.heap_setCell _ _ _ _ (by exact fun e => ha e.symm)).trans h
/-- the world behind the result's cell. -/
theorem res_at (w : World) (q : Nat) : ((w.alloc (.cells #[.string ⟨#[]⟩] 9)).drewN q).heap[w.heap.size]? = some (.cells #[.string ⟨#[]⟩] 9 (0, 0)) := heap_alloc_new w _
theorem only_res {b : Nat} {w W w' : World} (h1 : Only b W w') (h2 : Below w.heap.size w W) : Only b w w' :=
  (Only.of_below (r := b) h2 (Nat.le_refl _)).trans h1
theorem Only.grows {b : Nat} {w w' : World} (h : Only b w w') : w.heap.size ≤ w'.heap.size := h.size
/-- the line 'points'. -/
def lnP (d : Nat) : ByteArray := ⟨#[112, 111, 105, 110, 116, 115, 32, dgB d]⟩
theorem cutP (d : Nat) : Lib.cut (lnP d).data.toList [32] = ([112, 111, 105, 110, 116, 115], [dgB d], true) := by
  unfold Lib.cut
  rw [Lib.index_one]
  rfl
set_option maxHeartbeats 4000000 in
theorem ans_P (b : Nat) (n0 : Int) (v0 : Value) (d : Nat) (w : World) (hB : Bench w b n0 v0) (h1 : 1 ≤ d) (h8 : d ≤ 8) :
    Calls Tryz.prog 30 #[.pointer (some ⟨b, 0, none⟩), .string (lnP d)] w fun e w' => e = .returned (.string ⟨#[111, 107]⟩) ∧ Bench w' b (d : Nat) (.slice none 0 0) ∧ Only b w w' := by
  have hmf : ∀ (fn : Fn) (first cap : Array Value) (w : World), (Instr.makeFunc fn first cap).run Tryz.prog w = .ok (.func fn first cap) w := fun _ _ _ _ => rfl
  have hcut := fun W => cut_one (lnP d) (by show (8 : Nat) ≤ 1000000; omega) 32 W
  simp only [cutP] at hcut
  have hlt := hB.lt
  obtain ⟨line, hln⟩ : ∃ l, (lnP d) = l := ⟨_, rfl⟩
  rw [hln] at hcut ⊢
  replace hcut := Lib.hid hcut
  replace hln := Lib.hid hln
  replace hB := Lib.hid hB
  go_enter_defers Tryz.func30, Tryz.ntmps30
  go_wp2_with fail
  refine (hcut.out _).mono ?_
  rintro e w1 ⟨rfl, q, rfl⟩
  have hr1 := res_at w q
  have hB1 : Bench ((w.alloc (.cells #[.string ⟨#[]⟩] 9)).drewN q) b n0 v0 := hB.out.below (below_drewN ((Below.refl w.heap.size w).alloc (Nat.le_refl _) _) q) hlt
  have hs1 : ((w.alloc (.cells #[.string ⟨#[]⟩] 9)).drewN q).heap.size = w.heap.size + 1 := by show (w.alloc _).heap.size = _; simp
  have hbw1 := below_drewN ((Below.refl w.heap.size w).alloc (Nat.le_refl _) (.cells #[.string ⟨#[]⟩] 9)) q
  obtain ⟨W1, hW1⟩ : ∃ W1, (w.alloc (.cells #[.string ⟨#[]⟩] 9)).drewN q = W1 := ⟨_, rfl⟩
  rw [hW1] at hr1 hB1 hs1 hbw1 ⊢
  replace hW1 := Lib.hid hW1
  have hs2 : w.heap.size < W1.heap.size := by omega
  replace hs1 := Lib.hid hs1
  go_wp2_with fail
  refine (words_R _).mono ?_
  rintro e w2 ⟨rfl, hm2, hb2⟩
  have hB2 := hB1.below hb2 (by omega)
  have hr2 := (hb2.block w.heap.size (by omega)).trans hr1
  have hz2 := hb2.size
  have hbw2 := hbw1.trans (hb2.mono (by omega))
  have hkn := Lib.hid (known_points _ _ _ hm2)
  have hp := Lib.hid (wb_points b n0 v0 ⟨#[dgB d]⟩ d w2 hB2 (dg_parse ⟨d, by omega⟩) (show (1 : Nat) ≤ 3 by omega) h1 h8)
  replace hm2 := Lib.hid hm2
  replace hb2 := Lib.hid hb2
  replace hB2 := Lib.hid hB2
  replace hB1 := Lib.hid hB1
  replace hr1 := Lib.hid hr1
  replace hr2 := Lib.hid hr2
  replace hbw2 := Lib.hid hbw2
  go_wp2_with fail
  refine hkn.out.mono ?_
  rintro e w' ⟨rfl, rfl⟩
  go_wp2_with fail
  refine hp.out.mono ?_
  rintro e w3 ⟨rfl, hB3, hO3⟩
  have hr3 := (hO3.block w.heap.size (by omega) (by intro e; injection e; omega)).trans hr2.out
  have hz3 := hO3.size
  have hO4 := Lib.hid (only_cell9 (o := 0) ((only_res hO3 hbw2.out)) (Nat.le_refl w.heap.size) (.string ⟨#[111, 107]⟩))
  have hB4 := Lib.hid (hB3.other9 (a := ⟨w.heap.size, 0, none⟩) (show w.heap.size ≠ b by omega) (.string ⟨#[111, 107]⟩))
  obtain ⟨rc, rf⟩ : w3.cell? ⟨w.heap.size, 0, none⟩ = some (.string ⟨#[]⟩) ∧ w3.frozen? ⟨w.heap.size, 0, none⟩ = false := ⟨by rw [cell_of_row w3 w.heap.size 0 _ 9 (0, 0) hr3]; rfl, frozen_of hr3 _⟩
  replace hr3 := Lib.hid hr3
  go_wp2_with fail
  refine leaves_cons (f := 52) (args := #[.pointer (some ⟨w.heap.size, 0, none⟩)]) (by simp) (by simp [go_sem]) ?_
  refine (ans_idle ⟨w.heap.size, 0, none⟩ _).mono ?_
  rintro e u' w'' ⟨rfl, rfl, rfl⟩
  have rd := World.cell?_setCell_same w3 ⟨w.heap.size, 0, none⟩ (.string ⟨#[111, 107]⟩) rc
  simp [Leaves, settle, results, Tryz.results30, go_sem, rd]
  exact ⟨hB4.out, hO4.out⟩
/-- the line 'level'. -/
def lnL (d : Nat) : ByteArray := ⟨#[108, 101, 118, 101, 108, 32, dgB d]⟩
theorem cutL (d : Nat) : Lib.cut (lnL d).data.toList [32] = ([108, 101, 118, 101, 108], [dgB d], true) := by
  unfold Lib.cut
  rw [Lib.index_one]
  rfl
set_option maxHeartbeats 4000000 in
theorem ans_L (b : Nat) (n0 : Int) (v0 : Value) (d : Nat) (w : World) (hB : Bench w b n0 v0) (hs : szB n0 (d : Nat) = true) :
    Calls Tryz.prog 30 #[.pointer (some ⟨b, 0, none⟩), .string (lnL d)] w fun e w' => e = .returned (.string ⟨#[111, 107]⟩) ∧ ∃ v, Bench w' b n0 v ∧ IntRow w' w.heap.size v (levL n0 (d : Nat)) ∧ Only b w w' := by
  have hmf : ∀ (fn : Fn) (first cap : Array Value) (w : World), (Instr.makeFunc fn first cap).run Tryz.prog w = .ok (.func fn first cap) w := fun _ _ _ _ => rfl
  have hcut := fun W => cut_one (lnL d) (by show (7 : Nat) ≤ 1000000; omega) 32 W
  simp only [cutL] at hcut
  have hlt := hB.lt
  obtain ⟨n1, n2, _, k2⟩ := szB_yes hs
  obtain ⟨line, hln⟩ : ∃ l, (lnL d) = l := ⟨_, rfl⟩
  rw [hln] at hcut ⊢
  replace hcut := Lib.hid hcut
  replace hln := Lib.hid hln
  replace hB := Lib.hid hB
  go_enter_defers Tryz.func30, Tryz.ntmps30
  go_wp2_with fail
  refine (hcut.out _).mono ?_
  rintro e w1 ⟨rfl, q, rfl⟩
  have hr1 := res_at w q
  have hB1 : Bench ((w.alloc (.cells #[.string ⟨#[]⟩] 9)).drewN q) b n0 v0 := hB.out.below (below_drewN ((Below.refl w.heap.size w).alloc (Nat.le_refl _) _) q) hlt
  have hs1 : ((w.alloc (.cells #[.string ⟨#[]⟩] 9)).drewN q).heap.size = w.heap.size + 1 := by show (w.alloc _).heap.size = _; simp
  have hbw1 := below_drewN ((Below.refl w.heap.size w).alloc (Nat.le_refl _) (.cells #[.string ⟨#[]⟩] 9)) q
  obtain ⟨W1, hW1⟩ : ∃ W1, (w.alloc (.cells #[.string ⟨#[]⟩] 9)).drewN q = W1 := ⟨_, rfl⟩
  rw [hW1] at hr1 hB1 hs1 hbw1 ⊢
  replace hW1 := Lib.hid hW1
  have hs2 : w.heap.size < W1.heap.size := by omega
  replace hs1 := Lib.hid hs1
  go_wp2_with fail
  refine (words_R _).mono ?_
  rintro e w2 ⟨rfl, hm2, hb2⟩
  have hB2 := hB1.below hb2 (by omega)
  have hr2 := (hb2.block w.heap.size (by omega)).trans hr1
  have hz2 := hb2.size
  have hbw2 := hbw1.trans (hb2.mono (by omega))
  have hkn := Lib.hid (known_level _ _ _ hm2)
  have hp := Lib.hid (wb_level b n0 v0 ⟨#[dgB d]⟩ d w2 hB2 (dg_parse ⟨d, by omega⟩) (show (1 : Nat) ≤ 3 by omega) hs)
  replace hm2 := Lib.hid hm2
  replace hb2 := Lib.hid hb2
  replace hB2 := Lib.hid hB2
  replace hB1 := Lib.hid hB1
  replace hr1 := Lib.hid hr1
  replace hr2 := Lib.hid hr2
  replace hbw2 := Lib.hid hbw2
  go_wp2_with fail
  refine hkn.out.mono ?_
  rintro e w' ⟨rfl, rfl⟩
  go_wp2_with fail
  refine hp.out.mono ?_
  rintro e w3 ⟨rfl, v3, hB3, hI3, hO3⟩
  obtain ⟨g3, rfl, hg3, _⟩ := id hI3
  have hr3 := (hO3.block w.heap.size (by omega) (by intro e; injection e; omega)).trans hr2.out
  have hz3 := hO3.size
  have hO4 := Lib.hid (only_cell9 (o := 0) ((only_res hO3 hbw2.out)) (Nat.le_refl w.heap.size) (.string ⟨#[111, 107]⟩))
  have hB4 := Lib.hid (hB3.other9 (a := ⟨w.heap.size, 0, none⟩) (show w.heap.size ≠ b by omega) (.string ⟨#[111, 107]⟩))
  have hI4 := Lib.hid ((hI3.heap (w' := w3.setCell ⟨w.heap.size, 0, none⟩ (.string ⟨#[111, 107]⟩)) (fun g hg => Below.heap_setCell _ _ _ _ (by have e : g3 = g := Option.some.inj hg; show g ≠ w.heap.size; omega))).mono (show w.heap.size ≤ w2.heap.size by omega))
  replace hI3 := Lib.hid hI3
  obtain ⟨rc, rf⟩ : w3.cell? ⟨w.heap.size, 0, none⟩ = some (.string ⟨#[]⟩) ∧ w3.frozen? ⟨w.heap.size, 0, none⟩ = false := ⟨by rw [cell_of_row w3 w.heap.size 0 _ 9 (0, 0) hr3]; rfl, frozen_of hr3 _⟩
  replace hr3 := Lib.hid hr3
  go_wp2_with fail
  refine leaves_cons (f := 52) (args := #[.pointer (some ⟨w.heap.size, 0, none⟩)]) (by simp) (by simp [go_sem]) ?_
  refine (ans_idle ⟨w.heap.size, 0, none⟩ _).mono ?_
  rintro e u' w'' ⟨rfl, rfl, rfl⟩
  have rd := World.cell?_setCell_same w3 ⟨w.heap.size, 0, none⟩ (.string ⟨#[111, 107]⟩) rc
  simp [Leaves, settle, results, Tryz.results30, go_sem, rd]
  exact ⟨_, hB4.out, hI4.out, hO4.out⟩
/-- the line 'show'. -/
def lnS : ByteArray := ⟨#[115, 104, 111, 119]⟩
theorem cutS : Lib.cut (lnS).data.toList [32] = ([115, 104, 111, 119], [], false) := by
  unfold Lib.cut
  rw [Lib.index_one]
  rfl
set_option maxHeartbeats 4000000 in
theorem ans_S (b : Nat) (n0 : Int) (v0 : Value) (xs : List Int) (w : World) (hB : Bench w b n0 v0) (hx : Row w w.heap.size v0 xs) (hl : xs.length ≤ 1000) (h : ∀ x ∈ xs, 0 ≤ x ∧ x < 100) :
    Calls Tryz.prog 30 #[.pointer (some ⟨b, 0, none⟩), .string lnS] w fun e w' => e = .returned (.string ⟨(spB xs).toArray⟩) ∧ Below w.heap.size w w' := by
  have hmf : ∀ (fn : Fn) (first cap : Array Value) (w : World), (Instr.makeFunc fn first cap).run Tryz.prog w = .ok (.func fn first cap) w := fun _ _ _ _ => rfl
  have hcut := fun W => cut_one lnS (by show (4 : Nat) ≤ 1000000; omega) 32 W
  simp only [cutS] at hcut
  have hlt := hB.lt
  obtain ⟨line, hln⟩ : ∃ l, lnS = l := ⟨_, rfl⟩
  rw [hln] at hcut ⊢
  replace hcut := Lib.hid hcut
  replace hln := Lib.hid hln
  replace hB := Lib.hid hB
  go_enter_defers Tryz.func30, Tryz.ntmps30
  go_wp2_with fail
  refine (hcut.out _).mono ?_
  rintro e w1 ⟨rfl, q, rfl⟩
  have hr1 := res_at w q
  have hB1 : Bench ((w.alloc (.cells #[.string ⟨#[]⟩] 9)).drewN q) b n0 v0 := hB.out.below (below_drewN ((Below.refl w.heap.size w).alloc (Nat.le_refl _) _) q) hlt
  have hs1 : ((w.alloc (.cells #[.string ⟨#[]⟩] 9)).drewN q).heap.size = w.heap.size + 1 := by show (w.alloc _).heap.size = _; simp
  have hbw1 := below_drewN ((Below.refl w.heap.size w).alloc (Nat.le_refl _) (.cells #[.string ⟨#[]⟩] 9)) q
  obtain ⟨W1, hW1⟩ : ∃ W1, (w.alloc (.cells #[.string ⟨#[]⟩] 9)).drewN q = W1 := ⟨_, rfl⟩
  rw [hW1] at hr1 hB1 hs1 hbw1 ⊢
  replace hW1 := Lib.hid hW1
  have hs2 : w.heap.size < W1.heap.size := by omega
  replace hs1 := Lib.hid hs1
  go_wp2_with fail
  refine (words_A _).mono ?_
  rintro e w2 ⟨rfl, hm2, hb2⟩
  have hB2 := hB1.below hb2 (by omega)
  have hr2 := (hb2.block w.heap.size (by omega)).trans hr1
  have hz2 := hb2.size
  have hbw2 := hbw1.trans (hb2.mono (by omega))
  have hkn := Lib.hid (known_show _ _ _ hm2)
  have hp := Lib.hid (wb_show b n0 v0 xs w2 hB2 ((hx.below hbw2 (Nat.le_refl _)).mono (by omega)) hl h)
  replace hm2 := Lib.hid hm2
  replace hb2 := Lib.hid hb2
  replace hB2 := Lib.hid hB2
  replace hB1 := Lib.hid hB1
  replace hr1 := Lib.hid hr1
  replace hr2 := Lib.hid hr2
  replace hbw2 := Lib.hid hbw2
  go_wp2_with fail
  refine hkn.out.mono ?_
  rintro e w' ⟨rfl, rfl⟩
  go_wp2_with fail
  refine hp.out.mono ?_
  rintro e w3 ⟨rfl, hb3⟩
  have hr3 := (hb3.block w.heap.size (by omega)).trans hr2.out
  have hb4 := Lib.hid (below_setCell (hbw2.out.trans (hb3.mono (by omega))) (p := ⟨w.heap.size, 0, none⟩) (Nat.le_refl _) (.string ⟨(spB xs).toArray⟩))
  obtain ⟨rc, rf⟩ : w3.cell? ⟨w.heap.size, 0, none⟩ = some (.string ⟨#[]⟩) ∧ w3.frozen? ⟨w.heap.size, 0, none⟩ = false := ⟨by rw [cell_of_row w3 w.heap.size 0 _ 9 (0, 0) hr3]; rfl, frozen_of hr3 _⟩
  replace hr3 := Lib.hid hr3
  go_wp2_with fail
  refine leaves_cons (f := 52) (args := #[.pointer (some ⟨w.heap.size, 0, none⟩)]) (by simp) (by simp [go_sem]) ?_
  refine (ans_idle ⟨w.heap.size, 0, none⟩ _).mono ?_
  rintro e u' w'' ⟨rfl, rfl, rfl⟩
  have rd := World.cell?_setCell_same w3 ⟨w.heap.size, 0, none⟩ (.string ⟨(spB xs).toArray⟩) rc
  simp [Leaves, settle, results, Tryz.results30, go_sem, rd]
  exact hb4.out
end Go.Proofs.YtojfamjgghikoaaGreatDoor
