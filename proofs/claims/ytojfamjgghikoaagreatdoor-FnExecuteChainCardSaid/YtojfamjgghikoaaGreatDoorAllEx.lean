/- Texts merged: XEx1 XEx2 XEx3 XEx4 XEx5 XEx6 XEx7 XEx8 XEx9 XEx10 XEx11. -/
import Derived.Test.YtojfamjgghikoaaGreatDoorLay
import Derived.Test.YtojfamjgghikoaaGreatDoorAppend
import Derived.Test.YtojfamjgghikoaaGreatDoorAllD
import Derived.Test.YtojfamjgghikoaaGreatDoorSh1
import Derived.Deep.RegionWith
import Derived.MapKept
import Derived.WideMake
import Derived.Defers
import Derived.Recover
import Derived.Laws.Pointers
import Derived.Shelf.Strings.Cut
import Derived.Laws.BytesString
import Derived.Laws.IdiomStrings
namespace Go.Proofs.YtojfamjgghikoaaGreatDoor
section
/- Scripts: the library's functions as chapter 10 calls them; numbers; what does not fail; points. -/
open Go.ChangeShapes Go.WideShapes Go.ChangeAt Go.RowKit Go.Proofs Go.Shelf

theorem laysWS : Lays.n166 Tryz.prog Tryz.lays156_ren := { Tryz.lays156 with }
theorem itoa_small (i : Nat) (hi : i < 100) (w : World) : Calls Tryz.prog 58 #[.int .i64 (i : Nat)] w fun e w' => e = .returned (.string ⟨(Lib.decDigits i).toArray⟩) ∧ w' = w := Any.strconv_Itoa_small Tryz.lays171 i hi w
theorem bytes_below (s : ByteArray) (w : World) : Below w.heap.size w (Lib.bytesWorld w 5 s) := by
  exact ⟨rfl, rfl, rfl, by rw [Lib.bytesWorld_size]; omega, fun i hi => Lib.bytesWorld_at_old w _ s i hi⟩
theorem number_ok (s : ByteArray) (u : Nat) (h : Lib.parseUintB 64 s.data.toList = .ok u) (h3 : s.size ≤ 3) (hu : u < 1000) (w : World) :
    Calls Tryz.prog 141 #[.string s] w fun e w' => e = .returned (.int .i64 (u : Nat)) ∧ Below w.heap.size w w' := by
  have hp := Lib.hid (Any.strconv_ParseUint_10_at0_ok Tryz.laysPu14 s (by omega) u h w)
  have hs : ¬ (3 : Int) < (s.size : Nat) := by omega
  have hw64 : IntKind.i64.wrap (u : Nat) = (u : Nat) := by rw [IntKind.wrap_i64]; omega
  replace h := Lib.hid h
  go_enter Tryz.func141, Tryz.ntmps141
  go_wp2_with fail
  refine hp.out.mono ?_
  rintro e w1 ⟨rfl, hw⟩
  have hb : Below w.heap.size w w1 := by
    rcases hw with rfl | rfl
    · exact Below.refl _ _
    · exact bytes_below s w
  replace hb := Lib.hid hb
  clear hw
  go_wp2_with fail
  go_ret
  exact ⟨rfl, hb.out⟩
theorem must_int (n : Int) (w : World) : Calls Tryz.prog 142 #[.int .i64 n, .bool true] w fun e w' => e = .returned (.int .i64 n) ∧ w = w' := by
  go_enter Tryz.func142, Tryz.ntmps142
  go_wp2_with fail
  go_ret
  exact ⟨rfl, rfl⟩
theorem must_list (a : Option Addr) (l c : Nat) (w : World) : Calls Tryz.prog 149 #[.slice a l c, .bool true] w fun e w' => e = .returned (.slice a l c) ∧ w = w' := by
  go_enter Tryz.func149, Tryz.ntmps149
  go_wp2_with fail
  go_ret
  exact ⟨rfl, rfl⟩
/-- the workbench: a box of the number of points and the list. -/
def Bench (w : World) (b : Nat) (n : Int) (v : Value) : Prop := w.heap[b]? = some (.cells #[.int .i64 n, v] 43 (0, 0))
theorem Bench.cells {w : World} {b : Nat} {n : Int} {v : Value} (h : Bench w b n v) : w.cell? ⟨b, 0, none⟩ = some (.int .i64 n) ∧ w.cell? ⟨b, 1, none⟩ = some v ∧ w.frozen? ⟨b, 0, none⟩ = false ∧ w.frozen? ⟨b, 1, none⟩ = false :=
  ⟨by rw [cell_of_row w b 0 _ 43 (0, 0) h]; rfl, by rw [cell_of_row w b 1 _ 43 (0, 0) h]; rfl, frozen_of h _, frozen_of h _⟩
theorem Bench.lt {w : World} {b : Nat} {n : Int} {v : Value} (h : Bench w b n v) : b < w.heap.size := (Array.getElem?_eq_some_iff.1 h).1
theorem Bench.below {w w' : World} {b B : Nat} {n : Int} {v : Value} (h : Bench w b n v) (hb : Below B w w') (hB : b < B) : Bench w' b n v := (hb.block b hB).trans h
theorem Bench.set0 {w : World} {b : Nat} {n : Int} {v : Value} (h : Bench w b n v) (n' : Int) : Bench (w.setCell ⟨b, 0, none⟩ (.int .i64 n')) b n' v := by
  have := heap_setCell_same w b 0 _ 43 (.int .i64 n') h
  exact this
theorem Bench.set1 {w : World} {b : Nat} {n : Int} {v : Value} (h : Bench w b n v) (v' : Value) : Bench (w.setCell ⟨b, 1, none⟩ v') b n v' := by
  have := heap_setCell_same w b 1 _ 43 v' h
  exact this
theorem only_cellB {b o : Nat} {w W : World} (h : Only b w W) (v : Value) : Only b w (W.setCell ⟨b, o, none⟩ v) :=
  ⟨h.os, h.tape, h.output, by rw [World.size_setCell]; exact h.size, fun i hi hne => (Below.heap_setCell _ _ _ _ (by show i ≠ b; intro e; exact hne (by rw [e]))).trans (h.block i hi hne)⟩
theorem wb_points (b : Nat) (n0 : Int) (v0 : Value) (s : ByteArray) (u : Nat) (w : World) (hB : Bench w b n0 v0) (h : Lib.parseUintB 64 s.data.toList = .ok u) (h3 : s.size ≤ 3) (h1 : 1 ≤ u) (h8 : u ≤ 8) :
    Calls Tryz.prog 84 #[.pointer (some ⟨b, 0, none⟩), .string s] w fun e w' => e = .returned (.string ⟨#[111, 107]⟩) ∧ Bench w' b (u : Nat) (.slice none 0 0) ∧ Only b w w' := by
  have hn := Lib.hid (number_ok s u h h3 (by omega) w)
  have hpt := fun W => pts_in (u : Nat) W
  rw [ptsB_mk (by omega) (by omega)] at hpt
  have hm := fun W => must_int (u : Nat) W
  have hlt := hB.lt
  replace hpt := Lib.hid hpt
  replace hm := Lib.hid hm
  replace h := Lib.hid h
  replace hB := Lib.hid hB
  go_enter Tryz.func84, Tryz.ntmps84
  go_wp2_with fail
  refine hn.out.mono ?_
  rintro e w1 ⟨rfl, hb⟩
  have hB1 := hB.out.below hb hlt
  obtain ⟨c0, c1, f0, f1⟩ := hB1.cells
  have hO := Lib.hid (only_cellB (o := 1) (only_cellB (o := 0) (Only.of_below (r := b) hb (Nat.le_refl _)) (.int .i64 (u : Nat))) (.slice none 0 0))
  have hB2 := Lib.hid ((hB1.set0 (u : Nat)).set1 (.slice none 0 0))
  replace hB1 := Lib.hid hB1
  clear hb
  go_wp2_with (first | (go_at_call 63; (with_reducible refine (hpt.out _).mono ?_); rintro e w' ⟨rfl, rfl⟩) | (go_at_call 142; (with_reducible refine (hm.out _).mono ?_); rintro e w' ⟨rfl, rfl⟩))
  go_ret
  exact ⟨rfl, hB2.out, hO.out⟩

end
section
/- Scripts: lists that stand in a row of integers of their own. -/
open Go.ChangeShapes Go.WideShapes Go.ChangeAt Go.RowKit Go.Proofs

/-- v reads as xs, and its row is a block of integers from B on. -/
def IntRow (w : World) (B : Nat) (v : Value) (xs : List Int) : Prop := ∃ g, v = .slice (some ⟨g, 0, none⟩) xs.length xs.length ∧ B ≤ g ∧ w.rowIs g 3 xs.length (fun i => .int .i64 (xs.getD i 0))
theorem IntRow.mono {w : World} {B B' : Nat} {v : Value} {xs : List Int} (h : IntRow w B v xs) (hB : B' ≤ B) : IntRow w B' v xs := by
  obtain ⟨g, h1, h2, h3⟩ := h
  exact ⟨g, h1, by omega, h3⟩
theorem IntRow.row {w : World} {B : Nat} {v : Value} {xs : List Int} (h : IntRow w B v xs) : Row w w.heap.size v xs := by
  obtain ⟨g, rfl, h2, h3⟩ := h
  exact ⟨_, _, rfl, fun _ => ⟨g, 0, rfl, h3.lt, fun i hi => by rw [Nat.zero_add]; exact h3.cell hi⟩⟩
set_option maxHeartbeats 2000000 in
theorem numbers_row (lv : Value) (xs : List Int) (S : Nat) (w : World) (hx : SRow w S lv xs) (hS : S ≤ w.heap.size) (hl : xs.length ≤ 100000) (hz : ∀ z ∈ xs, 0 ≤ z ∧ z < 256) :
    Calls Tryz.prog 37 #[.agg #[lv, (Value.func (.func 188) #[] #[])]] w fun e w' => ∃ u, e = .returned u ∧ IntRow w' w.heap.size u xs ∧ Below w.heap.size w w' := by
  obtain ⟨a, cap, rfl, ha⟩ := hx
  replace ha := Lib.hid ha
  replace hz := Lib.hid hz
  have hmk := fun W => run_make_row' (P := Tryz.prog) 28 3 (.int .i64 0) 8 Tryz.underlying28 Tryz.intInfo rfl .i64 .i64 xs.length (by omega) (by omega) W
  go_enter Tryz.func37, Tryz.ntmps37
  go_wp2
  go_loopw [13] (fun i wr => ∃ k : Nat, k ≤ xs.length ∧ i = .int .i64 k ∧ Hid (Below w.heap.size w wr) ∧ Hid (wr.rowIs (w.heap.size + 1) 3 xs.length (filled xs k))) (fun i _ => xs.length - (intOf i).toNat)
  case atStart =>
    refine ⟨0, Nat.zero_le _, rfl, Lib.hid (((Below.refl _ _).alloc (Nat.le_refl _) _).alloc (by simp) _), Lib.hid ?_⟩
    have := (World.rowIs_made (w.alloc (.cells #[.slice a xs.length cap, (Value.func (.func 188) #[] #[])] 64)) (.int .i64 0) xs.length 3).congr (g := filled xs 0) (fun i _ => by simp [filled])
    simpa using this
  case round =>
    obtain ⟨k, hk, rfl, hbel, hrow⟩ := hrel
    have hz2 := hbel.out.size
    have hrl := hrow.out.lt
    by_cases hlt : k < xs.length
    · obtain ⟨b1, o1, rfl, s1, c1⟩ := ha.out (by omega)
      have k1 : (0 : Int) ≤ (k : Int) := by omega
      have k2 : (k : Int) < (xs.length : Nat) := by omega
      have e1 : wr.cell? ⟨b1, o1 + k, none⟩ = some (.int .u64 (xs.getD k 0)) := (hbel.out.cell (p := ⟨b1, o1 + k, none⟩) (show b1 < w.heap.size by omega)).trans (c1 k hlt)
      have e2 := hrow.out.cell hlt
      have e3 := hrow.out.frozen k
      obtain ⟨x, hx⟩ : ∃ x, xs.getD k 0 = x := ⟨_, rfl⟩
      have hzx := hz.out x (by rw [← hx]; exact getD_mem hlt)
      obtain ⟨z1, z2⟩ := hzx
      rw [hx] at e1
      have hrow' := Lib.hid ((hrow.out.set k (.int .i64 x)).congr (g := filled xs (k + 1)) (fun j hj => by
        unfold filled
        by_cases e : j = k
        · subst e; simp [← hx]
        · rw [if_neg e]; congr 1
          by_cases h2 : j < k
          · rw [if_pos h2, if_pos (by omega)]
          · rw [if_neg h2, if_neg (by omega)]))
      have hbel' := Lib.hid (below_setCell hbel.out (p := ⟨w.heap.size + 1, k, none⟩) (by simp) (.int .i64 x))
      clear hx c1 hrow hbel
      go_wp2
      go_roundw
      case rel => exact ⟨k + 1, by omega, by go_num, hbel', hrow'⟩
      case measure => simp [intOf]; omega
    · obtain rfl : k = xs.length := by omega
      have hO := Lib.hid (show IntRow wr w.heap.size (.slice (some ⟨w.heap.size + 1, 0, none⟩) xs.length xs.length) xs from
        ⟨_, rfl, by omega, hrow.out.congr (fun i hi => by simp [filled, hi])⟩)
      clear hrow
      go_wp2
      go_ret
      exact ⟨_, rfl, hO.out, hbel.out⟩
set_option maxHeartbeats 2000000 in
theorem level_row (n k : Int) (w : World) (hb : szB n k = true) : Calls Tryz.prog 15 #[.int .i64 n, .int .i64 k] w fun e w' => ∃ v, e = .returned (.tuple #[v, .bool true]) ∧ IntRow w' w.heap.size v (levL n k) ∧ Below w.heap.size w w' := by
  have hsz := size_in n k
  rw [hb] at hsz
  obtain ⟨n1, n2, k1, k2⟩ := szB_yes hb
  have hlev := lev_at n k n1 n2
  have hyz := levL_lt (k := k) n1 n2
  have hyl := levL_len256 (k := k) n1 n2
  obtain ⟨ys, hys⟩ : ∃ ys, levL n k = ys := ⟨_, rfl⟩
  rw [hys] at hlev hyz hyl ⊢
  replace hsz := Lib.hid hsz
  replace hb := Lib.hid hb
  replace hlev := Lib.hid hlev
  replace hyz := Lib.hid hyz
  replace hys := Lib.hid hys
  go_enter Tryz.func15, Tryz.ntmps15
  go_wp2_with (go_at_call 36; refine (hsz.out _).mono ?_; rintro e w' ⟨rfl, rfl⟩)
  refine (hlev.out _).mono ?_
  rintro e w3 ⟨v3, rfl, hS3, hb3⟩
  obtain ⟨a3, c3, rfl⟩ := hS3.form
  have hz3 := hb3.size
  have hnum := Lib.hid (numbers_row _ _ _ _ hS3.row (Nat.le_refl _) (by omega) hyz.out)
  replace hb3 := Lib.hid hb3
  clear hS3
  go_wp2_with fail
  refine hnum.out.mono ?_
  rintro e w5 ⟨t, rfl, hO, hb5⟩
  obtain ⟨ug, rfl, _, _⟩ := id hO
  replace hb5 := Lib.hid (hb3.out.trans (hb5.mono (by omega)))
  replace hO := Lib.hid (hO.mono (show w.heap.size ≤ w3.heap.size by omega))
  go_wp2_with fail
  go_ret2
  exact ⟨_, rfl, hO.out, hb5.out⟩

end
section
/- Scripts: a line that takes all sets of a size; lists told; the number of sets. -/
open Go.ChangeShapes Go.WideShapes Go.ChangeAt Go.RowKit Go.Proofs Go.Shelf

theorem IntRow.heap {w w' : World} {B : Nat} {v : Value} {xs : List Int} (h : IntRow w B v xs) (hk : ∀ g, v.ownBlock = some g → w'.heap[g]? = w.heap[g]?) : IntRow w' B v xs := by
  obtain ⟨g, rfl, h2, c, h3, h4⟩ := h
  exact ⟨g, rfl, h2, c, (hk g rfl).trans h3, h4⟩
theorem wb_become (b : Nat) (n : Int) (v0 : Value) (a : Option Addr) (l c : Nat) (W : World) (hB : Bench W b n v0) :
    Calls Tryz.prog 144 #[.pointer (some ⟨b, 0, none⟩), .slice a l c, .bool true] W fun e w' => e = .returned (.string ⟨#[111, 107]⟩) ∧ w' = W.setCell ⟨b, 1, none⟩ (.slice a l c) := by
  obtain ⟨c0, c1, f0, f1⟩ := hB.cells
  replace hB := Lib.hid hB
  go_enter Tryz.func144, Tryz.ntmps144
  go_wp2_with (go_at_call 149; (with_reducible refine (must_list a l c _).mono ?_); rintro e w' ⟨rfl, rfl⟩)
  go_ret
  exact ⟨rfl, rfl⟩
/-- what a line leaves that changes the family: it is told, and the workbench has the list. -/
def TakesL (b : Nat) (n : Int) (xs : List Int) (w : World) (e : Ending) (w' : World) : Prop := e = .returned (.string ⟨#[111, 107]⟩) ∧ ∃ v, Bench w' b n v ∧ IntRow w' w.heap.size v xs ∧ Only b w w'
set_option maxHeartbeats 4000000 in
theorem wb_level (b : Nat) (n : Int) (v0 : Value) (s : ByteArray) (u : Nat) (w : World) (hB : Bench w b n v0) (h : Lib.parseUintB 64 s.data.toList = .ok u) (h3 : s.size ≤ 3) (hs : szB n (u : Nat) = true) :
    Calls Tryz.prog 86 #[.pointer (some ⟨b, 0, none⟩), .string s] w (TakesL b n (levL n (u : Nat)) w) := by
  obtain ⟨n1, n2, k1, k2⟩ := szB_yes hs
  have hn := Lib.hid (fun W => number_ok s u h h3 (by omega) W)
  have hsd : w.drew.heap.size = w.heap.size := rfl
  have hlv := Lib.hid (fun W => level_row n (u : Nat) W hs)
  have hlt := hB.lt
  obtain ⟨c0, c1, f0, f1⟩ := hB.cells
  obtain ⟨L, hL⟩ : ∃ L, levL n (u : Nat) = L := ⟨_, rfl⟩
  rw [hL] at hlv ⊢
  replace h := Lib.hid h
  replace hs := Lib.hid hs
  replace hL := Lib.hid hL
  replace hB := Lib.hid hB
  replace hsd := Lib.hid hsd
  go_enter Tryz.func86, Tryz.ntmps86
  go_wp2_with fail
  go_region_with (first
    | (go_at_call 141; (with_reducible refine (hn.out _).mono ?_); rintro e w1 ⟨rfl, hb1⟩; rw [hsd.out] at hb1; have hB1 := (show Bench w.drew b n v0 from hB.out).below hb1 hlt; obtain ⟨c01, -, -, -⟩ := hB1.cells; have hz1 := hb1.size; rw [hsd.out] at hz1; replace hB1 := Lib.hid hB1; replace hb1 := Lib.hid ((Below.refl w.heap.size w).drew.trans hb1))
    | (go_at_call 15; (with_reducible refine (hlv.out _).mono ?_); rintro e w2 ⟨v2, rfl, hI2, hb2⟩; obtain ⟨g2, rfl, hg2, hr2⟩ := id hI2; have hz2 := hb2.size; have hB2 := Lib.hid (hB1.out.below hb2 (show b < w1.heap.size by omega)); have hbw := Lib.hid (hb1.out.trans (hb2.mono (show w.heap.size ≤ w1.heap.size from hb1.out.size))); replace hI2 := Lib.hid hI2; replace hr2 := Lib.hid hr2; replace hb2 := Lib.hid hb2)
    | (go_at_call 144; (with_reducible refine (wb_become b n _ _ _ _ _ hB2.out).mono ?_); rintro e w3 ⟨rfl, rfl⟩))
  all_goals
    go_wp2_with fail
    go_ret
    exact ⟨rfl, _, hB2.out.set1 _, (hI2.out.heap (fun g hg => Below.heap_setCell _ _ _ _ (by have e : g2 = g := Option.some.inj hg; show g ≠ b; omega))).mono (by omega), only_cellB (Only.of_below hbw.out (Nat.le_refl _)) _⟩
/-- the signs of a list of numbers. -/
def spB (xs : List Int) : List UInt8 := if xs.length = 0 then [45] else Lib.join (xs.map fun x => Lib.decDigits x.toNat) [32]
theorem dec_len {i : Nat} (h : i < 100) : (Lib.decDigits i).length ≤ 2 := by
  by_cases h1 : i < 10
  · rw [Lib.decDigits_one h1]; simp
  · rw [Lib.decDigits_two h1 h]; simp
theorem lens_le (xs : List Int) (h : ∀ x ∈ xs, 0 ≤ x ∧ x < 100) : Lib.lens (xs.map fun x => Lib.decDigits x.toNat) ≤ 2 * xs.length := by
  induction xs with
  | nil => simp [Lib.lens]
  | cons x xs ih =>
    have h1 := ih fun y hy => h y (List.mem_cons_of_mem _ hy)
    have h2 := h x List.mem_cons_self
    have h3 := dec_len (i := x.toNat) (by omega)
    unfold Lib.lens at h1 ⊢
    rw [List.map_cons, List.map_cons, List.sum_cons, List.length_cons]
    omega
theorem join_le (xs : List Int) (h : ∀ x ∈ xs, 0 ≤ x ∧ x < 100) : (Lib.join (xs.map fun x => Lib.decDigits x.toNat) [32]).length ≤ 3 * xs.length := by
  cases xs with
  | nil => simp [Lib.join_nil]
  | cons x xs =>
    have h1 := lens_le _ h
    rw [List.map_cons, Lib.join_length]
    rw [List.map_cons, List.length_cons] at h1
    rw [List.length_map, List.length_cons]
    simp only [List.length_cons, List.length_nil]
    omega
theorem Tryz.strInfo : (Tryz.prog.info? 9).map (fun i => (i.zero, i.size, i.bytes)) = some (some (.string ByteArray.empty), 1, 16) := by kernel_rfl
/-- the texts of the first k numbers, in a row of texts. -/
def txF (xs : List Int) (k i : Nat) : Value := if i < k then .string ⟨(Lib.decDigits (xs.getD i 0).toNat).toArray⟩ else .string ByteArray.empty
set_option maxHeartbeats 4000000 in
theorem listed_at (v : Value) (xs : List Int) (S : Nat) (w : World) (hx : Row w S v xs) (hS : S ≤ w.heap.size) (hl : xs.length ≤ 1000) (h : ∀ x ∈ xs, 0 ≤ x ∧ x < 100) :
    Calls Tryz.prog 148 #[v] w fun e w' => e = .returned (.string ⟨(spB xs).toArray⟩) ∧ Below w.heap.size w w' := by
  obtain ⟨a, c, rfl, ha⟩ := hx
  replace ha := Lib.hid ha
  by_cases h0 : xs.length = 0
  · have hsp : spB xs = [45] := by unfold spB; rw [if_pos h0]
    rw [hsp]
    have hd : (((xs.length : Nat) : Int) == 0) = true := by simp [h0]
    rw [h0] at hd ⊢
    replace h := Lib.hid h
    replace hsp := Lib.hid hsp
    go_enter Tryz.func148, Tryz.ntmps148
    go_wp2_with fail
    go_ret
    exact ⟨rfl, Below.refl _ _⟩
  · have hsp : spB xs = Lib.join (xs.map fun x => Lib.decDigits x.toNat) [32] := by unfold spB; rw [if_neg h0]
    have hjl := join_le xs h
    have hmk := fun W => run_make_row' (P := Tryz.prog) 47 9 (.string ByteArray.empty) 16 Tryz.underlying47 Tryz.strInfo rfl .i64 .i64 xs.length (by omega) (by omega) W
    have hd : (((xs.length : Nat) : Int) == 0) = false := by rw [beq_eq_false_iff_ne]; omega
    have hit := Lib.hid (fun (i : Nat) (hi : i < 100) (W : World) => itoa_small i hi W)
    have hdn : ¬ ((xs.length : Nat) : Int) = 0 := by omega
    rw [hsp]
    replace h := Lib.hid h
    replace hsp := Lib.hid hsp
    replace hjl := Lib.hid hjl
    go_enter Tryz.func148, Tryz.ntmps148
    go_wp2_with fail
    go_loopw [14] (fun i wr => ∃ k : Nat, k ≤ xs.length ∧ i = .int .i64 k ∧ Hid (Below w.heap.size w wr) ∧ Hid (wr.rowIs w.heap.size 9 xs.length (txF xs k))) (fun i _ => xs.length - (intOf i).toNat)
    case atStart =>
      refine ⟨0, Nat.zero_le _, rfl, Lib.hid ((Below.refl _ _).alloc (Nat.le_refl _) _), Lib.hid ?_⟩
      exact (World.rowIs_made w (.string ByteArray.empty) xs.length 9).congr (g := txF xs 0) (fun i _ => by simp [txF])
    case round =>
      obtain ⟨k, hk, rfl, hbel, hrw⟩ := hrel
      have hz := hbel.out.size
      by_cases hlt : k < xs.length
      · obtain ⟨b1, o1, rfl, s1, c1⟩ := ha.out (by omega)
        have k1 : (0 : Int) ≤ (k : Int) := by omega
        have k2 : (k : Int) < (xs.length : Nat) := by omega
        obtain ⟨x1, x2⟩ := h.out _ (getD_mem hlt)
        obtain ⟨X, hX⟩ : ∃ X : Nat, xs.getD k 0 = (X : Int) := ⟨(xs.getD k 0).toNat, by omega⟩
        have e1 : wr.cell? ⟨b1, o1 + k, none⟩ = some (.int .i64 (X : Int)) := by
          rw [hbel.out.cell (p := ⟨b1, o1 + k, none⟩) (show b1 < w.heap.size by omega), c1 k hlt, hX]
        have hi := Lib.hid (fun W => hit.out X (by omega) W)
        have e2 := World.rowIs.cell hrw.out hlt
        have e3 := World.rowIs.frozen hrw.out k
        obtain ⟨D, hD⟩ : ∃ D : ByteArray, (⟨(Lib.decDigits X).toArray⟩ : ByteArray) = D := ⟨_, rfl⟩
        rw [hD] at hi
        have hrw' := Lib.hid ((World.rowIs.set hrw.out k (.string D)).congr (g := txF xs (k + 1)) (fun j hj => by
          unfold txF
          by_cases e : j = k
          · subst e; rw [if_pos rfl, if_pos (by omega), hX, ← hD]; rfl
          · rw [if_neg e]
            by_cases h2 : j < k
            · rw [if_pos h2, if_pos (by omega)]
            · rw [if_neg h2, if_neg (by omega)]))
        have hbel' := Lib.hid (below_setCell hbel.out (p := ⟨w.heap.size, k, none⟩) (Nat.le_refl _) (.string D))
        obtain ⟨u, hu⟩ : ∃ u, txF xs k k = u := ⟨_, rfl⟩
        rw [hu] at e2
        clear c1 hbel hrw
        replace hX := Lib.hid hX
        replace hD := Lib.hid hD
        replace hu := Lib.hid hu
        go_wp2_with (go_at_call 58; (with_reducible refine (hi.out _).mono ?_); rintro e w' ⟨rfl, rfl⟩)
        go_roundw
        case rel => exact ⟨k + 1, by omega, by go_num, hbel', hrw'⟩
        case measure => simp [intOf]; omega
      · obtain rfl : k = xs.length := by omega
        obtain ⟨Ls, hLs⟩ : ∃ Ls : List ByteArray, xs.map (fun x => (⟨(Lib.decDigits x.toNat).toArray⟩ : ByteArray)) = Ls := ⟨_, rfl⟩
        have hLl : Ls.length = xs.length := by rw [← hLs, List.length_map]
        have hLm : Ls.map (fun x => x.data.toList) = xs.map fun x => Lib.decDigits x.toNat := by rw [← hLs, List.map_map]; rfl
        have hj := Any.strings_Join Tryz.lays156 Tryz.Builder_Extra_156 w.heap.size 0 xs.length Ls ⟨#[32]⟩ wr (fun j x hjx => by
          have hj2 : j < xs.length := by rw [← hLl]; exact (List.getElem?_eq_some_iff.1 hjx).1
          rw [Nat.zero_add, World.rowIs.cell hrw.out hj2]
          unfold txF
          rw [if_pos hj2]
          rw [← hLs, List.getElem?_map, List.getElem?_eq_getElem hj2] at hjx
          rw [List.getD_eq_getElem?_getD, List.getElem?_eq_getElem hj2]
          have := Option.some.inj hjx
          rw [← this]; rfl) hrw.out.lt (by omega) (by omega) (by rw [hLm]; have := hjl.out; show (Lib.join _ [32]).length ≤ _; omega)
        rw [hLm, hLl] at hj
        replace hj := Lib.hid (show Calls Tryz.prog 205 #[.slice (some ⟨w.heap.size, 0, none⟩) xs.length xs.length, .string ⟨#[32]⟩] wr fun e w' => e = .returned (.string ⟨(Lib.join (xs.map fun x => Lib.decDigits x.toNat) [32]).toArray⟩) ∧ Below wr.heap.size wr w' from hj)
        replace hLs := Lib.hid hLs
        replace hLl := Lib.hid hLl
        replace hLm := Lib.hid hLm
        clear hrw
        go_wp2_with fail
        refine hj.out.mono ?_
        rintro e w5 ⟨rfl, hb5⟩
        have hbb := Lib.hid (hbel.out.trans (hb5.mono hz))
        clear hb5
        go_wp2_with fail
        go_ret
        exact ⟨rfl, hbb.out⟩

end
section
/- Scripts: what is told of the family. -/
open Go.ChangeShapes Go.WideShapes Go.ChangeAt Go.RowKit Go.Proofs Go.Shelf

theorem wb_show (b : Nat) (n : Int) (v : Value) (xs : List Int) (w : World) (hB : Bench w b n v) (hx : Row w w.heap.size v xs) (hl : xs.length ≤ 1000) (h : ∀ x ∈ xs, 0 ≤ x ∧ x < 100) :
    Calls Tryz.prog 97 #[.pointer (some ⟨b, 0, none⟩)] w fun e w' => e = .returned (.string ⟨(spB xs).toArray⟩) ∧ Below w.heap.size w w' := by
  obtain ⟨c0, c1, f0, f1⟩ := hB.cells
  have hls := Lib.hid (listed_at v xs w.heap.size w hx (Nat.le_refl _) hl h)
  obtain ⟨a, c, rfl, _⟩ := id hx
  replace hB := Lib.hid hB
  replace hx := Lib.hid hx
  replace h := Lib.hid h
  go_enter Tryz.func97, Tryz.ntmps97
  go_wp2_with fail
  refine hls.out.mono ?_
  rintro e w1 ⟨rfl, hb⟩
  replace hb := Lib.hid hb
  go_wp2_with fail
  go_ret
  exact ⟨rfl, hb.out⟩
theorem wb_count (b : Nat) (n : Int) (a : Option Addr) (l c : Nat) (w : World) (hB : Bench w b n (.slice a l c)) (hl : l < 100) :
    Calls Tryz.prog 31 #[.pointer (some ⟨b, 0, none⟩)] w fun e w' => e = .returned (.string ⟨(Lib.decDigits l).toArray⟩) ∧ w' = w := by
  obtain ⟨c0, c1, f0, f1⟩ := hB.cells
  have hi := Lib.hid (fun W => itoa_small l hl W)
  replace hB := Lib.hid hB
  go_enter Tryz.func31, Tryz.ntmps31
  go_wp2_with (go_at_call 58; (with_reducible refine (hi.out _).mono ?_); rintro e w' ⟨rfl, rfl⟩)
  go_ret
  exact ⟨rfl, rfl⟩

end
section
/- Scripts: the tables of words. -/
open Go.ChangeShapes Go.WideShapes Go.ChangeAt Go.RowKit Go.Proofs Go.Shelf

/-- the world with another map at a block. -/
def mapW (w : World) (r : Nat) (es : Array MapEntry) (c : Nat) : World := { w with heap := w.heap.setIfInBounds r (.map es c) }
theorem mapW_at {w : World} {r : Nat} {o : Obj} (h : w.heap[r]? = some o) (es : Array MapEntry) (c : Nat) : (mapW w r es c).heap[r]? = some (.map es c) := by
  have hr := (Array.getElem?_eq_some_iff.1 h).1
  show (w.heap.setIfInBounds r _)[r]? = _
  rw [Array.getElem?_setIfInBounds_self_of_lt hr]
theorem mapW_below {w W : World} {B r : Nat} (h : Below B w W) (hB : B ≤ r) (es : Array MapEntry) (c : Nat) : Below B w (mapW W r es c) :=
  ⟨h.os, h.tape, h.output, by show _ ≤ (W.heap.setIfInBounds r _).size; rw [Array.size_setIfInBounds]; exact h.size, fun i hi => by
    show (W.heap.setIfInBounds r _)[i]? = _
    rw [Array.getElem?_setIfInBounds_ne (by omega)]; exact h.block i hi⟩
theorem ins_run {t kt et r c : Nat} {es : Array MapEntry} {s : ByteArray} {val : Value} {w : World} (hm : Tryz.prog.underlying t = some (.map kt et)) (hk : Tryz.prog.underlying kt = some .string) (hb : w.heap[r]? = some (.map es c)) (hf : Instr.findNow .string (.string s) es.toList 0 = some none) :
    (Instr.mapUpdate t (.map (some r)) (.string s) val).run Tryz.prog w = .ok () (mapW w r (es.push { key := .string s, val := val, born := c }) (c + 1)) := by
  have hc : (Instr.checkKey false 10000 kt (.string s)).run Tryz.prog w = .ok () w := MapKept.run_checkKey (k := .string s) hk (by simp [MapKept.IsKey]) false 9999
  simp [Instr.mapUpdate, run_underlying hm, MapKept.run_getObj_map hb, hc, MapKept.run_findKey hk hf, MapKept.run_setObj_map _ hb, Result.andThen, mapW]
theorem look_run {t kt et r c : Nat} {es : Array MapEntry} {s : ByteArray} {w : World} (hm : Tryz.prog.underlying t = some (.map kt et)) (hk : Tryz.prog.underlying kt = some .string) (hb : w.heap[r]? = some (.map es c)) {i : Nat} {v : Value} (hf : Instr.findNow .string (.string s) es.toList 0 = some (some (i, v))) :
    (Instr.lookup t (.map (some r)) (.string s) true).run Tryz.prog w = .ok (.tuple #[v, .bool true]) w := by
  have hc : (Instr.checkKey es.isEmpty 10000 kt (.string s)).run Tryz.prog w = .ok () w := MapKept.run_checkKey (k := .string s) hk (by simp [MapKept.IsKey]) _ 9999
  simp [Instr.lookup, run_underlying hm, MapKept.run_getObj_map hb, hc, MapKept.run_findKey hk hf, Result.andThen]
/-- the entries of wordsWithRest. -/
def esR : Array MapEntry := #[{ key := (.string ⟨#[112, 111, 105, 110, 116, 115]⟩), val := (.func (.func 84) #[] #[]), born := 0 }, { key := (.string ⟨#[115, 101, 116]⟩), val := (.func (.func 85) #[] #[]), born := 1 }, { key := (.string ⟨#[108, 101, 118, 101, 108]⟩), val := (.func (.func 86) #[] #[]), born := 2 }, { key := (.string ⟨#[102, 105, 114, 115, 116]⟩), val := (.func (.func 87) #[] #[]), born := 3 }, { key := (.string ⟨#[102, 108, 111, 119, 101, 114]⟩), val := (.func (.func 88) #[] #[]), born := 4 }, { key := (.string ⟨#[99, 104, 97, 105, 110]⟩), val := (.func (.func 89) #[] #[]), born := 5 }, { key := (.string ⟨#[99, 97, 115, 99, 97, 100, 101]⟩), val := (.func (.func 90) #[] #[]), born := 6 }]
set_option maxRecDepth 100000 in
set_option maxHeartbeats 4000000 in
theorem words_R (w : World) : Calls Tryz.prog 55 #[] w fun e w' => e = .returned (.map (some w.heap.size)) ∧ w'.heap[w.heap.size]? = some (.map esR 7) ∧ Below w.heap.size w w' := by
  have m0 : (w.alloc (.map #[] 0)).heap[w.heap.size]? = some (.map #[] 0) := heap_alloc_new w _
  have b0 := Lib.hid ((Below.refl _ w).alloc (Nat.le_refl _) (.map #[] 0))
  have hmm : (Instr.makeMap 88 none).run Tryz.prog w = .ok (.map (some w.heap.size)) (w.alloc (.map #[] 0)) := run_makeMap_plain w _
  have i1 := ins_run Tryz.underlying88 Tryz.underlying9 (s := ⟨#[112, 111, 105, 110, 116, 115]⟩) (val := (.func (.func 84) #[] #[])) m0 (by kernel_rfl)
  obtain ⟨w1, hw1⟩ : ∃ W, mapW (w.alloc (.map #[] 0)) w.heap.size #[{ key := (.string ⟨#[112, 111, 105, 110, 116, 115]⟩), val := (.func (.func 84) #[] #[]), born := 0 }] 1 = W := ⟨_, rfl⟩
  replace i1 := i1.trans (congrArg (Result.ok ()) hw1)
  have m1 : w1.heap[w.heap.size]? = some (.map #[{ key := (.string ⟨#[112, 111, 105, 110, 116, 115]⟩), val := (.func (.func 84) #[] #[]), born := 0 }] 1) := by rw [← hw1]; exact mapW_at m0 _ _
  have b1 : Hid (Below w.heap.size w w1) := Lib.hid (by rw [← hw1]; exact mapW_below b0.out (Nat.le_refl _) _ _)
  replace hw1 := Lib.hid hw1
  have i2 := ins_run Tryz.underlying88 Tryz.underlying9 (s := ⟨#[115, 101, 116]⟩) (val := (.func (.func 85) #[] #[])) m1 (by kernel_rfl)
  obtain ⟨w2, hw2⟩ : ∃ W, mapW w1 w.heap.size #[{ key := (.string ⟨#[112, 111, 105, 110, 116, 115]⟩), val := (.func (.func 84) #[] #[]), born := 0 }, { key := (.string ⟨#[115, 101, 116]⟩), val := (.func (.func 85) #[] #[]), born := 1 }] 2 = W := ⟨_, rfl⟩
  replace i2 := i2.trans (congrArg (Result.ok ()) hw2)
  have m2 : w2.heap[w.heap.size]? = some (.map #[{ key := (.string ⟨#[112, 111, 105, 110, 116, 115]⟩), val := (.func (.func 84) #[] #[]), born := 0 }, { key := (.string ⟨#[115, 101, 116]⟩), val := (.func (.func 85) #[] #[]), born := 1 }] 2) := by rw [← hw2]; exact mapW_at m1 _ _
  have b2 : Hid (Below w.heap.size w w2) := Lib.hid (by rw [← hw2]; exact mapW_below b1.out (Nat.le_refl _) _ _)
  replace hw2 := Lib.hid hw2
  have i3 := ins_run Tryz.underlying88 Tryz.underlying9 (s := ⟨#[108, 101, 118, 101, 108]⟩) (val := (.func (.func 86) #[] #[])) m2 (by kernel_rfl)
  obtain ⟨w3, hw3⟩ : ∃ W, mapW w2 w.heap.size #[{ key := (.string ⟨#[112, 111, 105, 110, 116, 115]⟩), val := (.func (.func 84) #[] #[]), born := 0 }, { key := (.string ⟨#[115, 101, 116]⟩), val := (.func (.func 85) #[] #[]), born := 1 }, { key := (.string ⟨#[108, 101, 118, 101, 108]⟩), val := (.func (.func 86) #[] #[]), born := 2 }] 3 = W := ⟨_, rfl⟩
  replace i3 := i3.trans (congrArg (Result.ok ()) hw3)
  have m3 : w3.heap[w.heap.size]? = some (.map #[{ key := (.string ⟨#[112, 111, 105, 110, 116, 115]⟩), val := (.func (.func 84) #[] #[]), born := 0 }, { key := (.string ⟨#[115, 101, 116]⟩), val := (.func (.func 85) #[] #[]), born := 1 }, { key := (.string ⟨#[108, 101, 118, 101, 108]⟩), val := (.func (.func 86) #[] #[]), born := 2 }] 3) := by rw [← hw3]; exact mapW_at m2 _ _
  have b3 : Hid (Below w.heap.size w w3) := Lib.hid (by rw [← hw3]; exact mapW_below b2.out (Nat.le_refl _) _ _)
  replace hw3 := Lib.hid hw3
  have i4 := ins_run Tryz.underlying88 Tryz.underlying9 (s := ⟨#[102, 105, 114, 115, 116]⟩) (val := (.func (.func 87) #[] #[])) m3 (by kernel_rfl)
  obtain ⟨w4, hw4⟩ : ∃ W, mapW w3 w.heap.size #[{ key := (.string ⟨#[112, 111, 105, 110, 116, 115]⟩), val := (.func (.func 84) #[] #[]), born := 0 }, { key := (.string ⟨#[115, 101, 116]⟩), val := (.func (.func 85) #[] #[]), born := 1 }, { key := (.string ⟨#[108, 101, 118, 101, 108]⟩), val := (.func (.func 86) #[] #[]), born := 2 }, { key := (.string ⟨#[102, 105, 114, 115, 116]⟩), val := (.func (.func 87) #[] #[]), born := 3 }] 4 = W := ⟨_, rfl⟩
  replace i4 := i4.trans (congrArg (Result.ok ()) hw4)
  have m4 : w4.heap[w.heap.size]? = some (.map #[{ key := (.string ⟨#[112, 111, 105, 110, 116, 115]⟩), val := (.func (.func 84) #[] #[]), born := 0 }, { key := (.string ⟨#[115, 101, 116]⟩), val := (.func (.func 85) #[] #[]), born := 1 }, { key := (.string ⟨#[108, 101, 118, 101, 108]⟩), val := (.func (.func 86) #[] #[]), born := 2 }, { key := (.string ⟨#[102, 105, 114, 115, 116]⟩), val := (.func (.func 87) #[] #[]), born := 3 }] 4) := by rw [← hw4]; exact mapW_at m3 _ _
  have b4 : Hid (Below w.heap.size w w4) := Lib.hid (by rw [← hw4]; exact mapW_below b3.out (Nat.le_refl _) _ _)
  replace hw4 := Lib.hid hw4
  have i5 := ins_run Tryz.underlying88 Tryz.underlying9 (s := ⟨#[102, 108, 111, 119, 101, 114]⟩) (val := (.func (.func 88) #[] #[])) m4 (by kernel_rfl)
  obtain ⟨w5, hw5⟩ : ∃ W, mapW w4 w.heap.size #[{ key := (.string ⟨#[112, 111, 105, 110, 116, 115]⟩), val := (.func (.func 84) #[] #[]), born := 0 }, { key := (.string ⟨#[115, 101, 116]⟩), val := (.func (.func 85) #[] #[]), born := 1 }, { key := (.string ⟨#[108, 101, 118, 101, 108]⟩), val := (.func (.func 86) #[] #[]), born := 2 }, { key := (.string ⟨#[102, 105, 114, 115, 116]⟩), val := (.func (.func 87) #[] #[]), born := 3 }, { key := (.string ⟨#[102, 108, 111, 119, 101, 114]⟩), val := (.func (.func 88) #[] #[]), born := 4 }] 5 = W := ⟨_, rfl⟩
  replace i5 := i5.trans (congrArg (Result.ok ()) hw5)
  have m5 : w5.heap[w.heap.size]? = some (.map #[{ key := (.string ⟨#[112, 111, 105, 110, 116, 115]⟩), val := (.func (.func 84) #[] #[]), born := 0 }, { key := (.string ⟨#[115, 101, 116]⟩), val := (.func (.func 85) #[] #[]), born := 1 }, { key := (.string ⟨#[108, 101, 118, 101, 108]⟩), val := (.func (.func 86) #[] #[]), born := 2 }, { key := (.string ⟨#[102, 105, 114, 115, 116]⟩), val := (.func (.func 87) #[] #[]), born := 3 }, { key := (.string ⟨#[102, 108, 111, 119, 101, 114]⟩), val := (.func (.func 88) #[] #[]), born := 4 }] 5) := by rw [← hw5]; exact mapW_at m4 _ _
  have b5 : Hid (Below w.heap.size w w5) := Lib.hid (by rw [← hw5]; exact mapW_below b4.out (Nat.le_refl _) _ _)
  replace hw5 := Lib.hid hw5
  have i6 := ins_run Tryz.underlying88 Tryz.underlying9 (s := ⟨#[99, 104, 97, 105, 110]⟩) (val := (.func (.func 89) #[] #[])) m5 (by kernel_rfl)
  obtain ⟨w6, hw6⟩ : ∃ W, mapW w5 w.heap.size #[{ key := (.string ⟨#[112, 111, 105, 110, 116, 115]⟩), val := (.func (.func 84) #[] #[]), born := 0 }, { key := (.string ⟨#[115, 101, 116]⟩), val := (.func (.func 85) #[] #[]), born := 1 }, { key := (.string ⟨#[108, 101, 118, 101, 108]⟩), val := (.func (.func 86) #[] #[]), born := 2 }, { key := (.string ⟨#[102, 105, 114, 115, 116]⟩), val := (.func (.func 87) #[] #[]), born := 3 }, { key := (.string ⟨#[102, 108, 111, 119, 101, 114]⟩), val := (.func (.func 88) #[] #[]), born := 4 }, { key := (.string ⟨#[99, 104, 97, 105, 110]⟩), val := (.func (.func 89) #[] #[]), born := 5 }] 6 = W := ⟨_, rfl⟩
  replace i6 := i6.trans (congrArg (Result.ok ()) hw6)
  have m6 : w6.heap[w.heap.size]? = some (.map #[{ key := (.string ⟨#[112, 111, 105, 110, 116, 115]⟩), val := (.func (.func 84) #[] #[]), born := 0 }, { key := (.string ⟨#[115, 101, 116]⟩), val := (.func (.func 85) #[] #[]), born := 1 }, { key := (.string ⟨#[108, 101, 118, 101, 108]⟩), val := (.func (.func 86) #[] #[]), born := 2 }, { key := (.string ⟨#[102, 105, 114, 115, 116]⟩), val := (.func (.func 87) #[] #[]), born := 3 }, { key := (.string ⟨#[102, 108, 111, 119, 101, 114]⟩), val := (.func (.func 88) #[] #[]), born := 4 }, { key := (.string ⟨#[99, 104, 97, 105, 110]⟩), val := (.func (.func 89) #[] #[]), born := 5 }] 6) := by rw [← hw6]; exact mapW_at m5 _ _
  have b6 : Hid (Below w.heap.size w w6) := Lib.hid (by rw [← hw6]; exact mapW_below b5.out (Nat.le_refl _) _ _)
  replace hw6 := Lib.hid hw6
  have i7 := ins_run Tryz.underlying88 Tryz.underlying9 (s := ⟨#[99, 97, 115, 99, 97, 100, 101]⟩) (val := (.func (.func 90) #[] #[])) m6 (by kernel_rfl)
  obtain ⟨w7, hw7⟩ : ∃ W, mapW w6 w.heap.size #[{ key := (.string ⟨#[112, 111, 105, 110, 116, 115]⟩), val := (.func (.func 84) #[] #[]), born := 0 }, { key := (.string ⟨#[115, 101, 116]⟩), val := (.func (.func 85) #[] #[]), born := 1 }, { key := (.string ⟨#[108, 101, 118, 101, 108]⟩), val := (.func (.func 86) #[] #[]), born := 2 }, { key := (.string ⟨#[102, 105, 114, 115, 116]⟩), val := (.func (.func 87) #[] #[]), born := 3 }, { key := (.string ⟨#[102, 108, 111, 119, 101, 114]⟩), val := (.func (.func 88) #[] #[]), born := 4 }, { key := (.string ⟨#[99, 104, 97, 105, 110]⟩), val := (.func (.func 89) #[] #[]), born := 5 }, { key := (.string ⟨#[99, 97, 115, 99, 97, 100, 101]⟩), val := (.func (.func 90) #[] #[]), born := 6 }] 7 = W := ⟨_, rfl⟩
  replace i7 := i7.trans (congrArg (Result.ok ()) hw7)
  have m7 : w7.heap[w.heap.size]? = some (.map #[{ key := (.string ⟨#[112, 111, 105, 110, 116, 115]⟩), val := (.func (.func 84) #[] #[]), born := 0 }, { key := (.string ⟨#[115, 101, 116]⟩), val := (.func (.func 85) #[] #[]), born := 1 }, { key := (.string ⟨#[108, 101, 118, 101, 108]⟩), val := (.func (.func 86) #[] #[]), born := 2 }, { key := (.string ⟨#[102, 105, 114, 115, 116]⟩), val := (.func (.func 87) #[] #[]), born := 3 }, { key := (.string ⟨#[102, 108, 111, 119, 101, 114]⟩), val := (.func (.func 88) #[] #[]), born := 4 }, { key := (.string ⟨#[99, 104, 97, 105, 110]⟩), val := (.func (.func 89) #[] #[]), born := 5 }, { key := (.string ⟨#[99, 97, 115, 99, 97, 100, 101]⟩), val := (.func (.func 90) #[] #[]), born := 6 }] 7) := by rw [← hw7]; exact mapW_at m6 _ _
  have b7 : Hid (Below w.heap.size w w7) := Lib.hid (by rw [← hw7]; exact mapW_below b6.out (Nat.le_refl _) _ _)
  replace hw7 := Lib.hid hw7
  replace m0 := Lib.hid m0
  replace m1 := Lib.hid m1
  replace m2 := Lib.hid m2
  replace m3 := Lib.hid m3
  replace m4 := Lib.hid m4
  replace m5 := Lib.hid m5
  replace m6 := Lib.hid m6
  replace m7 := Lib.hid m7
  go_enter Tryz.func55, Tryz.ntmps55
  go_wp2_with fail
  go_ret
  exact ⟨rfl, m7.out, b7.out⟩
/-- the entries of wordsAlone. -/
def esA : Array MapEntry := #[{ key := (.string ⟨#[115, 104, 97, 100, 111, 119]⟩), val := (.func (.func 91) #[] #[]), born := 0 }, { key := (.string ⟨#[117, 112]⟩), val := (.func (.func 92) #[] #[]), born := 1 }, { key := (.string ⟨#[100, 111, 119, 110]⟩), val := (.func (.func 93) #[] #[]), born := 2 }, { key := (.string ⟨#[115, 104, 105, 102, 116]⟩), val := (.func (.func 94) #[] #[]), born := 3 }, { key := (.string ⟨#[112, 114, 101, 115, 115]⟩), val := (.func (.func 95) #[] #[]), born := 4 }, { key := (.string ⟨#[111, 116, 104, 101, 114]⟩), val := (.func (.func 96) #[] #[]), born := 5 }, { key := (.string ⟨#[115, 104, 111, 119]⟩), val := (.func (.func 97) #[] #[]), born := 6 }, { key := (.string ⟨#[99, 111, 117, 110, 116]⟩), val := (.func (.func 31) #[] #[]), born := 7 }, { key := (.string ⟨#[112, 114, 111, 102, 105, 108, 101]⟩), val := (.func (.func 98) #[] #[]), born := 8 }, { key := (.string ⟨#[100, 101, 103, 114, 101, 101, 115]⟩), val := (.func (.func 99) #[] #[]), born := 9 }, { key := (.string ⟨#[97, 110, 116, 105]⟩), val := (.func (.func 100) #[] #[]), born := 10 }, { key := (.string ⟨#[109, 101, 101, 116, 115]⟩), val := (.func (.func 101) #[] #[]), born := 11 }, { key := (.string ⟨#[117, 110, 105, 111, 110]⟩), val := (.func (.func 102) #[] #[]), born := 12 }, { key := (.string ⟨#[119, 101, 105, 103, 104, 116]⟩), val := (.func (.func 103) #[] #[]), born := 13 }, { key := (.string ⟨#[100, 105, 109, 101, 110, 115, 105, 111, 110]⟩), val := (.func (.func 104) #[] #[]), born := 14 }, { key := (.string ⟨#[101, 100, 103, 101, 115]⟩), val := (.func (.func 105) #[] #[]), born := 15 }]
set_option maxRecDepth 100000 in
set_option maxHeartbeats 4000000 in
theorem words_A (w : World) : Calls Tryz.prog 57 #[] w fun e w' => e = .returned (.map (some w.heap.size)) ∧ w'.heap[w.heap.size]? = some (.map esA 16) ∧ Below w.heap.size w w' := by
  have m0 : (w.alloc (.map #[] 0)).heap[w.heap.size]? = some (.map #[] 0) := heap_alloc_new w _
  have b0 := Lib.hid ((Below.refl _ w).alloc (Nat.le_refl _) (.map #[] 0))
  have hmm : (Instr.makeMap 92 none).run Tryz.prog w = .ok (.map (some w.heap.size)) (w.alloc (.map #[] 0)) := run_makeMap_plain w _
  have i1 := ins_run Tryz.underlying92 Tryz.underlying9 (s := ⟨#[115, 104, 97, 100, 111, 119]⟩) (val := (.func (.func 91) #[] #[])) m0 (by kernel_rfl)
  obtain ⟨w1, hw1⟩ : ∃ W, mapW (w.alloc (.map #[] 0)) w.heap.size #[{ key := (.string ⟨#[115, 104, 97, 100, 111, 119]⟩), val := (.func (.func 91) #[] #[]), born := 0 }] 1 = W := ⟨_, rfl⟩
  replace i1 := i1.trans (congrArg (Result.ok ()) hw1)
  have m1 : w1.heap[w.heap.size]? = some (.map #[{ key := (.string ⟨#[115, 104, 97, 100, 111, 119]⟩), val := (.func (.func 91) #[] #[]), born := 0 }] 1) := by rw [← hw1]; exact mapW_at m0 _ _
  have b1 : Hid (Below w.heap.size w w1) := Lib.hid (by rw [← hw1]; exact mapW_below b0.out (Nat.le_refl _) _ _)
  replace hw1 := Lib.hid hw1
  have i2 := ins_run Tryz.underlying92 Tryz.underlying9 (s := ⟨#[117, 112]⟩) (val := (.func (.func 92) #[] #[])) m1 (by kernel_rfl)
  obtain ⟨w2, hw2⟩ : ∃ W, mapW w1 w.heap.size #[{ key := (.string ⟨#[115, 104, 97, 100, 111, 119]⟩), val := (.func (.func 91) #[] #[]), born := 0 }, { key := (.string ⟨#[117, 112]⟩), val := (.func (.func 92) #[] #[]), born := 1 }] 2 = W := ⟨_, rfl⟩
  replace i2 := i2.trans (congrArg (Result.ok ()) hw2)
  have m2 : w2.heap[w.heap.size]? = some (.map #[{ key := (.string ⟨#[115, 104, 97, 100, 111, 119]⟩), val := (.func (.func 91) #[] #[]), born := 0 }, { key := (.string ⟨#[117, 112]⟩), val := (.func (.func 92) #[] #[]), born := 1 }] 2) := by rw [← hw2]; exact mapW_at m1 _ _
  have b2 : Hid (Below w.heap.size w w2) := Lib.hid (by rw [← hw2]; exact mapW_below b1.out (Nat.le_refl _) _ _)
  replace hw2 := Lib.hid hw2
  have i3 := ins_run Tryz.underlying92 Tryz.underlying9 (s := ⟨#[100, 111, 119, 110]⟩) (val := (.func (.func 93) #[] #[])) m2 (by kernel_rfl)
  obtain ⟨w3, hw3⟩ : ∃ W, mapW w2 w.heap.size #[{ key := (.string ⟨#[115, 104, 97, 100, 111, 119]⟩), val := (.func (.func 91) #[] #[]), born := 0 }, { key := (.string ⟨#[117, 112]⟩), val := (.func (.func 92) #[] #[]), born := 1 }, { key := (.string ⟨#[100, 111, 119, 110]⟩), val := (.func (.func 93) #[] #[]), born := 2 }] 3 = W := ⟨_, rfl⟩
  replace i3 := i3.trans (congrArg (Result.ok ()) hw3)
  have m3 : w3.heap[w.heap.size]? = some (.map #[{ key := (.string ⟨#[115, 104, 97, 100, 111, 119]⟩), val := (.func (.func 91) #[] #[]), born := 0 }, { key := (.string ⟨#[117, 112]⟩), val := (.func (.func 92) #[] #[]), born := 1 }, { key := (.string ⟨#[100, 111, 119, 110]⟩), val := (.func (.func 93) #[] #[]), born := 2 }] 3) := by rw [← hw3]; exact mapW_at m2 _ _
  have b3 : Hid (Below w.heap.size w w3) := Lib.hid (by rw [← hw3]; exact mapW_below b2.out (Nat.le_refl _) _ _)
  replace hw3 := Lib.hid hw3
  have i4 := ins_run Tryz.underlying92 Tryz.underlying9 (s := ⟨#[115, 104, 105, 102, 116]⟩) (val := (.func (.func 94) #[] #[])) m3 (by kernel_rfl)
  obtain ⟨w4, hw4⟩ : ∃ W, mapW w3 w.heap.size #[{ key := (.string ⟨#[115, 104, 97, 100, 111, 119]⟩), val := (.func (.func 91) #[] #[]), born := 0 }, { key := (.string ⟨#[117, 112]⟩), val := (.func (.func 92) #[] #[]), born := 1 }, { key := (.string ⟨#[100, 111, 119, 110]⟩), val := (.func (.func 93) #[] #[]), born := 2 }, { key := (.string ⟨#[115, 104, 105, 102, 116]⟩), val := (.func (.func 94) #[] #[]), born := 3 }] 4 = W := ⟨_, rfl⟩
  replace i4 := i4.trans (congrArg (Result.ok ()) hw4)
  have m4 : w4.heap[w.heap.size]? = some (.map #[{ key := (.string ⟨#[115, 104, 97, 100, 111, 119]⟩), val := (.func (.func 91) #[] #[]), born := 0 }, { key := (.string ⟨#[117, 112]⟩), val := (.func (.func 92) #[] #[]), born := 1 }, { key := (.string ⟨#[100, 111, 119, 110]⟩), val := (.func (.func 93) #[] #[]), born := 2 }, { key := (.string ⟨#[115, 104, 105, 102, 116]⟩), val := (.func (.func 94) #[] #[]), born := 3 }] 4) := by rw [← hw4]; exact mapW_at m3 _ _
  have b4 : Hid (Below w.heap.size w w4) := Lib.hid (by rw [← hw4]; exact mapW_below b3.out (Nat.le_refl _) _ _)
  replace hw4 := Lib.hid hw4
  have i5 := ins_run Tryz.underlying92 Tryz.underlying9 (s := ⟨#[112, 114, 101, 115, 115]⟩) (val := (.func (.func 95) #[] #[])) m4 (by kernel_rfl)
  obtain ⟨w5, hw5⟩ : ∃ W, mapW w4 w.heap.size #[{ key := (.string ⟨#[115, 104, 97, 100, 111, 119]⟩), val := (.func (.func 91) #[] #[]), born := 0 }, { key := (.string ⟨#[117, 112]⟩), val := (.func (.func 92) #[] #[]), born := 1 }, { key := (.string ⟨#[100, 111, 119, 110]⟩), val := (.func (.func 93) #[] #[]), born := 2 }, { key := (.string ⟨#[115, 104, 105, 102, 116]⟩), val := (.func (.func 94) #[] #[]), born := 3 }, { key := (.string ⟨#[112, 114, 101, 115, 115]⟩), val := (.func (.func 95) #[] #[]), born := 4 }] 5 = W := ⟨_, rfl⟩
  replace i5 := i5.trans (congrArg (Result.ok ()) hw5)
  have m5 : w5.heap[w.heap.size]? = some (.map #[{ key := (.string ⟨#[115, 104, 97, 100, 111, 119]⟩), val := (.func (.func 91) #[] #[]), born := 0 }, { key := (.string ⟨#[117, 112]⟩), val := (.func (.func 92) #[] #[]), born := 1 }, { key := (.string ⟨#[100, 111, 119, 110]⟩), val := (.func (.func 93) #[] #[]), born := 2 }, { key := (.string ⟨#[115, 104, 105, 102, 116]⟩), val := (.func (.func 94) #[] #[]), born := 3 }, { key := (.string ⟨#[112, 114, 101, 115, 115]⟩), val := (.func (.func 95) #[] #[]), born := 4 }] 5) := by rw [← hw5]; exact mapW_at m4 _ _
  have b5 : Hid (Below w.heap.size w w5) := Lib.hid (by rw [← hw5]; exact mapW_below b4.out (Nat.le_refl _) _ _)
  replace hw5 := Lib.hid hw5
  have i6 := ins_run Tryz.underlying92 Tryz.underlying9 (s := ⟨#[111, 116, 104, 101, 114]⟩) (val := (.func (.func 96) #[] #[])) m5 (by kernel_rfl)
  obtain ⟨w6, hw6⟩ : ∃ W, mapW w5 w.heap.size #[{ key := (.string ⟨#[115, 104, 97, 100, 111, 119]⟩), val := (.func (.func 91) #[] #[]), born := 0 }, { key := (.string ⟨#[117, 112]⟩), val := (.func (.func 92) #[] #[]), born := 1 }, { key := (.string ⟨#[100, 111, 119, 110]⟩), val := (.func (.func 93) #[] #[]), born := 2 }, { key := (.string ⟨#[115, 104, 105, 102, 116]⟩), val := (.func (.func 94) #[] #[]), born := 3 }, { key := (.string ⟨#[112, 114, 101, 115, 115]⟩), val := (.func (.func 95) #[] #[]), born := 4 }, { key := (.string ⟨#[111, 116, 104, 101, 114]⟩), val := (.func (.func 96) #[] #[]), born := 5 }] 6 = W := ⟨_, rfl⟩
  replace i6 := i6.trans (congrArg (Result.ok ()) hw6)
  have m6 : w6.heap[w.heap.size]? = some (.map #[{ key := (.string ⟨#[115, 104, 97, 100, 111, 119]⟩), val := (.func (.func 91) #[] #[]), born := 0 }, { key := (.string ⟨#[117, 112]⟩), val := (.func (.func 92) #[] #[]), born := 1 }, { key := (.string ⟨#[100, 111, 119, 110]⟩), val := (.func (.func 93) #[] #[]), born := 2 }, { key := (.string ⟨#[115, 104, 105, 102, 116]⟩), val := (.func (.func 94) #[] #[]), born := 3 }, { key := (.string ⟨#[112, 114, 101, 115, 115]⟩), val := (.func (.func 95) #[] #[]), born := 4 }, { key := (.string ⟨#[111, 116, 104, 101, 114]⟩), val := (.func (.func 96) #[] #[]), born := 5 }] 6) := by rw [← hw6]; exact mapW_at m5 _ _
  have b6 : Hid (Below w.heap.size w w6) := Lib.hid (by rw [← hw6]; exact mapW_below b5.out (Nat.le_refl _) _ _)
  replace hw6 := Lib.hid hw6
  have i7 := ins_run Tryz.underlying92 Tryz.underlying9 (s := ⟨#[115, 104, 111, 119]⟩) (val := (.func (.func 97) #[] #[])) m6 (by kernel_rfl)
  obtain ⟨w7, hw7⟩ : ∃ W, mapW w6 w.heap.size #[{ key := (.string ⟨#[115, 104, 97, 100, 111, 119]⟩), val := (.func (.func 91) #[] #[]), born := 0 }, { key := (.string ⟨#[117, 112]⟩), val := (.func (.func 92) #[] #[]), born := 1 }, { key := (.string ⟨#[100, 111, 119, 110]⟩), val := (.func (.func 93) #[] #[]), born := 2 }, { key := (.string ⟨#[115, 104, 105, 102, 116]⟩), val := (.func (.func 94) #[] #[]), born := 3 }, { key := (.string ⟨#[112, 114, 101, 115, 115]⟩), val := (.func (.func 95) #[] #[]), born := 4 }, { key := (.string ⟨#[111, 116, 104, 101, 114]⟩), val := (.func (.func 96) #[] #[]), born := 5 }, { key := (.string ⟨#[115, 104, 111, 119]⟩), val := (.func (.func 97) #[] #[]), born := 6 }] 7 = W := ⟨_, rfl⟩
  replace i7 := i7.trans (congrArg (Result.ok ()) hw7)
  have m7 : w7.heap[w.heap.size]? = some (.map #[{ key := (.string ⟨#[115, 104, 97, 100, 111, 119]⟩), val := (.func (.func 91) #[] #[]), born := 0 }, { key := (.string ⟨#[117, 112]⟩), val := (.func (.func 92) #[] #[]), born := 1 }, { key := (.string ⟨#[100, 111, 119, 110]⟩), val := (.func (.func 93) #[] #[]), born := 2 }, { key := (.string ⟨#[115, 104, 105, 102, 116]⟩), val := (.func (.func 94) #[] #[]), born := 3 }, { key := (.string ⟨#[112, 114, 101, 115, 115]⟩), val := (.func (.func 95) #[] #[]), born := 4 }, { key := (.string ⟨#[111, 116, 104, 101, 114]⟩), val := (.func (.func 96) #[] #[]), born := 5 }, { key := (.string ⟨#[115, 104, 111, 119]⟩), val := (.func (.func 97) #[] #[]), born := 6 }] 7) := by rw [← hw7]; exact mapW_at m6 _ _
  have b7 : Hid (Below w.heap.size w w7) := Lib.hid (by rw [← hw7]; exact mapW_below b6.out (Nat.le_refl _) _ _)
  replace hw7 := Lib.hid hw7
  have i8 := ins_run Tryz.underlying92 Tryz.underlying9 (s := ⟨#[99, 111, 117, 110, 116]⟩) (val := (.func (.func 31) #[] #[])) m7 (by kernel_rfl)
  obtain ⟨w8, hw8⟩ : ∃ W, mapW w7 w.heap.size #[{ key := (.string ⟨#[115, 104, 97, 100, 111, 119]⟩), val := (.func (.func 91) #[] #[]), born := 0 }, { key := (.string ⟨#[117, 112]⟩), val := (.func (.func 92) #[] #[]), born := 1 }, { key := (.string ⟨#[100, 111, 119, 110]⟩), val := (.func (.func 93) #[] #[]), born := 2 }, { key := (.string ⟨#[115, 104, 105, 102, 116]⟩), val := (.func (.func 94) #[] #[]), born := 3 }, { key := (.string ⟨#[112, 114, 101, 115, 115]⟩), val := (.func (.func 95) #[] #[]), born := 4 }, { key := (.string ⟨#[111, 116, 104, 101, 114]⟩), val := (.func (.func 96) #[] #[]), born := 5 }, { key := (.string ⟨#[115, 104, 111, 119]⟩), val := (.func (.func 97) #[] #[]), born := 6 }, { key := (.string ⟨#[99, 111, 117, 110, 116]⟩), val := (.func (.func 31) #[] #[]), born := 7 }] 8 = W := ⟨_, rfl⟩
  replace i8 := i8.trans (congrArg (Result.ok ()) hw8)
  have m8 : w8.heap[w.heap.size]? = some (.map #[{ key := (.string ⟨#[115, 104, 97, 100, 111, 119]⟩), val := (.func (.func 91) #[] #[]), born := 0 }, { key := (.string ⟨#[117, 112]⟩), val := (.func (.func 92) #[] #[]), born := 1 }, { key := (.string ⟨#[100, 111, 119, 110]⟩), val := (.func (.func 93) #[] #[]), born := 2 }, { key := (.string ⟨#[115, 104, 105, 102, 116]⟩), val := (.func (.func 94) #[] #[]), born := 3 }, { key := (.string ⟨#[112, 114, 101, 115, 115]⟩), val := (.func (.func 95) #[] #[]), born := 4 }, { key := (.string ⟨#[111, 116, 104, 101, 114]⟩), val := (.func (.func 96) #[] #[]), born := 5 }, { key := (.string ⟨#[115, 104, 111, 119]⟩), val := (.func (.func 97) #[] #[]), born := 6 }, { key := (.string ⟨#[99, 111, 117, 110, 116]⟩), val := (.func (.func 31) #[] #[]), born := 7 }] 8) := by rw [← hw8]; exact mapW_at m7 _ _
  have b8 : Hid (Below w.heap.size w w8) := Lib.hid (by rw [← hw8]; exact mapW_below b7.out (Nat.le_refl _) _ _)
  replace hw8 := Lib.hid hw8
  have i9 := ins_run Tryz.underlying92 Tryz.underlying9 (s := ⟨#[112, 114, 111, 102, 105, 108, 101]⟩) (val := (.func (.func 98) #[] #[])) m8 (by kernel_rfl)
  obtain ⟨w9, hw9⟩ : ∃ W, mapW w8 w.heap.size #[{ key := (.string ⟨#[115, 104, 97, 100, 111, 119]⟩), val := (.func (.func 91) #[] #[]), born := 0 }, { key := (.string ⟨#[117, 112]⟩), val := (.func (.func 92) #[] #[]), born := 1 }, { key := (.string ⟨#[100, 111, 119, 110]⟩), val := (.func (.func 93) #[] #[]), born := 2 }, { key := (.string ⟨#[115, 104, 105, 102, 116]⟩), val := (.func (.func 94) #[] #[]), born := 3 }, { key := (.string ⟨#[112, 114, 101, 115, 115]⟩), val := (.func (.func 95) #[] #[]), born := 4 }, { key := (.string ⟨#[111, 116, 104, 101, 114]⟩), val := (.func (.func 96) #[] #[]), born := 5 }, { key := (.string ⟨#[115, 104, 111, 119]⟩), val := (.func (.func 97) #[] #[]), born := 6 }, { key := (.string ⟨#[99, 111, 117, 110, 116]⟩), val := (.func (.func 31) #[] #[]), born := 7 }, { key := (.string ⟨#[112, 114, 111, 102, 105, 108, 101]⟩), val := (.func (.func 98) #[] #[]), born := 8 }] 9 = W := ⟨_, rfl⟩
  replace i9 := i9.trans (congrArg (Result.ok ()) hw9)
  have m9 : w9.heap[w.heap.size]? = some (.map #[{ key := (.string ⟨#[115, 104, 97, 100, 111, 119]⟩), val := (.func (.func 91) #[] #[]), born := 0 }, { key := (.string ⟨#[117, 112]⟩), val := (.func (.func 92) #[] #[]), born := 1 }, { key := (.string ⟨#[100, 111, 119, 110]⟩), val := (.func (.func 93) #[] #[]), born := 2 }, { key := (.string ⟨#[115, 104, 105, 102, 116]⟩), val := (.func (.func 94) #[] #[]), born := 3 }, { key := (.string ⟨#[112, 114, 101, 115, 115]⟩), val := (.func (.func 95) #[] #[]), born := 4 }, { key := (.string ⟨#[111, 116, 104, 101, 114]⟩), val := (.func (.func 96) #[] #[]), born := 5 }, { key := (.string ⟨#[115, 104, 111, 119]⟩), val := (.func (.func 97) #[] #[]), born := 6 }, { key := (.string ⟨#[99, 111, 117, 110, 116]⟩), val := (.func (.func 31) #[] #[]), born := 7 }, { key := (.string ⟨#[112, 114, 111, 102, 105, 108, 101]⟩), val := (.func (.func 98) #[] #[]), born := 8 }] 9) := by rw [← hw9]; exact mapW_at m8 _ _
  have b9 : Hid (Below w.heap.size w w9) := Lib.hid (by rw [← hw9]; exact mapW_below b8.out (Nat.le_refl _) _ _)
  replace hw9 := Lib.hid hw9
  have i10 := ins_run Tryz.underlying92 Tryz.underlying9 (s := ⟨#[100, 101, 103, 114, 101, 101, 115]⟩) (val := (.func (.func 99) #[] #[])) m9 (by kernel_rfl)
  obtain ⟨w10, hw10⟩ : ∃ W, mapW w9 w.heap.size #[{ key := (.string ⟨#[115, 104, 97, 100, 111, 119]⟩), val := (.func (.func 91) #[] #[]), born := 0 }, { key := (.string ⟨#[117, 112]⟩), val := (.func (.func 92) #[] #[]), born := 1 }, { key := (.string ⟨#[100, 111, 119, 110]⟩), val := (.func (.func 93) #[] #[]), born := 2 }, { key := (.string ⟨#[115, 104, 105, 102, 116]⟩), val := (.func (.func 94) #[] #[]), born := 3 }, { key := (.string ⟨#[112, 114, 101, 115, 115]⟩), val := (.func (.func 95) #[] #[]), born := 4 }, { key := (.string ⟨#[111, 116, 104, 101, 114]⟩), val := (.func (.func 96) #[] #[]), born := 5 }, { key := (.string ⟨#[115, 104, 111, 119]⟩), val := (.func (.func 97) #[] #[]), born := 6 }, { key := (.string ⟨#[99, 111, 117, 110, 116]⟩), val := (.func (.func 31) #[] #[]), born := 7 }, { key := (.string ⟨#[112, 114, 111, 102, 105, 108, 101]⟩), val := (.func (.func 98) #[] #[]), born := 8 }, { key := (.string ⟨#[100, 101, 103, 114, 101, 101, 115]⟩), val := (.func (.func 99) #[] #[]), born := 9 }] 10 = W := ⟨_, rfl⟩
  replace i10 := i10.trans (congrArg (Result.ok ()) hw10)
  have m10 : w10.heap[w.heap.size]? = some (.map #[{ key := (.string ⟨#[115, 104, 97, 100, 111, 119]⟩), val := (.func (.func 91) #[] #[]), born := 0 }, { key := (.string ⟨#[117, 112]⟩), val := (.func (.func 92) #[] #[]), born := 1 }, { key := (.string ⟨#[100, 111, 119, 110]⟩), val := (.func (.func 93) #[] #[]), born := 2 }, { key := (.string ⟨#[115, 104, 105, 102, 116]⟩), val := (.func (.func 94) #[] #[]), born := 3 }, { key := (.string ⟨#[112, 114, 101, 115, 115]⟩), val := (.func (.func 95) #[] #[]), born := 4 }, { key := (.string ⟨#[111, 116, 104, 101, 114]⟩), val := (.func (.func 96) #[] #[]), born := 5 }, { key := (.string ⟨#[115, 104, 111, 119]⟩), val := (.func (.func 97) #[] #[]), born := 6 }, { key := (.string ⟨#[99, 111, 117, 110, 116]⟩), val := (.func (.func 31) #[] #[]), born := 7 }, { key := (.string ⟨#[112, 114, 111, 102, 105, 108, 101]⟩), val := (.func (.func 98) #[] #[]), born := 8 }, { key := (.string ⟨#[100, 101, 103, 114, 101, 101, 115]⟩), val := (.func (.func 99) #[] #[]), born := 9 }] 10) := by rw [← hw10]; exact mapW_at m9 _ _
  have b10 : Hid (Below w.heap.size w w10) := Lib.hid (by rw [← hw10]; exact mapW_below b9.out (Nat.le_refl _) _ _)
  replace hw10 := Lib.hid hw10
  have i11 := ins_run Tryz.underlying92 Tryz.underlying9 (s := ⟨#[97, 110, 116, 105]⟩) (val := (.func (.func 100) #[] #[])) m10 (by kernel_rfl)
  obtain ⟨w11, hw11⟩ : ∃ W, mapW w10 w.heap.size #[{ key := (.string ⟨#[115, 104, 97, 100, 111, 119]⟩), val := (.func (.func 91) #[] #[]), born := 0 }, { key := (.string ⟨#[117, 112]⟩), val := (.func (.func 92) #[] #[]), born := 1 }, { key := (.string ⟨#[100, 111, 119, 110]⟩), val := (.func (.func 93) #[] #[]), born := 2 }, { key := (.string ⟨#[115, 104, 105, 102, 116]⟩), val := (.func (.func 94) #[] #[]), born := 3 }, { key := (.string ⟨#[112, 114, 101, 115, 115]⟩), val := (.func (.func 95) #[] #[]), born := 4 }, { key := (.string ⟨#[111, 116, 104, 101, 114]⟩), val := (.func (.func 96) #[] #[]), born := 5 }, { key := (.string ⟨#[115, 104, 111, 119]⟩), val := (.func (.func 97) #[] #[]), born := 6 }, { key := (.string ⟨#[99, 111, 117, 110, 116]⟩), val := (.func (.func 31) #[] #[]), born := 7 }, { key := (.string ⟨#[112, 114, 111, 102, 105, 108, 101]⟩), val := (.func (.func 98) #[] #[]), born := 8 }, { key := (.string ⟨#[100, 101, 103, 114, 101, 101, 115]⟩), val := (.func (.func 99) #[] #[]), born := 9 }, { key := (.string ⟨#[97, 110, 116, 105]⟩), val := (.func (.func 100) #[] #[]), born := 10 }] 11 = W := ⟨_, rfl⟩
  replace i11 := i11.trans (congrArg (Result.ok ()) hw11)
  have m11 : w11.heap[w.heap.size]? = some (.map #[{ key := (.string ⟨#[115, 104, 97, 100, 111, 119]⟩), val := (.func (.func 91) #[] #[]), born := 0 }, { key := (.string ⟨#[117, 112]⟩), val := (.func (.func 92) #[] #[]), born := 1 }, { key := (.string ⟨#[100, 111, 119, 110]⟩), val := (.func (.func 93) #[] #[]), born := 2 }, { key := (.string ⟨#[115, 104, 105, 102, 116]⟩), val := (.func (.func 94) #[] #[]), born := 3 }, { key := (.string ⟨#[112, 114, 101, 115, 115]⟩), val := (.func (.func 95) #[] #[]), born := 4 }, { key := (.string ⟨#[111, 116, 104, 101, 114]⟩), val := (.func (.func 96) #[] #[]), born := 5 }, { key := (.string ⟨#[115, 104, 111, 119]⟩), val := (.func (.func 97) #[] #[]), born := 6 }, { key := (.string ⟨#[99, 111, 117, 110, 116]⟩), val := (.func (.func 31) #[] #[]), born := 7 }, { key := (.string ⟨#[112, 114, 111, 102, 105, 108, 101]⟩), val := (.func (.func 98) #[] #[]), born := 8 }, { key := (.string ⟨#[100, 101, 103, 114, 101, 101, 115]⟩), val := (.func (.func 99) #[] #[]), born := 9 }, { key := (.string ⟨#[97, 110, 116, 105]⟩), val := (.func (.func 100) #[] #[]), born := 10 }] 11) := by rw [← hw11]; exact mapW_at m10 _ _
  have b11 : Hid (Below w.heap.size w w11) := Lib.hid (by rw [← hw11]; exact mapW_below b10.out (Nat.le_refl _) _ _)
  replace hw11 := Lib.hid hw11
  have i12 := ins_run Tryz.underlying92 Tryz.underlying9 (s := ⟨#[109, 101, 101, 116, 115]⟩) (val := (.func (.func 101) #[] #[])) m11 (by kernel_rfl)
  obtain ⟨w12, hw12⟩ : ∃ W, mapW w11 w.heap.size #[{ key := (.string ⟨#[115, 104, 97, 100, 111, 119]⟩), val := (.func (.func 91) #[] #[]), born := 0 }, { key := (.string ⟨#[117, 112]⟩), val := (.func (.func 92) #[] #[]), born := 1 }, { key := (.string ⟨#[100, 111, 119, 110]⟩), val := (.func (.func 93) #[] #[]), born := 2 }, { key := (.string ⟨#[115, 104, 105, 102, 116]⟩), val := (.func (.func 94) #[] #[]), born := 3 }, { key := (.string ⟨#[112, 114, 101, 115, 115]⟩), val := (.func (.func 95) #[] #[]), born := 4 }, { key := (.string ⟨#[111, 116, 104, 101, 114]⟩), val := (.func (.func 96) #[] #[]), born := 5 }, { key := (.string ⟨#[115, 104, 111, 119]⟩), val := (.func (.func 97) #[] #[]), born := 6 }, { key := (.string ⟨#[99, 111, 117, 110, 116]⟩), val := (.func (.func 31) #[] #[]), born := 7 }, { key := (.string ⟨#[112, 114, 111, 102, 105, 108, 101]⟩), val := (.func (.func 98) #[] #[]), born := 8 }, { key := (.string ⟨#[100, 101, 103, 114, 101, 101, 115]⟩), val := (.func (.func 99) #[] #[]), born := 9 }, { key := (.string ⟨#[97, 110, 116, 105]⟩), val := (.func (.func 100) #[] #[]), born := 10 }, { key := (.string ⟨#[109, 101, 101, 116, 115]⟩), val := (.func (.func 101) #[] #[]), born := 11 }] 12 = W := ⟨_, rfl⟩
  replace i12 := i12.trans (congrArg (Result.ok ()) hw12)
  have m12 : w12.heap[w.heap.size]? = some (.map #[{ key := (.string ⟨#[115, 104, 97, 100, 111, 119]⟩), val := (.func (.func 91) #[] #[]), born := 0 }, { key := (.string ⟨#[117, 112]⟩), val := (.func (.func 92) #[] #[]), born := 1 }, { key := (.string ⟨#[100, 111, 119, 110]⟩), val := (.func (.func 93) #[] #[]), born := 2 }, { key := (.string ⟨#[115, 104, 105, 102, 116]⟩), val := (.func (.func 94) #[] #[]), born := 3 }, { key := (.string ⟨#[112, 114, 101, 115, 115]⟩), val := (.func (.func 95) #[] #[]), born := 4 }, { key := (.string ⟨#[111, 116, 104, 101, 114]⟩), val := (.func (.func 96) #[] #[]), born := 5 }, { key := (.string ⟨#[115, 104, 111, 119]⟩), val := (.func (.func 97) #[] #[]), born := 6 }, { key := (.string ⟨#[99, 111, 117, 110, 116]⟩), val := (.func (.func 31) #[] #[]), born := 7 }, { key := (.string ⟨#[112, 114, 111, 102, 105, 108, 101]⟩), val := (.func (.func 98) #[] #[]), born := 8 }, { key := (.string ⟨#[100, 101, 103, 114, 101, 101, 115]⟩), val := (.func (.func 99) #[] #[]), born := 9 }, { key := (.string ⟨#[97, 110, 116, 105]⟩), val := (.func (.func 100) #[] #[]), born := 10 }, { key := (.string ⟨#[109, 101, 101, 116, 115]⟩), val := (.func (.func 101) #[] #[]), born := 11 }] 12) := by rw [← hw12]; exact mapW_at m11 _ _
  have b12 : Hid (Below w.heap.size w w12) := Lib.hid (by rw [← hw12]; exact mapW_below b11.out (Nat.le_refl _) _ _)
  replace hw12 := Lib.hid hw12
  have i13 := ins_run Tryz.underlying92 Tryz.underlying9 (s := ⟨#[117, 110, 105, 111, 110]⟩) (val := (.func (.func 102) #[] #[])) m12 (by kernel_rfl)
  obtain ⟨w13, hw13⟩ : ∃ W, mapW w12 w.heap.size #[{ key := (.string ⟨#[115, 104, 97, 100, 111, 119]⟩), val := (.func (.func 91) #[] #[]), born := 0 }, { key := (.string ⟨#[117, 112]⟩), val := (.func (.func 92) #[] #[]), born := 1 }, { key := (.string ⟨#[100, 111, 119, 110]⟩), val := (.func (.func 93) #[] #[]), born := 2 }, { key := (.string ⟨#[115, 104, 105, 102, 116]⟩), val := (.func (.func 94) #[] #[]), born := 3 }, { key := (.string ⟨#[112, 114, 101, 115, 115]⟩), val := (.func (.func 95) #[] #[]), born := 4 }, { key := (.string ⟨#[111, 116, 104, 101, 114]⟩), val := (.func (.func 96) #[] #[]), born := 5 }, { key := (.string ⟨#[115, 104, 111, 119]⟩), val := (.func (.func 97) #[] #[]), born := 6 }, { key := (.string ⟨#[99, 111, 117, 110, 116]⟩), val := (.func (.func 31) #[] #[]), born := 7 }, { key := (.string ⟨#[112, 114, 111, 102, 105, 108, 101]⟩), val := (.func (.func 98) #[] #[]), born := 8 }, { key := (.string ⟨#[100, 101, 103, 114, 101, 101, 115]⟩), val := (.func (.func 99) #[] #[]), born := 9 }, { key := (.string ⟨#[97, 110, 116, 105]⟩), val := (.func (.func 100) #[] #[]), born := 10 }, { key := (.string ⟨#[109, 101, 101, 116, 115]⟩), val := (.func (.func 101) #[] #[]), born := 11 }, { key := (.string ⟨#[117, 110, 105, 111, 110]⟩), val := (.func (.func 102) #[] #[]), born := 12 }] 13 = W := ⟨_, rfl⟩
  replace i13 := i13.trans (congrArg (Result.ok ()) hw13)
  have m13 : w13.heap[w.heap.size]? = some (.map #[{ key := (.string ⟨#[115, 104, 97, 100, 111, 119]⟩), val := (.func (.func 91) #[] #[]), born := 0 }, { key := (.string ⟨#[117, 112]⟩), val := (.func (.func 92) #[] #[]), born := 1 }, { key := (.string ⟨#[100, 111, 119, 110]⟩), val := (.func (.func 93) #[] #[]), born := 2 }, { key := (.string ⟨#[115, 104, 105, 102, 116]⟩), val := (.func (.func 94) #[] #[]), born := 3 }, { key := (.string ⟨#[112, 114, 101, 115, 115]⟩), val := (.func (.func 95) #[] #[]), born := 4 }, { key := (.string ⟨#[111, 116, 104, 101, 114]⟩), val := (.func (.func 96) #[] #[]), born := 5 }, { key := (.string ⟨#[115, 104, 111, 119]⟩), val := (.func (.func 97) #[] #[]), born := 6 }, { key := (.string ⟨#[99, 111, 117, 110, 116]⟩), val := (.func (.func 31) #[] #[]), born := 7 }, { key := (.string ⟨#[112, 114, 111, 102, 105, 108, 101]⟩), val := (.func (.func 98) #[] #[]), born := 8 }, { key := (.string ⟨#[100, 101, 103, 114, 101, 101, 115]⟩), val := (.func (.func 99) #[] #[]), born := 9 }, { key := (.string ⟨#[97, 110, 116, 105]⟩), val := (.func (.func 100) #[] #[]), born := 10 }, { key := (.string ⟨#[109, 101, 101, 116, 115]⟩), val := (.func (.func 101) #[] #[]), born := 11 }, { key := (.string ⟨#[117, 110, 105, 111, 110]⟩), val := (.func (.func 102) #[] #[]), born := 12 }] 13) := by rw [← hw13]; exact mapW_at m12 _ _
  have b13 : Hid (Below w.heap.size w w13) := Lib.hid (by rw [← hw13]; exact mapW_below b12.out (Nat.le_refl _) _ _)
  replace hw13 := Lib.hid hw13
  have i14 := ins_run Tryz.underlying92 Tryz.underlying9 (s := ⟨#[119, 101, 105, 103, 104, 116]⟩) (val := (.func (.func 103) #[] #[])) m13 (by kernel_rfl)
  obtain ⟨w14, hw14⟩ : ∃ W, mapW w13 w.heap.size #[{ key := (.string ⟨#[115, 104, 97, 100, 111, 119]⟩), val := (.func (.func 91) #[] #[]), born := 0 }, { key := (.string ⟨#[117, 112]⟩), val := (.func (.func 92) #[] #[]), born := 1 }, { key := (.string ⟨#[100, 111, 119, 110]⟩), val := (.func (.func 93) #[] #[]), born := 2 }, { key := (.string ⟨#[115, 104, 105, 102, 116]⟩), val := (.func (.func 94) #[] #[]), born := 3 }, { key := (.string ⟨#[112, 114, 101, 115, 115]⟩), val := (.func (.func 95) #[] #[]), born := 4 }, { key := (.string ⟨#[111, 116, 104, 101, 114]⟩), val := (.func (.func 96) #[] #[]), born := 5 }, { key := (.string ⟨#[115, 104, 111, 119]⟩), val := (.func (.func 97) #[] #[]), born := 6 }, { key := (.string ⟨#[99, 111, 117, 110, 116]⟩), val := (.func (.func 31) #[] #[]), born := 7 }, { key := (.string ⟨#[112, 114, 111, 102, 105, 108, 101]⟩), val := (.func (.func 98) #[] #[]), born := 8 }, { key := (.string ⟨#[100, 101, 103, 114, 101, 101, 115]⟩), val := (.func (.func 99) #[] #[]), born := 9 }, { key := (.string ⟨#[97, 110, 116, 105]⟩), val := (.func (.func 100) #[] #[]), born := 10 }, { key := (.string ⟨#[109, 101, 101, 116, 115]⟩), val := (.func (.func 101) #[] #[]), born := 11 }, { key := (.string ⟨#[117, 110, 105, 111, 110]⟩), val := (.func (.func 102) #[] #[]), born := 12 }, { key := (.string ⟨#[119, 101, 105, 103, 104, 116]⟩), val := (.func (.func 103) #[] #[]), born := 13 }] 14 = W := ⟨_, rfl⟩
  replace i14 := i14.trans (congrArg (Result.ok ()) hw14)
  have m14 : w14.heap[w.heap.size]? = some (.map #[{ key := (.string ⟨#[115, 104, 97, 100, 111, 119]⟩), val := (.func (.func 91) #[] #[]), born := 0 }, { key := (.string ⟨#[117, 112]⟩), val := (.func (.func 92) #[] #[]), born := 1 }, { key := (.string ⟨#[100, 111, 119, 110]⟩), val := (.func (.func 93) #[] #[]), born := 2 }, { key := (.string ⟨#[115, 104, 105, 102, 116]⟩), val := (.func (.func 94) #[] #[]), born := 3 }, { key := (.string ⟨#[112, 114, 101, 115, 115]⟩), val := (.func (.func 95) #[] #[]), born := 4 }, { key := (.string ⟨#[111, 116, 104, 101, 114]⟩), val := (.func (.func 96) #[] #[]), born := 5 }, { key := (.string ⟨#[115, 104, 111, 119]⟩), val := (.func (.func 97) #[] #[]), born := 6 }, { key := (.string ⟨#[99, 111, 117, 110, 116]⟩), val := (.func (.func 31) #[] #[]), born := 7 }, { key := (.string ⟨#[112, 114, 111, 102, 105, 108, 101]⟩), val := (.func (.func 98) #[] #[]), born := 8 }, { key := (.string ⟨#[100, 101, 103, 114, 101, 101, 115]⟩), val := (.func (.func 99) #[] #[]), born := 9 }, { key := (.string ⟨#[97, 110, 116, 105]⟩), val := (.func (.func 100) #[] #[]), born := 10 }, { key := (.string ⟨#[109, 101, 101, 116, 115]⟩), val := (.func (.func 101) #[] #[]), born := 11 }, { key := (.string ⟨#[117, 110, 105, 111, 110]⟩), val := (.func (.func 102) #[] #[]), born := 12 }, { key := (.string ⟨#[119, 101, 105, 103, 104, 116]⟩), val := (.func (.func 103) #[] #[]), born := 13 }] 14) := by rw [← hw14]; exact mapW_at m13 _ _
  have b14 : Hid (Below w.heap.size w w14) := Lib.hid (by rw [← hw14]; exact mapW_below b13.out (Nat.le_refl _) _ _)
  replace hw14 := Lib.hid hw14
  have i15 := ins_run Tryz.underlying92 Tryz.underlying9 (s := ⟨#[100, 105, 109, 101, 110, 115, 105, 111, 110]⟩) (val := (.func (.func 104) #[] #[])) m14 (by kernel_rfl)
  obtain ⟨w15, hw15⟩ : ∃ W, mapW w14 w.heap.size #[{ key := (.string ⟨#[115, 104, 97, 100, 111, 119]⟩), val := (.func (.func 91) #[] #[]), born := 0 }, { key := (.string ⟨#[117, 112]⟩), val := (.func (.func 92) #[] #[]), born := 1 }, { key := (.string ⟨#[100, 111, 119, 110]⟩), val := (.func (.func 93) #[] #[]), born := 2 }, { key := (.string ⟨#[115, 104, 105, 102, 116]⟩), val := (.func (.func 94) #[] #[]), born := 3 }, { key := (.string ⟨#[112, 114, 101, 115, 115]⟩), val := (.func (.func 95) #[] #[]), born := 4 }, { key := (.string ⟨#[111, 116, 104, 101, 114]⟩), val := (.func (.func 96) #[] #[]), born := 5 }, { key := (.string ⟨#[115, 104, 111, 119]⟩), val := (.func (.func 97) #[] #[]), born := 6 }, { key := (.string ⟨#[99, 111, 117, 110, 116]⟩), val := (.func (.func 31) #[] #[]), born := 7 }, { key := (.string ⟨#[112, 114, 111, 102, 105, 108, 101]⟩), val := (.func (.func 98) #[] #[]), born := 8 }, { key := (.string ⟨#[100, 101, 103, 114, 101, 101, 115]⟩), val := (.func (.func 99) #[] #[]), born := 9 }, { key := (.string ⟨#[97, 110, 116, 105]⟩), val := (.func (.func 100) #[] #[]), born := 10 }, { key := (.string ⟨#[109, 101, 101, 116, 115]⟩), val := (.func (.func 101) #[] #[]), born := 11 }, { key := (.string ⟨#[117, 110, 105, 111, 110]⟩), val := (.func (.func 102) #[] #[]), born := 12 }, { key := (.string ⟨#[119, 101, 105, 103, 104, 116]⟩), val := (.func (.func 103) #[] #[]), born := 13 }, { key := (.string ⟨#[100, 105, 109, 101, 110, 115, 105, 111, 110]⟩), val := (.func (.func 104) #[] #[]), born := 14 }] 15 = W := ⟨_, rfl⟩
  replace i15 := i15.trans (congrArg (Result.ok ()) hw15)
  have m15 : w15.heap[w.heap.size]? = some (.map #[{ key := (.string ⟨#[115, 104, 97, 100, 111, 119]⟩), val := (.func (.func 91) #[] #[]), born := 0 }, { key := (.string ⟨#[117, 112]⟩), val := (.func (.func 92) #[] #[]), born := 1 }, { key := (.string ⟨#[100, 111, 119, 110]⟩), val := (.func (.func 93) #[] #[]), born := 2 }, { key := (.string ⟨#[115, 104, 105, 102, 116]⟩), val := (.func (.func 94) #[] #[]), born := 3 }, { key := (.string ⟨#[112, 114, 101, 115, 115]⟩), val := (.func (.func 95) #[] #[]), born := 4 }, { key := (.string ⟨#[111, 116, 104, 101, 114]⟩), val := (.func (.func 96) #[] #[]), born := 5 }, { key := (.string ⟨#[115, 104, 111, 119]⟩), val := (.func (.func 97) #[] #[]), born := 6 }, { key := (.string ⟨#[99, 111, 117, 110, 116]⟩), val := (.func (.func 31) #[] #[]), born := 7 }, { key := (.string ⟨#[112, 114, 111, 102, 105, 108, 101]⟩), val := (.func (.func 98) #[] #[]), born := 8 }, { key := (.string ⟨#[100, 101, 103, 114, 101, 101, 115]⟩), val := (.func (.func 99) #[] #[]), born := 9 }, { key := (.string ⟨#[97, 110, 116, 105]⟩), val := (.func (.func 100) #[] #[]), born := 10 }, { key := (.string ⟨#[109, 101, 101, 116, 115]⟩), val := (.func (.func 101) #[] #[]), born := 11 }, { key := (.string ⟨#[117, 110, 105, 111, 110]⟩), val := (.func (.func 102) #[] #[]), born := 12 }, { key := (.string ⟨#[119, 101, 105, 103, 104, 116]⟩), val := (.func (.func 103) #[] #[]), born := 13 }, { key := (.string ⟨#[100, 105, 109, 101, 110, 115, 105, 111, 110]⟩), val := (.func (.func 104) #[] #[]), born := 14 }] 15) := by rw [← hw15]; exact mapW_at m14 _ _
  have b15 : Hid (Below w.heap.size w w15) := Lib.hid (by rw [← hw15]; exact mapW_below b14.out (Nat.le_refl _) _ _)
  replace hw15 := Lib.hid hw15
  have i16 := ins_run Tryz.underlying92 Tryz.underlying9 (s := ⟨#[101, 100, 103, 101, 115]⟩) (val := (.func (.func 105) #[] #[])) m15 (by kernel_rfl)
  obtain ⟨w16, hw16⟩ : ∃ W, mapW w15 w.heap.size #[{ key := (.string ⟨#[115, 104, 97, 100, 111, 119]⟩), val := (.func (.func 91) #[] #[]), born := 0 }, { key := (.string ⟨#[117, 112]⟩), val := (.func (.func 92) #[] #[]), born := 1 }, { key := (.string ⟨#[100, 111, 119, 110]⟩), val := (.func (.func 93) #[] #[]), born := 2 }, { key := (.string ⟨#[115, 104, 105, 102, 116]⟩), val := (.func (.func 94) #[] #[]), born := 3 }, { key := (.string ⟨#[112, 114, 101, 115, 115]⟩), val := (.func (.func 95) #[] #[]), born := 4 }, { key := (.string ⟨#[111, 116, 104, 101, 114]⟩), val := (.func (.func 96) #[] #[]), born := 5 }, { key := (.string ⟨#[115, 104, 111, 119]⟩), val := (.func (.func 97) #[] #[]), born := 6 }, { key := (.string ⟨#[99, 111, 117, 110, 116]⟩), val := (.func (.func 31) #[] #[]), born := 7 }, { key := (.string ⟨#[112, 114, 111, 102, 105, 108, 101]⟩), val := (.func (.func 98) #[] #[]), born := 8 }, { key := (.string ⟨#[100, 101, 103, 114, 101, 101, 115]⟩), val := (.func (.func 99) #[] #[]), born := 9 }, { key := (.string ⟨#[97, 110, 116, 105]⟩), val := (.func (.func 100) #[] #[]), born := 10 }, { key := (.string ⟨#[109, 101, 101, 116, 115]⟩), val := (.func (.func 101) #[] #[]), born := 11 }, { key := (.string ⟨#[117, 110, 105, 111, 110]⟩), val := (.func (.func 102) #[] #[]), born := 12 }, { key := (.string ⟨#[119, 101, 105, 103, 104, 116]⟩), val := (.func (.func 103) #[] #[]), born := 13 }, { key := (.string ⟨#[100, 105, 109, 101, 110, 115, 105, 111, 110]⟩), val := (.func (.func 104) #[] #[]), born := 14 }, { key := (.string ⟨#[101, 100, 103, 101, 115]⟩), val := (.func (.func 105) #[] #[]), born := 15 }] 16 = W := ⟨_, rfl⟩
  replace i16 := i16.trans (congrArg (Result.ok ()) hw16)
  have m16 : w16.heap[w.heap.size]? = some (.map #[{ key := (.string ⟨#[115, 104, 97, 100, 111, 119]⟩), val := (.func (.func 91) #[] #[]), born := 0 }, { key := (.string ⟨#[117, 112]⟩), val := (.func (.func 92) #[] #[]), born := 1 }, { key := (.string ⟨#[100, 111, 119, 110]⟩), val := (.func (.func 93) #[] #[]), born := 2 }, { key := (.string ⟨#[115, 104, 105, 102, 116]⟩), val := (.func (.func 94) #[] #[]), born := 3 }, { key := (.string ⟨#[112, 114, 101, 115, 115]⟩), val := (.func (.func 95) #[] #[]), born := 4 }, { key := (.string ⟨#[111, 116, 104, 101, 114]⟩), val := (.func (.func 96) #[] #[]), born := 5 }, { key := (.string ⟨#[115, 104, 111, 119]⟩), val := (.func (.func 97) #[] #[]), born := 6 }, { key := (.string ⟨#[99, 111, 117, 110, 116]⟩), val := (.func (.func 31) #[] #[]), born := 7 }, { key := (.string ⟨#[112, 114, 111, 102, 105, 108, 101]⟩), val := (.func (.func 98) #[] #[]), born := 8 }, { key := (.string ⟨#[100, 101, 103, 114, 101, 101, 115]⟩), val := (.func (.func 99) #[] #[]), born := 9 }, { key := (.string ⟨#[97, 110, 116, 105]⟩), val := (.func (.func 100) #[] #[]), born := 10 }, { key := (.string ⟨#[109, 101, 101, 116, 115]⟩), val := (.func (.func 101) #[] #[]), born := 11 }, { key := (.string ⟨#[117, 110, 105, 111, 110]⟩), val := (.func (.func 102) #[] #[]), born := 12 }, { key := (.string ⟨#[119, 101, 105, 103, 104, 116]⟩), val := (.func (.func 103) #[] #[]), born := 13 }, { key := (.string ⟨#[100, 105, 109, 101, 110, 115, 105, 111, 110]⟩), val := (.func (.func 104) #[] #[]), born := 14 }, { key := (.string ⟨#[101, 100, 103, 101, 115]⟩), val := (.func (.func 105) #[] #[]), born := 15 }] 16) := by rw [← hw16]; exact mapW_at m15 _ _
  have b16 : Hid (Below w.heap.size w w16) := Lib.hid (by rw [← hw16]; exact mapW_below b15.out (Nat.le_refl _) _ _)
  replace hw16 := Lib.hid hw16
  replace m0 := Lib.hid m0
  replace m1 := Lib.hid m1
  replace m2 := Lib.hid m2
  replace m3 := Lib.hid m3
  replace m4 := Lib.hid m4
  replace m5 := Lib.hid m5
  replace m6 := Lib.hid m6
  replace m7 := Lib.hid m7
  replace m8 := Lib.hid m8
  replace m9 := Lib.hid m9
  replace m10 := Lib.hid m10
  replace m11 := Lib.hid m11
  replace m12 := Lib.hid m12
  replace m13 := Lib.hid m13
  replace m14 := Lib.hid m14
  replace m15 := Lib.hid m15
  replace m16 := Lib.hid m16
  go_enter Tryz.func57, Tryz.ntmps57
  go_wp2_with fail
  go_ret
  exact ⟨rfl, m16.out, b16.out⟩
set_option maxRecDepth 100000 in
theorem known_points (r c : Nat) (w : World) (hm : w.heap[r]? = some (.map esR c)) : Calls Tryz.prog 54 #[.map (some r), (.string ⟨#[112, 111, 105, 110, 116, 115]⟩)] w fun e w' => e = .returned (.func (.func 84) #[] #[]) ∧ w = w' := by
  have hl := look_run Tryz.underlying88 Tryz.underlying9 (s := ⟨#[112, 111, 105, 110, 116, 115]⟩) hm (i := 0) (v := (.func (.func 84) #[] #[])) (by kernel_rfl)
  replace hm := Lib.hid hm
  go_enter Tryz.func54, Tryz.ntmps54
  go_wp2_with fail
  go_ret
  exact ⟨rfl, rfl⟩
set_option maxRecDepth 100000 in
theorem known_level (r c : Nat) (w : World) (hm : w.heap[r]? = some (.map esR c)) : Calls Tryz.prog 54 #[.map (some r), (.string ⟨#[108, 101, 118, 101, 108]⟩)] w fun e w' => e = .returned (.func (.func 86) #[] #[]) ∧ w = w' := by
  have hl := look_run Tryz.underlying88 Tryz.underlying9 (s := ⟨#[108, 101, 118, 101, 108]⟩) hm (i := 2) (v := (.func (.func 86) #[] #[])) (by kernel_rfl)
  replace hm := Lib.hid hm
  go_enter Tryz.func54, Tryz.ntmps54
  go_wp2_with fail
  go_ret
  exact ⟨rfl, rfl⟩
set_option maxRecDepth 100000 in
theorem known_chain (r c : Nat) (w : World) (hm : w.heap[r]? = some (.map esR c)) : Calls Tryz.prog 54 #[.map (some r), (.string ⟨#[99, 104, 97, 105, 110]⟩)] w fun e w' => e = .returned (.func (.func 89) #[] #[]) ∧ w = w' := by
  have hl := look_run Tryz.underlying88 Tryz.underlying9 (s := ⟨#[99, 104, 97, 105, 110]⟩) hm (i := 5) (v := (.func (.func 89) #[] #[])) (by kernel_rfl)
  replace hm := Lib.hid hm
  go_enter Tryz.func54, Tryz.ntmps54
  go_wp2_with fail
  go_ret
  exact ⟨rfl, rfl⟩
set_option maxRecDepth 100000 in
theorem known_show (r c : Nat) (w : World) (hm : w.heap[r]? = some (.map esA c)) : Calls Tryz.prog 56 #[.map (some r), (.string ⟨#[115, 104, 111, 119]⟩)] w fun e w' => e = .returned (.func (.func 97) #[] #[]) ∧ w = w' := by
  have hl := look_run Tryz.underlying92 Tryz.underlying9 (s := ⟨#[115, 104, 111, 119]⟩) hm (i := 6) (v := (.func (.func 97) #[] #[])) (by kernel_rfl)
  replace hm := Lib.hid hm
  go_enter Tryz.func56, Tryz.ntmps56
  go_wp2_with fail
  go_ret
  exact ⟨rfl, rfl⟩

end
section
/- Scripts: a line is cut at its first space; the deferred closure that finds nothing to recover. -/
open Go.ChangeShapes Go.WideShapes Go.ChangeAt Go.RowKit Go.Proofs Go.Shelf

theorem ans_idle (p : Addr) (w : World) : CallsD Tryz.prog 52 #[.pointer (some p)] .returning w fun e u' w' => e = .returned (.tuple #[]) ∧ u' = .returning ∧ w' = w := by
  have hta : ∀ W, (Instr.typeAssert .nilIface 20 82 true).run Tryz.prog W = .ok (.tuple #[.string ByteArray.empty, .bool false]) W := fun _ => by kernel_rfl
  refine callsD_of_wpS Tryz.func52 rfl fun c₀ cs hu => ?_
  apply wpS_seq
  apply wpS_region
  simp [wpOpsS, go_sem, recoverD, hu, hta, Tryz.ntmps52, Exit.thenS]
  apply wpS_seq
  apply wpS_region
  simp [wpOpsS, go_sem, Exit.thenS]
  refine wpS_cond (t := false) (by simp [Act.eval, Array.replicate]) ?_
  simp only [Bool.false_eq_true, if_false]
  refine wpS_of_wp (wp_skip ?_)
  cases c₀
  simp_all [bodyPostS, results, Tryz.results52]
set_option maxHeartbeats 2000000 in
theorem cut_core (s sep : ByteArray) (hs : s.size ≤ 1000000) (hI : ∀ W, Calls Tryz.prog 140 #[.string s, .string sep] W fun e w' => e = .returned (.int .i64 (Lib.indexB s sep)) ∧ w' = W) (w : World) :
    Calls Tryz.prog 83 #[.string s, .string sep] w fun e w' => e = .returned (.tuple #[.string ⟨(Lib.cut s.data.toList sep.data.toList).1.toArray⟩, .string ⟨(Lib.cut s.data.toList sep.data.toList).2.1.toArray⟩, .bool (Lib.cut s.data.toList sep.data.toList).2.2]) ∧ ∃ n, w' = w.drewN n := by
  rcases Lib.indexB_cases s sep with hix | ⟨i, hix, hroom⟩
  · obtain ⟨e1, e2, e3⟩ := Lib.cutB_miss s sep hix
    rw [e1, e2, e3]
    rw [hix] at hI
    replace hI := Lib.hid hI
    clear e1 e2 e3 hix
    go_enter Tryz.func83, Tryz.ntmps83
    go_wp2_with (go_at_call 140; (with_reducible refine (hI.out _).mono ?_); rintro e w' ⟨rfl, rfl⟩)
    go_ret3
    exact ⟨rfl, 0, rfl⟩
  · obtain ⟨e1, e2, e3⟩ := Lib.cutB_hit s sep i hix
    rw [e1, e2, e3]
    rw [hix] at hI
    replace hI := Lib.hid hI
    have mixed := Tryz.lays219.mixed
    have c1 : (0 : Int) ≤ ↑i := by omega
    have c2 : (↑i : Int) ≤ ↑s.size := by omega
    have c3 : (0 : Int) ≤ ↑i + ↑sep.size := by omega
    have c4 : (↑i + ↑sep.size : Int) ≤ ↑s.size := by omega
    have c5 : ((i : Int) + (sep.size : Int)).toNat = i + sep.size := by omega
    have c6 : IntKind.i64.wrap ((i : Int) + (sep.size : Int)) = (i : Int) + (sep.size : Int) := by rw [IntKind.wrap_i64]; omega
    have c7 : wrap64 ((i : Int) + (sep.size : Int)) = (i : Int) + (sep.size : Int) := by unfold wrap64; omega
    clear e1 e2 e3 hix
    go_enter Tryz.func83, Tryz.ntmps83
    go_wp2_with (go_at_call 140; (with_reducible refine (hI.out _).mono ?_); rintro e w' ⟨rfl, rfl⟩)
    go_region_o
    go_wp2
    go_ret3
    exact ⟨rfl, 1, rfl⟩
theorem cut_one (s : ByteArray) (hs : s.size ≤ 1000000) (c : UInt8) (w : World) : Calls Tryz.prog 53 #[.string s, .string ⟨#[c]⟩] w fun e w' => e = .returned (.tuple #[.string ⟨(Lib.cut s.data.toList [c]).1.toArray⟩, .string ⟨(Lib.cut s.data.toList [c]).2.1.toArray⟩, .bool (Lib.cut s.data.toList [c]).2.2]) ∧ ∃ n, w' = w.drewN n := by
  have hc := Lib.hid (fun W => cut_core s ⟨#[c]⟩ hs (fun W => by
    have := Any.stringslite_Index_one Tryz.lays219 s c W
    rw [← Lib.index_one] at this
    exact this) W)
  go_enter Tryz.func53, Tryz.ntmps53
  go_wp2_with fail
  refine (hc.out _).mono ?_
  rintro e w' ⟨rfl, n, rfl⟩
  go_wp2_with fail
  go_ret3
  exact ⟨rfl, n, rfl⟩

end
section
/- Scripts: lines are answered: points, level, show. -/
open Go.ChangeShapes Go.WideShapes Go.ChangeAt Go.RowKit Go.Proofs Go.Shelf

/-- a digit. -/
def dgB (d : Nat) : UInt8 := UInt8.ofNat (48 + d)
theorem dg_parse : ∀ d : Fin 10, Lib.parseUintB 64 [dgB d.val] = .ok d.val := by decide +kernel
theorem only_cell9 {r b o : Nat} {w W : World} (h : Only r w W) (hb : w.heap.size ≤ b) (v : Value) : Only r w (W.setCell ⟨b, o, none⟩ v) :=
  ⟨h.os, h.tape, h.output, by rw [World.size_setCell]; exact h.size, fun i hi hne => (Below.heap_setCell _ _ _ _ (by show i ≠ b; omega)).trans (h.block i hi hne)⟩
theorem Bench.other9 {w : World} {b : Nat} {n : Int} {v : Value} (h : Bench w b n v) {a : Addr} (ha : a.block ≠ b) (u : Value) : Bench (w.setCell a u) b n v := (Below.heap_setCell _ _ _ _ (by exact fun e => ha e.symm)).trans h
/-- the world behind the result's cell. -/
theorem res_at (w : World) (q : Nat) : ((w.alloc (.cells #[.string ⟨#[]⟩] 9)).drewN q).heap[w.heap.size]? = some (.cells #[.string ⟨#[]⟩] 9 (0, 0)) := heap_alloc_new w _
theorem only_res {b : Nat} {w W w' : World} (h1 : Only b W w') (h2 : Below w.heap.size w W) : Only b w w' :=
  (Only.of_below (r := b) h2 (Nat.le_refl _)).trans h1
theorem Only.grows {b : Nat} {w w' : World} (h : Only b w w') : w.heap.size ≤ w'.heap.size := h.size
/-- the line 'points'. -/
def lnP (d : Nat) : ByteArray := ⟨#[112, 111, 105, 110, 116, 115, 32, dgB d]⟩
theorem cutP (d : Nat) : Lib.cut (lnP d).data.toList [32] = ([112, 111, 105, 110, 116, 115], [dgB d], true) := by
  unfold Lib.cut
  rw [Lib.index_one]
  rfl
set_option maxHeartbeats 4000000 in
theorem ans_P (b : Nat) (n0 : Int) (v0 : Value) (d : Nat) (w : World) (hB : Bench w b n0 v0) (h1 : 1 ≤ d) (h8 : d ≤ 8) :
    Calls Tryz.prog 30 #[.pointer (some ⟨b, 0, none⟩), .string (lnP d)] w fun e w' => e = .returned (.string ⟨#[111, 107]⟩) ∧ Bench w' b (d : Nat) (.slice none 0 0) ∧ Only b w w' := by
  have hmf : ∀ (fn : Fn) (first cap : Array Value) (w : World), (Instr.makeFunc fn first cap).run Tryz.prog w = .ok (.func fn first cap) w := fun _ _ _ _ => rfl
  have hcut := fun W => cut_one (lnP d) (by show (8 : Nat) ≤ 1000000; omega) 32 W
  simp only [cutP] at hcut
  have hlt := hB.lt
  obtain ⟨line, hln⟩ : ∃ l, (lnP d) = l := ⟨_, rfl⟩
  rw [hln] at hcut ⊢
  replace hcut := Lib.hid hcut
  replace hln := Lib.hid hln
  replace hB := Lib.hid hB
  go_enter_defers Tryz.func30, Tryz.ntmps30
  go_wp2_with fail
  refine (hcut.out _).mono ?_
  rintro e w1 ⟨rfl, q, rfl⟩
  have hr1 := res_at w q
  have hB1 : Bench ((w.alloc (.cells #[.string ⟨#[]⟩] 9)).drewN q) b n0 v0 := hB.out.below (below_drewN ((Below.refl w.heap.size w).alloc (Nat.le_refl _) _) q) hlt
  have hs1 : ((w.alloc (.cells #[.string ⟨#[]⟩] 9)).drewN q).heap.size = w.heap.size + 1 := by show (w.alloc _).heap.size = _; simp
  have hbw1 := below_drewN ((Below.refl w.heap.size w).alloc (Nat.le_refl _) (.cells #[.string ⟨#[]⟩] 9)) q
  obtain ⟨W1, hW1⟩ : ∃ W1, (w.alloc (.cells #[.string ⟨#[]⟩] 9)).drewN q = W1 := ⟨_, rfl⟩
  rw [hW1] at hr1 hB1 hs1 hbw1 ⊢
  replace hW1 := Lib.hid hW1
  have hs2 : w.heap.size < W1.heap.size := by omega
  replace hs1 := Lib.hid hs1
  go_wp2_with fail
  refine (words_R _).mono ?_
  rintro e w2 ⟨rfl, hm2, hb2⟩
  have hB2 := hB1.below hb2 (by omega)
  have hr2 := (hb2.block w.heap.size (by omega)).trans hr1
  have hz2 := hb2.size
  have hbw2 := hbw1.trans (hb2.mono (by omega))
  have hkn := Lib.hid (known_points _ _ _ hm2)
  have hp := Lib.hid (wb_points b n0 v0 ⟨#[dgB d]⟩ d w2 hB2 (dg_parse ⟨d, by omega⟩) (show (1 : Nat) ≤ 3 by omega) h1 h8)
  replace hm2 := Lib.hid hm2
  replace hb2 := Lib.hid hb2
  replace hB2 := Lib.hid hB2
  replace hB1 := Lib.hid hB1
  replace hr1 := Lib.hid hr1
  replace hr2 := Lib.hid hr2
  replace hbw2 := Lib.hid hbw2
  go_wp2_with fail
  refine hkn.out.mono ?_
  rintro e w' ⟨rfl, rfl⟩
  go_wp2_with fail
  refine hp.out.mono ?_
  rintro e w3 ⟨rfl, hB3, hO3⟩
  have hr3 := (hO3.block w.heap.size (by omega) (by intro e; injection e; omega)).trans hr2.out
  have hz3 := hO3.size
  have hO4 := Lib.hid (only_cell9 (o := 0) ((only_res hO3 hbw2.out)) (Nat.le_refl w.heap.size) (.string ⟨#[111, 107]⟩))
  have hB4 := Lib.hid (hB3.other9 (a := ⟨w.heap.size, 0, none⟩) (show w.heap.size ≠ b by omega) (.string ⟨#[111, 107]⟩))
  obtain ⟨rc, rf⟩ : w3.cell? ⟨w.heap.size, 0, none⟩ = some (.string ⟨#[]⟩) ∧ w3.frozen? ⟨w.heap.size, 0, none⟩ = false := ⟨by rw [cell_of_row w3 w.heap.size 0 _ 9 (0, 0) hr3]; rfl, frozen_of hr3 _⟩
  replace hr3 := Lib.hid hr3
  go_wp2_with fail
  refine leaves_cons (f := 52) (args := #[.pointer (some ⟨w.heap.size, 0, none⟩)]) (by simp) (by simp [go_sem]) ?_
  refine (ans_idle ⟨w.heap.size, 0, none⟩ _).mono ?_
  rintro e u' w'' ⟨rfl, rfl, rfl⟩
  have rd := World.cell?_setCell_same w3 ⟨w.heap.size, 0, none⟩ (.string ⟨#[111, 107]⟩) rc
  simp [Leaves, settle, results, Tryz.results30, go_sem, rd]
  exact ⟨hB4.out, hO4.out⟩
/-- the line 'level'. -/
def lnL (d : Nat) : ByteArray := ⟨#[108, 101, 118, 101, 108, 32, dgB d]⟩
theorem cutL (d : Nat) : Lib.cut (lnL d).data.toList [32] = ([108, 101, 118, 101, 108], [dgB d], true) := by
  unfold Lib.cut
  rw [Lib.index_one]
  rfl
set_option maxHeartbeats 4000000 in
theorem ans_L (b : Nat) (n0 : Int) (v0 : Value) (d : Nat) (w : World) (hB : Bench w b n0 v0) (hs : szB n0 (d : Nat) = true) :
    Calls Tryz.prog 30 #[.pointer (some ⟨b, 0, none⟩), .string (lnL d)] w fun e w' => e = .returned (.string ⟨#[111, 107]⟩) ∧ ∃ v, Bench w' b n0 v ∧ IntRow w' w.heap.size v (levL n0 (d : Nat)) ∧ Only b w w' := by
  have hmf : ∀ (fn : Fn) (first cap : Array Value) (w : World), (Instr.makeFunc fn first cap).run Tryz.prog w = .ok (.func fn first cap) w := fun _ _ _ _ => rfl
  have hcut := fun W => cut_one (lnL d) (by show (7 : Nat) ≤ 1000000; omega) 32 W
  simp only [cutL] at hcut
  have hlt := hB.lt
  obtain ⟨n1, n2, _, k2⟩ := szB_yes hs
  obtain ⟨line, hln⟩ : ∃ l, (lnL d) = l := ⟨_, rfl⟩
  rw [hln] at hcut ⊢
  replace hcut := Lib.hid hcut
  replace hln := Lib.hid hln
  replace hB := Lib.hid hB
  go_enter_defers Tryz.func30, Tryz.ntmps30
  go_wp2_with fail
  refine (hcut.out _).mono ?_
  rintro e w1 ⟨rfl, q, rfl⟩
  have hr1 := res_at w q
  have hB1 : Bench ((w.alloc (.cells #[.string ⟨#[]⟩] 9)).drewN q) b n0 v0 := hB.out.below (below_drewN ((Below.refl w.heap.size w).alloc (Nat.le_refl _) _) q) hlt
  have hs1 : ((w.alloc (.cells #[.string ⟨#[]⟩] 9)).drewN q).heap.size = w.heap.size + 1 := by show (w.alloc _).heap.size = _; simp
  have hbw1 := below_drewN ((Below.refl w.heap.size w).alloc (Nat.le_refl _) (.cells #[.string ⟨#[]⟩] 9)) q
  obtain ⟨W1, hW1⟩ : ∃ W1, (w.alloc (.cells #[.string ⟨#[]⟩] 9)).drewN q = W1 := ⟨_, rfl⟩
  rw [hW1] at hr1 hB1 hs1 hbw1 ⊢
  replace hW1 := Lib.hid hW1
  have hs2 : w.heap.size < W1.heap.size := by omega
  replace hs1 := Lib.hid hs1
  go_wp2_with fail
  refine (words_R _).mono ?_
  rintro e w2 ⟨rfl, hm2, hb2⟩
  have hB2 := hB1.below hb2 (by omega)
  have hr2 := (hb2.block w.heap.size (by omega)).trans hr1
  have hz2 := hb2.size
  have hbw2 := hbw1.trans (hb2.mono (by omega))
  have hkn := Lib.hid (known_level _ _ _ hm2)
  have hp := Lib.hid (wb_level b n0 v0 ⟨#[dgB d]⟩ d w2 hB2 (dg_parse ⟨d, by omega⟩) (show (1 : Nat) ≤ 3 by omega) hs)
  replace hm2 := Lib.hid hm2
  replace hb2 := Lib.hid hb2
  replace hB2 := Lib.hid hB2
  replace hB1 := Lib.hid hB1
  replace hr1 := Lib.hid hr1
  replace hr2 := Lib.hid hr2
  replace hbw2 := Lib.hid hbw2
  go_wp2_with fail
  refine hkn.out.mono ?_
  rintro e w' ⟨rfl, rfl⟩
  go_wp2_with fail
  refine hp.out.mono ?_
  rintro e w3 ⟨rfl, v3, hB3, hI3, hO3⟩
  obtain ⟨g3, rfl, hg3, _⟩ := id hI3
  have hr3 := (hO3.block w.heap.size (by omega) (by intro e; injection e; omega)).trans hr2.out
  have hz3 := hO3.size
  have hO4 := Lib.hid (only_cell9 (o := 0) ((only_res hO3 hbw2.out)) (Nat.le_refl w.heap.size) (.string ⟨#[111, 107]⟩))
  have hB4 := Lib.hid (hB3.other9 (a := ⟨w.heap.size, 0, none⟩) (show w.heap.size ≠ b by omega) (.string ⟨#[111, 107]⟩))
  have hI4 := Lib.hid ((hI3.heap (w' := w3.setCell ⟨w.heap.size, 0, none⟩ (.string ⟨#[111, 107]⟩)) (fun g hg => Below.heap_setCell _ _ _ _ (by have e : g3 = g := Option.some.inj hg; show g ≠ w.heap.size; omega))).mono (show w.heap.size ≤ w2.heap.size by omega))
  replace hI3 := Lib.hid hI3
  obtain ⟨rc, rf⟩ : w3.cell? ⟨w.heap.size, 0, none⟩ = some (.string ⟨#[]⟩) ∧ w3.frozen? ⟨w.heap.size, 0, none⟩ = false := ⟨by rw [cell_of_row w3 w.heap.size 0 _ 9 (0, 0) hr3]; rfl, frozen_of hr3 _⟩
  replace hr3 := Lib.hid hr3
  go_wp2_with fail
  refine leaves_cons (f := 52) (args := #[.pointer (some ⟨w.heap.size, 0, none⟩)]) (by simp) (by simp [go_sem]) ?_
  refine (ans_idle ⟨w.heap.size, 0, none⟩ _).mono ?_
  rintro e u' w'' ⟨rfl, rfl, rfl⟩
  have rd := World.cell?_setCell_same w3 ⟨w.heap.size, 0, none⟩ (.string ⟨#[111, 107]⟩) rc
  simp [Leaves, settle, results, Tryz.results30, go_sem, rd]
  exact ⟨_, hB4.out, hI4.out, hO4.out⟩
/-- the line 'show'. -/
def lnS : ByteArray := ⟨#[115, 104, 111, 119]⟩
theorem cutS : Lib.cut (lnS).data.toList [32] = ([115, 104, 111, 119], [], false) := by
  unfold Lib.cut
  rw [Lib.index_one]
  rfl
set_option maxHeartbeats 4000000 in
theorem ans_S (b : Nat) (n0 : Int) (v0 : Value) (xs : List Int) (w : World) (hB : Bench w b n0 v0) (hx : Row w w.heap.size v0 xs) (hl : xs.length ≤ 1000) (h : ∀ x ∈ xs, 0 ≤ x ∧ x < 100) :
    Calls Tryz.prog 30 #[.pointer (some ⟨b, 0, none⟩), .string lnS] w fun e w' => e = .returned (.string ⟨(spB xs).toArray⟩) ∧ Below w.heap.size w w' := by
  have hmf : ∀ (fn : Fn) (first cap : Array Value) (w : World), (Instr.makeFunc fn first cap).run Tryz.prog w = .ok (.func fn first cap) w := fun _ _ _ _ => rfl
  have hcut := fun W => cut_one lnS (by show (4 : Nat) ≤ 1000000; omega) 32 W
  simp only [cutS] at hcut
  have hlt := hB.lt
  obtain ⟨line, hln⟩ : ∃ l, lnS = l := ⟨_, rfl⟩
  rw [hln] at hcut ⊢
  replace hcut := Lib.hid hcut
  replace hln := Lib.hid hln
  replace hB := Lib.hid hB
  go_enter_defers Tryz.func30, Tryz.ntmps30
  go_wp2_with fail
  refine (hcut.out _).mono ?_
  rintro e w1 ⟨rfl, q, rfl⟩
  have hr1 := res_at w q
  have hB1 : Bench ((w.alloc (.cells #[.string ⟨#[]⟩] 9)).drewN q) b n0 v0 := hB.out.below (below_drewN ((Below.refl w.heap.size w).alloc (Nat.le_refl _) _) q) hlt
  have hs1 : ((w.alloc (.cells #[.string ⟨#[]⟩] 9)).drewN q).heap.size = w.heap.size + 1 := by show (w.alloc _).heap.size = _; simp
  have hbw1 := below_drewN ((Below.refl w.heap.size w).alloc (Nat.le_refl _) (.cells #[.string ⟨#[]⟩] 9)) q
  obtain ⟨W1, hW1⟩ : ∃ W1, (w.alloc (.cells #[.string ⟨#[]⟩] 9)).drewN q = W1 := ⟨_, rfl⟩
  rw [hW1] at hr1 hB1 hs1 hbw1 ⊢
  replace hW1 := Lib.hid hW1
  have hs2 : w.heap.size < W1.heap.size := by omega
  replace hs1 := Lib.hid hs1
  go_wp2_with fail
  refine (words_A _).mono ?_
  rintro e w2 ⟨rfl, hm2, hb2⟩
  have hB2 := hB1.below hb2 (by omega)
  have hr2 := (hb2.block w.heap.size (by omega)).trans hr1
  have hz2 := hb2.size
  have hbw2 := hbw1.trans (hb2.mono (by omega))
  have hkn := Lib.hid (known_show _ _ _ hm2)
  have hp := Lib.hid (wb_show b n0 v0 xs w2 hB2 ((hx.below hbw2 (Nat.le_refl _)).mono (by omega)) hl h)
  replace hm2 := Lib.hid hm2
  replace hb2 := Lib.hid hb2
  replace hB2 := Lib.hid hB2
  replace hB1 := Lib.hid hB1
  replace hr1 := Lib.hid hr1
  replace hr2 := Lib.hid hr2
  replace hbw2 := Lib.hid hbw2
  go_wp2_with fail
  refine hkn.out.mono ?_
  rintro e w' ⟨rfl, rfl⟩
  go_wp2_with fail
  refine hp.out.mono ?_
  rintro e w3 ⟨rfl, hb3⟩
  have hr3 := (hb3.block w.heap.size (by omega)).trans hr2.out
  have hb4 := Lib.hid (below_setCell (hbw2.out.trans (hb3.mono (by omega))) (p := ⟨w.heap.size, 0, none⟩) (Nat.le_refl _) (.string ⟨(spB xs).toArray⟩))
  obtain ⟨rc, rf⟩ : w3.cell? ⟨w.heap.size, 0, none⟩ = some (.string ⟨#[]⟩) ∧ w3.frozen? ⟨w.heap.size, 0, none⟩ = false := ⟨by rw [cell_of_row w3 w.heap.size 0 _ 9 (0, 0) hr3]; rfl, frozen_of hr3 _⟩
  replace hr3 := Lib.hid hr3
  go_wp2_with fail
  refine leaves_cons (f := 52) (args := #[.pointer (some ⟨w.heap.size, 0, none⟩)]) (by simp) (by simp [go_sem]) ?_
  refine (ans_idle ⟨w.heap.size, 0, none⟩ _).mono ?_
  rintro e u' w'' ⟨rfl, rfl, rfl⟩
  have rd := World.cell?_setCell_same w3 ⟨w.heap.size, 0, none⟩ (.string ⟨(spB xs).toArray⟩) rc
  simp [Leaves, settle, results, Tryz.results30, go_sem, rd]
  exact hb4.out

end
section
/- Scripts: the text is split into its lines; the builder beside the workbench; the scripts of one size. -/
open Go.ChangeShapes Go.WideShapes Go.ChangeAt Go.RowKit Go.Proofs Go.Shelf

set_option maxHeartbeats 2000000 in
theorem split_nl (s : ByteArray) (hs : s.size < 1000000) (w : World) : Calls Tryz.prog 28 #[.string s, .string ⟨#[10]⟩] w fun e w' =>
    e = .returned (.slice (some ⟨w.heap.size, 0, none⟩) (Lib.splitB ⟨#[10]⟩ 0 (Lib.countB s ⟨#[10]⟩) s).length (Lib.countB s ⟨#[10]⟩ + 1)) ∧ w' = w.alloc (.cells (Lib.cellsOf (Lib.splitB ⟨#[10]⟩ 0 (Lib.countB s ⟨#[10]⟩) s) (Lib.countB s ⟨#[10]⟩ + 1)) 9) := by
  have h1 : 1 ≤ (⟨#[10]⟩ : ByteArray).size := Nat.le_refl _
  have hle := Lib.countB_le ⟨#[10]⟩ h1 s.size s (Nat.le_refl _)
  have c := Any.strings_genSplit_core { Tryz.lays146 with } Tryz.strInfo s ⟨#[10]⟩ 0 (-1) (Lib.countB s ⟨#[10]⟩ + 1) w (by omega) h1 (Nat.zero_le _)
    (fun x cs _ => by
      have := Any.strings_Index_one Tryz.lays143 x 10 (w.alloc (.cells cs 9))
      rw [← Lib.index_one] at this
      exact this)
    (by
      refine (Any.strings_Count_one Tryz.lays138 s 10 w).mono fun e w' ⟨he, hw⟩ => ⟨?_, hw⟩
      rw [he]
      show _ = Ending.returned (Value.int .i64 ((Lib.count s.data.toList [10] : Nat) : Int))
      rw [Lib.count_one]
      rfl) (by decide) (by decide) (by rw [if_pos (by decide)]; omega)
  rw [Nat.add_sub_cancel] at c
  obtain ⟨L, hL⟩ : ∃ L, Lib.splitB ⟨#[10]⟩ 0 (Lib.countB s ⟨#[10]⟩) s = L := ⟨_, rfl⟩
  obtain ⟨N, hN⟩ : ∃ N, Lib.countB s ⟨#[10]⟩ + 1 = N := ⟨_, rfl⟩
  rw [hL, hN] at c
  rw [hL, hN]
  replace c := Lib.hid (show Calls Tryz.prog 50 #[.string s, .string ⟨#[10]⟩, .int .i64 (0 : Nat), .int .i64 (-1)] w fun e w' => e = .returned (.slice (some ⟨w.heap.size, 0, none⟩) L.length N) ∧ w' = w.alloc (.cells (Lib.cellsOf L N) 9) from c)
  replace hL := Lib.hid hL
  replace hN := Lib.hid hN
  clear hle h1
  go_enter Tryz.func28, Tryz.ntmps28
  go_wp2_with fail
  refine c.out.mono ?_
  rintro e w' ⟨rfl, rfl⟩
  go_wp2_with fail
  go_ret
  exact ⟨rfl, rfl⟩
/-- the builder that stands in block b has written l. -/
def Wrote (w : World) (b : Nat) (l : List UInt8) : Prop := Lib.IsBuilderF 46 5 b b (Lib.byteCells l) w
theorem Wrote.only {w w' : World} {b c : Nat} {l : List UInt8} {n : Int} {v : Value} (h : Wrote w b l) (ho : Only c w w') (hb : Bench w c n v) (hbc : c ≠ b) : Wrote w' b l := by
  have key : ∀ p, Lib.BuilderAtF 46 5 b b p (Lib.byteCells l) w → Lib.BuilderAtF 46 5 b b p (Lib.byteCells l) w' := fun p ⟨h1, u, h2, h3, h4⟩ =>
    ⟨h1, u, (ho.block b (Array.getElem?_eq_some_iff.1 h2).1 (by intro e; injection e with e; exact hbc e.symm)).trans h2, h3.kept ho (.inr (Lib.ownBlock_neF h3 hb (by decide))), h4⟩
  exact h.elim (fun x => .inl (key _ x)) (fun x => .inr (key _ x))
theorem write_at (b : Nat) (l : List UInt8) (s : ByteArray) (w : World) (h : Wrote w b l) (hl : l.length + s.size ≤ 100000) (hb : b ≤ w.heap.size) :
    Calls Tryz.prog 29 #[.pointer (some ⟨b, 0, none⟩), .string s] w fun e w' => e = .returned (.tuple #[.int .i64 s.size, .nilIface]) ∧ Wrote w' b (l ++ s.data.toList) ∧ Below b w w' ∧ Lib.OthersKept 5 (some b) w w' := by
  refine (Any.Builder_WriteString_k laysWS Tryz.Builder_Extra_156 b b (Lib.byteCells l) s w h (by rw [Lib.byteCells_length]; omega) hb).mono ?_
  rintro e w' ⟨rfl, h1, h2, h3⟩
  refine ⟨rfl, ?_, h2, h3⟩
  have : Lib.byteCells (l ++ s.data.toList) = Lib.byteCells l ++ Lib.strCells s := by rw [Lib.byteCells_append]; rfl
  unfold Wrote
  rw [this]
  exact .inr h1
/-- a script of three lines. -/
def scL (d k : Nat) : ByteArray := ⟨#[112, 111, 105, 110, 116, 115, 32, dgB d, 10, 108, 101, 118, 101, 108, 32, dgB k, 10, 115, 104, 111, 119, 10]⟩
theorem split_dec : ∀ d k : Fin 10, Lib.countB (scL d.val k.val) ⟨#[10]⟩ = 3 ∧ Lib.splitB ⟨#[10]⟩ 0 3 (scL d.val k.val) = [lnP d.val, lnL k.val, lnS, ⟨#[]⟩] := by decide +kernel

end
section
/- Scripts: Execute at a script that shows a level. -/
open Go.ChangeShapes Go.WideShapes Go.ChangeAt Go.RowKit Go.Proofs Go.Shelf

theorem Wrote.at {w : World} {b : Nat} {l : List UInt8} (h : Wrote w b l) : ∃ cs, w.heap[b]? = some (.cells cs 46 (0, 0)) := h.elim (fun ⟨_, _, h2, _⟩ => ⟨_, h2⟩) (fun ⟨_, _, h2, _⟩ => ⟨_, h2⟩)
theorem Wrote.below {w w' : World} {b : Nat} {l : List UInt8} (h : Wrote w b l) (hb : Below w.heap.size w w') : Wrote w' b l := by
  have key : ∀ p, Lib.BuilderAtF 46 5 b b p (Lib.byteCells l) w → Lib.BuilderAtF 46 5 b b p (Lib.byteCells l) w' := fun p ⟨h1, u, h2, h3, h4⟩ =>
    ⟨h1, u, (hb.block b (Array.getElem?_eq_some_iff.1 h2).1).trans h2, h3.kept (row := none) ⟨hb.os, hb.tape, hb.output, hb.size, fun i hi _ => hb.block i hi⟩ (by cases u.ownBlock <;> simp), h4⟩
  exact h.elim (fun x => .inl (key _ x)) (fun x => .inr (key _ x))
theorem kept_row {w w' : World} {b g : Nat} {c : Array Value} {t : TypeId} {cs : Array Value} (ho : Lib.OthersKept 5 (some b) w w') (hb : w.heap[b]? = some (.cells cs 46 (0, 0))) (hg : w.heap[g]? = some (.cells c t (0, 0))) (ht : t ≠ 5) (ht2 : t ≠ 46) : w'.heap[g]? = w.heap[g]? := by
  rw [hg]
  refine ho g _ hg (fun e => ?_) (fun c' fz e => ?_)
  · injection e with e
    subst e
    rw [hg] at hb
    injection hb with hb
    injection hb with _ hb _
    exact ht2 hb
  · injection e with _ e _
    exact ht e
theorem IntRow.others {w w' : World} {b B : Nat} {v : Value} {xs : List Int} {cs : Array Value} (h : IntRow w B v xs) (ho : Lib.OthersKept 5 (some b) w w') (hb : w.heap[b]? = some (.cells cs 46 (0, 0))) : IntRow w' B v xs := by
  obtain ⟨g, rfl, h2, c, h3, h4⟩ := h
  exact ⟨g, rfl, h2, c, (kept_row ho hb h3 (by decide) (by decide)).trans h3, h4⟩
/-- the lines' row. -/
def lnR (d k : Nat) : Obj := .cells #[.string (lnP d), .string (lnL k), .string lnS, .string ⟨#[]⟩] 9 (0, 0)
/-- what holds ahead of line j: the number of points, the family, what is written. -/
def ExIs (d k j : Nat) (n : Int) (v : Value) (l : List UInt8) (wr : World) : Prop :=
  (j = 0 ∧ n = 5 ∧ v = .slice none 0 0 ∧ l = []) ∨ (j = 1 ∧ n = (d : Nat) ∧ v = .slice none 0 0 ∧ l = [111, 107, 10]) ∨
  (j = 2 ∧ n = (d : Nat) ∧ IntRow wr 0 v (levL (d : Nat) (k : Nat)) ∧ l = [111, 107, 10, 111, 107, 10]) ∨ (j = 3 ∧ n = (d : Nat) ∧ IntRow wr 0 v (levL (d : Nat) (k : Nat)) ∧ l = [111, 107, 10, 111, 107, 10] ++ spB (levL (d : Nat) (k : Nat)) ++ [10])
structure ExSt (w : World) (d k j : Nat) (wr : World) : Prop where
  all : ∃ n v l, Bench wr w.heap.size n v ∧ Wrote wr (w.heap.size + 1) l ∧ ExIs d k j n v l wr
  row : wr.heap[w.heap.size + 1 + 1]? = some (lnR d k)
  bel : Below w.heap.size w wr
/-- a line is answered and written. -/
theorem ExSt.wrote {w : World} {d k j : Nat} {wr w2 w3 : World} {n n' : Int} {v v' : Value} {l A : List UInt8} (hB : Bench wr w.heap.size n v) (hW : Wrote wr (w.heap.size + 1) l) (hr : wr.heap[w.heap.size + 1 + 1]? = some (lnR d k)) (hb : Below w.heap.size w wr)
    (hO : Only w.heap.size wr w2) (hB2 : Bench w2 w.heap.size n' v') (hW3 : Wrote w3 (w.heap.size + 1) A) (hb3 : Below (w.heap.size + 1) w2 w3) (ho3 : Lib.OthersKept 5 (some (w.heap.size + 1)) w2 w3) (hx : ExIs d k j n' v' A w3) : ExSt w d k j w3 := by
  have hW2 := hW.only hO hB (by omega)
  obtain ⟨cs, hcs⟩ := hW2.at
  have hlt := hB2.lt
  have hr2 : w2.heap[w.heap.size + 1 + 1]? = some (lnR d k) := (hO.block _ (Array.getElem?_eq_some_iff.1 hr).1 (by intro e; injection e; omega)).trans hr
  have hb2 := hO.below hb (Nat.le_refl _) (by have := hB.lt; omega)
  exact ⟨⟨n', v', A, hB2.below hb3 (by omega), hW3, hx⟩, (kept_row ho3 hcs hr2 (by decide) (by decide)).trans hr2, hb2.trans (hb3.mono (by omega))⟩
/-- what the script of a level prints. -/
def scO (L : List Int) : List UInt8 := [111, 107, 10, 111, 107, 10] ++ spB L ++ [10] ++ [115, 101, 116, 115, 32] ++ Lib.decDigits L.length ++ [10]
set_option maxHeartbeats 8000000 in
theorem exec_level (d k : Nat) (w : World) (hs : szB (d : Nat) (k : Nat) = true) (d6 : d ≤ 6) :
    Calls Tryz.prog 10 #[.string (scL d k)] w fun e w' => e = .returned (.string ⟨(scO (levL (d : Nat) (k : Nat))).toArray⟩) ∧ Below w.heap.size w w' := by
  obtain ⟨n1, n2, k1, k2⟩ := szB_yes hs
  have hsz : (scL d k).size = 22 := rfl
  obtain ⟨hc3, hsp⟩ := split_dec ⟨d, by omega⟩ ⟨k, by omega⟩
  simp only at hc3 hsp
  have hsl := fun W => split_nl (scL d k) (by rw [hsz]; omega) W
  simp only [hc3, hsp] at hsl
  have hcf : Lib.cellsOf [lnP d, lnL k, lnS, ⟨#[]⟩] (3 + 1) = #[.string (lnP d), .string (lnL k), .string lnS, .string ⟨#[]⟩] := rfl
  simp only [hcf] at hsl
  obtain ⟨S, hS⟩ : ∃ S, scL d k = S := ⟨_, rfl⟩
  rw [hS] at hsz hsl ⊢
  have hsz2 : ((S.size : Nat) : Int) = 22 := by rw [hsz]; rfl
  replace hsl := Lib.hid hsl
  replace hS := Lib.hid hS
  clear hc3 hsp hcf
  have hLz : ∀ x ∈ levL (d : Nat) (k : Nat), 0 ≤ x ∧ x < 100 := fun x hx => by
    obtain ⟨_, _, h1, h2⟩ := setB_yes (levL_mem n1 n2 hx)
    rw [Int.toNat_natCast] at h2
    have h3 : (2 : Int) ^ d ≤ 64 := by
      have : ∀ n : Fin 7, (2 : Int) ^ n.val ≤ 64 := by decide
      exact this ⟨d, by omega⟩
    omega
  have hLl : (levL (d : Nat) (k : Nat)).length ≤ 64 := asc_len (levL_asc _ _) 0 64 (fun x hx => by
    obtain ⟨_, _, h1, h2⟩ := setB_yes (levL_mem n1 n2 hx)
    rw [Int.toNat_natCast] at h2
    have h3 : (2 : Int) ^ d ≤ 64 := by
      have : ∀ n : Fin 7, (2 : Int) ^ n.val ≤ 64 := by decide
      exact this ⟨d, by omega⟩
    omega)
  have hjl := join_le _ hLz
  have hspl : (spB (levL (d : Nat) (k : Nat))).length ≤ 200 := by
    unfold spB
    split
    · simp
    · omega
  have hI : ∀ wr v B, IntRow wr B v (levL (d : Nat) (k : Nat)) → IntRow wr 0 v (levL (d : Nat) (k : Nat)) := fun wr v B h => h.mono (Nat.zero_le _)
  go_enter Tryz.func10, Tryz.ntmps10
  go_wp2_with fail
  refine (hsl.out _).mono ?_
  rintro e w1 ⟨rfl, rfl⟩
  have st0 : ExSt w d k 0 ((((w.alloc (.cells #[.int .i64 5, .slice none 0 0] 43)).alloc (.cells #[.pointer none, .slice none 0 0] 46))).alloc (.cells #[.string (lnP d), .string (lnL k), .string lnS, .string ⟨#[]⟩] 9)) := by
    have hB1 : Bench (w.alloc (.cells #[.int .i64 5, .slice none 0 0] 43)) w.heap.size 5 (.slice none 0 0) := heap_alloc_new w _
    have e1 : (w.alloc (.cells #[.int .i64 5, .slice none 0 0] 43)).heap.size = w.heap.size + 1 := by simp
    have hf := Lib.fresh_isBuilder 46 5 (w.alloc (.cells #[.int .i64 5, .slice none 0 0] 43))
    rw [e1] at hf
    have hb1 := (Below.refl w.heap.size w).alloc (Nat.le_refl _) (.cells #[.int .i64 5, .slice none 0 0] 43)
    have hb2 := hb1.alloc (by simp) (.cells #[.pointer none, .slice none 0 0] 46)
    have hb3 := hb2.alloc (by simp; omega) (.cells #[.string (lnP d), .string (lnL k), .string lnS, .string ⟨#[]⟩] 9)
    refine ⟨⟨5, _, [], (hB1.below ((Below.refl _ _).alloc (Nat.le_refl _) _) (by simp)).below ((Below.refl _ _).alloc (Nat.le_refl _) _) (by simp; omega), ?_, .inl ⟨rfl, rfl, rfl, rfl⟩⟩, ?_, hb3⟩
    · exact Wrote.below (show Wrote _ _ [] from Lib.IsBuilderF.of hf) ((Below.refl _ _).alloc (Nat.le_refl _) _)
    · have := heap_alloc_new ((w.alloc (.cells #[.int .i64 5, .slice none 0 0] 43)).alloc (.cells #[.pointer none, .slice none 0 0] 46)) (.cells #[.string (lnP d), .string (lnL k), .string lnS, .string ⟨#[]⟩] 9)
      rw [World.size_alloc, World.size_alloc] at this
      exact this
  obtain ⟨W1, hW1⟩ : ∃ W1, (((w.alloc (.cells #[.int .i64 5, .slice none 0 0] 43)).alloc (.cells #[.pointer none, .slice none 0 0] 46))).alloc (.cells #[.string (lnP d), .string (lnL k), .string lnS, .string ⟨#[]⟩] 9) = W1 := ⟨_, rfl⟩
  rw [hW1] at st0 ⊢
  replace hW1 := Lib.hid hW1
  replace st0 := Lib.hid st0
  go_wp2_with fail
  go_loopw [21] (fun i wr => ∃ j : Nat, j ≤ 3 ∧ i = .int .i64 j ∧ Hid (ExSt w d k j wr)) (fun i _ => 3 - (intOf i).toNat)
  case atStart => exact ⟨0, by omega, rfl, st0⟩
  case round =>
    obtain ⟨j, hj, rfl, hst⟩ := hrel
    obtain ⟨⟨n, v, l, hB, hWr, hx⟩, hrow, hbel⟩ := hst.out
    clear hst
    have hlt := hB.lt
    have hbs := hbel.size
    by_cases hj3 : j < 3
    · have j1 : (0 : Int) ≤ (j : Int) := by omega
      have j2 : (j : Int) < 3 := by omega
      rcases (by omega : j = 0 ∨ j = 1 ∨ j = 2) with rfl | rfl | rfl
      · obtain ⟨rfl, rfl, rfl⟩ : n = 5 ∧ v = .slice none 0 0 ∧ l = [] := by
          rcases hx with ⟨_, h1, h2, h3⟩ | ⟨h0, _⟩ | ⟨h0, _⟩ | ⟨h0, _⟩
          · exact ⟨h1, h2, h3⟩
          all_goals omega
        have e1 : wr.cell? ⟨w.heap.size + 1 + 1, 0, none⟩ = some (.string (lnP d)) := by rw [cell_of_row _ _ 0 _ 9 (0, 0) hrow]; rfl
        have ha := Lib.hid (ans_P w.heap.size 5 (.slice none 0 0) d wr hB (by omega) (by omega))
        replace hB := Lib.hid hB
        replace hWr := Lib.hid hWr
        replace hrow := Lib.hid hrow
        replace hbel := Lib.hid hbel
        replace hx := Lib.hid hx
        go_wp2_with fail
        refine ha.out.mono ?_
        rintro e w2 ⟨rfl, hB2, hO2⟩
        have hw := Lib.hid (write_at (w.heap.size + 1) [] (⟨#[111, 107]⟩ ++ ⟨#[10]⟩) w2 (hWr.out.only hO2 hB.out (by omega)) (by decide) (by have := hO2.size; omega))
        replace hB2 := Lib.hid hB2
        replace hO2 := Lib.hid hO2
        go_wp2_with fail
        refine hw.out.mono ?_
        rintro e w3 ⟨rfl, hW3, hb3, ho3⟩
        have hn := Lib.hid (ExSt.wrote (j := 1) hB.out hWr.out hrow.out hbel.out hO2.out hB2.out hW3 hb3 ho3 (.inr (.inl ⟨rfl, rfl, rfl, rfl⟩)))
        clear hW3 hb3 ho3
        go_wp2_with fail
        go_roundw
        case rel => exact ⟨1, by omega, by go_num, hn⟩
        case measure => simp [intOf]
      · obtain ⟨rfl, rfl, rfl⟩ : n = (d : Nat) ∧ v = .slice none 0 0 ∧ l = [111, 107, 10] := by
          rcases hx with ⟨h0, _⟩ | ⟨_, h1, h2, h3⟩ | ⟨h0, _⟩ | ⟨h0, _⟩
          · omega
          · exact ⟨h1, h2, h3⟩
          all_goals omega
        have e1 : wr.cell? ⟨w.heap.size + 1 + 1, 1, none⟩ = some (.string (lnL k)) := by rw [cell_of_row _ _ 1 _ 9 (0, 0) hrow]; rfl
        have ha := Lib.hid (ans_L w.heap.size (d : Nat) (.slice none 0 0) k wr hB hs)
        replace hB := Lib.hid hB
        replace hWr := Lib.hid hWr
        replace hrow := Lib.hid hrow
        replace hbel := Lib.hid hbel
        replace hx := Lib.hid hx
        go_wp2_with fail
        refine ha.out.mono ?_
        rintro e w2 ⟨rfl, v2, hB2, hI2, hO2⟩
        have hW2 := hWr.out.only hO2 hB.out (by omega)
        obtain ⟨cs, hcs⟩ := hW2.at
        have hw := Lib.hid (write_at (w.heap.size + 1) [111, 107, 10] (⟨#[111, 107]⟩ ++ ⟨#[10]⟩) w2 hW2 (by decide) (by have := hO2.size; omega))
        replace hB2 := Lib.hid hB2
        replace hO2 := Lib.hid hO2
        replace hI2 := Lib.hid hI2
        replace hW2 := Lib.hid hW2
        replace hcs := Lib.hid hcs
        go_wp2_with fail
        refine hw.out.mono ?_
        rintro e w3 ⟨rfl, hW3, hb3, ho3⟩
        have hn := Lib.hid (ExSt.wrote (j := 2) hB.out hWr.out hrow.out hbel.out hO2.out hB2.out hW3 hb3 ho3 (.inr (.inr (.inl ⟨rfl, rfl, (hI2.out.others ho3 hcs.out).mono (Nat.zero_le _), rfl⟩))))
        clear hW3 hb3 ho3
        go_wp2_with fail
        go_roundw
        case rel => exact ⟨2, by omega, by go_num, hn⟩
        case measure => simp [intOf]
      · obtain ⟨rfl, hI0, rfl⟩ : n = (d : Nat) ∧ IntRow wr 0 v (levL (d : Nat) (k : Nat)) ∧ l = [111, 107, 10, 111, 107, 10] := by
          rcases hx with ⟨h0, _⟩ | ⟨h0, _⟩ | ⟨_, h1, h2, h3⟩ | ⟨h0, _⟩
          · omega
          · omega
          · exact ⟨h1, h2, h3⟩
          · omega
        have e1 : wr.cell? ⟨w.heap.size + 1 + 1, 2, none⟩ = some (.string lnS) := by rw [cell_of_row _ _ 2 _ 9 (0, 0) hrow]; rfl
        have ha := Lib.hid (ans_S w.heap.size (d : Nat) v (levL (d : Nat) (k : Nat)) wr hB hI0.row (by omega) hLz)
        have hsz3 : ((⟨(spB (levL (d : Nat) (k : Nat))).toArray⟩ : ByteArray) ++ ⟨#[10]⟩).data.toList = spB (levL (d : Nat) (k : Nat)) ++ [10] := by simp
        have hsz4 : ((⟨(spB (levL (d : Nat) (k : Nat))).toArray⟩ : ByteArray) ++ ⟨#[10]⟩).size = (spB (levL (d : Nat) (k : Nat))).length + 1 := by
          show ((⟨(spB (levL (d : Nat) (k : Nat))).toArray⟩ : ByteArray) ++ ⟨#[10]⟩).data.size = _
          rw [← Array.length_toList, hsz3]; simp
        obtain ⟨A, hA⟩ : ∃ A, spB (levL (d : Nat) (k : Nat)) = A := ⟨_, rfl⟩
        rw [hA] at ha hsz3 hsz4
        replace hB := Lib.hid hB
        replace hWr := Lib.hid hWr
        replace hrow := Lib.hid hrow
        replace hbel := Lib.hid hbel
        replace hx := Lib.hid hx
        replace hI0 := Lib.hid hI0
        replace hsz3 := Lib.hid hsz3
        replace hsz4 := Lib.hid hsz4
        go_wp2_with fail
        refine ha.out.mono ?_
        rintro e w2 ⟨rfl, hb2⟩
        have hO2 := Only.of_below (r := w.heap.size) hb2 (Nat.le_refl _)
        have hB2 := hB.out.below hb2 hlt
        have hW2 := hWr.out.only hO2 hB.out (by omega)
        obtain ⟨cs, hcs⟩ := hW2.at
        have hI2 : IntRow w2 0 v (levL (d : Nat) (k : Nat)) := hI0.out.heap (fun g hg => hb2.block g (by
          obtain ⟨g', e', _, hr'⟩ := hI0.out
          rw [e'] at hg
          have e2 : g' = g := Option.some.inj hg
          have := hr'.lt
          omega))
        have hAl : A.length ≤ 200 := by rw [← hA]; exact hspl
        have hw := Lib.hid (write_at (w.heap.size + 1) [111, 107, 10, 111, 107, 10] (⟨A.toArray⟩ ++ ⟨#[10]⟩) w2 hW2 (by rw [hsz4.out]; have := hAl; simp only [List.length_cons, List.length_nil]; omega) (by have := hb2.size; omega))
        rw [hsz3.out] at hw
        replace hA := Lib.hid hA
        replace hB2 := Lib.hid hB2
        replace hO2 := Lib.hid hO2
        replace hI2 := Lib.hid hI2
        replace hW2 := Lib.hid hW2
        replace hcs := Lib.hid hcs
        replace hb2 := Lib.hid hb2
        go_wp2_with fail
        refine hw.out.mono ?_
        rintro e w3 ⟨rfl, hW3, hb3, ho3⟩
        have hn := Lib.hid (ExSt.wrote (j := 3) hB.out hWr.out hrow.out hbel.out hO2.out hB2.out hW3 hb3 ho3 (.inr (.inr (.inr ⟨rfl, rfl, hI2.out.others ho3 hcs.out, by rw [hA.out]; simp⟩))))
        clear hW3 hb3 ho3
        go_wp2_with fail
        go_roundw
        case rel => exact ⟨3, by omega, by go_num, hn⟩
        case measure => simp [intOf]
    · obtain rfl : j = 3 := by omega
      obtain ⟨rfl, hI0, rfl⟩ : n = (d : Nat) ∧ IntRow wr 0 v (levL (d : Nat) (k : Nat)) ∧ l = [111, 107, 10, 111, 107, 10] ++ spB (levL (d : Nat) (k : Nat)) ++ [10] := by
        rcases hx with ⟨h0, _⟩ | ⟨h0, _⟩ | ⟨h0, _⟩ | ⟨_, h1, h2, h3⟩
        · omega
        · omega
        · omega
        · exact ⟨h1, h2, h3⟩
      obtain ⟨g, rfl, _, _⟩ := id hI0
      have hc := Lib.hid (wb_count w.heap.size (d : Nat) (some ⟨g, 0, none⟩) (levL (d : Nat) (k : Nat)).length (levL (d : Nat) (k : Nat)).length wr hB (by omega))
      obtain ⟨O, hO⟩ : ∃ O, ([111, 107, 10, 111, 107, 10] ++ spB (levL (d : Nat) (k : Nat)) ++ [10] : List UInt8) = O := ⟨_, rfl⟩
      obtain ⟨N, hN⟩ : ∃ N, (levL (d : Nat) (k : Nat)).length = N := ⟨_, rfl⟩
      have hN64 : N ≤ 64 := by omega
      have hOl : O.length ≤ 300 := by rw [← hO]; simp only [List.length_append, List.length_cons, List.length_nil]; omega
      have hscO : scO (levL (d : Nat) (k : Nat)) = O ++ (([115, 101, 116, 115, 32] ++ Lib.decDigits N) ++ [10]) := by rw [← hO, ← hN]; unfold scO; simp only [List.append_assoc]
      rw [hN] at hc
      rw [hO] at hWr
      have hD : (Lib.decDigits N).length ≤ 3 := by
        have : ∀ n : Fin 65, (Lib.decDigits n.val).length ≤ 3 := by decide +kernel
        exact this ⟨N, by omega⟩
      obtain ⟨R, hR⟩ : ∃ R : List UInt8, ([115, 101, 116, 115, 32] ++ Lib.decDigits N) ++ [10] = R := ⟨_, rfl⟩
      obtain ⟨Sb, hSb⟩ : ∃ Sb : ByteArray, (⟨#[115, 101, 116, 115, 32]⟩ ++ ⟨(Lib.decDigits N).toArray⟩ : ByteArray) ++ ⟨#[10]⟩ = Sb := ⟨_, rfl⟩
      have hSd : Sb.data.toList = R := by rw [← hSb, ← hR]; simp
      have hSs : Sb.size ≤ 9 := by
        show Sb.data.size ≤ 9
        rw [← Array.length_toList, hSd, ← hR]
        simp only [List.length_append, List.length_cons, List.length_nil]; omega
      rw [hR] at hscO
      have hw := Lib.hid (write_at (w.heap.size + 1) O Sb wr hWr (by omega) (by omega))
      rw [hSd] at hw
      replace hWr := Lib.hid hWr
      replace hB := Lib.hid hB
      replace hO := Lib.hid hO
      replace hN := Lib.hid hN
      replace hR := Lib.hid hR
      replace hSb := Lib.hid hSb
      replace hSd := Lib.hid hSd
      replace hscO := Lib.hid hscO
      replace hx := Lib.hid hx
      replace hI0 := Lib.hid hI0
      replace hrow := Lib.hid hrow
      replace hbel := Lib.hid hbel
      go_wp2_with fail
      refine hc.out.mono ?_
      rintro e w2 ⟨rfl, rfl⟩
      go_wp2_with fail
      rw [hSb.out]
      refine hw.out.mono ?_
      rintro e w3 ⟨rfl, hW3, hb3, ho3⟩
      have hcg := Lib.hid (Any.Builder_String_any_k { Tryz.lays156 with } Tryz.Builder_Extra_156 (w.heap.size + 1) (w.heap.size + 1) (O ++ R) w3 hW3 (by have := hb3.size; omega))
      replace hb3 := Lib.hid hb3
      replace hW3 := Lib.hid hW3
      clear ho3
      go_wp2_with fail
      refine hcg.out.mono ?_
      rintro e w4 ⟨rfl, _, hb4, _⟩
      replace hb4 := Lib.hid hb4
      go_wp2_with fail
      go_ret
      refine ⟨?_, hbel.out.trans ((hb3.out.trans hb4.out).mono (by omega))⟩
      rw [hscO.out]
      rfl

end
section
/- Scripts: the law's way of writing numbers. -/
open Go.ChangeShapes Go.WideShapes Go.ChangeAt Go.RowKit Go.Proofs Go.Shelf
attribute [local go_sem] Oper.semAt_some

theorem one_byte (n : Nat) (hn : n < 10) (w : World) : (Sem.run Tryz.prog (convert 22 9 (.slice (some ⟨w.heap.size, 0, none⟩) 1 1)) (w.alloc (.cells #[.int .u8 (48 + n)] 5))) = .ok (.string ⟨#[UInt8.ofNat (48 + n)]⟩) (w.alloc (.cells #[.int .u8 (48 + n)] 5)) := by
  have h := run_convert_bytes_back (P := Tryz.prog) (w.alloc (.cells #[.int .u8 (48 + n)] 5)) 22 9 5 ⟨w.heap.size, 0, none⟩ 1 [UInt8.ofNat (48 + n)] Tryz.underlying22 Tryz.underlying5 Tryz.underlying9 (by
      intro j hj
      have : j = 0 := by simpa using hj
      subst this
      simp [Addr.add]
      omega)
  exact h
theorem one_byte_at (n : Nat) (hn : n < 10) (w : World) (b : Nat) (hb : w.heap[b]? = some (.cells #[.int .u8 (48 + n)] 5 (0, 0))) : (Sem.run Tryz.prog (convert 22 9 (.slice (some ⟨b, 0, none⟩) 1 1)) w) = .ok (.string ⟨#[UInt8.ofNat (48 + n)]⟩) w := by
  have h := run_convert_bytes_back (P := Tryz.prog) w 22 9 5 ⟨b, 0, none⟩ 1 [UInt8.ofNat (48 + n)] Tryz.underlying22 Tryz.underlying5 Tryz.underlying9 (by
      intro j hj
      have : j = 0 := by simpa using hj
      subst this
      simp [Addr.add, World.cell?, hb]
      omega)
  exact h
theorem made_at (c : Obj) (W : World) : (W.alloc c).heap[W.heap.size]? = some c := Array.getElem?_push_size
theorem made_drew (c : Obj) (W : World) : (W.alloc c).drew.heap[W.heap.size]? = some c := made_at c W
theorem made_after {c : Obj} {W w' : World} (h : Below (W.alloc c).drew.heap.size (W.alloc c).drew w') : w'.heap[W.heap.size]? = some c :=
  (h.block _ (Array.getElem?_eq_some_iff.1 (made_drew c W)).1).trans (made_drew c W)
theorem of_drew {w w' : World} (h : Below w.drew.heap.size w.drew w') : Below w.heap.size w w' := ⟨h.os, h.tape, h.output, h.size, h.block⟩
set_option maxRecDepth 100000 in
set_option maxHeartbeats 2000000 in
theorem law_digits1 (n : Nat) (w : World) (hn : n < 10) :
    Calls Tryz.prog 18 #[.int .i64 n] w fun e w' => e = .returned (.string ⟨(Lib.decDigits n).toArray⟩) ∧ Below w.heap.size w w' := by
  rw [Lib.decDigits_one hn]
  have h1 : (n : Int) < 10 := by omega
  have hcv := one_byte n hn w
  obtain ⟨cb, hcb⟩ : ∃ c, UInt8.ofNat (48 + n) = c := ⟨_, rfl⟩
  rw [hcb] at hcv ⊢
  replace hcb := Lib.hid hcb
  go_enter Tryz.func18, Tryz.ntmps18
  go_wp2_with fail
  go_ret
  exact ⟨rfl, (Below.refl _ _).alloc (Nat.le_refl _) _⟩
set_option maxRecDepth 100000 in
set_option maxHeartbeats 2000000 in
theorem law_digits2 (n : Nat) (w : World) (hn : 10 ≤ n) (hn2 : n < 100) :
    Calls Tryz.prog 18 #[.int .i64 n] w fun e w' => e = .returned (.string ⟨(Lib.decDigits n).toArray⟩) ∧ Below w.heap.size w w' := by
  rw [Lib.decDigits_two (by omega) hn2]
  have h1 : ¬ (n : Int) < 10 := by omega
  have hd : Int.tdiv (n : Int) 10 = ((n / 10 : Nat) : Int) := by rw [Int.tdiv_eq_ediv_of_nonneg (by omega)]; omega
  have hm : Int.tmod (n : Int) 10 = ((n % 10 : Nat) : Int) := by rw [Int.tmod_eq_emod_of_nonneg (by omega)]; omega
  have hcv := fun W => one_byte (n % 10) (by omega) W
  have hcw := fun W b => one_byte_at (n % 10) (by omega) W b
  have hc := Lib.hid (fun W => law_digits1 (n / 10) W (by omega))
  rw [Lib.decDigits_one (show n / 10 < 10 by omega)] at hc
  obtain ⟨cb, hcb⟩ : ∃ c, UInt8.ofNat (48 + n % 10) = c := ⟨_, rfl⟩
  obtain ⟨ca, hca⟩ : ∃ c, UInt8.ofNat (48 + n / 10) = c := ⟨_, rfl⟩
  rw [hcb] at hcv hcw ⊢
  rw [hca] at hc ⊢
  obtain ⟨q, hq⟩ : ∃ q : Nat, n / 10 = q := ⟨_, rfl⟩
  obtain ⟨r, hr⟩ : ∃ q : Nat, n % 10 = q := ⟨_, rfl⟩
  rw [hq] at hd hc
  rw [hr] at hm hcv hcw
  have hcz := hcw ((w.alloc (.cells #[.int .u8 (48 + (r : Nat))] 5)).drew) w.heap.size (made_drew _ _)
  replace hcw := Lib.hid hcw
  have q0 : (0 : Int) ≤ (q : Nat) := by omega
  have q9 : (q : Int) < 10 := by omega
  have r0 : (0 : Int) ≤ (r : Nat) := by omega
  have r9 : (r : Int) < 10 := by omega
  have e1 : IntKind.i64.wrap ((q : Nat) : Int) = ((q : Nat) : Int) := by rw [IntKind.wrap_i64]; omega
  have e2 : IntKind.i64.wrap (48 + ((r : Nat) : Int)) = 48 + ((r : Nat) : Int) := by rw [IntKind.wrap_i64]; omega
  have e3 : IntKind.u8.wrap (48 + ((r : Nat) : Int)) = 48 + ((r : Nat) : Int) := by rw [IntKind.wrap_u8]; omega
  replace hq := Lib.hid hq
  replace hr := Lib.hid hr
  replace hcb := Lib.hid hcb
  replace hca := Lib.hid hca
  go_enter Tryz.func18, Tryz.ntmps18
  go_wp2_with fail
  go_region_with (go_at_call 18; (with_reducible refine (hc.out _).mono ?_); rintro e w' ⟨rfl, hbw⟩; (first | have cw := hcw.out w' w.heap.size (made_after hbw) | skip); replace hbw := Lib.hid hbw)
  all_goals go_wp2_with fail
  all_goals go_ret
  all_goals refine ⟨rfl, ?_⟩
  · exact (of_drew hbw.out).alloc (of_drew hbw.out).size _
  · exact ((Below.refl _ _).alloc (Nat.le_refl _) _).trans ((of_drew hbw.out).mono (by simp))
  · exact ((Below.refl _ _).alloc (Nat.le_refl _) _).trans ((of_drew hbw.out).mono (by simp))
theorem law_digits (n : Nat) (w : World) (hn : n < 100) :
    Calls Tryz.prog 18 #[.int .i64 n] w fun e w' => e = .returned (.string ⟨(Lib.decDigits n).toArray⟩) ∧ Below w.heap.size w w' := by
  by_cases h : n < 10
  · exact law_digits1 n w h
  · exact law_digits2 n w (by omega) hn

end
section
/- Scripts: the law's way of writing lists. -/
open Go.ChangeShapes Go.WideShapes Go.ChangeAt Go.RowKit Go.Proofs Go.Shelf

/-- the first k numbers as they are written. -/
def spK (xs : List Int) (k : Nat) : List UInt8 := Lib.join ((xs.take k).map fun x => Lib.decDigits x.toNat) [32]
theorem spK_one (xs : List Int) (h : 0 < xs.length) : spK xs 1 = Lib.decDigits (xs.getD 0 0).toNat := by
  cases xs with
  | nil => simp at h
  | cons y r => simp [spK, Lib.join_one]
theorem spK_succ (xs : List Int) (k : Nat) (h : k + 1 < xs.length) : spK xs (k + 2) = (spK xs (k + 1) ++ [32]) ++ Lib.decDigits (xs.getD (k + 1) 0).toNat := by
  cases xs with
  | nil => simp at h
  | cons y r =>
    have hk : k < r.length := by simpa using h
    have hg : (r.map fun x => Lib.decDigits x.toNat)[k]? = some (Lib.decDigits (r.getD k 0).toNat) := by
      rw [List.getElem?_map, List.getElem?_eq_getElem hk]
      simp [List.getD, List.getElem?_eq_getElem hk]
    have e1 := Lib.joinTail_take_succ [32] (r.map fun x => Lib.decDigits x.toNat) k _ hg
    unfold spK
    rw [List.take_succ_cons, List.take_succ_cons, List.map_cons, List.map_cons, Lib.join_cons, Lib.join_cons, List.map_take, List.map_take, e1]
    have e2 : (y :: r).getD (k + 1) 0 = r.getD k 0 := rfl
    rw [e2]
    simp only [List.append_assoc]
theorem spK_full (xs : List Int) (h : 0 < xs.length) : spK xs xs.length = spB xs := by
  unfold spK spB
  rw [List.take_length, if_neg (by omega)]
theorem spB_ne (xs : List Int) (h : 0 < xs.length) : spB xs ≠ [] := by
  unfold spB
  rw [if_neg (by omega)]
  cases xs with
  | nil => simp at h
  | cons y r =>
    rw [List.map_cons, Lib.join_cons]
    intro e
    have := (List.append_eq_nil_iff.1 e).1
    rw [Lib.decDigits] at this
    split at this <;> simp at this
/-- the text of the first k numbers. -/
def spT (xs : List Int) (k : Nat) : ByteArray := ⟨(spK xs k).toArray⟩
theorem spT_zero (xs : List Int) : spT xs 0 = ⟨#[]⟩ := rfl
theorem spT_one (xs : List Int) (h : 0 < xs.length) : (⟨#[]⟩ : ByteArray) ++ ⟨(Lib.decDigits (xs.getD 0 0).toNat).toArray⟩ = spT xs 1 := by
  unfold spT; rw [spK_one xs h]; apply ByteArray.ext; simp
theorem spT_succ (xs : List Int) (k : Nat) (h : k + 1 < xs.length) : spT xs (k + 1) ++ ⟨#[32]⟩ ++ ⟨(Lib.decDigits (xs.getD (k + 1) 0).toNat).toArray⟩ = spT xs (k + 2) := by
  unfold spT; rw [spK_succ xs k h]; apply ByteArray.ext; simp
theorem spT_len (xs : List Int) (k : Nat) (hx : ∀ x ∈ xs, 0 ≤ x ∧ x < 100) (hl : xs.length ≤ 300) : (spT xs k).size ≤ 900 := by
  have h := join_le (xs.take k) (fun x h => hx x (List.mem_of_mem_take h))
  have h2 : (xs.take k).length ≤ xs.length := by rw [List.length_take]; omega
  show (spK xs k).toArray.size ≤ 900
  rw [List.size_toArray]
  unfold spK
  omega
set_option maxRecDepth 100000 in
set_option maxHeartbeats 4000000 in
theorem law_spaced (v : Value) (xs : List Int) (B : Nat) (w : World) (hR : Row w B v xs) (hB : B ≤ w.heap.size) (hx : ∀ x ∈ xs, 0 ≤ x ∧ x < 100) (hl : xs.length ≤ 300) :
    Calls Tryz.prog 19 #[v] w fun e w' => e = .returned (.string ⟨(spB xs).toArray⟩) ∧ Below w.heap.size w w' := by
  obtain ⟨a, c, rfl, _⟩ := id hR
  have hRh := Lib.hid hR
  clear hR
  replace hx := Lib.hid hx
  have hfull := Lib.hid (fun h => spK_full xs h)
  go_enter Tryz.func19, Tryz.ntmps19
  go_wp2_with fail
  go_loopw [3, 4] (fun o i wr => ∃ k : Nat, k ≤ xs.length ∧ i = .int .i64 k ∧ o = .string (spT xs k) ∧ Hid (Below w.heap.size w wr)) (fun _ i _ => xs.length - (intOf i).toNat)
  case atStart => exact ⟨0, by omega, rfl, rfl, Lib.hid (Below.refl _ _)⟩
  case round =>
  obtain ⟨k, hk, rfl, rfl, hb⟩ := hrel
  by_cases hlt : k < xs.length
  · obtain ⟨_, _, e', hcell⟩ := hRh.out.below hb.out hB
    injection e' with q1 q2 q3
    subst q1 q3
    obtain ⟨b1, o1, rfl, t2, c1⟩ := hcell (by omega)
    clear hcell
    have k1 : (0 : Int) ≤ (k : Int) := by omega
    have k2 : (k : Int) < (xs.length : Nat) := by omega
    have e1 := c1 k hlt
    obtain ⟨x, hxk⟩ : ∃ x, xs.getD k 0 = x := ⟨_, rfl⟩
    rw [hxk] at e1
    obtain ⟨x1, x2⟩ := hx.out x (by rw [← hxk]; exact getD_mem hlt)
    obtain ⟨u, rfl⟩ : ∃ u : Nat, x = (u : Int) := ⟨x.toNat, by omega⟩
    have hd := Lib.hid (fun W => law_digits u W (by omega))
    obtain ⟨D, hD⟩ : ∃ D : ByteArray, (⟨(Lib.decDigits u).toArray⟩ : ByteArray) = D := ⟨_, rfl⟩
    have hDs : D.size ≤ 2 := by
      rw [← hD]
      show (Lib.decDigits u).toArray.size ≤ 2
      rw [List.size_toArray]
      exact dec_len (by omega)
    have hSs := spT_len xs k hx.out hl
    rw [hD] at hd
    replace hxk := Lib.hid hxk
    clear c1
    rcases Nat.eq_zero_or_pos k with rfl | kp
    · have hs := spT_one xs hlt
      rw [hxk.out, Int.toNat_natCast, hD] at hs
      replace hD := Lib.hid hD
      rw [spT_zero]
      replace e1 : wr.cell? ⟨b1, o1, none⟩ = some (.int .i64 u) := by simpa using e1
      clear hSs
      go_wp2_with fail
      refine (hd.out _).mono ?_
      rintro e w' ⟨rfl, hbw⟩
      replace hb := Lib.hid (hb.out.trans (hbw.mono hb.out.size))
      clear hbw
      go_wp2_with fail
      go_roundw
      case rel => exact ⟨1, by omega, by go_num, by rw [← hs], hb⟩
      case measure => simp [intOf]; omega
    · obtain ⟨j, rfl⟩ : ∃ j, k = j + 1 := ⟨k - 1, by omega⟩
      have hs := spT_succ xs j hlt
      rw [hxk.out, Int.toNat_natCast, hD] at hs
      replace hD := Lib.hid hD
      have kp2 : ¬ ((j + 1 : Nat) : Int) ≤ 0 := by omega
      obtain ⟨S, hS⟩ : ∃ S, spT xs (j + 1) = S := ⟨_, rfl⟩
      rw [hS] at hs hSs ⊢
      have hS1 : (S ++ ⟨#[32]⟩ : ByteArray).size ≤ 901 := by rw [ByteArray.size_append]; show S.size + 1 ≤ 901; omega
      replace hS := Lib.hid hS
      replace hs := Lib.hid hs
      go_wp2_with fail
      refine (hd.out _).mono ?_
      rintro e w' ⟨rfl, hbw⟩
      replace hb := Lib.hid (hb.out.trans (hbw.mono hb.out.size))
      clear hbw
      go_wp2_with fail
      go_roundw
      case rel => exact ⟨j + 2, by omega, by go_num, by rw [hs.out], hb⟩
      case measure => simp [intOf]; omega
  obtain rfl : k = xs.length := by omega
  by_cases h0 : xs.length = 0
  · have hT : spT xs xs.length = ⟨#[]⟩ := by rw [h0]; rfl
    have hB0 : spB xs = [45] := by unfold spB; rw [if_pos h0]
    rw [hT]
    replace hB0 := Lib.hid hB0
    replace h0 := Lib.hid h0
    go_wp2_with fail
    go_ret
    exact ⟨by rw [hB0.out]; rfl, hb.out⟩
  · have hT : spT xs xs.length = ⟨(spB xs).toArray⟩ := by unfold spT; rw [hfull.out (by omega)]
    have hn := spB_ne xs (by omega)
    rw [hT]
    obtain ⟨S, hS⟩ : ∃ S : ByteArray, (⟨(spB xs).toArray⟩ : ByteArray) = S := ⟨_, rfl⟩
    have hne : S ≠ ⟨#[]⟩ := by
      rw [← hS]; intro e
      injection e with e
      exact hn (by simpa using e)
    have hne2 : ¬ S = ⟨#[]⟩ := hne
    have hne3 : S.toList.isEmpty = false := by
      rw [← hS, ByteArray.toList_mk]
      cases hE : spB xs with
      | nil => exact absurd hE hn
      | cons y r => rfl
    rw [hS]
    replace hS := Lib.hid hS
    replace hT := Lib.hid hT
    replace hn := Lib.hid hn
    replace hne := Lib.hid hne
    replace h0 := Lib.hid h0
    go_wp2_with fail
    go_ret
    exact ⟨by rw [hS.out]; rfl, hb.out⟩

end
end Go.Proofs.YtojfamjgghikoaaGreatDoor
