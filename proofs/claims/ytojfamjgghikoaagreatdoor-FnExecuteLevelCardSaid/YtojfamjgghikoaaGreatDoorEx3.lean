/- Scripts: a line that takes all sets of a size; lists told; the number of sets. -/
import Derived.Test.YtojfamjgghikoaaGreatDoorEx2
import Derived.Deep.RegionWith
namespace Go.Proofs.YtojfamjgghikoaaGreatDoor
open Go.ChangeShapes Go.WideShapes Go.ChangeAt Go.RowKit Go.Proofs Go.Shelf

theorem IntRow.heap {w w' : World} {B : Nat} {v : Value} {xs : List Int} (h : IntRow w B v xs) (hk : ∀ g, v.ownBlock = some g → w'.heap[g]? = w.heap[g]?) : IntRow w' B v xs := by
  obtain ⟨g, rfl, h2, c, h3, h4⟩ := h
  exact ⟨g, rfl, h2, c, (hk g rfl).trans h3, h4⟩
theorem wb_become (b : Nat) (n : Int) (v0 : Value) (a : Option Addr) (l c : Nat) (W : World) (hB : Bench W b n v0) :
    Calls Tryz.prog 144 #[.pointer (some ⟨b, 0, none⟩), .slice a l c, .bool true] W fun e w' => e = .returned (.string ⟨#[111, 107]⟩) ∧ w' = W.setCell ⟨b, 1, none⟩ (.slice a l c) := by
  obtain ⟨c0, c1, f0, f1⟩ := hB.cells
  replace hB := Lib.hid hB
  go_enter Tryz.func144, Tryz.ntmps144
  go_wp2_with (go_at_call 149; (with_reducible refine (must_list a l c _).mono ?_); rintro e w' ⟨rfl, rfl⟩)
  go_ret
  exact ⟨rfl, rfl⟩
/-- what a line leaves that changes the family: it is told, and the workbench has the list. -/
def TakesL (b : Nat) (n : Int) (xs : List Int) (w : World) (e : Ending) (w' : World) : Prop := e = .returned (.string ⟨#[111, 107]⟩) ∧ ∃ v, Bench w' b n v ∧ IntRow w' w.heap.size v xs ∧ Only b w w'
set_option maxHeartbeats 4000000 in
theorem wb_level (b : Nat) (n : Int) (v0 : Value) (s : ByteArray) (u : Nat) (w : World) (hB : Bench w b n v0) (h : Lib.parseUintB 64 s.data.toList = .ok u) (h3 : s.size ≤ 3) (hs : szB n (u : Nat) = true) :
    Calls Tryz.prog 86 #[.pointer (some ⟨b, 0, none⟩), .string s] w (TakesL b n (levL n (u : Nat)) w) := by
  obtain ⟨n1, n2, k1, k2⟩ := szB_yes hs
  have hn := Lib.hid (fun W => number_ok s u h h3 (by omega) W)
  have hsd : w.drew.heap.size = w.heap.size := rfl
  have hlv := Lib.hid (fun W => level_row n (u : Nat) W hs)
  have hlt := hB.lt
  obtain ⟨c0, c1, f0, f1⟩ := hB.cells
  obtain ⟨L, hL⟩ : ∃ L, levL n (u : Nat) = L := ⟨_, rfl⟩
  rw [hL] at hlv ⊢
  replace h := Lib.hid h
  replace hs := Lib.hid hs
  replace hL := Lib.hid hL
  replace hB := Lib.hid hB
  replace hsd := Lib.hid hsd
  go_enter Tryz.func86, Tryz.ntmps86
  go_wp2_with fail
  go_region_with (first
    | (go_at_call 141; (with_reducible refine (hn.out _).mono ?_); rintro e w1 ⟨rfl, hb1⟩; rw [hsd.out] at hb1; have hB1 := (show Bench w.drew b n v0 from hB.out).below hb1 hlt; obtain ⟨c01, -, -, -⟩ := hB1.cells; have hz1 := hb1.size; rw [hsd.out] at hz1; replace hB1 := Lib.hid hB1; replace hb1 := Lib.hid ((Below.refl w.heap.size w).drew.trans hb1))
    | (go_at_call 15; (with_reducible refine (hlv.out _).mono ?_); rintro e w2 ⟨v2, rfl, hI2, hb2⟩; obtain ⟨g2, rfl, hg2, hr2⟩ := id hI2; have hz2 := hb2.size; have hB2 := Lib.hid (hB1.out.below hb2 (show b < w1.heap.size by omega)); have hbw := Lib.hid (hb1.out.trans (hb2.mono (show w.heap.size ≤ w1.heap.size from hb1.out.size))); replace hI2 := Lib.hid hI2; replace hr2 := Lib.hid hr2; replace hb2 := Lib.hid hb2)
    | (go_at_call 144; (with_reducible refine (wb_become b n _ _ _ _ _ hB2.out).mono ?_); rintro e w3 ⟨rfl, rfl⟩))
  all_goals
    go_wp2_with fail
    go_ret
    exact ⟨rfl, _, hB2.out.set1 _, (hI2.out.heap (fun g hg => Below.heap_setCell _ _ _ _ (by have e : g2 = g := Option.some.inj hg; show g ≠ b; omega))).mono (by omega), only_cellB (Only.of_below hbw.out (Nat.le_refl _)) _⟩
/-- the signs of a list of numbers. -/
def spB (xs : List Int) : List UInt8 := if xs.length = 0 then [45] else Lib.join (xs.map fun x => Lib.decDigits x.toNat) [32]
theorem dec_len {i : Nat} (h : i < 100) : (Lib.decDigits i).length ≤ 2 := by
  by_cases h1 : i < 10
  · rw [Lib.decDigits_one h1]; simp
  · rw [Lib.decDigits_two h1 h]; simp
theorem lens_le (xs : List Int) (h : ∀ x ∈ xs, 0 ≤ x ∧ x < 100) : Lib.lens (xs.map fun x => Lib.decDigits x.toNat) ≤ 2 * xs.length := by
  induction xs with
  | nil => simp [Lib.lens]
  | cons x xs ih =>
    have h1 := ih fun y hy => h y (List.mem_cons_of_mem _ hy)
    have h2 := h x List.mem_cons_self
    have h3 := dec_len (i := x.toNat) (by omega)
    unfold Lib.lens at h1 ⊢
    rw [List.map_cons, List.map_cons, List.sum_cons, List.length_cons]
    omega
theorem join_le (xs : List Int) (h : ∀ x ∈ xs, 0 ≤ x ∧ x < 100) : (Lib.join (xs.map fun x => Lib.decDigits x.toNat) [32]).length ≤ 3 * xs.length := by
  cases xs with
  | nil => simp [Lib.join_nil]
  | cons x xs =>
    have h1 := lens_le _ h
    rw [List.map_cons, Lib.join_length]
    rw [List.map_cons, List.length_cons] at h1
    rw [List.length_map, List.length_cons]
    simp only [List.length_cons, List.length_nil]
    omega
theorem Tryz.strInfo : (Tryz.prog.info? 9).map (fun i => (i.zero, i.size, i.bytes)) = some (some (.string ByteArray.empty), 1, 16) := by kernel_rfl
/-- the texts of the first k numbers, in a row of texts. -/
def txF (xs : List Int) (k i : Nat) : Value := if i < k then .string ⟨(Lib.decDigits (xs.getD i 0).toNat).toArray⟩ else .string ByteArray.empty
set_option maxHeartbeats 4000000 in
theorem listed_at (v : Value) (xs : List Int) (S : Nat) (w : World) (hx : Row w S v xs) (hS : S ≤ w.heap.size) (hl : xs.length ≤ 1000) (h : ∀ x ∈ xs, 0 ≤ x ∧ x < 100) :
    Calls Tryz.prog 148 #[v] w fun e w' => e = .returned (.string ⟨(spB xs).toArray⟩) ∧ Below w.heap.size w w' := by
  obtain ⟨a, c, rfl, ha⟩ := hx
  replace ha := Lib.hid ha
  by_cases h0 : xs.length = 0
  · have hsp : spB xs = [45] := by unfold spB; rw [if_pos h0]
    rw [hsp]
    have hd : (((xs.length : Nat) : Int) == 0) = true := by simp [h0]
    rw [h0] at hd ⊢
    replace h := Lib.hid h
    replace hsp := Lib.hid hsp
    go_enter Tryz.func148, Tryz.ntmps148
    go_wp2_with fail
    go_ret
    exact ⟨rfl, Below.refl _ _⟩
  · have hsp : spB xs = Lib.join (xs.map fun x => Lib.decDigits x.toNat) [32] := by unfold spB; rw [if_neg h0]
    have hjl := join_le xs h
    have hmk := fun W => run_make_row' (P := Tryz.prog) 47 9 (.string ByteArray.empty) 16 Tryz.underlying47 Tryz.strInfo rfl .i64 .i64 xs.length (by omega) (by omega) W
    have hd : (((xs.length : Nat) : Int) == 0) = false := by rw [beq_eq_false_iff_ne]; omega
    have hit := Lib.hid (fun (i : Nat) (hi : i < 100) (W : World) => itoa_small i hi W)
    have hdn : ¬ ((xs.length : Nat) : Int) = 0 := by omega
    rw [hsp]
    replace h := Lib.hid h
    replace hsp := Lib.hid hsp
    replace hjl := Lib.hid hjl
    go_enter Tryz.func148, Tryz.ntmps148
    go_wp2_with fail
    go_loopw [14] (fun i wr => ∃ k : Nat, k ≤ xs.length ∧ i = .int .i64 k ∧ Hid (Below w.heap.size w wr) ∧ Hid (wr.rowIs w.heap.size 9 xs.length (txF xs k))) (fun i _ => xs.length - (intOf i).toNat)
    case atStart =>
      refine ⟨0, Nat.zero_le _, rfl, Lib.hid ((Below.refl _ _).alloc (Nat.le_refl _) _), Lib.hid ?_⟩
      exact (World.rowIs_made w (.string ByteArray.empty) xs.length 9).congr (g := txF xs 0) (fun i _ => by simp [txF])
    case round =>
      obtain ⟨k, hk, rfl, hbel, hrw⟩ := hrel
      have hz := hbel.out.size
      by_cases hlt : k < xs.length
      · obtain ⟨b1, o1, rfl, s1, c1⟩ := ha.out (by omega)
        have k1 : (0 : Int) ≤ (k : Int) := by omega
        have k2 : (k : Int) < (xs.length : Nat) := by omega
        obtain ⟨x1, x2⟩ := h.out _ (getD_mem hlt)
        obtain ⟨X, hX⟩ : ∃ X : Nat, xs.getD k 0 = (X : Int) := ⟨(xs.getD k 0).toNat, by omega⟩
        have e1 : wr.cell? ⟨b1, o1 + k, none⟩ = some (.int .i64 (X : Int)) := by
          rw [hbel.out.cell (p := ⟨b1, o1 + k, none⟩) (show b1 < w.heap.size by omega), c1 k hlt, hX]
        have hi := Lib.hid (fun W => hit.out X (by omega) W)
        have e2 := World.rowIs.cell hrw.out hlt
        have e3 := World.rowIs.frozen hrw.out k
        obtain ⟨D, hD⟩ : ∃ D : ByteArray, (⟨(Lib.decDigits X).toArray⟩ : ByteArray) = D := ⟨_, rfl⟩
        rw [hD] at hi
        have hrw' := Lib.hid ((World.rowIs.set hrw.out k (.string D)).congr (g := txF xs (k + 1)) (fun j hj => by
          unfold txF
          by_cases e : j = k
          · subst e; rw [if_pos rfl, if_pos (by omega), hX, ← hD]; rfl
          · rw [if_neg e]
            by_cases h2 : j < k
            · rw [if_pos h2, if_pos (by omega)]
            · rw [if_neg h2, if_neg (by omega)]))
        have hbel' := Lib.hid (below_setCell hbel.out (p := ⟨w.heap.size, k, none⟩) (Nat.le_refl _) (.string D))
        obtain ⟨u, hu⟩ : ∃ u, txF xs k k = u := ⟨_, rfl⟩
        rw [hu] at e2
        clear c1 hbel hrw
        replace hX := Lib.hid hX
        replace hD := Lib.hid hD
        replace hu := Lib.hid hu
        go_wp2_with (go_at_call 58; (with_reducible refine (hi.out _).mono ?_); rintro e w' ⟨rfl, rfl⟩)
        go_roundw
        case rel => exact ⟨k + 1, by omega, by go_num, hbel', hrw'⟩
        case measure => simp [intOf]; omega
      · obtain rfl : k = xs.length := by omega
        obtain ⟨Ls, hLs⟩ : ∃ Ls : List ByteArray, xs.map (fun x => (⟨(Lib.decDigits x.toNat).toArray⟩ : ByteArray)) = Ls := ⟨_, rfl⟩
        have hLl : Ls.length = xs.length := by rw [← hLs, List.length_map]
        have hLm : Ls.map (fun x => x.data.toList) = xs.map fun x => Lib.decDigits x.toNat := by rw [← hLs, List.map_map]; rfl
        have hj := Any.strings_Join Tryz.lays156 Tryz.Builder_Extra_156 w.heap.size 0 xs.length Ls ⟨#[32]⟩ wr (fun j x hjx => by
          have hj2 : j < xs.length := by rw [← hLl]; exact (List.getElem?_eq_some_iff.1 hjx).1
          rw [Nat.zero_add, World.rowIs.cell hrw.out hj2]
          unfold txF
          rw [if_pos hj2]
          rw [← hLs, List.getElem?_map, List.getElem?_eq_getElem hj2] at hjx
          rw [List.getD_eq_getElem?_getD, List.getElem?_eq_getElem hj2]
          have := Option.some.inj hjx
          rw [← this]; rfl) hrw.out.lt (by omega) (by omega) (by rw [hLm]; have := hjl.out; show (Lib.join _ [32]).length ≤ _; omega)
        rw [hLm, hLl] at hj
        replace hj := Lib.hid (show Calls Tryz.prog 205 #[.slice (some ⟨w.heap.size, 0, none⟩) xs.length xs.length, .string ⟨#[32]⟩] wr fun e w' => e = .returned (.string ⟨(Lib.join (xs.map fun x => Lib.decDigits x.toNat) [32]).toArray⟩) ∧ Below wr.heap.size wr w' from hj)
        replace hLs := Lib.hid hLs
        replace hLl := Lib.hid hLl
        replace hLm := Lib.hid hLm
        clear hrw
        go_wp2_with fail
        refine hj.out.mono ?_
        rintro e w5 ⟨rfl, hb5⟩
        have hbb := Lib.hid (hbel.out.trans (hb5.mono hz))
        clear hb5
        go_wp2_with fail
        go_ret
        exact ⟨rfl, hbb.out⟩
end Go.Proofs.YtojfamjgghikoaaGreatDoor
