/- Scripts: a line that tells a chain. -/
import Derived.Test.YtojfamjgghikoaaGreatDoorAllEx
import Derived.Test.YtojfamjgghikoaaGreatDoorAllCq
import Derived.Test.YtojfamjgghikoaaGreatDoorLawsE
import Derived.Test.YtojfamjgghikoaaGreatDoorLawsJ
namespace Go.Proofs.YtojfamjgghikoaaGreatDoor
open Go.ChangeShapes Go.WideShapes Go.ChangeAt Go.RowKit Go.Proofs Go.Shelf

/-- the points below k of s, as a set. -/
def loI (s : Int) : Nat → Int
  | 0 => 0
  | k + 1 => if hasB s k then loI s k + 2 ^ k else loI s k
theorem lo_dec : ∀ n : Fin 9, ∀ s : Fin 256, s.val < 2 ^ n.val → loI s.val n.val = ((s.val : Nat) : Int) := by decide +kernel
theorem byte_txt (s : Int) (N k : Nat) (h : k < N) : byteAt (txt s N) k = if hasB s k then 49 else 48 := by
  unfold byteAt
  rw [dif_pos (by rw [txt_size]; exact h)]
  have e : (txt s N)[k]'(by rw [txt_size]; exact h) = sign s k := by
    show (txtL s N).toArray[k]'(by simp [txtL_len]; exact h) = _
    rw [List.getElem_toArray, txtL_get]
  rw [e]
  unfold sign
  split <;> rfl
theorem rd_txt (s : Int) (N : Nat) : ∀ k, k ≤ N → rdTo (txt s N) k = some (loI s k)
  | 0, _ => rfl
  | k + 1, h => by
    have h1 := rd_txt s N k (by omega)
    have hb := byte_txt s N k (by omega)
    unfold loI
    rcases (by cases hasB s k <;> simp : hasB s k = true ∨ hasB s k = false) with hh | hh
    · rw [hh, if_pos rfl] at hb
      rw [hh, if_pos rfl]
      exact rdTo_1 h1 hb
    · rw [hh, if_neg (by simp)] at hb
      rw [hh, if_neg (by simp)]
      exact rdTo_0 h1 hb
theorem read_txt {N : Nat} {s : Int} (h : setB N s = true) : readV (txt s N) = s ∧ readB (txt s N) = true := by
  have s0 := setB_lt h
  obtain ⟨n1, n2, s1, s2⟩ := setB_yes h
  have e1 : ((s.toNat : Nat) : Int) = s := Int.toNat_of_nonneg s0.1
  have h1 := lo_dec ⟨N, by omega⟩ ⟨s.toNat, by omega⟩ (by
    show s.toNat < 2 ^ N
    have : ((s.toNat : Nat) : Int) < ((2 ^ N : Nat) : Int) := by rw [e1]; simpa using s2
    exact Int.ofNat_lt.1 this)
  simp only [e1] at h1
  have h2 := rd_txt s N N (Nat.le_refl _)
  rw [h1] at h2
  obtain ⟨a, b⟩ := read_done (s := txt s N) (x := s) (by rw [txt_size]; exact h2)
  exact ⟨a.symm, b.symm⟩
theorem im_read_txt {N : Nat} {s : Int} (h : setB N s = true) (w : World) : Calls Tryz.prog 143 #[.int .i64 (N : Nat), .string (txt s N)] w fun e w' => e = .returned (.tuple #[.int .i64 s, .bool true]) ∧ w = w' := by
  obtain ⟨n1, n2, _, _⟩ := setB_yes h
  have hr := im_read_yes (txt s N) (by rw [txt_size]; omega) (by rw [txt_size]; omega) w
  rw [txt_size, (read_txt h).1, (read_txt h).2] at hr
  exact hr
/-- the line 'chain'. -/
def lnC (N : Nat) (s : Int) : ByteArray := ⟨#[99, 104, 97, 105, 110, 32] ++ (txtL s N).toArray⟩
theorem lnC_size (N : Nat) (s : Int) : (lnC N s).size = N + 6 := by
  show (#[99, 104, 97, 105, 110, 32] ++ (txtL s N).toArray : Array UInt8).size = _
  rw [Array.size_append]
  simp [txtL_len]
  omega
theorem cutC_dec : ∀ N : Fin 7, ∀ s : Fin 64, Lib.cut (lnC N.val s.val).data.toList [32] = ([99, 104, 97, 105, 110], txtL s.val N.val, true) := by decide +kernel
theorem small6 {N : Nat} {s : Int} (hs : setB (N : Nat) s = true) (h6 : N ≤ 6) : 1 ≤ N ∧ 0 ≤ s ∧ s < 64 ∧ s < 2 ^ N := by
  obtain ⟨n1, _, h1, h2⟩ := setB_yes hs
  rw [Int.toNat_natCast] at h2
  have h3 : (2 : Int) ^ N ≤ 64 := by
    have : ∀ n : Fin 7, (2 : Int) ^ n.val ≤ 64 := by decide
    exact this ⟨N, by omega⟩
  exact ⟨by omega, h1, by omega, h2⟩
theorem cutC {N : Nat} {s : Int} (hs : setB (N : Nat) s = true) (h6 : N ≤ 6) : Lib.cut (lnC N s).data.toList [32] = ([99, 104, 97, 105, 110], txtL s N, true) := by
  obtain ⟨_, h1, h2, _⟩ := small6 hs h6
  obtain ⟨k, rfl⟩ := Int.eq_ofNat_of_zero_le h1
  exact cutC_dec ⟨N, by omega⟩ ⟨k, by omega⟩
theorem chn6_dec : ∀ N : Fin 7, ∀ s : Fin 64, s.val < 2 ^ N.val → (chnL N.val s.val).all (fun z => decide (0 ≤ z ∧ z < 100)) = true := by decide +kernel
theorem chn6 {N : Nat} {s : Int} (hs : setB (N : Nat) s = true) (h6 : N ≤ 6) : (∀ z ∈ chnL N s, 0 ≤ z ∧ z < 100) ∧ (chnL N s).length ≤ 9 := by
  obtain ⟨_, h1, h2, h3⟩ := small6 hs h6
  refine ⟨?_, (chn_facts (by omega) h1 h3).2.2⟩
  obtain ⟨k, rfl⟩ := Int.eq_ofNat_of_zero_le h1
  have h4 : k < 2 ^ N := by
    have : ((k : Nat) : Int) < ((2 ^ N : Nat) : Int) := by simpa using h3
    exact Int.ofNat_lt.1 this
  have := chn6_dec ⟨N, by omega⟩ ⟨k, by omega⟩ h4
  simpa [List.all_eq_true] using this
set_option maxHeartbeats 4000000 in
theorem wb_chain (b : Nat) (N : Nat) (v0 : Value) (s : Int) (w : World) (hB : Bench w b (N : Nat) v0) (hs : setB (N : Nat) s = true) (h6 : N ≤ 6) (hT : Tab w) :
    Calls Tryz.prog 89 #[.pointer (some ⟨b, 0, none⟩), .string (txt s N)] w fun e w' => e = .returned (.string ⟨(spB (chnL N s)).toArray⟩) ∧ Below w.heap.size w w' := by
  obtain ⟨hz, hl9⟩ := chn6 hs h6
  have hrd := Lib.hid (fun W => im_read_txt hs W)
  have hmi := Lib.hid (fun W => must_int s W)
  have hch := im_ChainOf (N : Nat) s w.drew hT
  rw [show chnI (N : Nat) s = chnL N s by unfold chnI; rw [hs, if_pos rfl, Int.toNat_natCast], hs] at hch
  replace hch := Lib.hid (show Calls Tryz.prog 21 #[.int .i64 (N : Nat), .int .i64 s] w.drew (ListPost (chnL N s) true w.drew) from hch)
  have hsd : w.drew.heap.size = w.heap.size := rfl
  obtain ⟨c0, c1, f0, f1⟩ := hB.cells
  have hlt := hB.lt
  obtain ⟨L, hL⟩ : ∃ L, chnL N s = L := ⟨_, rfl⟩
  rw [hL] at hch hz hl9 ⊢
  obtain ⟨X, hX⟩ : ∃ X, txt s N = X := ⟨_, rfl⟩
  rw [hX] at hrd ⊢
  replace hX := Lib.hid hX
  replace hL := Lib.hid hL
  replace hs := Lib.hid hs
  replace hz := Lib.hid hz
  replace hl9 := Lib.hid hl9
  replace hB := Lib.hid hB
  replace hsd := Lib.hid hsd
  go_enter Tryz.func89, Tryz.ntmps89
  go_wp2_with fail
  go_region_with (first
    | (go_at_call 143; (with_reducible refine (hrd.out _).mono ?_); rintro e w' ⟨rfl, rfl⟩)
    | (go_at_call 142; (with_reducible refine (hmi.out _).mono ?_); rintro e w' ⟨rfl, rfl⟩)
    | (go_at_call 21; (with_reducible refine hch.out.mono ?_); rintro e w1 ⟨v1, rfl, hO1, hb1⟩; obtain ⟨a1, d1, rfl, _⟩ := id hO1; have hls := Lib.hid (listed_at _ L w1.heap.size w1 hO1.row (Nat.le_refl _) (by have := hl9.out; omega) hz.out); replace hb1 := Lib.hid hb1; replace hO1 := Lib.hid hO1)
    | (go_at_call 149; (with_reducible refine (must_list _ _ _ _).mono ?_); rintro e w' ⟨rfl, rfl⟩)
    | (go_at_call 148; (with_reducible refine hls.out.mono ?_); rintro e w2 ⟨rfl, hb2⟩; replace hb2 := Lib.hid hb2))
  all_goals
    go_wp2_with fail
    go_ret
    exact ⟨rfl, of_drew (hb1.out.trans (hb2.out.mono hb1.out.size))⟩
set_option maxHeartbeats 4000000 in
theorem ans_C (b : Nat) (N : Nat) (v0 : Value) (s : Int) (w : World) (hB : Bench w b (N : Nat) v0) (hs : setB (N : Nat) s = true) (h6 : N ≤ 6) (hT : Tab w) :
    Calls Tryz.prog 30 #[.pointer (some ⟨b, 0, none⟩), .string (lnC N s)] w fun e w' => e = .returned (.string ⟨(spB (chnL N s)).toArray⟩) ∧ Below w.heap.size w w' := by
  have hmf : ∀ (fn : Fn) (first cap : Array Value) (w : World), (Instr.makeFunc fn first cap).run Tryz.prog w = .ok (.func fn first cap) w := fun _ _ _ _ => rfl
  have hcut := fun W => cut_one (lnC N s) (by have := lnC_size N s; omega) 32 W
  have hcc := cutC hs h6
  simp only [hcc] at hcut
  clear hcc
  have hlt := hB.lt
  obtain ⟨line, hln⟩ : ∃ l, lnC N s = l := ⟨_, rfl⟩
  rw [hln] at hcut ⊢
  replace hcut := Lib.hid hcut
  replace hln := Lib.hid hln
  replace hB := Lib.hid hB
  go_enter_defers Tryz.func30, Tryz.ntmps30
  go_wp2_with fail
  refine (hcut.out _).mono ?_
  rintro e w1 ⟨rfl, q, rfl⟩
  have hr1 := res_at w q
  have hB1 : Bench ((w.alloc (.cells #[.string ⟨#[]⟩] 9)).drewN q) b (N : Nat) v0 := hB.out.below (below_drewN ((Below.refl w.heap.size w).alloc (Nat.le_refl _) _) q) hlt
  have hs1 : ((w.alloc (.cells #[.string ⟨#[]⟩] 9)).drewN q).heap.size = w.heap.size + 1 := by show (w.alloc _).heap.size = _; simp
  have hbw1 := below_drewN ((Below.refl w.heap.size w).alloc (Nat.le_refl _) (.cells #[.string ⟨#[]⟩] 9)) q
  obtain ⟨W1, hW1⟩ : ∃ W1, (w.alloc (.cells #[.string ⟨#[]⟩] 9)).drewN q = W1 := ⟨_, rfl⟩
  rw [hW1] at hr1 hB1 hs1 hbw1 ⊢
  replace hW1 := Lib.hid hW1
  have hs2 : w.heap.size < W1.heap.size := by omega
  replace hs1 := Lib.hid hs1
  go_wp2_with fail
  refine (words_R _).mono ?_
  rintro e w2 ⟨rfl, hm2, hb2⟩
  have hB2 := hB1.below hb2 (by omega)
  have hr2 := (hb2.block w.heap.size (by omega)).trans hr1
  have hz2 := hb2.size
  have hbw2 := hbw1.trans (hb2.mono (by omega))
  have hkn := Lib.hid (known_chain _ _ _ hm2)
  have hT2 := hT.below hbw2 hT.lt
  have hp := Lib.hid (wb_chain b N v0 s w2 hB2 hs h6 hT2)
  replace hm2 := Lib.hid hm2
  replace hb2 := Lib.hid hb2
  replace hB2 := Lib.hid hB2
  replace hB1 := Lib.hid hB1
  replace hr1 := Lib.hid hr1
  replace hr2 := Lib.hid hr2
  replace hbw2 := Lib.hid hbw2
  go_wp2_with fail
  refine hkn.out.mono ?_
  rintro e w' ⟨rfl, rfl⟩
  go_wp2_with fail
  refine hp.out.mono ?_
  rintro e w3 ⟨rfl, hb3⟩
  have hr3 := (hb3.block w.heap.size (by omega)).trans hr2.out
  have hb4 := Lib.hid (below_setCell (hbw2.out.trans (hb3.mono (by omega))) (p := ⟨w.heap.size, 0, none⟩) (Nat.le_refl _) (.string ⟨(spB (chnL N s)).toArray⟩))
  obtain ⟨rc, rf⟩ : w3.cell? ⟨w.heap.size, 0, none⟩ = some (.string ⟨#[]⟩) ∧ w3.frozen? ⟨w.heap.size, 0, none⟩ = false := ⟨by rw [cell_of_row w3 w.heap.size 0 _ 9 (0, 0) hr3]; rfl, frozen_of hr3 _⟩
  replace hr3 := Lib.hid hr3
  go_wp2_with fail
  refine leaves_cons (f := 52) (args := #[.pointer (some ⟨w.heap.size, 0, none⟩)]) (by simp) (by simp [go_sem]) ?_
  refine (ans_idle ⟨w.heap.size, 0, none⟩ _).mono ?_
  rintro e u' w'' ⟨rfl, rfl, rfl⟩
  have rd := World.cell?_setCell_same w3 ⟨w.heap.size, 0, none⟩ (.string ⟨(spB (chnL N s)).toArray⟩) rc
  simp [Leaves, settle, results, Tryz.results30, go_sem, rd]
  exact hb4.out

end Go.Proofs.YtojfamjgghikoaaGreatDoor
