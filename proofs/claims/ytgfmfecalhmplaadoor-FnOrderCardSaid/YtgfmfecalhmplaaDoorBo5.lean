/- A set put into a list in ball order; lists put in ball order. -/
import Derived.Test.YtgfmfecalhmplaaDoorBo4
namespace Go.Proofs.YtgfmfecalhmplaaDoor
open Go.ChangeShapes Go.WideShapes Go.ChangeAt Go.RowKit Go.Proofs

theorem unL_ins {x : Int} {ks : List Int} (x1 : 0 ≤ x) (x2 : x < 256) (h : memB (bkI x) ks = false) : putAt (plN (bkI x) ks) x (unL ks) = unL (insI (bkI x) ks) := by
  rw [ins_no h]
  unfold putAt unL
  rw [List.map_append, List.map_cons, List.map_take, List.map_drop, (bk_facts x1 x2).2.2]
theorem isK_ins {x : Int} {ks : List Int} (x1 : 0 ≤ x) (x2 : x < 256) (hK : ∀ k ∈ ks, IsK k) : ∀ k ∈ insI (bkI x) ks, IsK k := fun k hk => by
  rcases mem_insI.1 hk with rfl | h
  · exact isK_of x1 x2
  · exact hK k h
/-- bx holds a list in ball order. -/
def FBoxK (w : World) (B bx : Nat) (ks : List Int) : Prop := B ≤ bx ∧ ∃ v, w.heap[bx]? = some (.cells #[v, (Value.func (.func 70) #[] #[])] 46 (0, 0)) ∧ SetL w B v (unL ks)
theorem FBoxK.lt {w : World} {B bx : Nat} {ks : List Int} (h : FBoxK w B bx ks) : bx < w.heap.size := by
  obtain ⟨_, v, hv, _⟩ := h
  exact (Array.getElem?_eq_some_iff.1 hv).1
theorem apart_k {w : World} {B bx : Nat} {v : Value} {xs : List Int} (hv : w.heap[bx]? = some (.cells #[v, (Value.func (.func 70) #[] #[])] 46 (0, 0))) (h : SetL w B v xs) : v.ownBlock ≠ some bx := by
  intro e
  rcases h.out with ⟨rfl, _⟩ | ⟨g, cap, cur, rfl, _, hg, _⟩
  · cases e
  · cases e
    rw [hv] at hg
    injection hg with hg
    injection hg with _ h2
    exact absurd h2 (by decide)
/-- what put leaves. -/
def PutPostK (B bx : Nat) (w : World) (ks : List Int) (e : Ending) (w' : World) : Prop := (∃ v, e = .returned v) ∧ FBoxK w' B bx ks ∧ Below B w w' ∧ w.heap.size ≤ w'.heap.size
set_option maxRecDepth 100000 in
set_option maxHeartbeats 1000000 in
theorem put_ball (B bx : Nat) (ks : List Int) (x : Int) (w : World) (hF : FBoxK w B bx ks) (hK : ∀ k ∈ ks, IsK k) (hA : Asc ks) (hl : ks.length ≤ 1000) (hB : B ≤ w.heap.size) (x1 : 0 ≤ x) (x2 : x < 256) (hT : Tab w) :
    Calls Tryd.prog 56 #[.pointer (some ⟨bx, 0, none⟩), .int .u64 x] w (PutPostK B bx w (insI (bkI x) ks)) := by
  have hlt := hF.lt
  obtain ⟨hBx, v, hv, hS⟩ := hF
  have hap := Lib.hid (apart_k hv hS)
  have c0 : w.cell? ⟨bx, 0, none⟩ = some v := by rw [cell_of_row w bx 0 _ 46 (0, 0) hv]; rfl
  have c1 : w.cell? ⟨bx, 1, none⟩ = some (Value.func (.func 70) #[] #[]) := by rw [cell_of_row w bx 1 _ 46 (0, 0) hv]; rfl
  have hpl := Lib.hid (place_ball v ks x w.heap.size w hS.row.krow hK hA (by omega) (Nat.le_refl _) x1 x2 hT)
  have hpi := plN_le (bkI x) ks
  replace hv := Lib.hid hv
  replace hS := Lib.hid hS
  replace hT := Lib.hid hT
  rcases (by cases memB (bkI x) ks <;> simp : memB (bkI x) ks = true ∨ memB (bkI x) ks = false) with hm | hm
  · have hpl2 := hpl.out
    rw [hm] at hpl2
    replace hpl := Lib.hid hpl2
    replace hm := Lib.hid hm
    clear hpl2
    go_enter Tryd.func56, Tryd.ntmps56
    go_wp2_with fail
    refine hpl.out.mono ?_
    rintro e w' ⟨rfl, hb⟩
    have hz := hb.size
    replace hb := Lib.hid hb
    clear hpl c0 c1
    go_wp2_with fail
    go_end0
    refine ⟨⟨_, rfl⟩, ⟨hBx, v, by rw [hb.out.block bx hlt]; exact hv.out, by rw [ins_yes hm.out]; exact hS.out.below hb.out (Nat.le_refl _)⟩, hb.out.mono hB, hz⟩
  · have hpl2 := hpl.out
    rw [hm] at hpl2
    replace hpl := Lib.hid hpl2
    have hpi2 := Lib.hid (unL_ins x1 x2 hm)
    replace hm := Lib.hid hm
    clear hpl2
    go_enter Tryd.func56, Tryd.ntmps56
    go_wp2_with fail
    refine hpl.out.mono ?_
    rintro e w1 ⟨rfl, hb⟩
    have hz1 := hb.size
    have hv1 : w1.heap[bx]? = some (.cells #[v, (Value.func (.func 70) #[] #[])] 46 (0, 0)) := (hb.block bx hlt).trans hv.out
    have d0 : w1.cell? ⟨bx, 0, none⟩ = some v := by rw [cell_of_row w1 bx 0 _ 46 (0, 0) hv1]; rfl
    have hS1 := hS.out.below hb (Nat.le_refl _)
    have hins := Lib.hid (ins_set v (unL ks) (plN (bkI x) ks) B w1.heap.size x (w1.alloc (.cells #[.int .u64 x] 64)) (hS1.alloc _) (by rw [unL_len]; exact hpi) (by rw [unL_len]; omega) (by simp; omega) (heap_alloc_new w1 _) (by intro e; have := hS1.lt _ e; omega))
    replace hb := Lib.hid hb
    replace hS1 := Lib.hid hS1
    replace hv1 := Lib.hid hv1
    clear hpl c0 c1
    go_wp2_with fail
    refine hins.out.mono ?_
    rintro e w3 ⟨v', rfl, hS3, hg3⟩
    have hlt1 : bx < w1.heap.size := by omega
    have hh3 : w3.heap[bx]? = some (.cells #[v, (Value.func (.func 70) #[] #[])] 46 (0, 0)) := by
      rw [hg3.block bx (by simp; omega) (fun e => hap.out e.symm), Below.heap_alloc _ _ _ hlt1]
      exact hv1.out
    have f0 : w3.cell? ⟨bx, 0, none⟩ = some v := by rw [cell_of_row w3 bx 0 _ 46 (0, 0) hh3]; rfl
    have df : w3.frozen? ⟨bx, 0, none⟩ = false := frozen_of hh3 _
    have hb3 := Lib.hid (below_grow (((hb.out.mono hB).alloc (by omega) _)) hg3 (hS1.out.alloc _) (by simp; omega))
    have hz := hg3.size
    simp at hz
    rw [hpi2.out] at hS3
    replace hS3 := Lib.hid hS3
    replace hh3 := Lib.hid hh3
    clear hg3 hins d0
    obtain ⟨a', c', rfl⟩ := hS3.out.form
    go_wp2_with fail
    go_end0
    have hst := heap_setCell_same w3 bx 0 _ 46 (.slice a' (unL (insI (bkI x) ks)).length c') hh3.out
    refine ⟨⟨_, rfl⟩, ⟨hBx, _, by rw [hst]; rfl, ?_⟩, below_setCell hb3.out hBx _, ?_⟩
    · exact hS3.out.store _ _ (by
        intro e
        rcases hS3.out.out with ⟨h0, _⟩ | ⟨g, cap, cur, h0, _, hg, _⟩
        · injection h0 with h1; rw [h1] at e; cases e
        · injection h0 with h1; rw [h1] at e; cases e
          rw [hh3.out] at hg
          injection hg with hg
          injection hg with _ h2
          exact absurd h2 (by decide))
    · simp [World.setCell]; omega
/-- what making a list in ball order leaves. -/
def FamPostK (w : World) (ks : List Int) (e : Ending) (w' : World) : Prop := ∃ v, e = .returned (.agg #[v, (Value.func (.func 70) #[] #[])]) ∧ SetL w' w.heap.size v (unL ks) ∧ Below w.heap.size w w'
/-- the places of some sets, in order. -/
def kL (xs : List Int) : List Int := sortL (xs.map bkI)
theorem kL_isK {xs : List Int} (h : ∀ x ∈ xs, 0 ≤ x ∧ x < 256) : ∀ k ∈ kL xs, IsK k := fun k hk => by
  unfold kL at hk
  rw [mem_sortL] at hk
  obtain ⟨x, hx, rfl⟩ := List.mem_map.1 hk
  exact isK_of (h x hx).1 (h x hx).2
theorem kL_take {xs : List Int} {k : Nat} (h : k < xs.length) : kL (xs.take (k + 1)) = insI (bkI (xs.getD k 0)) (kL (xs.take k)) := by
  unfold kL
  rw [take_snoc h, List.map_append, List.map_singleton, sortL_snoc]
theorem ins_le (x : Int) (xs : List Int) : (insI x xs).length ≤ xs.length + 1 := by
  rcases (by cases memB x xs <;> simp : memB x xs = true ∨ memB x xs = false) with h | h
  · rw [ins_yes h]; omega
  · rw [ins_len h]; exact Nat.le_refl _
theorem kL_len (xs : List Int) : ∀ k, k ≤ xs.length → (kL (xs.take k)).length ≤ k
  | 0, _ => by simp [kL, sortL]
  | k + 1, h => by
    rw [kL_take (by omega)]
    have := ins_le (bkI (xs.getD k 0)) (kL (xs.take k))
    have := kL_len xs k (by omega)
    omega
set_option maxRecDepth 100000 in
set_option maxHeartbeats 1000000 in
theorem sorted_ball (lv : Value) (xs : List Int) (S : Nat) (w : World) (hx : SRow w S lv xs) (hS : S ≤ w.heap.size) (hl : xs.length ≤ 1000) (hz : ∀ x ∈ xs, 0 ≤ x ∧ x < 256) (hT : Tab w) :
    Calls Tryd.prog 50 #[lv, (Value.func (.func 70) #[] #[])] w (FamPostK w (kL xs)) := by
  have htl := hT.lt
  obtain ⟨a, cap, rfl, ha⟩ := hx
  replace ha := Lib.hid ha
  replace hT := Lib.hid hT
  replace hz := Lib.hid hz
  go_enter Tryd.func50, Tryd.ntmps50
  go_wp2_with fail
  go_loopw [12] (fun q wr => ∃ k : Nat, k ≤ xs.length ∧ q = .int .i64 k ∧ Hid (FBoxK wr (w.heap.size + 1) (w.heap.size + 1) (kL (xs.take k))) ∧ Hid (Below (w.heap.size + 1) ((w.alloc (.cells #[.slice none 0 0, .nilFunc] 46)).alloc (.cells #[.slice none 0 0, (Value.func (.func 70) #[] #[])] 46)) wr)) (fun q _ => xs.length - (intOf q).toNat)
  case atStart =>
    refine ⟨0, by omega, rfl, Lib.hid ⟨Nat.le_refl _, .slice none 0 0, ?_, SetL.nil _ _⟩, Lib.hid (Below.refl _ _)⟩
    have := heap_alloc_new (w.alloc (.cells #[.slice none 0 0, .nilFunc] 46)) (.cells #[.slice none 0 0, (Value.func (.func 70) #[] #[])] 46)
    simpa using this
  case round =>
    obtain ⟨k, hk, rfl, hF, hb⟩ := hrel
    have hz' := hb.out.size
    simp at hz'
    by_cases hlt : k < xs.length
    · obtain ⟨b1, o1, rfl, s1, c1⟩ := ha.out (by omega)
      have k1 : (0 : Int) ≤ (k : Int) := by omega
      have k2 : (k : Int) < (xs.length : Nat) := by omega
      have e1 : wr.cell? ⟨b1, o1 + k, none⟩ = some (.int .u64 (xs.getD k 0)) := by
        rw [hb.out.cell (p := ⟨b1, o1 + k, none⟩) (show b1 < w.heap.size + 1 by omega), World.cell?_alloc_past _ _ _ (by simp; omega), World.cell?_alloc_past _ _ _ (by omega)]
        exact c1 k hlt
      have hst := kL_take hlt
      have hkl := kL_len xs k (by omega)
      obtain ⟨x, hx⟩ : ∃ x, xs.getD k 0 = x := ⟨_, rfl⟩
      obtain ⟨x1, x2⟩ := hz.out x (by rw [← hx]; exact getD_mem hlt)
      rw [hx] at e1 hst
      have hbw : Below w.heap.size w wr := (((Below.refl w.heap.size w).alloc (Nat.le_refl _) _).alloc (by simp) _).trans (hb.out.mono (by omega))
      have hp := put_ball (w.heap.size + 1) (w.heap.size + 1) _ x wr hF.out (kL_isK (fun z hz2 => hz.out z (List.mem_of_mem_take hz2))) (asc_sortL _) (by omega) (by omega) x1 x2 (hT.out.below hbw htl)
      rw [← hst] at hp
      replace hp := Lib.hid hp
      clear c1 hst hx hF hkl hbw
      go_wp2_with fail
      refine hp.out.mono ?_
      rintro e w' ⟨⟨v, rfl⟩, hF', hb', hz2⟩
      replace hb' := Lib.hid (hb.out.trans hb')
      replace hF' := Lib.hid hF'
      go_wp2_with fail
      go_roundw
      case rel => exact ⟨k + 1, by omega, by go_num, hF', hb'⟩
      case measure => simp [intOf]; omega
    · obtain rfl : k = xs.length := by omega
      have hF2 := hF.out
      rw [List.take_length] at hF2
      have hlt2 := hF2.lt
      obtain ⟨_, v, hv, hS⟩ := hF2
      have c0 : wr.cell? ⟨w.heap.size + 1, 0, none⟩ = some v := by rw [cell_of_row wr _ 0 _ 46 (0, 0) hv]; rfl
      have c1 : wr.cell? ⟨w.heap.size + 1, 1, none⟩ = some (Value.func (.func 70) #[] #[]) := by rw [cell_of_row wr _ 1 _ 46 (0, 0) hv]; rfl
      have hr : wr.heap[w.heap.size]? = some (.cells #[.slice none 0 0, .nilFunc] 46 (0, 0)) := by
        rw [hb.out.block w.heap.size (by omega), Below.heap_alloc _ _ _ (by simp)]
        exact heap_alloc_new w _
      have d0 : wr.cell? ⟨w.heap.size, 0, none⟩ = some (.slice none 0 0) := by rw [cell_of_row wr _ 0 _ 46 (0, 0) hr]; rfl
      have d1 : wr.cell? ⟨w.heap.size, 1, none⟩ = some .nilFunc := by rw [cell_of_row wr _ 1 _ 46 (0, 0) hr]; rfl
      have df0 : wr.frozen? ⟨w.heap.size, 0, none⟩ = false := frozen_of hr _
      have df1 : wr.frozen? ⟨w.heap.size, 1, none⟩ = false := frozen_of hr _
      obtain ⟨a', c', rfl⟩ := hS.form
      replace hS := Lib.hid hS
      clear hF hv hr
      have rr := two_cells (.slice a' (unL (kL xs)).length c') (Value.func (.func 70) #[] #[]) d0 d1
      go_wp2_with fail
      refine bodyPost_ret (v := .agg #[.slice a' (unL (kL xs)).length c', (Value.func (.func 70) #[] #[])]) (by simp [results, Tryd.results50, go_sem, rr.1, rr.2]) rfl ⟨_, rfl, ?_, ?_⟩
      · exact ((hS.out.store _ _ (by intro e; have := hS.out.lt _ e; dsimp only at this; omega)).store _ _ (by intro e; have := hS.out.lt _ e; dsimp only at this; omega)).mono (by omega)
      · exact below_setCell (below_setCell ((((Below.refl _ _).alloc (Nat.le_refl _) _).alloc (by simp) _).trans (hb.out.mono (by omega))) (Nat.le_refl _) _) (Nat.le_refl _) _
end Go.Proofs.YtgfmfecalhmplaaDoor
