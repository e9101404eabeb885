/- Levels and first sets: sizeIn, countIn, level, first, FamilyLevel. -/
import Derived.Test.YtpepcjffolbdcaaDoorFams13
import Derived.Laws.CopyOwn
namespace Go.Proofs.YtpepcjffolbdcaaDoor
open Go.ChangeShapes Go.WideShapes Go.ChangeAt Go.RowKit Go.Proofs

theorem szB_yes {n k : Int} (h : szB n k = true) : 1 ≤ n ∧ n ≤ 8 ∧ 0 ≤ k ∧ k ≤ n := by
  unfold szB at h
  rw [Bool.and_eq_true] at h
  obtain ⟨n1, n2⟩ := ptsB_yes h.1
  have := of_decide_eq_true h.2
  exact ⟨n1, n2, this.1, this.2⟩
theorem szB_mk {n k : Int} (h : 1 ≤ n ∧ n ≤ 8 ∧ 0 ≤ k ∧ k ≤ n) : szB n k = true := by
  unfold szB; rw [ptsB_mk h.1 h.2.1]; simp [h.2.2]
theorem szB_cases (n k : Int) : szB n k = true ∨ szB n k = false := by cases szB n k <;> simp

/-- there are m sets of a size. -/
def cntB (n k m : Int) : Bool := decide (0 ≤ m ∧ m ≤ chI n k)
theorem cntB_yes {n k m : Int} (h : cntB n k m = true) : 0 ≤ m ∧ m ≤ chI n k := of_decide_eq_true h
theorem cntB_cases (n k m : Int) : cntB n k m = true ∨ cntB n k m = false := by cases cntB n k m <;> simp
/-- all sets of a size. -/
def levL (n k : Int) : List Int := sortL ((sortL (upI (2 ^ n.toNat))).filter (fun x => cntI x == k))
theorem levL_mem {n k : Int} (n1 : 1 ≤ n) (n2 : n ≤ 8) {z : Int} (h : z ∈ levL n k) : setB n z = true := upI_lt n1 n2 z (List.mem_filter.1 (mem_sortL.1 h)).1
theorem levL_lt {n k : Int} (n1 : 1 ≤ n) (n2 : n ≤ 8) : ∀ z ∈ levL n k, 0 ≤ z ∧ z < 256 := fun _ hz => setB_lt (levL_mem n1 n2 hz)
theorem levL_asc (n k : Int) : Asc (levL n k) := asc_sortL _
theorem levL_len256 {n k : Int} (n1 : 1 ≤ n) (n2 : n ≤ 8) : (levL n k).length ≤ 256 := asc_len256 (levL_asc n k) (levL_lt n1 n2)

theorem lev_new (w : World) (k : Int) : (w.alloc (.cells #[.int .i64 k] 3)).cell? ⟨w.heap.size, 0, none⟩ = some (.int .i64 k) := by
  rw [cell_of_row _ _ 0 _ 3 (0, 0) (heap_alloc_new w _)]; rfl
/-- what 'first' leaves: the sets read off its copy. -/
def FirstPost (w : World) (ys : List Int) (e : Ending) (w' : World) : Prop := ∃ v, e = .returned (.agg #[v, (Value.func (.func 115) #[] #[])]) ∧ SRow w' w'.heap.size v ys ∧ Below w.heap.size w w'
theorem sp_copied (xs : List Int) (N : Nat) (hN : N = xs.length) : Go.splice (List.replicate N (Value.int .u64 0)) 0 (sv xs) = sv xs := by
  subst hN
  unfold Go.splice
  simp [sv]
theorem row_take {w : World} {g m : Nat} {xs : List Int} (hm : m ≤ xs.length) (hg : w.heap[g]? = some (.cells (sv xs).toArray 59 (0, 0))) (S : Nat) (hS : g < S) : SRow w S (.slice (some ⟨g, 0, none⟩) m m) (xs.take m) := by
  refine ⟨_, m, by rw [List.length_take, Nat.min_eq_left hm], fun _ => ⟨g, 0, rfl, hS, fun i hi => ?_⟩⟩
  rw [List.length_take, Nat.min_eq_left hm] at hi
  rw [cell_of_row w g (0 + i) _ 59 (0, 0) hg, Nat.zero_add, List.getElem?_toArray, sv_at (by omega)]
  congr 2
  simp [List.getD_eq_getElem?_getD, hi]
theorem SRow.setCell {w : World} {S g n c : Nat} {xs : List Int} {p : Addr} {u : Value} (h : SRow w S (.slice (some ⟨g, 0, none⟩) n c) xs) (hp : p.block ≠ g) : SRow (w.setCell p u) S (.slice (some ⟨g, 0, none⟩) n c) xs := by
  obtain ⟨a, cap, e, h⟩ := h
  refine ⟨a, cap, e, fun hl => ?_⟩
  obtain ⟨b, off, rfl, hs, hc⟩ := h hl
  injection e with e1 e2 e3
  injection e1 with e1
  injection e1 with e1 e4 e5
  subst e1
  exact ⟨_, off, rfl, hs, fun i hi => by rw [World.cell?_setCell_other _ _ _ _ (by intro e; rw [e] at hp; exact hp rfl)]; exact hc i hi⟩
theorem SRow.drewS {w : World} {S : Nat} {v : Value} {xs : List Int} (h : SRow w S v xs) : SRow w.drew S v xs := h
theorem made_list (z : Value) (n : Nat) : madeCells #[z] n = Array.replicate n z := by
  apply Array.ext
  · simp [madeCells]
  · intro i h1 h2
    simp [madeCells, Nat.mod_one]
set_option maxHeartbeats 2000000 in
theorem first_any (lv : Value) (xs : List Int) (m : Nat) (S : Nat) (w : World) (hx : SRow w S lv xs) (hS : S ≤ w.heap.size) (hl : xs.length ≤ 1000) (hm : m ≤ xs.length) :
    Calls Tryd.prog 101 #[.agg #[lv, (Value.func (.func 115) #[] #[])], .int .i64 (m : Nat)] w (FirstPost w (xs.take m)) := by
  have hmk := fun W => run_make_row' (P := Tryd.prog) 43 59 (.int .u64 0) 8 Tryd.underlying43 Tryd.setInfo rfl .i64 .i64 xs.length (by omega) (by omega) W
  simp only [made_list] at hmk
  obtain ⟨a, cap, rfl, ha⟩ := hx
  obtain ⟨N, hN⟩ : ∃ N, xs.length = N := ⟨_, rfl⟩
  rw [hN] at hmk hl hm ⊢
  have hm0 : (0 : Int) ≤ (m : Nat) := by omega
  have hm1 : ((m : Nat) : Int) ≤ (N : Nat) := by omega
  obtain ⟨w3, hw3⟩ : ∃ w3, ((w.alloc (.cells #[.slice a N cap, (Value.func (.func 115) #[] #[])] 46)).alloc (.cells #[.slice none 0 0, .nilFunc] 46)).alloc (.cells (Array.replicate N (Value.int .u64 0)) 59) = w3 := ⟨_, rfl⟩
  have hbb : Below w.heap.size w w3 := hw3 ▸ (((Below.refl w.heap.size w).alloc (Nat.le_refl _) (.cells #[.slice a N cap, (Value.func (.func 115) #[] #[])] 46)).alloc (by simp) (.cells #[.slice none 0 0, .nilFunc] 46)).alloc (by simp; omega) _
  have hz3 : w3.heap.size = w.heap.size + 3 := by rw [← hw3]; simp
  have hg3 : w3.heap[w.heap.size + 1 + 1]? = some (.cells (List.replicate N (Value.int .u64 0)).toArray 59 (0, 0)) := by
    have := heap_alloc_new ((w.alloc (.cells #[.slice a N cap, (Value.func (.func 115) #[] #[])] 46)).alloc (.cells #[.slice none 0 0, .nilFunc] 46)) (.cells (Array.replicate N (Value.int .u64 0)) 59)
    rw [hw3] at this
    simpa using this
  have hc3 : w3.heap[w.heap.size]? = some (.cells #[.slice a N cap, (Value.func (.func 115) #[] #[])] 46 (0, 0)) := by rw [← hw3]; exact new_cell3a w _ _ _ _
  have hr3 : w3.heap[w.heap.size + 1]? = some (.cells #[.slice none 0 0, .nilFunc] 46 (0, 0)) := by rw [← hw3]; exact new_cell3b w _ _ _ _
  have hcs : 0 < (sv xs).length → ∃ ad, a = some ad ∧ ∀ j u, (sv xs)[j]? = some u → w3.cell? (ad.add j) = some u := fun h0 => by
    rw [sv_len] at h0
    obtain ⟨b, off, rfl, hb, hc⟩ := ha (by omega)
    refine ⟨_, rfl, fun j u hj => ?_⟩
    obtain ⟨h1, rfl⟩ := sv_get hj
    have hadd : (⟨b, off, none⟩ : Addr).add j = ⟨b, off + j, none⟩ := by simp [Addr.add]
    rw [hadd, hbb.cell (p := ⟨b, off + j, none⟩) (by show b < w.heap.size; omega)]
    exact hc j h1
  have hss : (sv xs).length = N := by rw [sv_len, hN]
  have hsp := sp_copied xs N hN.symm
  have e0 : w3.cell? ⟨w.heap.size, 0, none⟩ = some (.slice a N cap) := by rw [cell_of_row w3 _ 0 _ 46 (0, 0) hc3]; rfl
  have e1 : w3.cell? ⟨w.heap.size, 1, none⟩ = some (Value.func (.func 115) #[] #[]) := by rw [cell_of_row w3 _ 1 _ 46 (0, 0) hc3]; rfl
  replace ha := Lib.hid ha
  replace hbb := Lib.hid hbb
  replace hcs := Lib.hid hcs
  replace hg3 := Lib.hid hg3
  replace hc3 := Lib.hid hc3
  replace hr3 := Lib.hid hr3
  replace hss := Lib.hid hss
  replace hsp := Lib.hid hsp
  replace hz3 := Lib.hid hz3
  replace hN := Lib.hid hN
  go_enter Tryd.func101, Tryd.ntmps101
  go_wp2_with (with_reducible refine wpList_copy_splice rfl (.tmp 10) (.tmp 12) 43 43 rfl 59 Tryd.underlying43 set_size1 (some ⟨w.heap.size + 1 + 1, 0, none⟩) a N N N cap rfl rfl (w.heap.size + 1 + 1) 0 (List.replicate N (Value.int .u64 0)) 59 hg3.out (sv xs) (by rw [hss.out]; exact (Nat.min_self N).symm) (fun h => ⟨rfl, hcs.out h⟩) (by rw [hss.out]; simp) (sv_one xs) (w.heap.size + 2) w3 (Below.refl _ _) (by omega) ?_; intro w4 hg4 hb4)
  rw [hsp.out] at hg4
  have hz4 : w3.heap.size ≤ w4.heap.size := hb4.size
  have f0 : w4.cell? ⟨w.heap.size, 0, none⟩ = some (.slice a N cap) := by rw [hb4.cell (p := ⟨w.heap.size, 0, none⟩) (by simp)]; exact e0
  have f1 : w4.cell? ⟨w.heap.size, 1, none⟩ = some (Value.func (.func 115) #[] #[]) := by rw [hb4.cell (p := ⟨w.heap.size, 1, none⟩) (by simp)]; exact e1
  obtain ⟨d0, d1, df0, df1⟩ := res_cells hr3.out hb4
  have rr := fun v => two_cells v (Value.func (.func 115) #[] #[]) d0 d1
  have hb5 := Lib.hid (hbb.out.trans (hb4.mono (by omega)))
  have hrow := Lib.hid (row_take (show m ≤ xs.length by rw [hN.out]; exact hm) hg4.out (w.heap.size + 3) (by omega))
  have hz5 := hz3.out
  clear hbb hcs hg3 hc3 hr3 hss hsp hg4 hb4 e0 e1 hmk ha
  have hff := Lib.hid (fun u => (hrow.out.setCell (p := ⟨w.heap.size + 1, 0, none⟩) (u := u) (by simp)).setCell (p := ⟨w.heap.size + 1, 1, none⟩) (u := (Value.func (.func 115) #[] #[])) (by simp))
  have hbf := Lib.hid (fun u => below_setCell (below_setCell hb5.out (p := ⟨w.heap.size + 1, 0, none⟩) (by simp) u) (p := ⟨w.heap.size + 1, 1, none⟩) (by simp) (Value.func (.func 115) #[] #[]))
  have hzf := Lib.hid (show w.heap.size + 3 ≤ w4.heap.size by omega)
  go_region
  go_wp2_with fail
  exact bodyPost_ret (v := .agg #[.slice (some ⟨w.heap.size + 1 + 1, 0, none⟩) m m, (Value.func (.func 115) #[] #[])]) (by simp [results, Tryd.results101, go_sem, (rr _).1, (rr _).2]) rfl ⟨_, rfl, ((hff.out _).mono (by have := hzf.out; simp [World.drew]; omega)).drewS, below_drewN (hbf.out _) 1⟩
end Go.Proofs.YtpepcjffolbdcaaDoor
