/- Levels and first sets: sizeIn, countIn, level, first, FamilyLevel. -/
import Derived.Test.YtojfamjgghikoaaGreatDoorFams13
import Derived.Laws.CopyOwn
namespace Go.Proofs.YtojfamjgghikoaaGreatDoor
open Go.ChangeShapes Go.WideShapes Go.ChangeAt Go.RowKit Go.Proofs

theorem szB_yes {n k : Int} (h : szB n k = true) : 1 ≤ n ∧ n ≤ 8 ∧ 0 ≤ k ∧ k ≤ n := by
  unfold szB at h
  rw [Bool.and_eq_true] at h
  obtain ⟨n1, n2⟩ := ptsB_yes h.1
  have := of_decide_eq_true h.2
  exact ⟨n1, n2, this.1, this.2⟩
theorem szB_mk {n k : Int} (h : 1 ≤ n ∧ n ≤ 8 ∧ 0 ≤ k ∧ k ≤ n) : szB n k = true := by
  unfold szB; rw [ptsB_mk h.1 h.2.1]; simp [h.2.2]
theorem szB_cases (n k : Int) : szB n k = true ∨ szB n k = false := by cases szB n k <;> simp

theorem size_in (n k : Int) (w : World) : Calls Tryz.prog 36 #[.int .i64 n, .int .i64 k] w fun e w' => e = .returned (.bool (szB n k)) ∧ w = w' := by
  have hpc := pts_in n
  rcases (by cases ptsB n <;> simp : ptsB n = true ∨ ptsB n = false) with hp | hp
  · rw [hp] at hpc
    by_cases hk0 : 0 ≤ k
    · by_cases hkn : k ≤ n
      · have hb := Lib.hid (show true = szB n k by unfold szB; rw [hp]; simp [hk0, hkn])
        replace hp := Lib.hid hp
        replace hpc := Lib.hid hpc
        go_enter Tryz.func36, Tryz.ntmps36
        go_wp2_with (go_at_call 63; refine (hpc.out _).mono ?_; rintro e w' ⟨rfl, rfl⟩)
        go_ret
        exact ⟨ret_bool (by first | exact hb.out | (rw [← hb.out]; simp; omega)), rfl⟩
      · have hb := Lib.hid (show false = szB n k by unfold szB; rw [hp]; simp; omega)
        replace hp := Lib.hid hp
        replace hpc := Lib.hid hpc
        go_enter Tryz.func36, Tryz.ntmps36
        go_wp2_with (go_at_call 63; refine (hpc.out _).mono ?_; rintro e w' ⟨rfl, rfl⟩)
        go_ret
        exact ⟨ret_bool (by first | exact hb.out | (rw [← hb.out]; simp; omega)), rfl⟩
    · have hb := Lib.hid (show false = szB n k by unfold szB; rw [hp]; simp; omega)
      replace hp := Lib.hid hp
      replace hpc := Lib.hid hpc
      go_enter Tryz.func36, Tryz.ntmps36
      go_wp2_with (go_at_call 63; refine (hpc.out _).mono ?_; rintro e w' ⟨rfl, rfl⟩)
      go_ret
      exact ⟨ret_bool (by first | exact hb.out | (rw [← hb.out]; simp; omega)), rfl⟩
  · have hb := Lib.hid (show false = szB n k by unfold szB; rw [hp]; rfl)
    rw [hp] at hpc
    replace hp := Lib.hid hp
    replace hpc := Lib.hid hpc
    go_enter Tryz.func36, Tryz.ntmps36
    go_wp2_with (go_at_call 63; refine (hpc.out _).mono ?_; rintro e w' ⟨rfl, rfl⟩)
    go_ret
    exact ⟨ret_bool (by first | exact hb.out | (rw [← hb.out]; simp; omega)), rfl⟩

/-- there are m sets of a size. -/
def cntB (n k m : Int) : Bool := decide (0 ≤ m ∧ m ≤ chI n k)
theorem cntB_yes {n k m : Int} (h : cntB n k m = true) : 0 ≤ m ∧ m ≤ chI n k := of_decide_eq_true h
theorem cntB_cases (n k m : Int) : cntB n k m = true ∨ cntB n k m = false := by cases cntB n k m <;> simp
/-- all sets of a size. -/
def levL (n k : Int) : List Int := sortL ((sortL (upI (2 ^ n.toNat))).filter (fun x => cntI x == k))
theorem levL_mem {n k : Int} (n1 : 1 ≤ n) (n2 : n ≤ 8) {z : Int} (h : z ∈ levL n k) : setB n z = true := upI_lt n1 n2 z (List.mem_filter.1 (mem_sortL.1 h)).1
theorem levL_lt {n k : Int} (n1 : 1 ≤ n) (n2 : n ≤ 8) : ∀ z ∈ levL n k, 0 ≤ z ∧ z < 256 := fun _ hz => setB_lt (levL_mem n1 n2 hz)
theorem levL_asc (n k : Int) : Asc (levL n k) := asc_sortL _
theorem levL_len256 {n k : Int} (n1 : 1 ≤ n) (n2 : n ≤ 8) : (levL n k).length ≤ 256 := asc_len256 (levL_asc n k) (levL_lt n1 n2)

theorem lev_clo (k : Int) (Bk : Nat) (xs : List Int) (w : World) (hB : Bk < w.heap.size) (hc : w.cell? ⟨Bk, 0, none⟩ = some (.int .i64 k)) (hx : ∀ z ∈ xs, 0 ≤ z ∧ z < 256) :
    PredV 66 #[] #[.pointer (some ⟨Bk, 0, none⟩)] (fun x => cntI x == k) xs w := fun W x hm hb => by
  have hcW : W.cell? ⟨Bk, 0, none⟩ = some (.int .i64 k) := (hb.cell (p := ⟨Bk, 0, none⟩) hB).trans hc
  obtain ⟨x1, x2⟩ := hx x hm
  have hs := fun w => (set_size x x1 x2 w).mono (fun _ _ h => (⟨h.1, h.2.symm⟩ : _ ∧ _))
  show Calls Tryz.prog 66 #[.int .u64 x, .pointer (some ⟨Bk, 0, none⟩)] W fun e w' => e = .returned (.bool (cntI x == k)) ∧ Below W.heap.size W w'
  obtain ⟨r, hr⟩ : ∃ r, cntI x = r := ⟨_, rfl⟩
  rw [hr] at hs ⊢
  replace hs := Lib.hid hs
  replace hr := Lib.hid hr
  replace hm := Lib.hid hm
  clear hx hc hb
  go_enter Tryz.func66, Tryz.ntmps66
  go_wp2_with fail
  go_quiet ((go_at_call 67; exact Calls.quiet_of_same (hs.out _)))
  go_wp2_with fail
  go_ret
  exact ⟨rfl, below_drewN (Below.refl _ _) _⟩
theorem lev_new (w : World) (k : Int) : (w.alloc (.cells #[.int .i64 k] 3)).cell? ⟨w.heap.size, 0, none⟩ = some (.int .i64 k) := by
  rw [cell_of_row _ _ 0 _ 3 (0, 0) (heap_alloc_new w _)]; rfl
set_option maxHeartbeats 2000000 in
theorem lev_at (n k : Int) (n1 : 1 ≤ n) (n2 : n ≤ 8) (w : World) : Calls Tryz.prog 38 #[.int .i64 n, .int .i64 k] w (FamPost w (levL n k)) := by
  have hmf := mkfunc
  have hall := all_sets n n1 n2
  have husz := upI_lt n1 n2
  have hLL := levL_len256 (k := k) n1 n2
  unfold levL at hLL ⊢
  obtain ⟨us, hus⟩ : ∃ us, sortL (upI (2 ^ n.toNat)) = us := ⟨_, rfl⟩
  have huA : us.length ≤ 256 := asc_len256 (hus ▸ asc_sortL _) (fun z hz => setB_lt (husz z (hus ▸ hz)))
  rw [hus] at hall husz hLL ⊢
  have hk := fun (W : World) (lv : Value) (h0 : w.heap.size < W.heap.size) (hc : W.cell? ⟨w.heap.size, 0, none⟩ = some (.int .i64 k)) (hx : SRow W W.heap.size lv us) => kept_any 66 (enters_of Tryz.func66 (by kernel_rfl) rfl) #[] #[.pointer (some ⟨w.heap.size, 0, none⟩)] (fun x => cntI x == k) lv us _ W hx (Nat.le_refl _) (by omega) (fun z hz => setB_lt (husz z hz)) (lev_clo k w.heap.size us W h0 hc (fun z hz => setB_lt (husz z hz)))
  obtain ⟨ys, hys⟩ : ∃ ys, sortL (us.filter (fun x => cntI x == k)) = ys := ⟨_, rfl⟩
  rw [hys] at hk hLL ⊢
  have hbb := ((Below.refl w.heap.size w).alloc (Nat.le_refl _) (.cells #[.int .i64 k] 3)).alloc (by simp) (.cells #[.slice none 0 0, .nilFunc] 64)
  have hci : ((w.alloc (.cells #[.int .i64 k] 3)).alloc (.cells #[.slice none 0 0, .nilFunc] 64)).cell? ⟨w.heap.size, 0, none⟩ = some (.int .i64 k) := by
    rw [World.cell?_alloc_past _ _ _ (by simp)]; exact lev_new w k
  replace hall := Lib.hid hall
  replace hk := Lib.hid hk
  replace hus := Lib.hid hus
  replace hys := Lib.hid hys
  replace husz := Lib.hid husz
  replace hbb := Lib.hid hbb
  replace hci := Lib.hid hci
  go_enter Tryz.func38, Tryz.ntmps38
  go_wp2_with fail
  refine (hall.out _).mono ?_
  rintro e w2 ⟨v2, rfl, hS2, hb2⟩
  obtain ⟨a2, c2, rfl⟩ := hS2.form
  rw [World.size_alloc, World.size_alloc] at hS2 hb2
  have hz2 := hb2.size
  rw [World.size_alloc, World.size_alloc] at hz2
  have hk2 := Lib.hid (hk.out w2 _ (by omega) ((hb2.cell (p := ⟨w.heap.size, 0, none⟩) (by simp; omega)).trans hci.out) hS2.row)
  have hnc := (new_cell1 w #[.slice none 0 0, .nilFunc] 64 (.cells #[.int .i64 k] 3))
  replace hb2 := Lib.hid hb2
  clear hS2
  go_wp2_with fail
  refine hk2.out.mono ?_
  rintro e w3 ⟨v3, rfl, hS3, hb3⟩
  obtain ⟨a3, c3, rfl⟩ := hS3.form
  have hb4 := hb2.out.trans (hb3.mono (by omega))
  obtain ⟨d0, d1, df0, df1⟩ := res_cells hnc (hb4.mono (by omega))
  have rr := two_cells (.slice a3 ys.length c3) (Value.func (.func 188) #[] #[]) d0 d1
  have hff := Lib.hid (fam_fin (hS3.mono (by omega)) (hbb.out.trans (hb4.mono (by omega))) (by omega))
  clear hS3 hb3 hk2 hk hall hnc hb2 hb4
  go_wp2_with fail
  exact bodyPost_ret (v := .agg #[.slice a3 ys.length c3, (Value.func (.func 188) #[] #[])]) (by simp [results, Tryz.results38, go_sem, rr.1, rr.2]) rfl ⟨_, rfl, hff.out⟩

set_option maxHeartbeats 2000000 in
theorem im_LevelNew (n k : Int) (w : World) :
    Calls Tryz.prog 15 #[.int .i64 n, .int .i64 k] w (ListPost (ifL (szB n k) (levL n k)) (szB n k) w) := by
  have hsz := size_in n k
  rcases szB_cases n k with hb | hb
  · rw [hb] at hsz ⊢
    obtain ⟨n1, n2, k1, k2⟩ := szB_yes hb
    have hlev := lev_at n k n1 n2
    have hyz := levL_lt (k := k) n1 n2
    have hyl := levL_len256 (k := k) n1 n2
    show Calls Tryz.prog 15 #[.int .i64 n, .int .i64 k] w (ListPost (levL n k) true w)
    obtain ⟨ys, hys⟩ : ∃ ys, levL n k = ys := ⟨_, rfl⟩
    rw [hys] at hlev hyz hyl ⊢
    replace hsz := Lib.hid hsz
    replace hb := Lib.hid hb
    replace hlev := Lib.hid hlev
    replace hyz := Lib.hid hyz
    replace hys := Lib.hid hys
    go_enter Tryz.func15, Tryz.ntmps15
    go_wp2_with (go_at_call 36; refine (hsz.out _).mono ?_; rintro e w' ⟨rfl, rfl⟩)
    refine (hlev.out _).mono ?_
    rintro e w3 ⟨v3, rfl, hS3, hb3⟩
    obtain ⟨a3, c3, rfl⟩ := hS3.form
    have hz3 := hb3.size
    have hnum := Lib.hid (numbers_at _ _ _ _ hS3.row (Nat.le_refl _) (by omega) hyz.out)
    replace hb3 := Lib.hid hb3
    clear hS3
    go_wp2_with fail
    refine hnum.out.mono ?_
    rintro e w5 ⟨t, rfl, hO, hb5⟩
    obtain ⟨ua, uc, rfl, _⟩ := id hO
    replace hb5 := Lib.hid (hb3.out.trans (hb5.mono (by omega)))
    replace hO := Lib.hid (hO.mono (show w.heap.size ≤ w3.heap.size by omega) (Nat.le_refl _))
    go_wp2_with fail
    go_ret2
    exact ⟨_, rfl, hO.out, hb5.out⟩
  · rw [hb] at hsz ⊢
    replace hsz := Lib.hid hsz
    replace hb := Lib.hid hb
    go_enter Tryz.func15, Tryz.ntmps15
    go_wp2_with (go_at_call 36; refine (hsz.out _).mono ?_; rintro e w' ⟨rfl, rfl⟩)
    go_ret2
    exact ⟨_, rfl, own_empty _ _ _ _ _, (Below.refl _ _).alloc (Nat.le_refl _) _⟩

/-- what 'first' leaves: the sets read off its copy. -/
def FirstPost (w : World) (ys : List Int) (e : Ending) (w' : World) : Prop := ∃ v, e = .returned (.agg #[v, (Value.func (.func 188) #[] #[])]) ∧ SRow w' w'.heap.size v ys ∧ Below w.heap.size w w'
theorem sp_copied (xs : List Int) (N : Nat) (hN : N = xs.length) : Go.splice (List.replicate N (Value.int .u64 0)) 0 (sv xs) = sv xs := by
  subst hN
  unfold Go.splice
  simp [sv]
theorem row_take {w : World} {g m : Nat} {xs : List Int} (hm : m ≤ xs.length) (hg : w.heap[g]? = some (.cells (sv xs).toArray 72 (0, 0))) (S : Nat) (hS : g < S) : SRow w S (.slice (some ⟨g, 0, none⟩) m m) (xs.take m) := by
  refine ⟨_, m, by rw [List.length_take, Nat.min_eq_left hm], fun _ => ⟨g, 0, rfl, hS, fun i hi => ?_⟩⟩
  rw [List.length_take, Nat.min_eq_left hm] at hi
  rw [cell_of_row w g (0 + i) _ 72 (0, 0) hg, Nat.zero_add, List.getElem?_toArray, sv_at (by omega)]
  congr 2
  simp [List.getD_eq_getElem?_getD, hi]
theorem SRow.setCell {w : World} {S g n c : Nat} {xs : List Int} {p : Addr} {u : Value} (h : SRow w S (.slice (some ⟨g, 0, none⟩) n c) xs) (hp : p.block ≠ g) : SRow (w.setCell p u) S (.slice (some ⟨g, 0, none⟩) n c) xs := by
  obtain ⟨a, cap, e, h⟩ := h
  refine ⟨a, cap, e, fun hl => ?_⟩
  obtain ⟨b, off, rfl, hs, hc⟩ := h hl
  injection e with e1 e2 e3
  injection e1 with e1
  injection e1 with e1 e4 e5
  subst e1
  exact ⟨_, off, rfl, hs, fun i hi => by rw [World.cell?_setCell_other _ _ _ _ (by intro e; rw [e] at hp; exact hp rfl)]; exact hc i hi⟩
theorem SRow.drewS {w : World} {S : Nat} {v : Value} {xs : List Int} (h : SRow w S v xs) : SRow w.drew S v xs := h
theorem made_list (z : Value) (n : Nat) : madeCells #[z] n = Array.replicate n z := by
  apply Array.ext
  · simp [madeCells]
  · intro i h1 h2
    simp [madeCells, Nat.mod_one]
set_option maxHeartbeats 2000000 in
theorem first_any (lv : Value) (xs : List Int) (m : Nat) (S : Nat) (w : World) (hx : SRow w S lv xs) (hS : S ≤ w.heap.size) (hl : xs.length ≤ 1000) (hm : m ≤ xs.length) :
    Calls Tryz.prog 255 #[.agg #[lv, (Value.func (.func 188) #[] #[])], .int .i64 (m : Nat)] w (FirstPost w (xs.take m)) := by
  have hmk := fun W => run_make_row' (P := Tryz.prog) 61 72 (.int .u64 0) 8 Tryz.underlying61 Tryz.setInfo rfl .i64 .i64 xs.length (by omega) (by omega) W
  simp only [made_list] at hmk
  obtain ⟨a, cap, rfl, ha⟩ := hx
  obtain ⟨N, hN⟩ : ∃ N, xs.length = N := ⟨_, rfl⟩
  rw [hN] at hmk hl hm ⊢
  have hm0 : (0 : Int) ≤ (m : Nat) := by omega
  have hm1 : ((m : Nat) : Int) ≤ (N : Nat) := by omega
  obtain ⟨w3, hw3⟩ : ∃ w3, ((w.alloc (.cells #[.slice a N cap, (Value.func (.func 188) #[] #[])] 64)).alloc (.cells #[.slice none 0 0, .nilFunc] 64)).alloc (.cells (Array.replicate N (Value.int .u64 0)) 72) = w3 := ⟨_, rfl⟩
  have hbb : Below w.heap.size w w3 := hw3 ▸ (((Below.refl w.heap.size w).alloc (Nat.le_refl _) (.cells #[.slice a N cap, (Value.func (.func 188) #[] #[])] 64)).alloc (by simp) (.cells #[.slice none 0 0, .nilFunc] 64)).alloc (by simp; omega) _
  have hz3 : w3.heap.size = w.heap.size + 3 := by rw [← hw3]; simp
  have hg3 : w3.heap[w.heap.size + 1 + 1]? = some (.cells (List.replicate N (Value.int .u64 0)).toArray 72 (0, 0)) := by
    have := heap_alloc_new ((w.alloc (.cells #[.slice a N cap, (Value.func (.func 188) #[] #[])] 64)).alloc (.cells #[.slice none 0 0, .nilFunc] 64)) (.cells (Array.replicate N (Value.int .u64 0)) 72)
    rw [hw3] at this
    simpa using this
  have hc3 : w3.heap[w.heap.size]? = some (.cells #[.slice a N cap, (Value.func (.func 188) #[] #[])] 64 (0, 0)) := by rw [← hw3]; exact new_cell3a w _ _ _ _
  have hr3 : w3.heap[w.heap.size + 1]? = some (.cells #[.slice none 0 0, .nilFunc] 64 (0, 0)) := by rw [← hw3]; exact new_cell3b w _ _ _ _
  have hcs : 0 < (sv xs).length → ∃ ad, a = some ad ∧ ∀ j u, (sv xs)[j]? = some u → w3.cell? (ad.add j) = some u := fun h0 => by
    rw [sv_len] at h0
    obtain ⟨b, off, rfl, hb, hc⟩ := ha (by omega)
    refine ⟨_, rfl, fun j u hj => ?_⟩
    obtain ⟨h1, rfl⟩ := sv_get hj
    have hadd : (⟨b, off, none⟩ : Addr).add j = ⟨b, off + j, none⟩ := by simp [Addr.add]
    rw [hadd, hbb.cell (p := ⟨b, off + j, none⟩) (by show b < w.heap.size; omega)]
    exact hc j h1
  have hss : (sv xs).length = N := by rw [sv_len, hN]
  have hsp := sp_copied xs N hN.symm
  have e0 : w3.cell? ⟨w.heap.size, 0, none⟩ = some (.slice a N cap) := by rw [cell_of_row w3 _ 0 _ 64 (0, 0) hc3]; rfl
  have e1 : w3.cell? ⟨w.heap.size, 1, none⟩ = some (Value.func (.func 188) #[] #[]) := by rw [cell_of_row w3 _ 1 _ 64 (0, 0) hc3]; rfl
  replace ha := Lib.hid ha
  replace hbb := Lib.hid hbb
  replace hcs := Lib.hid hcs
  replace hg3 := Lib.hid hg3
  replace hc3 := Lib.hid hc3
  replace hr3 := Lib.hid hr3
  replace hss := Lib.hid hss
  replace hsp := Lib.hid hsp
  replace hz3 := Lib.hid hz3
  replace hN := Lib.hid hN
  go_enter Tryz.func255, Tryz.ntmps255
  go_wp2_with (with_reducible refine wpList_copy_splice rfl (.tmp 10) (.tmp 12) 61 61 rfl 72 Tryz.underlying61 set_size1 (some ⟨w.heap.size + 1 + 1, 0, none⟩) a N N N cap rfl rfl (w.heap.size + 1 + 1) 0 (List.replicate N (Value.int .u64 0)) 72 hg3.out (sv xs) (by rw [hss.out]; exact (Nat.min_self N).symm) (fun h => ⟨rfl, hcs.out h⟩) (by rw [hss.out]; simp) (sv_one xs) (w.heap.size + 2) w3 (Below.refl _ _) (by omega) ?_; intro w4 hg4 hb4)
  rw [hsp.out] at hg4
  have hz4 : w3.heap.size ≤ w4.heap.size := hb4.size
  have f0 : w4.cell? ⟨w.heap.size, 0, none⟩ = some (.slice a N cap) := by rw [hb4.cell (p := ⟨w.heap.size, 0, none⟩) (by simp)]; exact e0
  have f1 : w4.cell? ⟨w.heap.size, 1, none⟩ = some (Value.func (.func 188) #[] #[]) := by rw [hb4.cell (p := ⟨w.heap.size, 1, none⟩) (by simp)]; exact e1
  obtain ⟨d0, d1, df0, df1⟩ := res_cells hr3.out hb4
  have rr := fun v => two_cells v (Value.func (.func 188) #[] #[]) d0 d1
  have hb5 := Lib.hid (hbb.out.trans (hb4.mono (by omega)))
  have hrow := Lib.hid (row_take (show m ≤ xs.length by rw [hN.out]; exact hm) hg4.out (w.heap.size + 3) (by omega))
  have hz5 := hz3.out
  clear hbb hcs hg3 hc3 hr3 hss hsp hg4 hb4 e0 e1 hmk ha
  have hff := Lib.hid (fun u => (hrow.out.setCell (p := ⟨w.heap.size + 1, 0, none⟩) (u := u) (by simp)).setCell (p := ⟨w.heap.size + 1, 1, none⟩) (u := (Value.func (.func 188) #[] #[])) (by simp))
  have hbf := Lib.hid (fun u => below_setCell (below_setCell hb5.out (p := ⟨w.heap.size + 1, 0, none⟩) (by simp) u) (p := ⟨w.heap.size + 1, 1, none⟩) (by simp) (Value.func (.func 188) #[] #[]))
  have hzf := Lib.hid (show w.heap.size + 3 ≤ w4.heap.size by omega)
  go_region
  go_wp2_with fail
  exact bodyPost_ret (v := .agg #[.slice (some ⟨w.heap.size + 1 + 1, 0, none⟩) m m, (Value.func (.func 188) #[] #[])]) (by simp [results, Tryz.results255, go_sem, (rr _).1, (rr _).2]) rfl ⟨_, rfl, ((hff.out _).mono (by have := hzf.out; simp [World.drew]; omega)).drewS, below_drewN (hbf.out _) 1⟩
end Go.Proofs.YtojfamjgghikoaaGreatDoor
