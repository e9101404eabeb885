/- Levels and first sets: sizeIn, countIn, level, first, FamilyLevel. -/
import Derived.Test.YtaljnnjlhmlcoaaFams13
import Derived.Laws.CopyOwn
namespace Go.Proofs.Ytaljnnjlhmlcoaa
open Go.ChangeShapes Go.WideShapes Go.ChangeAt Go.RowKit Go.Proofs

theorem szB_yes {n k : Int} (h : szB n k = true) : 1 ≤ n ∧ n ≤ 8 ∧ 0 ≤ k ∧ k ≤ n := by
  unfold szB at h
  rw [Bool.and_eq_true] at h
  obtain ⟨n1, n2⟩ := ptsB_yes h.1
  have := of_decide_eq_true h.2
  exact ⟨n1, n2, this.1, this.2⟩
theorem szB_mk {n k : Int} (h : 1 ≤ n ∧ n ≤ 8 ∧ 0 ≤ k ∧ k ≤ n) : szB n k = true := by
  unfold szB; rw [ptsB_mk h.1 h.2.1]; simp [h.2.2]
theorem szB_cases (n k : Int) : szB n k = true ∨ szB n k = false := by cases szB n k <;> simp

theorem size_in (n k : Int) (w : World) : Calls Try.prog 26 #[.int .i64 n, .int .i64 k] w fun e w' => e = .returned (.bool (szB n k)) ∧ w = w' := by
  have hpc := pts_in n
  rcases (by cases ptsB n <;> simp : ptsB n = true ∨ ptsB n = false) with hp | hp
  · rw [hp] at hpc
    by_cases hk0 : 0 ≤ k
    · by_cases hkn : k ≤ n
      · have hb := Lib.hid (show true = szB n k by unfold szB; rw [hp]; simp [hk0, hkn])
        replace hp := Lib.hid hp
        replace hpc := Lib.hid hpc
        go_enter Try.func26, Try.ntmps26
        go_wp2_with (go_at_call 54; refine (hpc.out _).mono ?_; rintro e w' ⟨rfl, rfl⟩)
        go_ret
        exact ⟨ret_bool (by first | exact hb.out | (rw [← hb.out]; simp; omega)), rfl⟩
      · have hb := Lib.hid (show false = szB n k by unfold szB; rw [hp]; simp; omega)
        replace hp := Lib.hid hp
        replace hpc := Lib.hid hpc
        go_enter Try.func26, Try.ntmps26
        go_wp2_with (go_at_call 54; refine (hpc.out _).mono ?_; rintro e w' ⟨rfl, rfl⟩)
        go_ret
        exact ⟨ret_bool (by first | exact hb.out | (rw [← hb.out]; simp; omega)), rfl⟩
    · have hb := Lib.hid (show false = szB n k by unfold szB; rw [hp]; simp; omega)
      replace hp := Lib.hid hp
      replace hpc := Lib.hid hpc
      go_enter Try.func26, Try.ntmps26
      go_wp2_with (go_at_call 54; refine (hpc.out _).mono ?_; rintro e w' ⟨rfl, rfl⟩)
      go_ret
      exact ⟨ret_bool (by first | exact hb.out | (rw [← hb.out]; simp; omega)), rfl⟩
  · have hb := Lib.hid (show false = szB n k by unfold szB; rw [hp]; rfl)
    rw [hp] at hpc
    replace hp := Lib.hid hp
    replace hpc := Lib.hid hpc
    go_enter Try.func26, Try.ntmps26
    go_wp2_with (go_at_call 54; refine (hpc.out _).mono ?_; rintro e w' ⟨rfl, rfl⟩)
    go_ret
    exact ⟨ret_bool (by first | exact hb.out | (rw [← hb.out]; simp; omega)), rfl⟩

/-- there are m sets of a size. -/
def cntB (n k m : Int) : Bool := decide (0 ≤ m ∧ m ≤ chI n k)
theorem cntB_yes {n k m : Int} (h : cntB n k m = true) : 0 ≤ m ∧ m ≤ chI n k := of_decide_eq_true h
theorem cntB_cases (n k m : Int) : cntB n k m = true ∨ cntB n k m = false := by cases cntB n k m <;> simp
/-- all sets of a size. -/
def levL (n k : Int) : List Int := sortL ((sortL (upI (2 ^ n.toNat))).filter (fun x => cntI x == k))
theorem levL_mem {n k : Int} (n1 : 1 ≤ n) (n2 : n ≤ 8) {z : Int} (h : z ∈ levL n k) : setB n z = true := upI_lt n1 n2 z (List.mem_filter.1 (mem_sortL.1 h)).1
theorem levL_lt {n k : Int} (n1 : 1 ≤ n) (n2 : n ≤ 8) : ∀ z ∈ levL n k, 0 ≤ z ∧ z < 256 := fun _ hz => setB_lt (levL_mem n1 n2 hz)
theorem levL_asc (n k : Int) : Asc (levL n k) := asc_sortL _
theorem levL_len256 {n k : Int} (n1 : 1 ≤ n) (n2 : n ≤ 8) : (levL n k).length ≤ 256 := asc_len256 (levL_asc n k) (levL_lt n1 n2)

theorem lev_clo (k : Int) (Bk : Nat) (xs : List Int) (w : World) (hB : Bk < w.heap.size) (hc : w.cell? ⟨Bk, 0, none⟩ = some (.int .i64 k)) (hx : ∀ z ∈ xs, 0 ≤ z ∧ z < 256) :
    PredV 56 #[] #[.pointer (some ⟨Bk, 0, none⟩)] (fun x => cntI x == k) xs w := fun W x hm hb => by
  have hcW : W.cell? ⟨Bk, 0, none⟩ = some (.int .i64 k) := (hb.cell (p := ⟨Bk, 0, none⟩) hB).trans hc
  obtain ⟨x1, x2⟩ := hx x hm
  have hs := fun w => (set_size x x1 x2 w).mono (fun _ _ h => (⟨h.1, h.2.symm⟩ : _ ∧ _))
  show Calls Try.prog 56 #[.int .u64 x, .pointer (some ⟨Bk, 0, none⟩)] W fun e w' => e = .returned (.bool (cntI x == k)) ∧ Below W.heap.size W w'
  obtain ⟨r, hr⟩ : ∃ r, cntI x = r := ⟨_, rfl⟩
  rw [hr] at hs ⊢
  replace hs := Lib.hid hs
  replace hr := Lib.hid hr
  replace hm := Lib.hid hm
  clear hx hc hb
  go_enter Try.func56, Try.ntmps56
  go_wp2_with fail
  go_quiet ((go_at_call 57; exact Calls.quiet_of_same (hs.out _)))
  go_wp2_with fail
  go_ret
  exact ⟨rfl, below_drewN (Below.refl _ _) _⟩
theorem lev_new (w : World) (k : Int) : (w.alloc (.cells #[.int .i64 k] 3)).cell? ⟨w.heap.size, 0, none⟩ = some (.int .i64 k) := by
  rw [cell_of_row _ _ 0 _ 3 (0, 0) (heap_alloc_new w _)]; rfl
set_option maxHeartbeats 2000000 in
theorem lev_at (n k : Int) (n1 : 1 ≤ n) (n2 : n ≤ 8) (w : World) : Calls Try.prog 29 #[.int .i64 n, .int .i64 k] w (FamPost w (levL n k)) := by
  have hmf := mkfunc
  have hall := all_sets n n1 n2
  have husz := upI_lt n1 n2
  have hLL := levL_len256 (k := k) n1 n2
  unfold levL at hLL ⊢
  obtain ⟨us, hus⟩ : ∃ us, sortL (upI (2 ^ n.toNat)) = us := ⟨_, rfl⟩
  have huA : us.length ≤ 256 := asc_len256 (hus ▸ asc_sortL _) (fun z hz => setB_lt (husz z (hus ▸ hz)))
  rw [hus] at hall husz hLL ⊢
  have hk := fun (W : World) (lv : Value) (h0 : w.heap.size < W.heap.size) (hc : W.cell? ⟨w.heap.size, 0, none⟩ = some (.int .i64 k)) (hx : SRow W W.heap.size lv us) => kept_any 56 (enters_of Try.func56 (by kernel_rfl) rfl) #[] #[.pointer (some ⟨w.heap.size, 0, none⟩)] (fun x => cntI x == k) lv us _ W hx (Nat.le_refl _) (by omega) (fun z hz => setB_lt (husz z hz)) (lev_clo k w.heap.size us W h0 hc (fun z hz => setB_lt (husz z hz)))
  obtain ⟨ys, hys⟩ : ∃ ys, sortL (us.filter (fun x => cntI x == k)) = ys := ⟨_, rfl⟩
  rw [hys] at hk hLL ⊢
  have hbb := ((Below.refl w.heap.size w).alloc (Nat.le_refl _) (.cells #[.int .i64 k] 3)).alloc (by simp) (.cells #[.slice none 0 0, .nilFunc] 49)
  have hci : ((w.alloc (.cells #[.int .i64 k] 3)).alloc (.cells #[.slice none 0 0, .nilFunc] 49)).cell? ⟨w.heap.size, 0, none⟩ = some (.int .i64 k) := by
    rw [World.cell?_alloc_past _ _ _ (by simp)]; exact lev_new w k
  replace hall := Lib.hid hall
  replace hk := Lib.hid hk
  replace hus := Lib.hid hus
  replace hys := Lib.hid hys
  replace husz := Lib.hid husz
  replace hbb := Lib.hid hbb
  replace hci := Lib.hid hci
  go_enter Try.func29, Try.ntmps29
  go_wp2_with fail
  refine (hall.out _).mono ?_
  rintro e w2 ⟨v2, rfl, hS2, hb2⟩
  obtain ⟨a2, c2, rfl⟩ := hS2.form
  rw [World.size_alloc, World.size_alloc] at hS2 hb2
  have hz2 := hb2.size
  rw [World.size_alloc, World.size_alloc] at hz2
  have hk2 := Lib.hid (hk.out w2 _ (by omega) ((hb2.cell (p := ⟨w.heap.size, 0, none⟩) (by simp; omega)).trans hci.out) hS2.row)
  have hnc := (new_cell1 w #[.slice none 0 0, .nilFunc] 49 (.cells #[.int .i64 k] 3))
  replace hb2 := Lib.hid hb2
  clear hS2
  go_wp2_with fail
  refine hk2.out.mono ?_
  rintro e w3 ⟨v3, rfl, hS3, hb3⟩
  obtain ⟨a3, c3, rfl⟩ := hS3.form
  have hb4 := hb2.out.trans (hb3.mono (by omega))
  obtain ⟨d0, d1, df0, df1⟩ := res_cells hnc (hb4.mono (by omega))
  have rr := two_cells (.slice a3 ys.length c3) (Value.func (.func 70) #[] #[]) d0 d1
  have hff := Lib.hid (fam_fin (hS3.mono (by omega)) (hbb.out.trans (hb4.mono (by omega))) (by omega))
  clear hS3 hb3 hk2 hk hall hnc hb2 hb4
  go_wp2_with fail
  exact bodyPost_ret (v := .agg #[.slice a3 ys.length c3, (Value.func (.func 70) #[] #[])]) (by simp [results, Try.results29, go_sem, rr.1, rr.2]) rfl ⟨_, rfl, hff.out⟩

set_option maxHeartbeats 2000000 in
theorem im_LevelNew (n k : Int) (w : World) :
    Calls Try.prog 15 #[.int .i64 n, .int .i64 k] w (ListPost (ifL (szB n k) (levL n k)) (szB n k) w) := by
  have hsz := size_in n k
  rcases szB_cases n k with hb | hb
  · rw [hb] at hsz ⊢
    obtain ⟨n1, n2, k1, k2⟩ := szB_yes hb
    have hlev := lev_at n k n1 n2
    have hyz := levL_lt (k := k) n1 n2
    have hyl := levL_len256 (k := k) n1 n2
    show Calls Try.prog 15 #[.int .i64 n, .int .i64 k] w (ListPost (levL n k) true w)
    obtain ⟨ys, hys⟩ : ∃ ys, levL n k = ys := ⟨_, rfl⟩
    rw [hys] at hlev hyz hyl ⊢
    replace hsz := Lib.hid hsz
    replace hb := Lib.hid hb
    replace hlev := Lib.hid hlev
    replace hyz := Lib.hid hyz
    replace hys := Lib.hid hys
    go_enter Try.func15, Try.ntmps15
    go_wp2_with (go_at_call 26; refine (hsz.out _).mono ?_; rintro e w' ⟨rfl, rfl⟩)
    refine (hlev.out _).mono ?_
    rintro e w3 ⟨v3, rfl, hS3, hb3⟩
    obtain ⟨a3, c3, rfl⟩ := hS3.form
    have hz3 := hb3.size
    have hnum := Lib.hid (numbers_at _ _ _ _ hS3.row (Nat.le_refl _) (by omega) hyz.out)
    replace hb3 := Lib.hid hb3
    clear hS3
    go_wp2_with fail
    refine hnum.out.mono ?_
    rintro e w5 ⟨t, rfl, hO, hb5⟩
    obtain ⟨ua, uc, rfl, _⟩ := id hO
    replace hb5 := Lib.hid (hb3.out.trans (hb5.mono (by omega)))
    replace hO := Lib.hid (hO.mono (show w.heap.size ≤ w3.heap.size by omega) (Nat.le_refl _))
    go_wp2_with fail
    go_ret2
    exact ⟨_, rfl, hO.out, hb5.out⟩
  · rw [hb] at hsz ⊢
    replace hsz := Lib.hid hsz
    replace hb := Lib.hid hb
    go_enter Try.func15, Try.ntmps15
    go_wp2_with (go_at_call 26; refine (hsz.out _).mono ?_; rintro e w' ⟨rfl, rfl⟩)
    go_ret2
    exact ⟨_, rfl, own_empty _ _ _ _ _, (Below.refl _ _).alloc (Nat.le_refl _) _⟩

/-- what 'first' leaves: the sets read off its copy. -/
def FirstPost (w : World) (ys : List Int) (e : Ending) (w' : World) : Prop := ∃ v, e = .returned (.agg #[v, (Value.func (.func 70) #[] #[])]) ∧ SRow w' w'.heap.size v ys ∧ Below w.heap.size w w'
theorem sp_copied (xs : List Int) (N : Nat) (hN : N = xs.length) : Go.splice (List.replicate N (Value.int .u64 0)) 0 (sv xs) = sv xs := by
  subst hN
  unfold Go.splice
  simp [sv]
theorem row_take {w : World} {g m : Nat} {xs : List Int} (hm : m ≤ xs.length) (hg : w.heap[g]? = some (.cells (sv xs).toArray 53 (0, 0))) (S : Nat) (hS : g < S) : SRow w S (.slice (some ⟨g, 0, none⟩) m m) (xs.take m) := by
  refine ⟨_, m, by rw [List.length_take, Nat.min_eq_left hm], fun _ => ⟨g, 0, rfl, hS, fun i hi => ?_⟩⟩
  rw [List.length_take, Nat.min_eq_left hm] at hi
  rw [cell_of_row w g (0 + i) _ 53 (0, 0) hg, Nat.zero_add, List.getElem?_toArray, sv_at (by omega)]
  congr 2
  simp [List.getD_eq_getElem?_getD, hi]
theorem SRow.setCell {w : World} {S g n c : Nat} {xs : List Int} {p : Addr} {u : Value} (h : SRow w S (.slice (some ⟨g, 0, none⟩) n c) xs) (hp : p.block ≠ g) : SRow (w.setCell p u) S (.slice (some ⟨g, 0, none⟩) n c) xs := by
  obtain ⟨a, cap, e, h⟩ := h
  refine ⟨a, cap, e, fun hl => ?_⟩
  obtain ⟨b, off, rfl, hs, hc⟩ := h hl
  injection e with e1 e2 e3
  injection e1 with e1
  injection e1 with e1 e4 e5
  subst e1
  exact ⟨_, off, rfl, hs, fun i hi => by rw [World.cell?_setCell_other _ _ _ _ (by intro e; rw [e] at hp; exact hp rfl)]; exact hc i hi⟩
theorem SRow.drew {w : World} {S : Nat} {v : Value} {xs : List Int} (h : SRow w S v xs) : SRow w.drew S v xs := h
theorem made_list (z : Value) (n : Nat) : madeCells #[z] n = Array.replicate n z := by
  apply Array.ext
  · simp [madeCells]
  · intro i h1 h2
    simp [madeCells, Nat.mod_one]
end Go.Proofs.Ytaljnnjlhmlcoaa
