/- Distances and balls: the program, the model, the law. -/
import Derived.Test.YtpepcjffolbdcaaDoorFLaws
import Derived.Test.YtpepcjffolbdcaaDoorLawsB
namespace Go.Proofs.YtpepcjffolbdcaaDoor
open Go.ChangeShapes Go.WideShapes Go.ChangeAt Go.RowKit Go.Proofs

/-- the points in which two sets differ. -/
def xorI (x y : Int) : Int := ((x.toNat ^^^ y.toNat : Nat) : Int)
theorem xorI_comm (x y : Int) : xorI x y = xorI y x := by unfold xorI; rw [Nat.xor_comm]
theorem xorI_lt {x y : Int} (h1 : 0 ≤ x) (h2 : x < 256) (h3 : 0 ≤ y) (h4 : y < 256) : 0 ≤ xorI x y ∧ xorI x y < 256 := by
  have h : x.toNat ^^^ y.toNat < 2 ^ 8 := Nat.xor_lt_two_pow (by omega) (by omega)
  unfold xorI; omega
theorem u64_xorI {x y : Int} (h1 : 0 ≤ x) (h2 : x < 256) (h3 : 0 ≤ y) (h4 : y < 256) : bits .xor .u64 x y = xorI x y := u64_xor x y h1 (by omega) h3 (by omega)
theorem i64_xorI {x y : Int} (h1 : 0 ≤ x) (h2 : x < 256) (h3 : 0 ≤ y) (h4 : y < 256) : bits .xor .i64 x y = xorI x y := by
  obtain ⟨a, rfl⟩ := Int.eq_ofNat_of_zero_le h1
  obtain ⟨b, rfl⟩ := Int.eq_ofNat_of_zero_le h3
  have hab : a ^^^ b < 2 ^ 8 := Nat.xor_lt_two_pow (by omega) (by omega)
  show IntKind.i64.wrap ((BitVec.ofInt 64 (a : Int) ^^^ BitVec.ofInt 64 (b : Int)).toNat : Int) = _
  rw [BitVec.toNat_xor, ofInt_u64 a (by omega), ofInt_u64 b (by omega), IntKind.wrap_i64]
  unfold xorI
  simp only [Int.toNat_natCast]
  omega
/-- the number of points in which two sets differ. -/
def dstI (x y : Int) : Int := cntI (xorI x y)
theorem dstI_comm (x y : Int) : dstI x y = dstI y x := by unfold dstI; rw [xorI_comm]
theorem cntI_bd (x : Int) : 0 ≤ cntI x ∧ cntI x ≤ 8 := by
  have := cnt_le x 8
  unfold cntI; omega
theorem set_dist (x y : Int) (h1 : 0 ≤ x) (h2 : x < 256) (h3 : 0 ≤ y) (h4 : y < 256) (w : World) : Calls Tryd.prog 60 #[.int .u64 x, .int .u64 y] w fun e w' => e = .returned (.int .i64 (dstI x y)) ∧ w = w' := by
  have hu := u64_xorI h1 h2 h3 h4
  obtain ⟨d1, d2⟩ := xorI_lt h1 h2 h3 h4
  unfold dstI
  obtain ⟨d, hd⟩ : ∃ d, xorI x y = d := ⟨_, rfl⟩
  rw [hd] at hu d1 d2 ⊢
  have hs := Lib.hid (fun w => set_size d d1 d2 w)
  replace hd := Lib.hid hd
  go_enter Tryd.func60, Tryd.ntmps60
  go_wp2_with (go_at_call 51; refine (hs.out _).mono ?_; rintro e w' ⟨rfl, rfl⟩)
  go_ret
  exact ⟨rfl, rfl⟩
/-- a set and a radius of n points. -/
def blB (n s r : Int) : Bool := setB n s && decide (0 ≤ r ∧ r ≤ n)
/-- the ball. -/
def blL (n s r : Int) : List Int := (upI (2 ^ n.toNat)).filter (fun x => decide (dstI x s ≤ r))
theorem bl_eq (N : Nat) (s r : Int) : mkL (fun j : Nat => decide (dstI s (j : Nat) ≤ r)) N = (upI N).filter (fun x => decide (dstI x s ≤ r)) := by
  unfold mkL
  exact List.filter_congr fun z hz => by show decide (dstI s ((z.toNat : Nat) : Int) ≤ r) = _; rw [Int.toNat_of_nonneg (mem_upI.1 hz).1, dstI_comm]
theorem blL_sort (n s r : Int) : sortL ((sortL (upI (2 ^ n.toNat))).filter (fun x => decide (dstI x s ≤ r))) = blL n s r := by
  rw [up_sort, sortL_asc (asc_filter (asc_upI _) _)]; rfl
theorem ball_clo (s r : Int) (B1 B2 : Nat) (xs : List Int) (w : World) (hB : B1 < w.heap.size) (hc : w.cell? ⟨B1, 0, none⟩ = some (.int .i64 s)) (hB2 : B2 < w.heap.size) (hc2 : w.cell? ⟨B2, 0, none⟩ = some (.int .i64 r)) (s1 : 0 ≤ s) (s2 : s < 256) (hx : ∀ z ∈ xs, 0 ≤ z ∧ z < 256) :
    PredV 59 #[] #[.pointer (some ⟨B1, 0, none⟩), .pointer (some ⟨B2, 0, none⟩)] (fun x => decide (dstI x s ≤ r)) xs w := fun W x hm hb => by
  have hcW : W.cell? ⟨B1, 0, none⟩ = some (.int .i64 s) := (hb.cell (p := ⟨B1, 0, none⟩) hB).trans hc
  have hcW2 : W.cell? ⟨B2, 0, none⟩ = some (.int .i64 r) := (hb.cell (p := ⟨B2, 0, none⟩) hB2).trans hc2
  obtain ⟨x1, x2⟩ := hx x hm
  have hs := fun w => (set_dist x s x1 x2 s1 s2 w).mono (fun _ _ h => (⟨h.1, h.2.symm⟩ : _ ∧ _))
  show Calls Tryd.prog 59 #[.int .u64 x, .pointer (some ⟨B1, 0, none⟩), .pointer (some ⟨B2, 0, none⟩)] W fun e w' => e = .returned (.bool (decide (dstI x s ≤ r))) ∧ Below W.heap.size W w'
  obtain ⟨d, hd⟩ : ∃ d, dstI x s = d := ⟨_, rfl⟩
  rw [hd] at hs ⊢
  replace hs := Lib.hid hs
  replace hd := Lib.hid hd
  replace hm := Lib.hid hm
  clear hx hc hc2 hb
  go_enter Tryd.func59, Tryd.ntmps59
  go_wp2_with fail
  go_quiet ((go_at_call 60; exact Calls.quiet_of_same (hs.out _)))
  go_wp2_with fail
  go_ret
  exact ⟨rfl, below_drewN (Below.refl _ _) _⟩
set_option maxHeartbeats 2000000 in
theorem im_BoundaryBall (n s k : Int) (w : World) :
    Calls Tryd.prog 23 #[.int .i64 n, .int .i64 s, .int .i64 k] w (ListPost (ifL (blB n s k) (blL n s k)) (blB n s k) w) := by
  have hmf := mkfunc
  rcases setB_cases n s with hb | hb
  · obtain ⟨n1, n2, s1, s2⟩ := setB_yes hb
    have s3 := (setB_lt hb).2
    have hdi := fun W => set_in_yes n s hb W
    by_cases hk : 0 ≤ k ∧ k ≤ n
    · obtain ⟨d1, d2⟩ := hk
      have hbl : blB n s k = true := by unfold blB; rw [hb]; exact decide_eq_true ⟨d1, d2⟩
      rw [hbl]
      have hall := all_sets n n1 n2
      have husz := upI_lt n1 n2
      have hys := blL_sort n s k
      obtain ⟨us, hus⟩ : ∃ us, sortL (upI (2 ^ n.toNat)) = us := ⟨_, rfl⟩
      have huA : us.length ≤ 256 := asc_len256 (hus ▸ asc_sortL _) (fun z hz => setB_lt (husz z (hus ▸ hz)))
      rw [hus] at hall husz hys
      have hk := fun (W : World) (lv : Value) (h0 : w.heap.size + 1 < W.heap.size) (hc : W.cell? ⟨w.heap.size, 0, none⟩ = some (.int .i64 s)) (hc2 : W.cell? ⟨w.heap.size + 1, 0, none⟩ = some (.int .i64 k)) (hx : SRow W W.heap.size lv us) => kept_any 59 (enters_of Tryd.func59 (by kernel_rfl) rfl) #[] #[.pointer (some ⟨w.heap.size, 0, none⟩), .pointer (some ⟨w.heap.size + 1, 0, none⟩)] (fun x => decide (dstI x s ≤ k)) lv us _ W hx (Nat.le_refl _) (by omega) (fun z hz => setB_lt (husz z hz)) (ball_clo s k w.heap.size (w.heap.size + 1) us W (by omega) hc h0 hc2 s1 s3 (fun z hz => setB_lt (husz z hz)))
      rw [hys] at hk
      show Calls Tryd.prog 23 #[.int .i64 n, .int .i64 s, .int .i64 k] w (ListPost (blL n s k) true w)
      obtain ⟨ys, hys2⟩ : ∃ ys, blL n s k = ys := ⟨_, rfl⟩
      rw [hys2] at hys hk ⊢
      have hyz : ∀ z ∈ ys, 0 ≤ z ∧ z < 256 := fun z hz => setB_lt (husz z (List.mem_filter.1 (mem_sortL.1 (hys ▸ hz))).1)
      have hyl : ys.length ≤ 256 := asc_len256 (hys ▸ asc_sortL _) hyz
      have hbb := ((Below.refl w.heap.size w).alloc (Nat.le_refl _) (.cells #[.int .i64 s] 3)).alloc (by simp) (.cells #[.int .i64 k] 3)
      have hci : ((w.alloc (.cells #[.int .i64 s] 3)).alloc (.cells #[.int .i64 k] 3)).cell? ⟨w.heap.size, 0, none⟩ = some (.int .i64 s) := by
        rw [World.cell?_alloc_past _ _ _ (by simp)]; exact new_cell_int w s
      have hci2 : ((w.alloc (.cells #[.int .i64 s] 3)).alloc (.cells #[.int .i64 k] 3)).cell? ⟨w.heap.size + 1, 0, none⟩ = some (.int .i64 k) := by
        have := new_cell_int (w.alloc (.cells #[.int .i64 s] 3)) k
        rwa [World.size_alloc] at this
      replace hall := Lib.hid hall
      replace hk := Lib.hid hk
      replace hus := Lib.hid hus
      replace hys := Lib.hid hys
      replace hys2 := Lib.hid hys2
      replace hyz := Lib.hid hyz
      replace husz := Lib.hid husz
      replace hb := Lib.hid hb
      replace hbl := Lib.hid hbl
      replace hbb := Lib.hid hbb
      replace hdi := Lib.hid hdi
      go_enter Tryd.func23, Tryd.ntmps23
      go_wp2_with (go_at_call 56; refine (hdi.out _).mono ?_; rintro e w' ⟨rfl, rfl⟩)
      replace hci := Lib.hid hci
      replace hci2 := Lib.hid hci2
      refine (hall.out _).mono ?_
      rintro e w2 ⟨v2, rfl, hS2, hb2⟩
      obtain ⟨a2, c2, rfl⟩ := hS2.form
      rw [World.size_alloc, World.size_alloc] at hS2 hb2
      have hz2 := hb2.size
      rw [World.size_alloc, World.size_alloc] at hz2
      have hk2 := Lib.hid (hk.out w2 _ (by omega) ((hb2.cell (p := ⟨w.heap.size, 0, none⟩) (by simp; omega)).trans hci.out) ((hb2.cell (p := ⟨w.heap.size + 1, 0, none⟩) (by simp)).trans hci2.out) hS2.row)
      replace hb2 := Lib.hid (hbb.out.trans (hb2.mono (by omega)))
      clear hS2
      go_wp2_with fail
      refine hk2.out.mono ?_
      rintro e w3 ⟨v3, rfl, hS3, hb3⟩
      obtain ⟨a3, c3, rfl⟩ := hS3.form
      have hz3 := hb3.size
      have hnum := Lib.hid (numbers_at _ _ _ _ hS3.row (Nat.le_refl _) (by omega) hyz.out)
      replace hb3 := Lib.hid (hb2.out.trans (hb3.mono (by omega)))
      clear hS3 hk2 hk hall
      go_wp2_with fail
      refine hnum.out.mono ?_
      rintro e w5 ⟨t, rfl, hO, hb5⟩
      obtain ⟨ua, uc, rfl, _⟩ := id hO
      replace hb5 := Lib.hid (hb3.out.trans (hb5.mono (by omega)))
      replace hO := Lib.hid (hO.mono (show w.heap.size ≤ w3.heap.size by omega) (Nat.le_refl _))
      go_wp2_with fail
      go_ret2
      exact ⟨_, rfl, hO.out, hb5.out⟩
    · have hbl : blB n s k = false := by unfold blB; rw [hb, decide_eq_false hk]; rfl
      rw [hbl]
      replace hb := Lib.hid hb
      replace hbl := Lib.hid hbl
      replace hdi := Lib.hid hdi
      by_cases hk0 : k < 0
      · clear hk
        go_enter Tryd.func23, Tryd.ntmps23
        go_wp2_with (go_at_call 56; refine (hdi.out _).mono ?_; rintro e w' ⟨rfl, rfl⟩)
        go_ret2
        exact ⟨_, rfl, own_empty _ _ _ _ _, (((Below.refl _ _).alloc (Nat.le_refl _) _).alloc (by simp) _).alloc (by simp; omega) _⟩
      · have hk3 : n < k := by omega
        clear hk
        go_enter Tryd.func23, Tryd.ntmps23
        go_wp2_with (go_at_call 56; refine (hdi.out _).mono ?_; rintro e w' ⟨rfl, rfl⟩)
        go_ret2
        exact ⟨_, rfl, own_empty _ _ _ _ _, (((Below.refl _ _).alloc (Nat.le_refl _) _).alloc (by simp) _).alloc (by simp; omega) _⟩
  · have hdi := fun W => set_in_no n s hb W
    have hbl : blB n s k = false := by unfold blB; rw [hb]; rfl
    rw [hbl]
    replace hb := Lib.hid hb
    replace hbl := Lib.hid hbl
    replace hdi := Lib.hid hdi
    go_enter Tryd.func23, Tryd.ntmps23
    go_wp2_with (go_at_call 56; refine (hdi.out _).mono ?_; rintro e w' ⟨rfl, rfl⟩)
    go_ret2
    exact ⟨_, rfl, own_empty _ _ _ _ _, (((Below.refl _ _).alloc (Nat.le_refl _) _).alloc (by simp) _).alloc (by simp; omega) _⟩
end Go.Proofs.YtpepcjffolbdcaaDoor
