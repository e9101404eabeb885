/- Families: the sum of all points of all sets; the program, the model, the law. -/
import Derived.Test.YtgkbaenjniapiaaDoorDegB
namespace Go.Proofs.YtgkbaenjniapiaaDoor
open Go.ChangeShapes Go.WideShapes Go.ChangeAt Go.RowKit Go.Shelf
attribute [local go_sem] Oper.semAt_some

/-- the sum of a list. -/
def smP : List Int → Int
  | [] => 0
  | x :: xs => x + smP xs
theorem smP_snoc (l : List Int) (x : Int) : smP (l ++ [x]) = smP l + x := by
  induction l with
  | nil => simp [smP]
  | cons y l ih => simp only [List.cons_append, smP, ih]; omega
/-- the sum of the points below m of s. -/
def sumH (s : Int) : Nat → Int
  | 0 => 0
  | m + 1 => sumH s m + m * hb1 s m
/-- the sum of the points below m of all sets. -/
def sumP (xs : List Int) : Nat → Int
  | 0 => 0
  | m + 1 => sumP xs m + m * dgP xs m
theorem sum_step {xs : List Int} {k : Nat} {x : Int} (hk : k < xs.length) (hx : xs.getD k 0 = x) : ∀ m, sumP (xs.take (k + 1)) m = sumP (xs.take k) m + sumH x m
  | 0 => rfl
  | m + 1 => by
    simp only [sumP, sumH]
    rw [sum_step hk hx m, dgP_step hk hx m, Int.mul_add]; omega
theorem sumH_dec : ∀ n : Fin 9, ∀ s : Fin 256, s.val < 2 ^ n.val → sumH s.val n.val = smP (ptsI s.val) := by decide +kernel
theorem sumH_pts {n s : Int} (h : setB n s = true) : sumH s n.toNat = smP (ptsI s) := by
  obtain ⟨n1, n2, h1, h2⟩ := setB_yes h
  have q := setB_lt h
  have e2 : ((s.toNat : Nat) : Int) = s := Int.toNat_of_nonneg h1
  have h := sumH_dec ⟨n.toNat, by omega⟩ ⟨s.toNat, by omega⟩ (by
    have : ((s.toNat : Nat) : Int) < ((2 ^ n.toNat : Nat) : Int) := by rw [e2]; simpa using h2
    simpa using Int.ofNat_lt.1 this)
  simpa only [e2] using h
theorem sumP_nil : ∀ m, sumP [] m = 0
  | 0 => rfl
  | m + 1 => by simp [sumP, sumP_nil m, dgP]
theorem sumP_bd {xs : List Int} (hl : xs.length ≤ 256) : ∀ m, m ≤ 8 → 0 ≤ sumP xs m ∧ sumP xs m ≤ 2048 * m
  | 0, _ => by simp [sumP]
  | m + 1, h => by
    have h1 := sumP_bd hl m (by omega)
    have h2 := dgP_bd xs m
    have h3 : (m : Int) * dgP xs m ≤ 8 * 256 := Int.mul_le_mul (by omega) (by omega) h2.1 (by omega)
    have h4 : 0 ≤ (m : Int) * dgP xs m := Int.mul_nonneg (by omega) h2.1
    simp only [sumP]
    omega
theorem smP_pts_bd {s : Int} : ∀ l : List (PtOf s), 0 ≤ smP (vals l) ∧ smP (vals l) ≤ 8 * l.length := by
  intro l
  induction l with
  | nil => simp [vals, smP]
  | cons p l ih =>
    obtain ⟨p, p1, p2, p3⟩ := p
    have e : vals (⟨p, p1, p2, p3⟩ :: l) = p :: vals l := rfl
    rw [e]
    simp only [smP, List.length_cons]
    omega
/-- what ShiftSum says. -/
def ssV (n : Int) (xs : List Int) : Int := if famB n xs then sumP xs n.toNat else 0
set_option maxHeartbeats 4000000 in
theorem im_ShiftSum (n : Int) (lv : Value) (xs : List Int) (S : Nat) (w : World) (hx : Row w S lv xs) (hS : S ≤ w.heap.size) (hl : xs.length ≤ 100000000) (hT : Tab w) :
    Calls Tryd.prog 25 #[.int .i64 n, lv] w fun e w' => e = .returned (.tuple #[.int .i64 (ssV n xs), .bool (famB n xs)]) ∧ Below w.heap.size w w' := by
  have hr := Lib.hid (read_any n lv xs S w hx hS hl)
  have htl := hT.lt
  obtain ⟨la, lc, rfl, _⟩ := id hx
  clear hx
  rcases (by cases famB n xs <;> simp : famB n xs = true ∨ famB n xs = false) with hb | hb
  · obtain ⟨n1, n2, hset⟩ := famB_all hb
    have hl2 := famB_len hb
    have hlt := famB_lt hb
    obtain ⟨N, hN⟩ : ∃ N : Nat, n.toNat = N := ⟨_, rfl⟩
    have hV : ssV n xs = sumP xs N := by unfold ssV; rw [if_pos hb, hN]
    obtain rfl : n = (N : Nat) := by omega
    rw [hb, hV]
    replace hb := Lib.hid hb
    replace hset := Lib.hid hset
    replace hlt := Lib.hid hlt
    replace hT := Lib.hid hT
    replace hV := Lib.hid hV
    have hN8 : N ≤ 8 := by omega
    replace hN := Lib.hid hN
    refine (callsIn_wide (n := 10)).1 ?_
    refine callsIn_of_wp_marks Tryd.func25 rfl trivial ?_ rfl
    simp only [Tryd.ntmps25, List.size_toArray, List.length_cons, List.length_nil, Nat.reduceAdd, Nat.reduceSub, Array.replicate_succ, Array.replicate_zero, List.push_toArray, List.append_toArray, List.nil_append, List.cons_append]
    gi_wp2_with fail
    refine ⟨trivial, (callsIn_wide.2 hr.out).mono ?_⟩
    rintro e w1 (⟨hf, v, rfl, hS1, hb1⟩ | ⟨hf, rfl, hb1⟩)
    · obtain ⟨a', c', rfl⟩ := hS1.form
      have hz1 := hb1.size
      have hrow := hS1.row
      obtain ⟨a2, c2, e2, hcell⟩ := hrow
      injection e2 with e3 e4 e5
      subst e3 e5
      replace hcell := Lib.hid hcell
      replace hf := Lib.hid hf
      have hlt0 : w1.heap.size < w1.heap.size + 1 := by omega
      clear hr hS1
      replace hb1 := Lib.hid hb1
      gi_wp2_with fail
      refine wpIn_loop (fun a9 wr => ∃ u10 u11 u23 u24 u25 u26 u27 u28 u30 u31 u32 u33 : Value, ∃ ds : List Deferred, (∃ k : Nat, k ≤ xs.length ∧ u23 = .int .i64 k ∧ Hid (Below w1.heap.size w1 wr) ∧ Hid (Boxed wr (w1.heap.size + 1) 3 (.int .i64 (sumP (xs.take k) N))) ∧ Hid (DefsOK w1.heap.size ds wr.heap.size wr)) ∧ a9 = { tmps := #[.int .i64 (N : Nat), .slice la xs.length lc, undef, undef, .int .i64 0, .bool false, .pointer (some ⟨w1.heap.size, 0, none⟩), .bool true, .pointer (some ⟨w1.heap.size + 1, 0, none⟩), undef, u10, u11, .tuple #[.agg #[.slice a' xs.length c', (Value.func (.func 107) #[] #[])], .bool true], .int .i64 (N : Nat), .slice la xs.length lc, .tuple #[.agg #[.slice a' xs.length c', (Value.func (.func 107) #[] #[])], .bool true], .agg #[.slice a' xs.length c', (Value.func (.func 107) #[] #[])], .bool true, .bool true, .bool false, .pointer (some ⟨w1.heap.size, 0, none⟩), .slice a' xs.length c', .int .i64 (xs.length : Nat), u23, u24, u25, u26, u27, u28, undef, u30, u31, u32, u33, undef], defers := ds }) (fun a9 _ => xs.length - (intOf (a9.tmps.getD 23 undef)).toNat) ?atStart ?round
      case atStart =>
        refine ⟨_, _, _, _, _, _, _, _, _, _, _, _, [], ⟨0, by omega, rfl, ?_, ?_, Lib.hid trivial⟩, rfl⟩
        · exact Lib.hid (((Below.refl _ _).alloc (Nat.le_refl _) _).alloc (by simp) _)
        · have bO := Boxed.new (w1.alloc (.cells #[.slice a' xs.length c', (Value.func (.func 107) #[] #[])] 42)) 3 (.int .i64 0)
          rw [World.size_alloc] at bO
          exact Lib.hid (by rw [List.take_zero, sumP_nil]; exact bO)
      case round =>
        rintro a9 wr ⟨u10, u11, u23, u24, u25, u26, u27, u28, u30, u31, u32, u33, ds, ⟨k, hk, rfl, hbel, hbox, hds⟩, rfl⟩
        dsimp only
        have hz := hbel.out.size
        by_cases hk2 : k < xs.length
        · obtain ⟨b1, o1, rfl, s1, c1⟩ := hcell.out (by omega)
          have k1 : (0 : Int) ≤ (k : Int) := by omega
          have k2 : (k : Int) < (xs.length : Nat) := by omega
          have e1 : wr.cell? ⟨b1, o1 + k, none⟩ = some (.int .u64 (xs.getD k 0)) := (hbel.out.cell (p := ⟨b1, o1 + k, none⟩) s1).trans (c1 k hk2)
          obtain ⟨x, hx0⟩ : ∃ x, xs.getD k 0 = x := ⟨_, rfl⟩
          have hmx : x ∈ xs := by rw [← hx0]; exact getD_mem hk2
          rw [hx0] at e1
          obtain ⟨x1, x2⟩ := hlt.out x hmx
          have hsx := hset.out x hmx
          have hstep : sumP (xs.take (k + 1)) N = sumP (xs.take k) N + smP (ptsI x) := by
            have h1 := sumH_pts hsx
            rw [hN.out] at h1
            rw [sum_step hk2 hx0 N, h1]
          have hbd := sumP_bd (xs := xs.take k) (by rw [List.length_take]; omega) N hN8
          obtain ⟨s0, hs0⟩ : ∃ s0, sumP (xs.take k) N = s0 := ⟨_, rfl⟩
          rw [hs0] at hbd hstep hbox
          replace hbd := Lib.hid hbd
          replace hs0 := Lib.hid hs0
          replace hstep := Lib.hid hstep
          clear c1
          replace hsx := Lib.hid hsx
          replace hx0 := Lib.hid hx0
          replace hmx := Lib.hid hmx
          gi_wp2_with (refine ⟨trivial, ?_⟩; gi_at_call 62; refine (pts_make _ _).mono ?_; rintro e w' ⟨rfl, rfl⟩)
          have hW0 : Below w1.heap.size w1 (wr.alloc (.cells #[.int .u64 x] 50)) := hbel.out.alloc hz _
          have bN := Boxed.new wr 50 (.int .u64 x)
          have hlt1 : 2 < w1.heap.size := by omega
          have hT1 : Tab (wr.alloc (.cells #[.int .u64 x] 50)) := hT.out.below (hb1.out.trans (hW0.mono hz1)) htl
          have hlw := hbox.out.lt
          refine wpIn_rangeFunc_ownG rfl (by omega) (gf := 94) (lb := #[.pointer (some ⟨wr.heap.size, 0, none⟩)]) rfl trivial (enters_of Tryd.func94 (by kernel_rfl) rfl)
            (pts_stops _ (by omega) wr.heap.size w1.heap.size x x1 x2 _ (by simp) bN.cell hT1 hlt1) belowK_t (belowK_b (by simp; omega)) (Below.refl _ _) (fun _ => rfl)
            (fun (pre : List (PtOf x)) W => (Boxed W (w1.heap.size + 1) 3 (.int .i64 (s0 + smP (vals pre))) ∧ DefsOK w1.heap.size ds wr.heap.size W) ∧ Below w1.heap.size w1 W)
            (fun _ _ _ => False)
            (OwnFrom.and (OwnFrom.and (_root_.Go.Own.from (boxed_own _ _ (fun (pre : List (PtOf x)) => .int .i64 (s0 + smP (vals pre)))) _) (defs_own _ _ _ _ (by simp))) (ownFrom_below (Nat.le_refl _) (by simp; omega)))
            (fun _ _ _ _ _ hs _ _ => hs)
            ⟨⟨by simpa [vals, smP] using hbox.out.alloc _, hds.out.alloc _⟩, hW0⟩
            (fun p => { tmps := #[.int .i64 (N : Nat), .slice la xs.length lc, undef, undef, .int .i64 0, .bool false, .pointer (some ⟨w1.heap.size, 0, none⟩), .bool true, .pointer (some ⟨w1.heap.size + 1, 0, none⟩), undef, .int .u64 x, .int .i64 p.1, .tuple #[.agg #[.slice (some ⟨b1, o1, none⟩) xs.length c', (Value.func (.func 107) #[] #[])], .bool true], .int .i64 (N : Nat), .slice la xs.length lc, .tuple #[.agg #[.slice (some ⟨b1, o1, none⟩) xs.length c', (Value.func (.func 107) #[] #[])], .bool true], .agg #[.slice (some ⟨b1, o1, none⟩) xs.length c', (Value.func (.func 107) #[] #[])], .bool true, .bool true, .bool false, .pointer (some ⟨w1.heap.size, 0, none⟩), .slice (some ⟨b1, o1, none⟩) xs.length c', .int .i64 (xs.length : Nat), .int .i64 (k : Nat), .bool true, .pointer (some ⟨b1, o1 + k, none⟩), .int .u64 x, .int .u64 x, .func (.func 94) #[] #[.pointer (some ⟨wr.heap.size, 0, none⟩)], .int .i64 p.1, u30, u31, u32, u33, undef], defers := [] }) ?assign ?body ?done ?stop
          case assign =>
            intro l p W K hK
            gi_wp2
            exact hK
          case body =>
            rintro l pre ⟨p, p1, p2, p3⟩ W ⟨⟨hv, hdf⟩, hB⟩ hlen
            have hc := hv.cell
            have hfz := hv.frozen
            have hp8 : pre.length ≤ 8 := by have := ptsTo_len x 8; have hlp := vals_len pre; unfold ptsI at hlen; omega
            have hsb := smP_pts_bd pre
            have hb := hbd.out
            obtain ⟨c0, hc0⟩ : ∃ c0, s0 + smP (vals pre) = c0 := ⟨_, rfl⟩
            have cb1 : 0 ≤ c0 := by omega
            have cb2 : c0 ≤ 100000 := by omega
            have hnx : s0 + smP (vals (pre ++ [⟨p, p1, p2, p3⟩])) = c0 + p := by rw [vals_snoc]; show s0 + smP (vals pre ++ [p]) = c0 + p; rw [smP_snoc, ← hc0]; omega
            simp only [hc0] at hc
            have hv' := Lib.hid (hv.set (.int .i64 (c0 + p)))
            have hB1 := Lib.hid (below_setCell hB (p := ⟨w1.heap.size + 1, 0, none⟩) (Nat.le_succ _) (.int .i64 (c0 + p)))
            have hB2 := Lib.hid (below_setCell (Below.refl w1.heap.size W) (p := ⟨w1.heap.size + 1, 0, none⟩) (Nat.le_succ _) (.int .i64 (c0 + p)))
            have hdf' := Lib.hid (show DefsOK w1.heap.size ds wr.heap.size (W.setCell ⟨w1.heap.size + 1, 0, none⟩ (.int .i64 (c0 + p))) from hdf.keep fun D _ e => by
              by_cases hD : D = w1.heap.size + 1
              · subst hD
                have hv2 : W.heap[w1.heap.size + 1]? = _ := hv
                rw [hv2] at e
                cases e
              · rw [Below.heap_setCell _ _ _ _ hD]; exact e)
            replace hc0 := Lib.hid hc0
            replace hnx := Lib.hid hnx
            clear hv hB hdf hb hsb
            gi_wp2
            exact ⟨(KeepsOthers.setCell _ _ _).from _, hB2.out, ⟨by rw [hnx.out]; exact hv'.out, hdf'.out⟩, hB1.out⟩
          case done =>
            rintro D ys W hD hys ⟨⟨hv, hdf⟩, hB⟩ hK
            rw [hys, ← hstep.out] at hv
            gi_wp2
            simp at hD
            have hDl := (Array.getElem?_eq_some_iff.1 hK).1
            refine ⟨⟨_, _, _, _, _, _, _, _, _, _, _, _, { target := .collected D, args := #[] } :: ds, ⟨k + 1, by omega, by go_num, Lib.hid hB, Lib.hid hv, Lib.hid ⟨D, rfl, by omega, hDl, hK, hdf.mono (by omega)⟩⟩, rfl⟩, ?_⟩
            simp [intOf]; omega
          case stop =>
            rintro D c pre W _ _ h _
            exact h.elim
        · obtain rfl : k = xs.length := by omega
          have hr2 := hbox.out
          rw [List.take_length] at hr2
          have hc := hr2.cell
          have hbd := sumP_bd hl2 N hN8
          obtain ⟨s0, hs0⟩ : ∃ s0, sumP xs N = s0 := ⟨_, rfl⟩
          rw [hs0] at hc hbd hV
          have q1 : 0 ≤ s0 := hbd.1
          have q2 : s0 ≤ 100000 := by omega
          replace hs0 := Lib.hid hs0
          replace hr2 := Lib.hid hr2
          clear hbd hbox
          gi_wp2_with fail
          refine leaves_all (B := w1.heap.size) (fun W => Below w1.heap.size w1 W) (fun W D h hD e => h.trans (belowK_b (w := w1) (Nat.le_refl _) W D _ _ hD e rfl rfl)) (fun W h => ?_) ds _ _ hds.out hbel.out
          exact ⟨_, results_tmp2 rfl _ _ _, by rw [hs0.out]; rfl, hb1.out.trans (h.mono hz1)⟩
    · exact absurd (hb.out.symm.trans hf) (by simp)
  · have hV : 0 = ssV n xs := by unfold ssV; rw [hb]; rfl
    rw [hb]
    replace hb := Lib.hid hb
    replace hV := Lib.hid hV
    go_enter Tryd.func25, Tryd.ntmps25
    go_wp2_with fail
    refine hr.out.mono ?_
    rintro e w1 (⟨hf, v, rfl, hS1, hb1⟩ | ⟨hf, rfl, hb1⟩)
    · exact absurd (hb.out.symm.trans hf) (by simp)
    · have hz1 := hb1.size
      replace hb1 := Lib.hid hb1
      replace hf := Lib.hid hf
      clear hr
      go_wp2_with fail
      go_ret2
      exact ⟨by rw [← hV.out]; rfl, (hb1.out.alloc hz1 _)⟩
theorem same_self (L : List Int) : sameB L L = true := decide_eq_true rfl
end Go.Proofs.YtgkbaenjniapiaaDoor
