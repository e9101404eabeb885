/- Families: how often each point is in a set, the model and the program (as in XDeg, XDeg2; for seats that have links too). -/
import Derived.Test.YtjhjmbiecihjhaaDoorAllSp
import Derived.Test.YtjhjmbiecihjhaaDoorIter
import Derived.RegionTactic
namespace Go.Proofs.YtjhjmbiecihjhaaDoor
open Go.ChangeShapes Go.WideShapes Go.ChangeAt Go.RowKit Go.Proofs Go.Shelf


/-- how many sets of the list have the point j. -/
def dgP (xs : List Int) (j : Nat) : Int := ((xs.filter (fun x => hasB x ((j : Nat) : Int))).length : Nat)
/-- 1 if s has the point j. -/
def hb1 (s : Int) (j : Nat) : Int := if hasB s ((j : Nat) : Int) then 1 else 0
theorem hb1_bd (s : Int) (j : Nat) : 0 ≤ hb1 s j ∧ hb1 s j ≤ 1 := by unfold hb1; split <;> omega
theorem dgP_bd (xs : List Int) (j : Nat) : 0 ≤ dgP xs j ∧ dgP xs j ≤ xs.length := by
  unfold dgP
  have := List.length_filter_le (fun x => hasB x ((j : Nat) : Int)) xs
  omega
theorem dgP_step {xs : List Int} {k : Nat} {x : Int} (hk : k < xs.length) (hx : xs.getD k 0 = x) (j : Nat) : dgP (xs.take (k + 1)) j = dgP (xs.take k) j + hb1 x j := by
  unfold dgP hb1
  rcases (by cases hasB x ((j : Nat) : Int) <;> simp : hasB x ((j : Nat) : Int) = true ∨ hasB x ((j : Nat) : Int) = false) with h | h
  · rw [filt_yes hk hx _ h, List.length_append, h]; rfl
  · rw [filt_no hk hx _ h, h]; simp
/-- how often each point is there. -/
def degL (N : Nat) (xs : List Int) : List Int := (List.range N).map (fun j => dgP xs j)
theorem degL_len (N : Nat) (xs : List Int) : (degL N xs).length = N := by simp [degL]
theorem own_rowD {w : World} {b N B S : Nat} {f : Nat → Int} (h : w.rowIs b 3 N (fun j => .int .i64 (f j))) (hB : B ≤ b) (hS : b < S) : Own w B S (.slice (some ⟨b, 0, none⟩) N N) ((List.range N).map f) := by
  have hl : ((List.range N).map f).length = N := by simp
  refine ⟨_, _, by rw [hl], fun _ => ⟨b, 0, rfl, hB, hS, fun i hi => ?_, fun i _ => ?_⟩⟩
  · rw [hl] at hi
    rw [Nat.zero_add, World.rowIs.cell h hi]
    rw [List.getD_eq_getElem?_getD, List.getElem?_map, List.getElem?_range hi]; rfl
  · exact World.rowIs.frozen h _
theorem cnt_dec : ∀ s : Fin 256, ∀ j : Fin 8, (((ptsI s.val).count ((j.val : Nat) : Int) : Nat) : Int) = hb1 s.val j.val := by decide +kernel
theorem cnt_pts {s : Int} (h1 : 0 ≤ s) (h2 : s < 256) {j : Nat} (hj : j < 8) : (((ptsI s).count ((j : Nat) : Int) : Nat) : Int) = hb1 s j := by
  have h := cnt_dec ⟨s.toNat, by omega⟩ ⟨j, hj⟩
  have e : ((s.toNat : Nat) : Int) = s := Int.toNat_of_nonneg h1
  simpa only [e] using h

/-- what a function that makes a row of numbers leaves. -/
def RowPost (L : List Int) (w : World) (e : Ending) (w' : World) : Prop := ∃ v, e = .returned v ∧ Own w' w.heap.size w'.heap.size v L ∧ Below w.heap.size w w'
set_option maxHeartbeats 4000000 in
theorem degrees_at (n : Int) (lv : Value) (xs : List Int) (S : Nat) (w : World) (hx : Row w S lv xs) (hS : S ≤ w.heap.size) (hf : famB n xs = true) :
    Calls Tryd.prog 26 #[.int .i64 n, lv] w (RowPost (degL n.toNat xs) w) := by
  obtain ⟨a, cap, rfl, ha⟩ := hx
  obtain ⟨n1, n2, hset⟩ := famB_all hf
  have hl2 := famB_len hf
  have hlt := famB_lt hf
  obtain ⟨N, hN⟩ : ∃ N : Nat, n.toNat = N := ⟨_, rfl⟩
  obtain rfl : n = (N : Nat) := by omega
  have hmk := fun W => run_make_row' (P := Tryd.prog) 22 3 (.int .i64 0) 8 Tryd.underlying22 Tryd.intInfo rfl .i64 .i64 N (by omega) (by omega) W
  rw [hN]
  replace ha := Lib.hid ha
  replace hf := Lib.hid hf
  replace hset := Lib.hid hset
  replace hlt := Lib.hid hlt
  clear hN
  go_enter Tryd.func26, Tryd.ntmps26
  go_wp2_with fail
  go_loopw [6] (fun q wr => ∃ k : Nat, k ≤ xs.length ∧ q = .int .i64 k ∧ Hid (Below w.heap.size w wr) ∧ Hid (wr.rowIs w.heap.size 3 N (fun j => .int .i64 (dgP (xs.take k) j)))) (fun q _ => xs.length - (intOf q).toNat)
  case atStart =>
    refine ⟨0, by omega, rfl, Lib.hid ((Below.refl _ _).alloc (Nat.le_refl _) _), Lib.hid ?_⟩
    exact (World.rowIs_made w (.int .i64 0) N 3).congr (fun i _ => by simp [dgP])
  case round =>
    obtain ⟨k, hk, rfl, hbel, hrw⟩ := hrel
    have hz := hbel.out.size
    by_cases hk2 : k < xs.length
    · obtain ⟨b1, o1, rfl, s1, c1⟩ := ha.out (by omega)
      have k1 : (0 : Int) ≤ (k : Int) := by omega
      have k2 : (k : Int) < (xs.length : Nat) := by omega
      obtain ⟨x, hx0⟩ : ∃ x, xs.getD k 0 = x := ⟨_, rfl⟩
      have hmx : x ∈ xs := by rw [← hx0]; exact getD_mem hk2
      have hcx := c1 k hk2
      rw [hx0] at hcx
      obtain ⟨x1, x2⟩ := hlt.out x hmx
      have s1' : b1 < w.heap.size := by omega
      have hrs := Lib.hid (hrw.out.congr (g := fun j => .int .i64 (dgP (xs.take k) j + (if j < 0 then hb1 x j else 0))) (fun j _ => by simp))
      have hstep := Lib.hid (fun j => dgP_step hk2 hx0 j)
      have hcb := Lib.hid (fun j => (dgP_bd (xs.take k) j))
      have htl : (xs.take k).length ≤ 256 := by rw [List.length_take]; omega
      replace hcx := Lib.hid hcx
      clear c1 hrw
      replace hx0 := Lib.hid hx0
      replace hmx := Lib.hid hmx
      go_wp2_with fail
      go_loopw [7] (fun q wr => ∃ m : Nat, m ≤ N ∧ q = .int .i64 m ∧ Hid (Below w.heap.size w wr) ∧ Hid (wr.rowIs w.heap.size 3 N (fun j => .int .i64 (dgP (xs.take k) j + (if j < m then hb1 x j else 0))))) (fun q _ => N - (intOf q).toNat)
      case atStart => exact ⟨0, by omega, rfl, hbel, hrs⟩
      case round =>
        obtain ⟨m, hm, rfl, hbel, hrw⟩ := hrel
        have hz := hbel.out.size
        by_cases hm2 : m < N
        · have m1 : (0 : Int) ≤ (m : Int) := by omega
          have m2 : (m : Int) < (N : Nat) := by omega
          have m7 : (m : Int) ≤ 7 := by omega
          have hs64 : (m : Int) < 64 := by omega
          have e1 := (hbel.out.cell (p := ⟨b1, o1 + k, none⟩) s1').trans hcx.out
          have e2 := World.rowIs.cell hrw.out hm2
          have e3 := World.rowIs.frozen hrw.out m
          have hlm : ¬ m < m := by omega
          simp only [if_neg hlm] at e2
          have hbit := bit_i64 x1 x2 m1 m7
          obtain ⟨c0, hc0⟩ : ∃ c0, dgP (xs.take k) m + 0 = c0 := ⟨_, rfl⟩
          have hb := hcb.out m
          rw [hc0] at e2
          have cb1 : 0 ≤ c0 := by omega
          have cb2 : c0 ≤ 256 := by omega
          obtain ⟨bt, hbt⟩ : ∃ bt, hb1 x m = bt := ⟨_, rfl⟩
          have hbb := hb1_bd x m
          rw [hbt] at hbb
          have bt1 : 0 ≤ bt := hbb.1
          have bt2 : bt ≤ 1 := hbb.2
          rw [show (if hasB x ((m : Nat) : Int) then (1 : Int) else 0) = bt from hbt] at hbit
          simp only [Int.toNat_natCast] at hbit
          have hrw' := Lib.hid ((World.rowIs.set hrw.out m (.int .i64 (c0 + bt))).congr (g := fun j => .int .i64 (dgP (xs.take k) j + (if j < m + 1 then hb1 x j else 0))) (fun j hj => by
            by_cases e : j = m
            · subst e; rw [if_pos rfl, if_pos (by omega), hbt]; congr 1; omega
            · rw [if_neg e]
              by_cases e2 : j < m
              · rw [if_pos e2, if_pos (by omega)]
              · rw [if_neg e2, if_neg (by omega)]))
          have hq : IntKind.i64.wrap (c0 + bt) = c0 + bt := by rw [IntKind.wrap_i64]; omega
          have hbel' := Lib.hid (below_setCell hbel.out.drew (p := ⟨w.heap.size, m, none⟩) (Nat.le_refl _) (.int .i64 (c0 + bt)))
          clear hrw hbel hb hbb
          replace hbt := Lib.hid hbt
          replace hc0 := Lib.hid hc0
          go_wp2_with fail
          go_region
          all_goals
            go_wp2_with fail
            go_roundw
            case rel => exact ⟨m + 1, by omega, by go_num, hbel', hrw'⟩
            case measure => simp [intOf]; omega
        · obtain rfl : m = N := by omega
          have hr3 := Lib.hid (hrw.out.congr (g := fun j => .int .i64 (dgP (xs.take (k + 1)) j)) (fun j hj => by simp only [hstep.out j, if_pos hj]))
          clear hrw
          go_wp2_with fail
          go_roundw
          case rel => exact ⟨k + 1, by omega, by go_num, hbel, hr3⟩
          case measure => simp [intOf]; omega
    · obtain rfl : k = xs.length := by omega
      have hr2 := hrw.out
      rw [List.take_length] at hr2
      have hO := Lib.hid (own_rowD (B := w.heap.size) (S := wr.heap.size) hr2 (Nat.le_refl _) (World.rowIs.lt hr2))
      clear hrw hr2
      go_wp2_with fail
      go_ret
      exact ⟨_, rfl, hO.out, hbel.out⟩

attribute [local go_sem] Oper.semAt_some
theorem row_own {β : Type} (b : Nat) (t : TypeId) (N : Nat) (f : β → Nat → Value) : _root_.Go.Own (fun s (W : World) => W.rowIs b t N (f s)) := fun s X Y row hs hg hrow =>
  hs.of_block (hg.block b hs.lt (fun e => by
    obtain ⟨o, ho, hc⟩ := hrow b e.symm
    obtain ⟨c, hc1, _⟩ := hs
    rw [hc1] at ho
    cases ho
    cases hc))
theorem ptsTo_len (s : Int) : ∀ k, (ptsTo s k).length ≤ k := by
  intro k
  induction k with
  | zero => simp [ptsTo]
  | succ k ih => unfold ptsTo; rw [List.length_append]; split <;> simp <;> omega
/-- the marks of the loops that have ended, each still open, the latest first. -/
def DefsOK (B : Nat) : List Deferred → Nat → World → Prop
  | [], _, _ => True
  | d :: ds, T, W => ∃ D, d = { target := .collected D, args := #[] } ∧ B ≤ D ∧ D < T ∧ W.heap[D]? = some (.deferred (some [])) ∧ DefsOK B ds D W
theorem DefsOK.mono {B : Nat} {ds : List Deferred} {T T' : Nat} {W : World} (h : DefsOK B ds T W) (hT : T ≤ T') : DefsOK B ds T' W := by
  cases ds with
  | nil => trivial
  | cons d ds => obtain ⟨D, h1, h2, h3, h4, h5⟩ := h; exact ⟨D, h1, h2, by omega, h4, h5⟩
theorem DefsOK.keep {B : Nat} {W W' : World} : ∀ {ds : List Deferred} {T : Nat}, DefsOK B ds T W → (∀ D, D < T → W.heap[D]? = some (.deferred (some [])) → W'.heap[D]? = some (.deferred (some []))) → DefsOK B ds T W' := by
  intro ds
  induction ds with
  | nil => intro T _ _; trivial
  | cons d ds ih =>
    intro T h hk
    obtain ⟨D, h1, h2, h3, h4, h5⟩ := h
    exact ⟨D, h1, h2, h3, hk D h3 h4, ih h5 (fun D' hD' => hk D' (by omega))⟩
theorem DefsOK.alloc {B : Nat} {ds : List Deferred} {T : Nat} {W : World} (h : DefsOK B ds T W) (o : Obj) : DefsOK B ds T (W.alloc o) := h.keep fun D _ e => by
  have := (Array.getElem?_eq_some_iff.1 e).1
  exact ((World.grownBy_alloc W o none).block D this (by simp)).trans e
theorem DefsOK.setCell {B : Nat} {ds : List Deferred} {T : Nat} {W : World} {b N : Nat} {t : TypeId} {f : Nat → Value} (h : DefsOK B ds T W) (hr : W.rowIs b t N f) (i : Nat) (v : Value) : DefsOK B ds T (W.setCell ⟨b, i, none⟩ v) := h.keep fun D _ e => by
  by_cases hb : D = b
  · subst hb
    obtain ⟨c, hc, _⟩ := hr
    rw [hc] at e
    cases e
  · rw [Below.heap_setCell _ _ _ _ hb]; exact e
theorem defs_own {β : Type} (B : Nat) (ds : List Deferred) (T B' : Nat) (hT : T ≤ B') : OwnFrom B' (fun (_ : β) W => DefsOK B ds T W) := fun _ W W' row hs hg hr => hs.keep fun D hD e =>
  (hg.block D (Array.getElem?_eq_some_iff.1 e).1 (fun x => by have := (hr D x.symm).1; omega)).trans e
theorem leaves_all {F : Fence} {n : Nat} {P : Program} {fn : Func} {tmps : Array Value} {R : Ending → World → Prop} {B : Nat} (C : World → Prop) (hC : ∀ W D, C W → B ≤ D → W.heap[D]? = some (.deferred (some [])) → C (W.putObj D (.deferred none)))
    (hend : ∀ W, C W → LeavesInM F n P fn tmps R [] .returning W) : ∀ (ds : List Deferred) (T : Nat) (W : World), DefsOK B ds T W → C W → LeavesInM F n P fn tmps R ds .returning W := by
  intro ds
  induction ds with
  | nil => intro T W _ h; exact hend W h
  | cons d ds ih =>
    intro T W h hc
    obtain ⟨D, rfl, h2, h3, h4, h5⟩ := h
    refine ⟨by simp, .inl ⟨D, _, rfl, run_takeDeferred h4, ih D _ (h5.keep fun D' hD' e => ?_) (hC W D hc h2 h4)⟩⟩
    rw [World.putObj_heap_other (by omega)]; exact e
theorem cnt_snoc (l : List Int) (x : Int) (j : Nat) : (((l ++ [x]).count ((j : Nat) : Int) : Nat) : Int) = ((l.count ((j : Nat) : Int) : Nat) : Int) + (if x = ((j : Nat) : Int) then 1 else 0) := by
  rw [List.count_append]
  by_cases e : x = ((j : Nat) : Int)
  · subst e; simp
  · rw [if_neg e, List.count_cons_of_ne e]; simp
theorem pt_fit : ∀ n : Fin 9, ∀ s : Fin 256, ∀ p : Fin 8, s.val < 2 ^ n.val → hasB s.val p.val = true → p.val < n.val := by decide +kernel
theorem pt_lt {n s p : Int} (h : setB n s = true) (h0 : 0 ≤ p) (h7 : p ≤ 7) (hp : hasB s p = true) : p < n := by
  obtain ⟨n1, n2, h1, h2⟩ := setB_yes h
  have q := pow_le256 n1 n2
  have e2 : ((s.toNat : Nat) : Int) = s := Int.toNat_of_nonneg h1
  have e3 : ((p.toNat : Nat) : Int) = p := Int.toNat_of_nonneg h0
  have h := pt_fit ⟨n.toNat, by omega⟩ ⟨s.toNat, by omega⟩ ⟨p.toNat, by omega⟩ (by
    have : ((s.toNat : Nat) : Int) < ((2 ^ n.toNat : Nat) : Int) := by rw [e2]; simpa using h2
    simpa using Int.ofNat_lt.1 this)
  simp only [e2, e3] at h
  have := h hp
  omega
set_option maxHeartbeats 4000000 in
theorem im_FamilyDegrees (n : Int) (lv : Value) (xs : List Int) (S : Nat) (w : World) (hx : Row w S lv xs) (hS : S ≤ w.heap.size) (hl : xs.length ≤ 100000000) (hT : Tab w) :
    Calls Tryd.prog 18 #[.int .i64 n, lv] w (ListPost (ifL (famB n xs) (degL n.toNat xs)) (famB n xs) w) := by
  have hr := Lib.hid (read_any n lv xs S w hx hS hl)
  have htl := hT.lt
  obtain ⟨la, lc, rfl, _⟩ := id hx
  clear hx
  rcases (by cases famB n xs <;> simp : famB n xs = true ∨ famB n xs = false) with hb | hb
  · obtain ⟨n1, n2, hset⟩ := famB_all hb
    have hl2 := famB_len hb
    have hlt := famB_lt hb
    obtain ⟨N, hN⟩ : ∃ N : Nat, n.toNat = N := ⟨_, rfl⟩
    obtain rfl : n = (N : Nat) := by omega
    have hmk := fun W => run_make_row' (P := Tryd.prog) 22 3 (.int .i64 0) 8 Tryd.underlying22 Tryd.intInfo rfl .i64 .i64 N (by omega) (by omega) W
    rw [hb, hN]
    replace hb := Lib.hid hb
    replace hset := Lib.hid hset
    replace hlt := Lib.hid hlt
    replace hT := Lib.hid hT
    clear hN
    show Calls Tryd.prog 18 #[.int .i64 (N : Nat), .slice la xs.length lc] w (ListPost (degL N xs) true w)
    refine (callsIn_wide (n := 10)).1 ?_
    refine callsIn_of_wp_marks Tryd.func18 rfl trivial ?_ rfl
    simp only [Tryd.ntmps18, List.size_toArray, List.length_cons, List.length_nil, Nat.reduceAdd, Nat.reduceSub, Array.replicate_succ, Array.replicate_zero, List.push_toArray, List.append_toArray, List.nil_append, List.cons_append]
    gi_wp2_with fail
    refine ⟨trivial, (callsIn_wide.2 hr.out).mono ?_⟩
    rintro e w1 (⟨hf, v, rfl, hS1, hb1⟩ | ⟨hf, rfl, hb1⟩)
    · obtain ⟨a', c', rfl⟩ := hS1.form
      have hz1 := hb1.size
      have hrow := hS1.row
      obtain ⟨a2, c2, e2, hcell⟩ := hrow
      injection e2 with e3 e4 e5
      subst e3 e5
      replace hcell := Lib.hid hcell
      replace hf := Lib.hid hf
      have hlt0 : w1.heap.size < w1.heap.size + 1 := by omega
      clear hr hS1
      replace hb1 := Lib.hid hb1
      gi_wp2_with fail
      refine wpIn_loop (fun a9 wr => ∃ u10 u11 u26 u27 u28 u29 u30 u31 u33 u34 u35 u36 u37 u38 u39 : Value, ∃ ds : List Deferred, (∃ k : Nat, k ≤ xs.length ∧ u26 = .int .i64 k ∧ Hid (Below w1.heap.size w1 wr) ∧ Hid (Boxed wr (w1.heap.size + 1 + 1) 22 (.slice (some ⟨w1.heap.size + 1, 0, none⟩) N N)) ∧ Hid (wr.rowIs (w1.heap.size + 1) 3 N (fun j => .int .i64 (dgP (xs.take k) j))) ∧ Hid (DefsOK w1.heap.size ds wr.heap.size wr)) ∧ a9 = { tmps := #[.int .i64 (N : Nat), .slice la xs.length lc, undef, undef, .slice none 0 0, .bool false, .pointer (some ⟨w1.heap.size, 0, none⟩), .bool true, .pointer (some ⟨w1.heap.size + 1 + 1, 0, none⟩), undef, u10, u11, .tuple #[.agg #[.slice a' xs.length c', (Value.func (.func 87) #[] #[])], .bool true], .int .i64 (N : Nat), .slice la xs.length lc, .tuple #[.agg #[.slice a' xs.length c', (Value.func (.func 87) #[] #[])], .bool true], .agg #[.slice a' xs.length c', (Value.func (.func 87) #[] #[])], .bool true, .bool true, .bool false, undef, .int .i64 (N : Nat), .slice (some ⟨w1.heap.size + 1, 0, none⟩) N N, .pointer (some ⟨w1.heap.size, 0, none⟩), .slice a' xs.length c', .int .i64 (xs.length : Nat), u26, u27, u28, u29, u30, u31, undef, u33, u34, u35, u36, u37, u38, u39, undef], defers := ds }) (fun a9 _ => xs.length - (intOf (a9.tmps.getD 26 undef)).toNat) ?atStart ?round
      case atStart =>
        refine ⟨_, _, _, _, _, _, _, _, _, _, _, _, _, _, _, [], ⟨0, by omega, rfl, ?_, ?_, ?_, Lib.hid trivial⟩, rfl⟩
        · exact Lib.hid ((((Below.refl _ _).alloc (Nat.le_refl _) _).alloc (by simp) _).alloc (by simp; omega) _)
        · have bO := Boxed.new ((w1.alloc (.cells #[.slice a' xs.length c', (Value.func (.func 87) #[] #[])] 51)).alloc (.cells (madeCells #[.int .i64 0] N) 3)) 22 (.slice (some ⟨w1.heap.size + 1, 0, none⟩) N N)
          rw [World.size_alloc, World.size_alloc] at bO
          exact Lib.hid bO
        · have := (World.rowIs_made (w1.alloc (.cells #[.slice a' xs.length c', (Value.func (.func 87) #[] #[])] 51)) (.int .i64 0) N 3).congr (g := fun j => .int .i64 (dgP (xs.take 0) j)) (fun i _ => by simp [dgP])
          rw [World.size_alloc] at this
          exact Lib.hid (this.alloc _)
      case round =>
        rintro a9 wr ⟨u10, u11, u26, u27, u28, u29, u30, u31, u33, u34, u35, u36, u37, u38, u39, ds, ⟨k, hk, rfl, hbel, hbox, hrw, hds⟩, rfl⟩
        dsimp only
        have hz := hbel.out.size
        by_cases hk2 : k < xs.length
        · obtain ⟨b1, o1, rfl, s1, c1⟩ := hcell.out (by omega)
          have k1 : (0 : Int) ≤ (k : Int) := by omega
          have k2 : (k : Int) < (xs.length : Nat) := by omega
          have e1 : wr.cell? ⟨b1, o1 + k, none⟩ = some (.int .u64 (xs.getD k 0)) := (hbel.out.cell (p := ⟨b1, o1 + k, none⟩) s1).trans (c1 k hk2)
          obtain ⟨x, hx0⟩ : ∃ x, xs.getD k 0 = x := ⟨_, rfl⟩
          have hmx : x ∈ xs := by rw [← hx0]; exact getD_mem hk2
          rw [hx0] at e1
          obtain ⟨x1, x2⟩ := hlt.out x hmx
          have hxn := Lib.hid (hset.out x hmx)
          have hstep := Lib.hid (fun j => dgP_step hk2 hx0 j)
          have hcb := Lib.hid (fun j => (dgP_bd (xs.take k) j))
          have htl2 : (xs.take k).length ≤ 256 := by rw [List.length_take]; omega
          clear c1
          replace hx0 := Lib.hid hx0
          replace hmx := Lib.hid hmx
          gi_wp2_with (refine ⟨trivial, ?_⟩; gi_at_call 36; refine (pts_make _ _).mono ?_; rintro e w' ⟨rfl, rfl⟩)
          have hW0 : Below w1.heap.size w1 (wr.alloc (.cells #[.int .u64 x] 55)) := hbel.out.alloc hz _
          have bN := Boxed.new wr 55 (.int .u64 x)
          have hlt1 : 1 < w1.heap.size := by omega
          have hT1 : Tab (wr.alloc (.cells #[.int .u64 x] 55)) := hT.out.below (hb1.out.trans (hW0.mono hz1)) htl
          have hlw := World.rowIs.lt hrw.out
          refine wpIn_rangeFunc_ownG rfl (by omega) (gf := 63) (lb := #[.pointer (some ⟨wr.heap.size, 0, none⟩)]) rfl trivial (enters_of Tryd.func63 (by kernel_rfl) rfl)
            (pts_stops _ (by omega) wr.heap.size w1.heap.size x x1 x2 _ (by simp) bN.cell hT1 hlt1) belowK_t (belowK_b (by simp; omega)) (Below.refl _ _) (fun _ => rfl)
            (fun (pre : List (PtOf x)) W => ((Boxed W (w1.heap.size + 1 + 1) 22 (.slice (some ⟨w1.heap.size + 1, 0, none⟩) N N) ∧ W.rowIs (w1.heap.size + 1) 3 N (fun j => .int .i64 (dgP (xs.take k) j + (((vals pre).count ((j : Nat) : Int) : Nat) : Int)))) ∧ DefsOK w1.heap.size ds wr.heap.size W) ∧ Below w1.heap.size w1 W)
            (fun _ _ _ => False)
            (OwnFrom.and (OwnFrom.and (OwnFrom.and (_root_.Go.Own.from (boxed_own _ _ (fun _ => .slice (some ⟨w1.heap.size + 1, 0, none⟩) N N)) _) (_root_.Go.Own.from (row_own _ _ _ (fun (pre : List (PtOf x)) j => .int .i64 (dgP (xs.take k) j + (((vals pre).count ((j : Nat) : Int) : Nat) : Int)))) _)) (defs_own _ _ _ _ (by simp))) (ownFrom_below (Nat.le_refl _) (by simp; omega)))
            (fun _ _ _ _ _ hs _ _ => hs)
            ⟨⟨⟨hbox.out.alloc _, (hrw.out.congr (fun j _ => by simp [vals])).alloc _⟩, hds.out.alloc _⟩, hW0⟩
            (fun p => { tmps := #[.int .i64 (N : Nat), .slice la xs.length lc, undef, undef, .slice none 0 0, .bool false, .pointer (some ⟨w1.heap.size, 0, none⟩), .bool true, .pointer (some ⟨w1.heap.size + 1 + 1, 0, none⟩), undef, .int .u64 x, .int .i64 p.1, .tuple #[.agg #[.slice (some ⟨b1, o1, none⟩) xs.length c', (Value.func (.func 87) #[] #[])], .bool true], .int .i64 (N : Nat), .slice la xs.length lc, .tuple #[.agg #[.slice (some ⟨b1, o1, none⟩) xs.length c', (Value.func (.func 87) #[] #[])], .bool true], .agg #[.slice (some ⟨b1, o1, none⟩) xs.length c', (Value.func (.func 87) #[] #[])], .bool true, .bool true, .bool false, undef, .int .i64 (N : Nat), .slice (some ⟨w1.heap.size + 1, 0, none⟩) N N, .pointer (some ⟨w1.heap.size, 0, none⟩), .slice (some ⟨b1, o1, none⟩) xs.length c', .int .i64 (xs.length : Nat), .int .i64 (k : Nat), .bool true, .pointer (some ⟨b1, o1 + k, none⟩), .int .u64 x, .int .u64 x, .func (.func 63) #[] #[.pointer (some ⟨wr.heap.size, 0, none⟩)], .int .i64 p.1, u33, u34, u35, u36, u37, u38, u39, undef], defers := [] }) ?assign ?body ?done ?stop
          case assign =>
            intro l p W K hK
            gi_wp2
            exact hK
          case body =>
            rintro l pre ⟨p, p1, p2, p3⟩ W ⟨⟨⟨hv, hrow⟩, hdf⟩, hB⟩ hlen
            have hc := hv.cell
            have hp8 : (vals pre).length ≤ 8 := by have := ptsTo_len x 8; unfold ptsI at hlen; rw [vals_len]; omega
            have hpn := pt_lt hxn.out p1 p2 p3
            obtain ⟨t, rfl⟩ : ∃ t : Nat, p = t := ⟨p.toNat, by omega⟩
            have htN : t < N := by omega
            have e2 := World.rowIs.cell hrow htN
            have e3 := World.rowIs.frozen hrow t
            obtain ⟨c0, hc0⟩ : ∃ c0, dgP (xs.take k) t + (((vals pre).count ((t : Nat) : Int) : Nat) : Int) = c0 := ⟨_, rfl⟩
            have hcc := List.count_le_length (a := ((t : Nat) : Int)) (l := vals pre)
            have hb := hcb.out t
            have cb1 : 0 ≤ c0 := by omega
            have cb2 : c0 ≤ 1000 := by omega
            simp only [hc0] at e2
            have hrow' := Lib.hid ((World.rowIs.set hrow t (.int .i64 (c0 + 1))).congr (g := fun j => .int .i64 (dgP (xs.take k) j + (((vals (pre ++ [⟨(t : Int), p1, p2, p3⟩])).count ((j : Nat) : Int) : Nat) : Int))) (fun j hj => by
              simp only [vals_snoc, cnt_snoc]
              by_cases e : j = t
              · subst e; rw [if_pos rfl, if_pos rfl]; congr 1; omega
              · rw [if_neg e, if_neg (by omega), Int.add_zero]))
            have hv' := Lib.hid (show Boxed (W.setCell ⟨w1.heap.size + 1, t, none⟩ (.int .i64 (c0 + 1))) (w1.heap.size + 1 + 1) 22 (.slice (some ⟨w1.heap.size + 1, 0, none⟩) N N) from (Below.heap_setCell _ _ _ _ (show w1.heap.size + 1 + 1 ≠ w1.heap.size + 1 by omega)).trans hv)
            have hB1 := Lib.hid (below_setCell hB (p := ⟨w1.heap.size + 1, t, none⟩) (Nat.le_succ _) (.int .i64 (c0 + 1)))
            have hB2 := Lib.hid (below_setCell (Below.refl w1.heap.size W) (p := ⟨w1.heap.size + 1, t, none⟩) (Nat.le_succ _) (.int .i64 (c0 + 1)))
            have hdf' := Lib.hid (hdf.setCell hrow t (.int .i64 (c0 + 1)))
            replace hc0 := Lib.hid hc0
            clear hrow hv hB hdf hb hcc
            gi_wp2
            exact ⟨(KeepsOthers.setCell _ _ _).from _, hB2.out, ⟨⟨hv'.out, hrow'.out⟩, hdf'.out⟩, hB1.out⟩
          case done =>
            rintro D ys W hD hys ⟨⟨⟨hv, hrow⟩, hdf⟩, hB⟩ hK
            rw [hys] at hrow
            gi_wp2
            simp at hD
            have hDl := (Array.getElem?_eq_some_iff.1 hK).1
            refine ⟨⟨_, _, _, _, _, _, _, _, _, _, _, _, _, _, _, { target := .collected D, args := #[] } :: ds, ⟨k + 1, by omega, by go_num, Lib.hid hB, Lib.hid hv, Lib.hid (hrow.congr (fun j hj => ?_)), Lib.hid ⟨D, rfl, by omega, hDl, hK, hdf.mono (by omega)⟩⟩, rfl⟩, ?_⟩
            · rw [hstep.out j, cnt_pts x1 x2 (by omega)]
            · simp [intOf]; omega
          case stop =>
            rintro D c pre W _ _ h _
            exact h.elim
        · obtain rfl : k = xs.length := by omega
          have hr2 := hrw.out
          rw [List.take_length] at hr2
          have hc := hbox.out.cell
          replace hr2 := Lib.hid hr2
          clear hrw
          gi_wp2_with fail
          refine leaves_all (B := w1.heap.size) (fun W => W.rowIs (w1.heap.size + 1) 3 N (fun j => .int .i64 (dgP xs j)) ∧ Below w1.heap.size w1 W) (fun W D h hD e => ⟨h.1.of_block (World.putObj_heap_other (fun x => ?_)), h.2.trans (belowK_b (w := w1) (Nat.le_refl _) W D _ _ hD e rfl rfl)⟩) (fun W h => ?_) ds _ _ hds.out ⟨hr2.out, hbel.out⟩
          · subst x
            obtain ⟨c, hc1, _⟩ := h.1
            rw [hc1] at e
            cases e
          · exact ⟨_, results_tmp2 rfl _ _ _, _, rfl, own_rowD (B := w.heap.size) (S := W.heap.size) h.1 (by omega) (World.rowIs.lt h.1), hb1.out.trans (h.2.mono hz1)⟩
    · exact absurd (hb.out.symm.trans hf) (by simp)
  · rw [hb]
    replace hb := Lib.hid hb
    go_enter Tryd.func18, Tryd.ntmps18
    go_wp2_with fail
    refine hr.out.mono ?_
    rintro e w1 (⟨hf, v, rfl, hS1, hb1⟩ | ⟨hf, rfl, hb1⟩)
    · exact absurd (hb.out.symm.trans hf) (by simp)
    · have hz1 := hb1.size
      replace hb1 := Lib.hid hb1
      replace hf := Lib.hid hf
      clear hr
      go_wp2_with fail
      go_ret2
      exact ⟨_, rfl, own_empty _ _ _ _ _, (hb1.out.alloc hz1 _).alloc (by simp; omega) _⟩

end Go.Proofs.YtjhjmbiecihjhaaDoor
