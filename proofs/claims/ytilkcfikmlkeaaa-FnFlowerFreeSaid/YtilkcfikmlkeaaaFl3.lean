/- The search for the first flower: what its closure holds, and the closure by induction. -/
import Derived.Test.YtilkcfikmlkeaaaFl2
import Derived.Test.YtilkcfikmlkeaaaFams9
import Derived.Deep.RegionHeld
import Derived.BigQuiet
namespace Go.Proofs.Ytilkcfikmlkeaaa
open Go.ChangeShapes Go.WideShapes Go.ChangeAt Go.RowKit Go.Proofs

/-- the closure, over the boxes of the leaves, of k and of itself. -/
def fcV (bl bk bc : Nat) : Value := .func (.func 31) #[] #[.pointer (some ⟨bl, 0, none⟩), .pointer (some ⟨bk, 0, none⟩), .pointer (some ⟨bc, 0, none⟩)]
/-- the boxes: v, which reads as L, in that of the leaves. -/
structure FlV (w : World) (B bl bk bc kk : Nat) (v : Value) (L : List Int) : Prop where
  lo : B ≤ bl
  sz : B ≤ w.heap.size
  hk : w.heap[bk]? = some (.cells #[.int .i64 (kk : Nat)] 3 (0, 0))
  hc : w.heap[bc]? = some (.cells #[fcV bl bk bc] 61 (0, 0))
  hl : w.heap[bl]? = some (.cells #[v] 30 (0, 0))
  own : SetL w B v L
theorem obj_type {o : Option Obj} {cs ds : Array Value} {t u : TypeId} (h : o = some (.cells cs t (0, 0))) (g : o = some (.cells ds u (0, 0))) : t = u := by
  rw [h] at g
  injection g with g
  injection g
theorem own_type {w : World} {B g : Nat} {v : Value} {L : List Int} (h : SetL w B v L) (e : v.ownBlock = some g) : ∃ cs, w.heap[g]? = some (.cells cs 42 (0, 0)) := by
  rcases h.out with ⟨rfl, _⟩ | ⟨g', cap, cur, rfl, _, hg, _⟩
  · cases e
  · cases e; exact ⟨cur, hg⟩
theorem own_ne {w : World} {B g : Nat} {v : Value} {L : List Int} {cs : Array Value} {t : TypeId} (h : SetL w B v L) (hg : w.heap[g]? = some (.cells cs t (0, 0))) (ht : t ≠ 42) : v.ownBlock ≠ some g := fun e => by
  obtain ⟨ds, hd⟩ := own_type h e
  exact ht (obj_type hg hd)
theorem heap_lt {w : World} {g : Nat} {o : Obj} (h : w.heap[g]? = some o) : g < w.heap.size := by
  rcases Nat.lt_or_ge g w.heap.size with h1 | h1
  · exact h1
  · rw [Array.getElem?_eq_none h1] at h; cases h
theorem FlV.neK {w : World} {B bl bk bc kk : Nat} {v : Value} {L : List Int} (h : FlV w B bl bk bc kk v L) : bl ≠ bk := fun e => absurd (obj_type h.hl (e ▸ h.hk)) (by decide)
theorem FlV.neC {w : World} {B bl bk bc kk : Nat} {v : Value} {L : List Int} (h : FlV w B bl bk bc kk v L) : bl ≠ bc := fun e => by
  have h1 := h.hc
  rw [← e] at h1
  exact absurd (obj_type h.hl h1) (by decide)
theorem FlV.cells {w : World} {B bl bk bc kk : Nat} {v : Value} {L : List Int} (h : FlV w B bl bk bc kk v L) : w.cell? ⟨bl, 0, none⟩ = some v ∧ w.cell? ⟨bk, 0, none⟩ = some (.int .i64 (kk : Nat)) ∧ w.cell? ⟨bc, 0, none⟩ = some (fcV bl bk bc) ∧ w.frozen? ⟨bl, 0, none⟩ = false :=
  ⟨by rw [cell_of_row w bl 0 _ 30 (0, 0) h.hl]; rfl, by rw [cell_of_row w bk 0 _ 3 (0, 0) h.hk]; rfl, by rw [cell_of_row w bc 0 _ 61 (0, 0) h.hc]; rfl, frozen_of h.hl 0⟩
theorem FlV.below {w w' : World} {B C bl bk bc kk : Nat} {v : Value} {L : List Int} (h : FlV w B bl bk bc kk v L) (hb : Below C w w') (hC : w.heap.size ≤ C) : FlV w' B bl bk bc kk v L :=
  ⟨h.lo, Nat.le_trans h.sz hb.size, (hb.block bk (Nat.lt_of_lt_of_le (heap_lt h.hk) hC)).trans h.hk, (hb.block bc (Nat.lt_of_lt_of_le (heap_lt h.hc) hC)).trans h.hc, (hb.block bl (Nat.lt_of_lt_of_le (heap_lt h.hl) hC)).trans h.hl, h.own.below hb hC⟩
theorem FlV.drewN {w : World} {B bl bk bc kk : Nat} {v : Value} {L : List Int} (h : FlV w B bl bk bc kk v L) (n : Nat) : FlV (w.drewN n) B bl bk bc kk v L := ⟨h.lo, h.sz, h.hk, h.hc, h.hl, h.own.drewN n⟩
theorem FlV.drew {w : World} {B bl bk bc kk : Nat} {v : Value} {L : List Int} (h : FlV w B bl bk bc kk v L) : FlV w.drew B bl bk bc kk v L := h.below (Below.refl w.heap.size w).drew (Nat.le_refl _)
theorem box_stored {w : World} {c : Nat} {p : Value} (h : w.heap[c]? = some (.cells #[p] 30 (0, 0))) (X : Value) : (w.setCell ⟨c, 0, none⟩ X).heap[c]? = some (.cells #[X] 30 (0, 0)) := by
  have h1 := heap_setCell_same w c 0 _ 30 X h
  rw [h1]; rfl
/-- another list in the box of the leaves. -/
theorem FlV.put {w w' : World} {B bl bk bc kk : Nat} {v v' : Value} {L L' : List Int} (h : FlV w B bl bk bc kk v L) (hg : w.grownBy w' v.ownBlock) (hS : SetL w' B v' L') : FlV (w'.setCell ⟨bl, 0, none⟩ v') B bl bk bc kk v' L' := by
  have g1 := (hg.block bl (heap_lt h.hl) (fun e => own_ne h.own h.hl (by decide) e.symm)).trans h.hl
  have g2 := (hg.block bk (heap_lt h.hk) (fun e => own_ne h.own h.hk (by decide) e.symm)).trans h.hk
  have g3 := (hg.block bc (heap_lt h.hc) (fun e => own_ne h.own h.hc (by decide) e.symm)).trans h.hc
  refine ⟨h.lo, ?_, ?_, ?_, box_stored g1 v', hS.store _ _ (own_ne hS g1 (by decide))⟩
  · have := hg.size; have := h.sz; simp [World.setCell]; omega
  · rw [Below.heap_setCell _ _ _ _ (fun e => h.neK e.symm)]; exact g2
  · rw [Below.heap_setCell _ _ _ _ (fun e => h.neC e.symm)]; exact g3
theorem set_cut {w : World} {B c : Nat} {a : Option Addr} {x : Int} {L : List Int} (h : SetL w B (.slice a (L ++ [x]).length c) (L ++ [x])) : SetL w B (.slice a L.length c) L := by
  rcases h.out with ⟨e, h2⟩ | ⟨g, cap, cur, e, hB, hg, hn, hm, hs, hc⟩
  · simp at h2
  · injection e with e1 e2 e3
    subst e1 e3
    rw [List.length_append] at hn hc
    refine SetL.mk hB hg (by omega) hm hs fun j hj => ?_
    rw [hc j (by omega), getD_app hj]
theorem set_sub {w : World} {B c : Nat} {a : Option Addr} {n : Nat} {L : List Int} (h : SetL w B (.slice a n c) L) : L.length ≤ c ∧ c ≤ 9223372036854775807 := by
  rcases h.out with ⟨e, h2⟩ | ⟨g, cap, cur, e, hB, hg, hn, hm, hs, hc⟩
  · injection e with e1 e2 e3
    subst e3 h2; simp
  · injection e with e1 e2 e3
    subst e3
    unfold maxLen at hm
    exact ⟨hn, by omega⟩
theorem rrow_drop {w : World} {S b o cap k : Nat} {ys : List Int} (hk : k < ys.length) (h1 : ys.length ≤ cap) (h2 : cap ≤ 9223372036854775807) (hb : b < S) (hc : ∀ i, i < ys.length → w.cell? ⟨b, o + i, none⟩ = some (.int .u64 (ys.getD i 0))) :
    RRow w S (.slice (some ⟨b, o + (k + 1), none⟩) (ys.length - (k + 1)) (cap - (k + 1))) (ys.drop (k + 1)) := by
  have hl : (ys.drop (k + 1)).length = ys.length - (k + 1) := List.length_drop
  refine ⟨some ⟨b, o + (k + 1), none⟩, cap - (k + 1), by rw [hl], by rw [hl]; omega, by omega, fun h0 => ⟨b, o + (k + 1), rfl, hb, fun i hi => ?_⟩⟩
  rw [hl] at hi
  rw [Nat.add_assoc, hc (k + 1 + i) (by omega)]
  simp [List.getD]
theorem rrow_end {w : World} {S b o cap k : Nat} {ys : List Int} (hk : k < ys.length) (h1 : ys.length ≤ cap) (he : cap = k + 1) :
    RRow w S (.slice (some ⟨b, o, none⟩) (ys.length - (k + 1)) 0) (ys.drop (k + 1)) := by
  have hl : (ys.drop (k + 1)).length = ys.length - (k + 1) := List.length_drop
  refine ⟨some ⟨b, o, none⟩, 0, by rw [hl], by rw [hl]; omega, by omega, fun h0 => ?_⟩
  rw [hl] at h0
  omega
theorem slice_from (b o n c l : Nat) (h1 : l ≤ n) (W : World) : (Instr.sliceAt 30 (.slice (some ⟨b, o, none⟩) n c) (some (.int .i64 ((l : Nat) : Int))) none none).run Try.prog W = .ok (.slice (some (if c = l then ⟨b, o, none⟩ else ⟨b, o + l, none⟩)) (n - l) (c - l)) W := by
  have hs : (sizeOf (Try.prog.elem 30)).run Try.prog W = .ok 1 W := by kernel_rfl
  have ht : Try.prog.underlying 30 = some (.slice (Try.prog.elem 30)) := by kernel_rfl
  refine (run_sliceAt_slice W 30 _ _ _ _ ht).trans ?_
  refine (run_slice_l W 30 _ _ _ ht _ _ (by omega) (by omega)).trans ?_
  rw [hs]
  simp only [Result.andThen, sliced, Int.toNat_natCast, Nat.mul_one]
  by_cases h : c = l
  · rw [if_pos h, if_pos h]
  · rw [if_neg h, if_neg h]; simp [Addr.add]
/-- the rest behind one set. -/
theorem rest_from {w : World} {S b o cap k : Nat} {ys : List Int} (hk : k < ys.length) (h0 : ys.length ≤ 100000) (h1 : ys.length ≤ cap) (h2 : cap ≤ 9223372036854775807) (hb : b < S) (hc : ∀ i, i < ys.length → w.cell? ⟨b, o + i, none⟩ = some (.int .u64 (ys.getD i 0))) :
    ∃ sv, (∀ W : World, (Instr.sliceAt 30 (.slice (some ⟨b, o, none⟩) ys.length cap) (some (.int .i64 (IntKind.i64.wrap ((k : Int) + 1)))) none none).run Try.prog W = .ok sv W) ∧ RRow w S sv (ys.drop (k + 1)) := by
  refine ⟨.slice (some (if cap = k + 1 then ⟨b, o, none⟩ else ⟨b, o + (k + 1), none⟩)) (ys.length - (k + 1)) (cap - (k + 1)), fun W => ?_, ?_⟩
  · rw [show IntKind.i64.wrap ((k : Int) + 1) = ((k + 1 : Nat) : Int) by rw [IntKind.wrap_i64]; omega]
    exact slice_from b o ys.length cap (k + 1) (by omega) W
  · by_cases h : cap = k + 1
    · rw [if_pos h, show cap - (k + 1) = 0 by omega]; exact rrow_end hk h1 h
    · rw [if_neg h]; exact rrow_drop hk h1 h2 hb hc
/-- what the closure leaves. -/
def FlPost (B bl bk bc kk : Nat) (L : List Int) (o : Option (List Int)) (w : World) (e : Ending) (w' : World) : Prop :=
  e = .returned (.bool o.isSome) ∧ (∃ v, FlV w' B bl bk bc kk v (o.getD L)) ∧ Below B w w'
theorem one_srow (w : World) (x : Int) : SRow (w.alloc (.cells #[.int .u64 x] 42)) (w.alloc (.cells #[.int .u64 x] 42)).heap.size (.slice (some ⟨w.heap.size, 0, none⟩) 1 1) [x] := by
  refine ⟨_, 1, rfl, fun _ => ⟨w.heap.size, 0, rfl, by simp, fun i hi => ?_⟩⟩
  simp at hi
  subst hi
  exact cell_new _ _ _
/-- what the closure does, with d leaves to come. -/
def ComplAt (B bl bk bc kk d : Nat) : Prop := ∀ (ys L : List Int) (lv : Value) (S : Nat) (w : World), L.length + d = kk → (∃ v, FlV w B bl bk bc kk v L) → RRow w S lv ys → S ≤ B → ys.length ≤ 256 → (∀ z ∈ ys, 0 ≤ z ∧ z < 256) → (∀ z ∈ L, 0 ≤ z ∧ z < 256) →
    Calls Try.prog 31 #[lv, .pointer (some ⟨bl, 0, none⟩), .pointer (some ⟨bk, 0, none⟩), .pointer (some ⟨bc, 0, none⟩)] w (FlPost B bl bk bc kk L (srch pkB d ys L) w)
set_option maxHeartbeats 8000000 in
theorem compl_zero (B bl bk bc kk : Nat) : ComplAt B bl bk bc kk 0 := fun ys L lv S w hd hF hx hS hl hz hzL => by
  obtain ⟨v, hV⟩ := hF
  obtain ⟨a, c, rfl⟩ := hV.own.form
  obtain ⟨l0, k0, c0, f0⟩ := hV.cells
  obtain ⟨a1, c1, rfl, _⟩ := hx
  have hLk : L.length = kk := by omega
  have hbq : (((L.length : Nat) : Int) == ((kk : Nat) : Int)) = true := by simp [hLk]
  have hres : srch pkB 0 ys L = some L := rfl
  rw [hres]
  replace hLk := Lib.hid hLk
  replace hV := Lib.hid hV
  replace hz := Lib.hid hz
  replace hzL := Lib.hid hzL
  clear hd
  go_enter Try.func31, Try.ntmps31
  go_wp2_with fail
  go_ret
  exact ⟨rfl, ⟨_, hV.out⟩, Below.refl _ _⟩
set_option maxRecDepth 20000 in
set_option maxHeartbeats 8000000 in
theorem compl_step (B bl bk bc kk d : Nat) (hkk : kk ≤ 4) (ih : ComplAt B bl bk bc kk d) : ComplAt B bl bk bc kk (d + 1) := fun ys L lv S w hd hF hx hS hl hz hzL => by
  obtain ⟨v, hV⟩ := hF
  obtain ⟨a0, c0, rfl⟩ := hV.own.form
  obtain ⟨l0, k0, cc0, f0⟩ := hV.cells
  obtain ⟨ra, rc, rfl, r1, r2, r3⟩ := hx
  have hbq : (((L.length : Nat) : Int) == ((kk : Nat) : Int)) = false := by simp; omega
  have hLk : ¬ (((L.length : Nat) : Int) = ((kk : Nat) : Int)) := by omega
  obtain ⟨R0, hR0⟩ : ∃ R0, srch pkB (d + 1) ys L = R0 := ⟨_, rfl⟩
  have hstart := Lib.hid (show R0 = stepS (srch pkB d) pkB L (ys.drop 0) from hR0.symm)
  rw [hR0]
  have hLd : Hid (L.length + (d + 1) = kk) := Lib.hid hd
  have hL4 : L.length ≤ 4 := by omega
  have hF0 := Lib.hid (show ∃ v, FlV w B bl bk bc kk v L from ⟨_, hV⟩)
  replace hR0 := Lib.hid hR0
  replace hV := Lib.hid hV
  replace hz := Lib.hid hz
  replace hzL := Lib.hid hzL
  replace r3 := Lib.hid r3
  replace ih := Lib.hid ih
  have r1i : ((ys.length : Nat) : Int) ≤ (rc : Nat) := by omega
  clear hd
  go_enter Try.func31, Try.ntmps31
  go_wp2_with fail
  go_loopw [14] (fun q wr => ∃ k : Nat, k ≤ ys.length ∧ q = .int .i64 k ∧ Hid (∃ v, FlV wr B bl bk bc kk v L) ∧ Hid (Below B w wr) ∧ Hid (R0 = stepS (srch pkB d) pkB L (ys.drop k))) (fun q _ => ys.length - (intOf q).toNat)
  case atStart => exact ⟨0, by omega, rfl, hF0, Lib.hid (Below.refl _ _), hstart⟩
  case round =>
    obtain ⟨k, hk, rfl, hFr, hbel, hres⟩ := hrel
    obtain ⟨v, hVr⟩ := hFr.out
    obtain ⟨a, c, rfl⟩ := hVr.own.form
    by_cases hlt : k < ys.length
    · obtain ⟨b1, o1, rfl, t1, cc⟩ := r3.out (by omega)
      have k1 : (0 : Int) ≤ (k : Int) := by omega
      have k2 : (k : Int) < (ys.length : Nat) := by omega
      have k3 : (k : Int) + 1 ≤ (ys.length : Nat) := by omega
      have hcc : ∀ i, i < ys.length → wr.cell? ⟨b1, o1 + i, none⟩ = some (.int .u64 (ys.getD i 0)) := fun i hi => (hbel.out.cell (p := ⟨b1, o1 + i, none⟩) (show b1 < B by omega)).trans (cc i hi)
      have e1 := hcc k hlt
      obtain ⟨x, hx⟩ : ∃ x, ys.getD k 0 = x := ⟨_, rfl⟩
      have hxb : 0 ≤ x ∧ x < 256 := hz.out x (by rw [← hx]; exact getD_mem hlt)
      rw [hx] at e1
      obtain ⟨l0, k0, cc0, f0⟩ := hVr.cells
      have hba := (Below.refl wr.heap.size wr).alloc (Nat.le_refl _) (.cells #[.int .u64 x] 42)
      have hVa := hVr.below hba (Nat.le_refl _)
      have hone := Lib.hid (one_srow wr x)
      have hLx : ∀ z ∈ L ++ [x], 0 ≤ z ∧ z < 256 := fun z h => by
        rcases List.mem_append.1 h with h | h
        · exact hzL.out z h
        · simp at h; subst h; exact hxb
      have hlen : L.length ≤ 100000 := by omega
      have hlen2 : [x].length ≤ 100000 := by simp
      have hB1 : B ≤ (wr.alloc (.cells #[.int .u64 x] 42)).heap.size := hVa.sz
      have hown := Lib.hid hVa.own
      replace hVa := Lib.hid hVa
      replace hx := Lib.hid hx
      replace hVr := Lib.hid hVr
      replace hcc := Lib.hid hcc
      replace hLx := Lib.hid hLx
      replace hxb := Lib.hid hxb
      replace hba := Lib.hid hba
      clear cc
      go_wp2_with (at_builtin; refine app_sets rfl _ _ rfl B _ L rfl hown.out (some ⟨wr.heap.size, 0, none⟩) 1 _ [x] rfl hone.out hlen hlen2 hB1 ?_; intro v1 w1 hS1 hg1; obtain ⟨a1, c1, rfl⟩ := hS1.form; have l1 : w1.cell? ⟨bl, 0, none⟩ = some (.slice a L.length c) := (by rw [cell_of_row w1 bl 0 _ 30 (0, 0) ((hg1.block bl (heap_lt hVa.out.hl) (fun e => own_ne hVa.out.own hVa.out.hl (by decide) e.symm)).trans hVa.out.hl)]; rfl); have f1 : w1.frozen? ⟨bl, 0, none⟩ = false := frozen_of ((hg1.block bl (heap_lt hVa.out.hl) (fun e => own_ne hVa.out.own hVa.out.hl (by decide) e.symm)).trans hVa.out.hl) 0; replace hS1 := Lib.hid hS1; replace hg1 := Lib.hid hg1)
      obtain ⟨W3, hW3⟩ : ∃ W3, w1.setCell ⟨bl, 0, none⟩ (.slice a1 (L.length + 1) c1) = W3 := ⟨_, rfl⟩
      have hS2 : SetL w1 B (.slice a1 (L.length + 1) c1) (L ++ [x]) := by have := hS1.out; rwa [List.length_append, List.length_singleton] at this
      have hF3 : FlV W3 B bl bk bc kk (.slice a1 (L.length + 1) c1) (L ++ [x]) := by rw [← hW3]; exact hVa.out.put hg1.out hS2
      have hb3 := Lib.hid (show Below B w W3 by rw [← hW3]; exact below_setCell (below_grow (hbel.out.alloc hVr.out.sz _) hg1.out hVa.out.own hB1) hVr.out.lo _)
      have hfl := fun n => flower_at _ (L ++ [x]) _ (W3.drewN n) (hF3.drewN n).own.rrow (by simp) (by simp; omega) hLx.out
      rw [hW3]
      obtain ⟨sc1, sc2⟩ := set_sub hF3.own
      rw [List.length_append, List.length_singleton] at sc1
      have hpk : pkB L x = flowB (L ++ [x]) := rfl
      replace hF3 := Lib.hid hF3
      replace hW3 := Lib.hid hW3
      clear hS1 hS2 hg1 l1 f1 hone
      rcases (by cases flowB (L ++ [x]) <;> simp : flowB (L ++ [x]) = true ∨ flowB (L ++ [x]) = false) with hp | hp
      · rw [hp] at hfl hpk
        have hmiss := fun hg => hres.out.trans (step_miss hlt hx.out hpk hg)
        have hhit := fun R hg => hres.out.trans (step_hit (R := R) hlt hx.out hpk hg)
        have hFd : FlV W3.drew B bl bk bc kk (.slice a1 (L.length + 1) c1) (L ++ [x]) := hF3.out.drew
        have hfq := flower_at _ (L ++ [x]) _ W3.drew hFd.own.rrow (by simp) (by simp; omega) hLx.out
        rw [hp] at hfq
        have hcd : ∀ i, i < ys.length → W3.drew.cell? ⟨b1, o1 + i, none⟩ = some (.int .u64 (ys.getD i 0)) := fun i hi => (hb3.out.drew.cell (p := ⟨b1, o1 + i, none⟩) (show b1 < B by omega)).trans ((hbel.out.cell (p := ⟨b1, o1 + i, none⟩) (show b1 < B by omega)).symm.trans (hcc.out i hi))
        obtain ⟨sv, hsl, hr1⟩ := rest_from hlt (by omega) r1 r2 t1 hcd
        have hrec := fun lv' hr => ih.out (ys.drop (k + 1)) (L ++ [x]) lv' S W3.drew (by have := hLd.out; simp; omega) ⟨_, hFd⟩ hr hS (by simp; omega) (fun z h => hz.out z (List.mem_of_mem_drop h)) hLx.out
        obtain ⟨o, ho⟩ : ∃ o, srch pkB d (ys.drop (k + 1)) (L ++ [x]) = o := ⟨_, rfl⟩
        rw [ho] at hmiss hrec
        have hhit' := fun R (h : o = some R) => hhit R (ho.trans h)
        replace ho := Lib.hid ho
        replace hfq := Lib.hid hfq
        replace hrec := Lib.hid hrec
        replace hrec := Lib.hid (hrec.out _ hr1)
        replace hr1 := Lib.hid hr1
        replace hsl := hsl W3.drew
        replace hcd := Lib.hid hcd
        replace hp := Lib.hid hp
        replace hpk := Lib.hid hpk
        replace hmiss := Lib.hid hmiss
        replace hhit := Lib.hid hhit'
        obtain ⟨l3, k3', cc3, f3⟩ := hF3.out.cells
        replace cc3 : W3.cell? ⟨bc, 0, none⟩ = some (.func (.func 31) #[] #[.pointer (some ⟨bl, 0, none⟩), .pointer (some ⟨bk, 0, none⟩), .pointer (some ⟨bc, 0, none⟩)]) := cc3
        replace hFd := Lib.hid hFd
        clear hfl hhit'
        cases o with
        | none =>
          have hrec' : Calls Try.prog 31 #[sv, .pointer (some ⟨bl, 0, none⟩), .pointer (some ⟨bk, 0, none⟩), .pointer (some ⟨bc, 0, none⟩)] W3.drew fun e w' => e = .returned (.bool false) ∧ (∃ v, FlV w' B bl bk bc kk v (L ++ [x])) ∧ Below B W3.drew w' := hrec.out
          replace hrec := Lib.hid hrec'
          have hnx := Lib.hid (hmiss.out rfl)
          clear hrec'
          go_wp2_with fail
          go_region_with (first
            | (go_at_call 32; (with_reducible refine hfq.out.mono ?_); rintro e w' ⟨rfl, rfl⟩)
            | (go_at_call 31; (with_reducible refine hrec.out.mono ?_); rintro e w5 ⟨rfl, hF5, hb5⟩))
          all_goals
            obtain ⟨v5, hV5⟩ := hF5
            obtain ⟨a5, c5, rfl⟩ := hV5.own.form
            rw [List.length_append, List.length_singleton] at hV5
            obtain ⟨l5, k5, cc5, f5⟩ := hV5.cells
            obtain ⟨s51, s52⟩ := set_sub hV5.own
            rw [List.length_append, List.length_singleton] at s51
            have hF6 := Lib.hid (hV5.put (grown_refl w5 _) (set_cut (L := L) (x := x) (by rw [List.length_append, List.length_singleton]; exact hV5.own)))
            have hb6 := Lib.hid (below_setCell (hb3.out.drew.trans hb5) (p := ⟨bl, 0, none⟩) hV5.lo (.slice a5 L.length c5))
            replace hV5 := Lib.hid hV5
            replace hb5 := Lib.hid hb5
            go_wp2_with fail
            go_roundw
            case rel => exact ⟨k + 1, by omega, by go_num, Lib.hid ⟨_, hF6.out⟩, hb6, hnx⟩
            case measure => simp [intOf]; omega
        | some R =>
          have hrec' : Calls Try.prog 31 #[sv, .pointer (some ⟨bl, 0, none⟩), .pointer (some ⟨bk, 0, none⟩), .pointer (some ⟨bc, 0, none⟩)] W3.drew fun e w' => e = .returned (.bool true) ∧ (∃ v, FlV w' B bl bk bc kk v R) ∧ Below B W3.drew w' := hrec.out
          replace hrec := Lib.hid hrec'
          have hR := Lib.hid (hhit.out R rfl)
          clear hrec'
          go_wp2_with fail
          go_region_with (first
            | (go_at_call 32; (with_reducible refine hfq.out.mono ?_); rintro e w' ⟨rfl, rfl⟩)
            | (go_at_call 31; (with_reducible refine hrec.out.mono ?_); rintro e w5 ⟨rfl, hF5, hb5⟩))
          all_goals
            have hfin := Lib.hid (show FlPost B bl bk bc kk L R0 w (.returned (.bool true)) w5 by rw [hR.out]; exact ⟨rfl, hF5, hb3.out.drew.trans hb5⟩)
            replace hF5 := Lib.hid hF5
            replace hb5 := Lib.hid hb5
            go_wp2_with fail
            go_ret
            exact hfin.out
      · rw [hp] at hfl hpk
        have hnx := Lib.hid (hres.out.trans (step_no hlt hx.out hpk))
        have hfq : ∀ n, Calls Try.prog 32 #[.slice a1 (L.length + 1) c1] (W3.drewN n) fun e w' => e = .returned (.bool false) ∧ w' = W3.drewN n := fun n => (hfl n).mono fun _ _ h => ⟨h.1, h.2.symm⟩
        replace hfq := Lib.hid hfq
        replace hp := Lib.hid hp
        replace hpk := Lib.hid hpk
        obtain ⟨l3, k3', cc3, f3⟩ := hF3.out.cells
        clear hfl
        go_wp2_with fail
        go_quiet ((go_at_call 32; exact Calls.quiet_of_same (hfq.out _)))
        obtain ⟨W4, hW4⟩ : ∃ W4, W3.drewN nq = W4 := ⟨_, rfl⟩
        have hF4 : FlV W4 B bl bk bc kk (.slice a1 (L.length + 1) c1) (L ++ [x]) := by rw [← hW4]; exact hF3.out.drewN nq
        have hb4 := Lib.hid (show Below B w W4 by rw [← hW4]; exact below_drewN hb3.out nq)
        obtain ⟨l4, k4, cc4, f4⟩ := hF4.cells
        have hF5 := Lib.hid (hF4.put (grown_refl W4 _) (set_cut (L := L) (x := x) (by rw [List.length_append, List.length_singleton]; exact hF4.own)))
        have hb5 := Lib.hid (below_setCell hb4.out (p := ⟨bl, 0, none⟩) hF4.lo (.slice a1 L.length c1))
        rw [hW4]
        replace hF4 := Lib.hid hF4
        replace hW4 := Lib.hid hW4
        go_wp2_with fail
        go_roundw
        case rel => exact ⟨k + 1, by omega, by go_num, Lib.hid ⟨_, hF5.out⟩, hb5, hnx⟩
        case measure => simp [intOf]; omega
    · have hR : R0 = none := by rw [hres.out]; exact step_none _ _ _ (by omega)
      have hfin := Lib.hid (show FlPost B bl bk bc kk L R0 w (.returned (.bool false)) wr by rw [hR]; exact ⟨rfl, ⟨_, hVr⟩, hbel.out⟩)
      replace hR := Lib.hid hR
      replace hVr := Lib.hid hVr
      go_wp2_with fail
      go_ret
      exact hfin.out
theorem compl_at (B bl bk bc kk : Nat) (hkk : kk ≤ 4) : ∀ d, ComplAt B bl bk bc kk d
  | 0 => compl_zero B bl bk bc kk
  | d + 1 => compl_step B bl bk bc kk d hkk (compl_at B bl bk bc kk hkk d)
end Go.Proofs.Ytilkcfikmlkeaaa
