/- Shadows: shadow.below. -/
import Derived.Test.YtcejbebepjkpnaaDoorShm
import Derived.Test.YtcejbebepjkpnaaDoorDefs
namespace Go.Proofs.YtcejbebepjkpnaaDoor
open Go.ChangeShapes Go.WideShapes Go.ChangeAt Go.RowKit Go.Proofs Go.Shelf Go.Maps
attribute [local go_sem] Oper.semAt_some

theorem wpListIn_clear {F : Fence} {nF : Nat} {ops : Array Oper} {rest : List Oper} {o : Oper} {a : Act} {Q : Exit → Act → World → Prop} (w : World) (hg : o.guard = none) (m : Operand) (hop : o.op = Op.call { callee := Callee.builtin Builtin.clear, args := #[m], argTypes := #[58] })
    (b n : Nat) (l : List Int) (hm : a.eval m = .map (some b)) (hown : MapS w b n l)
    (hK : ∀ w', MapS w' b 0 [] → w.grownBy w' (some b) → wpListIn F nF Tryd.prog ops Q rest (a.put o.dst (.tuple #[])) w') :
    wpListIn F nF Tryd.prog ops Q (o :: rest) a w := by
  refine wpListIn_plain hg fun K' hK' => ?_
  obtain ⟨w', hrun, r1, r2⟩ := hown.clear o.type
  unfold Oper.wpIn
  refine ⟨by simp [Oper.about, hop, resolve, Target.leads, Sem.run_pure], ?_⟩
  rw [Oper.semAt_plain F _ _ (by rw [hop]; intro c hc'; cases hc')]
  simp [execOp, hop, resolve, invoke, builtin, hm, hrun, Result.andThen]
  exact hK' _ _ (hK w' r1 r2)
theorem SRow.grown {w w' : World} {S b n : Nat} {lv : Value} {xs l : List Int} (hx : SRow w S lv xs) (hg : w.grownBy w' (some b)) (hm : MapS w b n l) (hS : S ≤ w.heap.size) : SRow w' S lv xs := by
  obtain ⟨a, cap, rfl, ha⟩ := hx
  refine ⟨a, cap, rfl, fun h0 => ?_⟩
  obtain ⟨b1, o1, rfl, s1, c1⟩ := ha h0
  refine ⟨b1, o1, rfl, s1, fun i hi => ?_⟩
  rw [← c1 i hi]
  have hne : b1 ≠ b := by
    intro e
    subst e
    obtain ⟨D, ⟨es, clock, hb, _⟩, _⟩ := hm
    have := c1 i hi
    simp [World.cell?, hb] at this
  simp only [World.cell?]
  rw [hg.block b1 (by omega) (by simpa using hne)]
/-- the sets with one point less. -/
def dnL (xs : List Int) : List Int := xs.flatMap fun x => (ptsI x).map fun p => lessI x p
theorem dnL_step {xs : List Int} {k : Nat} (hk : k < xs.length) {x : Int} (hx : xs.getD k 0 = x) : dnL (xs.take (k + 1)) = dnL (xs.take k) ++ (ptsI x).map fun p => lessI x p := by
  unfold dnL; rw [take_snoc hk, hx, List.flatMap_append]; simp
theorem less_in : ∀ s : Fin 256, ∀ p : Fin 8, 0 ≤ lessI s.val p.val ∧ lessI s.val p.val < 256 := by decide +kernel
/-- what a shadow leaves. -/
def ShaPost (w : World) (b : Nat) (ys : List Int) (e : Ending) (w' : World) : Prop := ∃ v, e = .returned (.agg #[v, (Value.func (.func 68) #[] #[])]) ∧ SetL w' w.heap.size v ys ∧ w.grownBy w' (some b) ∧ ∃ n' l', MapS w' b n' l'
/-- between two puts: of the world w nothing has turned but block b, a map of the sets l; the call's own boxes. -/
def ShW (w : World) (b : Nat) (l : List Int) (m : Nat) (W : World) : Prop := w.grownBy W (some b) ∧ W.heap[w.heap.size]? = some (.cells #[.map (some b)] 58 (0, 0)) ∧ W.heap[w.heap.size + 1 + 1]? = some (.cells #[.slice none 0 0, .nilFunc] 48 (0, 0)) ∧ ∃ nn, nn ≤ m ∧ MapS W b nn l
theorem ShW.own {β : Type} (w : World) (b : Nat) (f : β → List Int) (g : β → Nat) (B' : Nat) (hb : b < w.heap.size) (hB : w.heap.size ≤ B') : OwnFrom B' (fun s W => ShW w b (f s) (g s) W) := by
  rintro s W W' row ⟨h1, h2, h3, nn, h4, h5⟩ hg hr
  have hne : ∀ (k : Nat) cs t z, W.heap[k]? = some (.cells cs t z) → some k ≠ row := fun k cs t z hk e => by
    obtain ⟨_, o, ho, hc⟩ := hr k e.symm
    rw [hk] at ho; cases ho; cases hc
  refine ⟨⟨hg.os.trans h1.os, hg.tape.trans h1.tape, hg.output.trans h1.output, Nat.le_trans h1.size hg.size, fun k hk hkb => ?_⟩, ?_, ?_, nn, h4, h5.kept hg (fun e => by have := (hr b e.symm).1; omega)⟩
  · rw [hg.block k (Nat.lt_of_lt_of_le hk h1.size) (fun e => by have := (hr k e.symm).1; omega)]
    exact h1.block k hk hkb
  · rw [hg.block _ (Array.getElem?_eq_some_iff.1 h2).1 (hne _ _ _ _ h2)]; exact h2
  · rw [hg.block _ (Array.getElem?_eq_some_iff.1 h3).1 (hne _ _ _ _ h3)]; exact h3
theorem ShW.alloc {w : World} {b : Nat} {l : List Int} {m : Nat} {W : World} (h : ShW w b l m W) (o : Obj) : ShW w b l m (W.alloc o) := by
  obtain ⟨h1, h2, h3, nn, h4, h5⟩ := h
  have e2 := (Array.getElem?_eq_some_iff.1 h2).1
  have e3 := (Array.getElem?_eq_some_iff.1 h3).1
  refine ⟨⟨h1.os, h1.tape, h1.output, by have := h1.size; simp; omega, fun k hk hkb => ?_⟩, ?_, ?_, nn, h4, h5.alloc o⟩
  · rw [Below.heap_alloc _ _ _ (by have := h1.size; omega)]; exact h1.block k hk hkb
  · rw [Below.heap_alloc _ _ _ e2]; exact h2
  · rw [Below.heap_alloc _ _ _ e3]; exact h3
theorem ShW.drew {w : World} {b : Nat} {l : List Int} {m : Nat} {W : World} (h : ShW w b l m W) : ShW w b l m W.drew := by
  obtain ⟨h1, h2, h3, nn, h4, h5⟩ := h
  exact ⟨⟨h1.os, h1.tape, h1.output, h1.size, h1.block⟩, h2, h3, nn, h4, h5⟩
theorem DefsOK.drew {B : Nat} {ds : List Deferred} {T : Nat} {W : World} (h : DefsOK B ds T W) : DefsOK B ds T W.drew := h.keep fun _ _ e => e
theorem ShW.store {w : World} {b : Nat} {l : List Int} {m : Nat} {W : World} (h : ShW w b l m W) (p : Addr) (v : Value) (hb : b < w.heap.size) (hp : w.heap.size + 1 + 1 < p.block) : ShW w b l m (W.setCell p v) := by
  obtain ⟨h1, h2, h3, nn, h4, D, ⟨es, clock, hb', Ft, hs, hD⟩, hx⟩ := h
  refine ⟨⟨h1.os, h1.tape, h1.output, by simpa [World.setCell] using h1.size, fun k hk hkb => ?_⟩, ?_, ?_, nn, h4, D, ⟨es, clock, ?_, Ft, hs, hD⟩, hx⟩
  · rw [Below.heap_setCell _ _ _ _ (by omega)]; exact h1.block k hk hkb
  · rw [Below.heap_setCell _ _ _ _ (by omega)]; exact h2
  · rw [Below.heap_setCell _ _ _ _ (by omega)]; exact h3
  · rw [Below.heap_setCell _ _ _ _ (by omega)]; exact hb'
theorem ShW.below {w : World} {b : Nat} {l : List Int} {m B : Nat} {W : World} (h : ShW w b l m W) (hB : B ≤ b) (hb : b < w.heap.size) : Below B w W := (Below.refl B w).grown h.1 (by omega) (fun k e => by cases e; exact hB)
theorem ShW.put {w : World} {b : Nat} {l : List Int} {m : Nat} {W : World} (h : ShW w b l m W) (hb : b < w.heap.size) (hm : m ≤ 100000) (z : Int) (hz : (Lit.int .u64 z).wf = true) :
    ∃ w1, (Instr.mapUpdate 58 (.map (some b)) (.int .u64 z) (.bool true)).run Tryd.prog W.drew = .ok () w1 ∧ W.grownBy w1 (some b) ∧ ShW w b (l ++ [z]) (m + 1) w1 := by
  obtain ⟨h1, h2, h3, nn, h4, D, hD, hx⟩ := h
  obtain ⟨w1, hrun, ho, hg⟩ := World.ownsMap.update hD.drew keyedU Tryd.underlying58 (by unfold maxLen; omega) (Maps.keyOf_int_mk Tryd.underlying52 hz) (plainElem_bool (H := Unit) (P := Tryd.prog) (e := 4) Tryd.underlying4 true)
  have hg' : W.grownBy w1 (some b) := ⟨hg.os, hg.tape, hg.output, hg.size, hg.block⟩
  refine ⟨w1, hrun, hg', ⟨hg'.os.trans h1.os, hg'.tape.trans h1.tape, hg'.output.trans h1.output, Nat.le_trans h1.size hg'.size, fun k hk hkb => ?_⟩, ?_, ?_, nn + 1, by omega, MapS.put hD hx z _ ho⟩
  · rw [hg'.block k (Nat.lt_of_lt_of_le hk h1.size) hkb]; exact h1.block k hk hkb
  · rw [hg'.block _ (Array.getElem?_eq_some_iff.1 h2).1 (by simp; omega)]; exact h2
  · rw [hg'.block _ (Array.getElem?_eq_some_iff.1 h3).1 (by simp; omega)]; exact h3
theorem less_wf {x p : Int} (x1 : 0 ≤ x) (x2 : x < 256) (p1 : 0 ≤ p) (p2 : p ≤ 7) : 0 ≤ lessI x p ∧ lessI x p < 256 ∧ (Lit.int .u64 (lessI x p)).wf = true := by
  have h := less_in ⟨x.toNat, by omega⟩ ⟨p.toNat, by omega⟩
  have e1 : ((x.toNat : Nat) : Int) = x := Int.toNat_of_nonneg x1
  have e2 : ((p.toNat : Nat) : Int) = p := Int.toNat_of_nonneg p1
  simp only [e1, e2] at h
  refine ⟨h.1, h.2, ?_⟩
  have m1 : IntKind.u64.min = 0 := by decide +kernel
  have m2 : IntKind.u64.max = 18446744073709551615 := by decide +kernel
  simp only [Lit.wf, m1, m2, Bool.and_eq_true, decide_eq_true_eq]
  omega
/-- at the end: the family lies in the result's cells. -/
def ShE (w : World) (b : Nat) (ys : List Int) (v : Value) (W : World) : Prop := SetL W w.heap.size v ys ∧ W.heap[w.heap.size + 1 + 1]? = some (.cells #[v, (Value.func (.func 68) #[] #[])] 48 (0, 0)) ∧ w.grownBy W (some b) ∧ ∃ n' l', MapS W b n' l'
theorem MapS.putObj {w : World} {b n : Nat} {l : List Int} (h : MapS w b n l) (D : Nat) (o : Obj) (hD : D ≠ b) : MapS (w.putObj D o) b n l := by
  obtain ⟨D0, ⟨es, clock, hb, Ft, hs, hD'⟩, hx⟩ := h
  exact ⟨D0, ⟨es, clock, by rw [World.putObj_heap_other (fun e => hD e.symm)]; exact hb, Ft, hs, hD'⟩, hx⟩
theorem MapS.ne {w : World} {b n D : Nat} {l : List Int} {ls : Option (List Deferred)} (h : MapS w b n l) (hD : w.heap[D]? = some (.deferred ls)) : D ≠ b := by
  obtain ⟨D0, ⟨es, clock, hb, _⟩, _⟩ := h
  rintro rfl
  rw [hb] at hD; cases hD
theorem ShE.mk {w : World} {b : Nat} {l ys : List Int} {m : Nat} {wr w2 : World} {v : Value} (hb : b < w.heap.size) (hW : ShW w b l m wr) (h2 : Below wr.heap.size wr w2) (hS : SetL w2 wr.heap.size v ys) :
    ShE w b ys v ((w2.setCell ⟨w.heap.size + 1 + 1, 0, none⟩ v).setCell ⟨w.heap.size + 1 + 1, 1, none⟩ (Value.func (.func 68) #[] #[])) := by
  obtain ⟨h1, h3, h4, nn, h5, D, ⟨es, clock, hb', Ft, hs, hD⟩, hx⟩ := hW
  have hlt : w.heap.size + 1 + 1 < wr.heap.size := (Array.getElem?_eq_some_iff.1 h4).1
  have h4' : w2.heap[w.heap.size + 1 + 1]? = some (.cells #[.slice none 0 0, .nilFunc] 48 (0, 0)) := (h2.block _ hlt).trans h4
  have s1 := heap_setCell_same w2 (w.heap.size + 1 + 1) 0 #[.slice none 0 0, .nilFunc] 48 v h4'
  have s2 := heap_setCell_same _ (w.heap.size + 1 + 1) 1 _ 48 (Value.func (.func 68) #[] #[]) s1
  refine ⟨((hS.store _ _ (by intro e; have := hS.lt _ e; dsimp only at this; omega)).store _ _ (by intro e; have := hS.lt _ e; dsimp only at this; omega)).mono h1.size, s2, ?_, nn, l, D, ⟨es, clock, ?_, Ft, hs, hD⟩, hx⟩
  · refine ⟨h2.os.trans h1.os, h2.tape.trans h1.tape, h2.output.trans h1.output, by have := h2.size; have := h1.size; simp [World.setCell]; omega, fun k hk hne => ?_⟩
    rw [Below.heap_setCell _ _ _ _ (show k ≠ w.heap.size + 1 + 1 by omega), Below.heap_setCell _ _ _ _ (show k ≠ w.heap.size + 1 + 1 by omega), h2.block k (by have := h1.size; omega)]
    exact h1.block k hk hne
  · rw [Below.heap_setCell _ _ _ _ (show b ≠ w.heap.size + 1 + 1 by omega), Below.heap_setCell _ _ _ _ (show b ≠ w.heap.size + 1 + 1 by omega), h2.block b (by have := h1.size; omega)]
    exact hb'
theorem ShE.putObj {w : World} {b : Nat} {ys : List Int} {v : Value} {W : World} (h : ShE w b ys v W) (D : Nat) (hD : w.heap.size ≤ D) (hd : W.heap[D]? = some (.deferred (some []))) : ShE w b ys v (W.putObj D (.deferred none)) := by
  obtain ⟨hS, hc, hg, n', l', hm⟩ := h
  refine ⟨ownsRow_putObj hS _ hd rfl, ?_, ⟨hg.os, hg.tape, hg.output, by have := hg.size; simp [World.putObj]; omega, fun k hk hne => ?_⟩, n', l', hm.putObj D _ (hm.ne hd)⟩
  · rw [World.putObj_heap_other (fun e => by rw [← e, hc] at hd; cases hd)]; exact hc
  · rw [World.putObj_heap_other (by omega)]; exact hg.block k hk hne
theorem dnL_in {xs : List Int} (h : ∀ x ∈ xs, 0 ≤ x ∧ x < 256) : ∀ z ∈ dnL xs, 0 ≤ z ∧ z < 256 := by
  intro z hz
  obtain ⟨x, hx, hz⟩ := List.mem_flatMap.1 hz
  obtain ⟨p, hp, rfl⟩ := List.mem_map.1 hz
  obtain ⟨x1, x2⟩ := h x hx
  obtain ⟨p1, p2, _⟩ := mem_pts x1 x2 hp
  obtain ⟨l1, l2, _⟩ := less_wf x1 x2 p1 p2
  exact ⟨l1, l2⟩
end Go.Proofs.YtcejbebepjkpnaaDoor
