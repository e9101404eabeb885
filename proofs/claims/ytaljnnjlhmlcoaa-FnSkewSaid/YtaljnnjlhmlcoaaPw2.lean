/- What the drawn pairs are. -/
import Derived.Test.YtaljnnjlhmlcoaaPw1
import Derived.Test.YtaljnnjlhmlcoaaIs3
import Derived.Test.YtaljnnjlhmlcoaaDraw
import Derived.Test.YtaljnnjlhmlcoaaSpec7
import Derived.Deep.AppendLies
import Derived.RegionTactic
namespace Go.Proofs.Ytaljnnjlhmlcoaa
open Go.ChangeShapes Go.WideShapes Go.ChangeAt Go.RowKit Go.Proofs

theorem step_app_int_at {w : World} {ops : Array Oper} {o : Oper} {a : Act} {K : Act → World → Prop} {Q : Exit → Act → World → Prop} {E : Prop} (hgd : o.guard = none) (s x : Operand)
    (ho : o.op = .call { callee := .builtin .append, args := #[s, x], argTypes := #[25, 25] })
    (B : Nat) (v : Value) (xs : List Int) (hs : a.eval s = v) (hown : OwnL w B v xs) (y : Int) (b : Nat) (hx : a.eval x = .slice (some ⟨b, 0, none⟩) 1 1) (hcell : w.cell? ⟨b, 0, none⟩ = some (.int .i64 y))
    (hlen : xs.length ≤ 1073741824) (hB : B ≤ w.heap.size)
    (h : ∀ v' w', OwnL w' B v' (xs ++ [y]) → w.grownBy w' v.ownBlock → (v'.ownBlock = v.ownBlock ∨ v'.ownBlock = some w.heap.size) → K (a.put o.dst v') w') : if Region.wanted o (yielded ops a.tmps) = true then Oper.wp Try.prog o a w K Q else E := by
  obtain ⟨i0, hi, hz0, hz1, hz2⟩ := info_parts Try.intInfo
  refine step_append_lies w hgd s x 25 ho B 3 i0 (.int .i64 0) 1 8 Try.underlying25 hi hz0 hz1 hz2 rfl (by decide) v xs.length (iv xs) hs hown ⟨b, 0, none⟩ 1 1 [.int .i64 y] hx rfl ?_ (by simp [Value.oneCell']) (by omega) (by unfold maxLen; omega) (by omega) hB w.heap.size rfl ?_
  · intro j u hu
    cases j with
    | zero => simp at hu; subst hu; simpa [Addr.add] using hcell
    | succ j => simp at hu
  · intro g cap w' hown' hg hat _
    refine h _ w' ?_ hg ?_
    · unfold OwnL
      simpa [iv] using hown'
    · rcases hat with e | e
      · exact .inl e.symm
      · right; rw [e]; rfl
theorem own_kept {w w' : World} {B : Nat} {u v : Value} {xs : List Int} (h : OwnL w B u xs) (hg : w.grownBy w' v.ownBlock) (hne : ∀ g, u.ownBlock = some g → v.ownBlock ≠ some g) : OwnL w' B u xs := by
  have hlt := World.ownsRow.lt h
  refine ⟨h.1, ?_⟩
  rcases h.2 with hn | ⟨g, cap, cur, rfl, hB, hg0, rest⟩
  · exact .inl hn
  · refine .inr ⟨g, cap, cur, rfl, hB, ?_, rest⟩
    rw [hg.block g (hlt g rfl).2 (fun e => hne g rfl e.symm)]
    exact hg0
theorem own_lt {w : World} {B g : Nat} {v : Value} {xs : List Int} (h : OwnL w B v xs) (e : v.ownBlock = some g) : B ≤ g ∧ g < w.heap.size := World.ownsRow.lt h g e
/-- two lists that lie apart. -/
def Two (u v : Value) : Prop := ∀ g, u.ownBlock = some g → v.ownBlock ≠ some g
theorem Two.symm {u v : Value} (h : Two u v) : Two v u := fun g e e2 => h g e2 e
theorem Apart.only {w w' : World} {a : Option Addr} {v : Value} {b o r : Nat} {xs : List Int} (h : Apart w a v b o xs) (ho : Only r w w') (hr : 0 < xs.length → b ≠ r) : Apart w' a v b o xs := fun h0 => by
  obtain ⟨h1, h2, h3, h4⟩ := h h0
  refine ⟨h1, h2, Nat.lt_of_lt_of_le h3 ho.size, fun i hi => ?_⟩
  have e := ho.block b h3 (fun e => hr h0 (by injection e))
  have h5 := h4 i hi
  simp only [World.cell?, e] at h5 ⊢
  exact h5
theorem Apart.below {w w' : World} {a : Option Addr} {v : Value} {b o B : Nat} {xs : List Int} (h : Apart w a v b o xs) (hb : Below B w w') (hB : w.heap.size ≤ B) : Apart w' a v b o xs := fun h0 => by
  obtain ⟨h1, h2, h3, h4⟩ := h h0
  exact ⟨h1, h2, Nat.lt_of_lt_of_le h3 hb.size, cells_below h4 hb (by omega)⟩
/-- behind an append to v: its own new value, and that of another list. -/
theorem Apart.grown {w w' : World} {a : Option Addr} {v v' : Value} {b o : Nat} {xs : List Int} (h : Apart w a v b o xs) (hg : w.grownBy w' v.ownBlock) (hat : v'.ownBlock = v.ownBlock ∨ v'.ownBlock = some w.heap.size) : Apart w' a v' b o xs := fun h0 => by
  obtain ⟨h1, h2, h3, h4⟩ := h h0
  refine ⟨h1, fun e => ?_, Nat.lt_of_lt_of_le h3 hg.size, cells_kept h4 h3 hg h2⟩
  rcases hat with h | h
  · exact h2 (h.symm.trans e)
  · rw [h] at e; injection e with e; omega
theorem Apart.other {w w' : World} {a : Option Addr} {u v : Value} {b o : Nat} {xs : List Int} (h : Apart w a u b o xs) (hv : Apart w a v b o xs) (hg : w.grownBy w' v.ownBlock) : Apart w' a u b o xs := fun h0 => by
  obtain ⟨h1, h2, h3, h4⟩ := h h0
  exact ⟨h1, h2, Nat.lt_of_lt_of_le h3 hg.size, cells_kept h4 h3 hg (hv h0).2.1⟩
theorem Two.grown {w : World} {B : Nat} {u v v' : Value} {xs : List Int} (h : Two u v) (hu : OwnL w B u xs) (hat : v'.ownBlock = v.ownBlock ∨ v'.ownBlock = some w.heap.size) : Two u v' := fun g e e2 => by
  rcases hat with k | k
  · exact h g e (k.symm.trans e2)
  · rw [k] at e2; injection e2 with e2
    have := (own_lt hu e).2
    omega
/-- what the drawing leaves. -/
def DrawnPairs (w : World) (e : Ending) (w' : World) : Prop := ∃ (n : Int) (va vb : Value) (xs zs : List Int), e = .returned (.tuple #[.int .i64 n, va, vb]) ∧ Drawn n xs zs ∧ Row w' w'.heap.size va xs ∧ Row w' w'.heap.size vb zs ∧ Below w.heap.size w w'
/-- a slice's length is at most its capacity. -/
def CapOk (v : Value) : Prop := ∀ a n c, v = .slice a n c → n ≤ c ∧ c ≤ maxLen
theorem OwnL.capOk {w : World} {B : Nat} {v : Value} {xs : List Int} (h : OwnL w B v xs) : CapOk v := fun a n c e => by
  rcases h.2 with ⟨hv, _⟩ | ⟨g, cap, cur, hv, _, _, h1, h2, _⟩
  · rw [hv] at e; injection e with _ e2 e3; subst e2 e3; exact ⟨Nat.le_refl _, Nat.zero_le _⟩
  · rw [hv] at e; injection e with _ e2 e3; subst e2 e3; exact ⟨h1, h2⟩
def DrawnPairsC (w : World) (e : Ending) (w' : World) : Prop := ∃ (n : Int) (va vb : Value) (xs zs : List Int), e = .returned (.tuple #[.int .i64 n, va, vb]) ∧ Drawn n xs zs ∧ Row w' w'.heap.size va xs ∧ Row w' w'.heap.size vb zs ∧ Below w.heap.size w w' ∧ CapOk va ∧ CapOk vb
theorem DrawnPairsC.plain {w w' : World} {e : Ending} (h : DrawnPairsC w e w') : DrawnPairs w e w' := by
  obtain ⟨n, va, vb, xs, zs, h1, h2, h3, h4, h5, _⟩ := h
  exact ⟨n, va, vb, xs, zs, h1, h2, h3, h4, h5⟩
theorem row_set {w : World} {B b o n c : Nat} {zs : List Int} (h : OwnL w B (.slice (some ⟨b, o, none⟩) n c) zs) (h0 : 0 < zs.length) (t : Int) : w.frozen? ⟨b, o, none⟩ = false ∧ (∃ u, w.cell? ⟨b, o, none⟩ = some u) ∧ Row (w.setCell ⟨b, o, none⟩ (.int .i64 t)) w.heap.size (.slice (some ⟨b, o, none⟩) n c) (zs.set 0 t) := by
  obtain ⟨a', c', e, hc⟩ := h.own
  injection e with e1 e2 e3
  subst e1 e2 e3
  obtain ⟨b', off, e, _, h2, h3, h4⟩ := hc h0
  injection e with e
  injection e with e1 e2
  subst e1 e2
  have c0 := h3 0 h0
  have f0 := h4 0 h0
  rw [Nat.add_zero] at c0 f0
  refine ⟨f0, ⟨_, c0⟩, some ⟨b, o, none⟩, c, by rw [List.length_set], fun _ => ⟨b, o, rfl, h2, fun i hi => ?_⟩⟩
  rw [List.length_set] at hi
  by_cases hi0 : i = 0
  · subst hi0
    rw [Nat.add_zero, World.cell?_setCell_same _ _ _ c0]
    simp [List.getD, h0]
  · rw [World.cell?_setCell_other _ _ _ _ (by intro e; injection e with e1 e2; omega), h3 i hi]
    simp [List.getD, show ¬ 0 = i by omega]
end Go.Proofs.Ytaljnnjlhmlcoaa
