/- Lists of turns: made by append, read. -/
import Derived.Test.YteikiedffnnceaaTn3
import Derived.Maps.AppendAt
namespace Go.Proofs.Yteikiedffnnceaa
open Go.ChangeShapes Go.WideShapes Go.ChangeAt Go.RowKit Go.Proofs

theorem Try.turnInfo : (Try.prog.info? 44).map (fun i => (i.zero, i.size, i.bytes)) = some (some .nilFunc, 1, 8) := by kernel_rfl
/-- the values of a list are turns. -/
def TurnsV (n : Int) (w : World) (vs : List Value) (φs : List (Int → Int)) : Prop := vs.length = φs.length ∧ ∀ (j : Nat) (v : Value) (φ : Int → Int), vs[j]? = some v → φs[j]? = some φ → ∃ bs, TurnV n v φ bs ∧ Has w bs ∧ NoT bs
theorem TurnsV.nil (n : Int) (w : World) : TurnsV n w [] [] := ⟨rfl, fun j v φ h => by simp at h⟩
theorem TurnsV.snoc {n : Int} {w : World} {vs : List Value} {φs : List (Int → Int)} {v : Value} {φ : Int → Int} {bs : List (Nat × Obj)} (h : TurnsV n w vs φs) (hv : TurnV n v φ bs) (hb : Has w bs) (hn : NoT bs) : TurnsV n w (vs ++ [v]) (φs ++ [φ]) := by
  refine ⟨by simp [h.1], fun j u ψ h1 h2 => ?_⟩
  by_cases hj : j < vs.length
  · rw [List.getElem?_append_left hj] at h1
    rw [List.getElem?_append_left (by rw [← h.1]; exact hj)] at h2
    exact h.2 j u ψ h1 h2
  · rw [List.getElem?_append_right (by omega)] at h1
    rw [List.getElem?_append_right (by rw [← h.1]; omega), ← h.1] at h2
    cases hd : j - vs.length with
    | zero =>
      rw [hd] at h1 h2
      simp at h1 h2
      subst h1 h2
      exact ⟨bs, hv, hb, hn⟩
    | succ d => rw [hd] at h1; simp at h1
theorem TurnsV.below {n : Int} {w W : World} {vs : List Value} {φs : List (Int → Int)} (h : TurnsV n w vs φs) (hb : Below w.heap.size w W) : TurnsV n W vs φs :=
  ⟨h.1, fun j v φ h1 h2 => by obtain ⟨bs, a, b, c⟩ := h.2 j v φ h1 h2; exact ⟨bs, a, b.below hb, c⟩⟩
theorem Has.grown {w W : World} {bs : List (Nat × Obj)} {B m : Nat} {v : Value} {us : List Value} (h : Has w bs) (hn : NoT bs) (hO : w.ownsRow B 44 1 v m us) (hg : w.grownBy W v.ownBlock) : Has W bs := fun p hp => by
  rw [hg.block p.1 (h.lt hp) ?_]
  · exact h p hp
  · intro e
    rcases hO.2 with ⟨rfl, _⟩ | ⟨g, cap, cur, rfl, _, hgc, _⟩
    · simp [Value.ownBlock] at e
    · simp [Value.ownBlock] at e
      subst e
      exact hn p hp cur (0, 0) (Option.some.inj ((h p hp).symm.trans hgc))
theorem TurnsV.grown {n : Int} {w W : World} {vs : List Value} {φs : List (Int → Int)} {B m : Nat} {v : Value} {us : List Value} (h : TurnsV n w vs φs) (hO : w.ownsRow B 44 1 v m us) (hg : w.grownBy W v.ownBlock) : TurnsV n W vs φs :=
  ⟨h.1, fun j v φ h1 h2 => by obtain ⟨bs, a, b, c⟩ := h.2 j v φ h1 h2; exact ⟨bs, a, b.grown c hO hg, c⟩⟩
/-- v is the call's own list of turns. -/
def TurnL (n : Int) (w : World) (B : Nat) (v : Value) (φs : List (Int → Int)) : Prop := ∃ vs, w.ownsRow B 44 1 v vs.length vs ∧ TurnsV n w vs φs
theorem TurnL.form {n : Int} {w : World} {B : Nat} {v : Value} {φs : List (Int → Int)} (h : TurnL n w B v φs) : ∃ a c, v = .slice a φs.length c := by
  obtain ⟨vs, hO, hT⟩ := h
  rcases hO.2 with ⟨rfl, h0⟩ | ⟨g, cap, cur, rfl, _⟩
  · exact ⟨none, 0, by rw [← hT.1, h0]⟩
  · exact ⟨_, cap, by rw [← hT.1]⟩
theorem TurnL.below {n : Int} {w W : World} {B : Nat} {v : Value} {φs : List (Int → Int)} (h : TurnL n w B v φs) (hb : Below w.heap.size w W) : TurnL n W B v φs := by
  obtain ⟨vs, hO, hT⟩ := h
  refine ⟨vs, ⟨hO.1, ?_⟩, hT.below hb⟩
  rcases hO.2 with hn | ⟨g, cap, cur, rfl, hB, hg, rest⟩
  · exact .inl hn
  · refine .inr ⟨g, cap, cur, rfl, hB, ?_, rest⟩
    rw [hb.block g (Array.getElem?_eq_some_iff.1 hg).1]
    exact hg
theorem TurnL.lit (n : Int) (w : World) {B : Nat} (h : B ≤ w.heap.size) : TurnL n (w.alloc (.cells #[] 44)) B (.slice (some ⟨w.heap.size, 0, none⟩) 0 0) [] :=
  ⟨[], World.ownsRow_made w #[] 0 h (by unfold maxLen; omega) rfl, TurnsV.nil n _⟩
theorem app_turn {w : World} {ops : Array Oper} {rest : List Oper} {o : Oper} {a : Act} {Q : Exit → Act → World → Prop} (hgd : o.guard = none) (s x : Operand)
    (ho : o.op = .call { callee := .builtin .append, args := #[s, x], argTypes := #[41, 41] })
    (n : Int) (B : Nat) (v : Value) (φs : List (Int → Int)) (hs : a.eval s = v) (hown : TurnL n w B v φs) (u : Value) (φ : Int → Int) (bs : List (Nat × Obj)) (b : Nat) (hx : a.eval x = .slice (some ⟨b, 0, none⟩) 1 1) (hcell : w.cell? ⟨b, 0, none⟩ = some u)
    (hu : TurnV n u φ bs) (hbs : Has w bs) (hno : NoT bs) (hlen : φs.length ≤ 1073741824) (hB : B ≤ w.heap.size)
    (h : ∀ v' w', TurnL n w' B v' (φs ++ [φ]) → Below B w w' → wpList Try.prog ops Q rest (a.put o.dst v') w') : wpList Try.prog ops Q (o :: rest) a w := by
  obtain ⟨i0, hi, hz0, hz1, hz2⟩ := info_parts Try.turnInfo
  obtain ⟨vs, hO, hT⟩ := hown
  have hvl := hT.1
  obtain ⟨g, cs, rfl, hu2⟩ := id hu
  refine wpList_append_own w hgd s x 41 ho B 44 i0 .nilFunc 1 8 Try.underlying41 hi hz0 hz1 hz2 rfl (by decide) v vs.length vs hs hO
    ⟨b, 0, none⟩ 1 1 [.func (.func g) #[] cs] hx rfl ?_ (by simp [Value.oneCell']) (by unfold maxLen; omega) (by omega) hB ?_
  · intro j u hu
    cases j with
    | zero => simp at hu; subst hu; simpa [Addr.add] using hcell
    | succ j => simp at hu
  · intro v' w' hown' hg _
    refine h v' w' ⟨vs ++ [.func (.func g) #[] cs], by simpa using hown', (hT.snoc hu hbs hno).grown hO hg⟩ ((Below.refl B w).grown hg hB (fun k e => (World.ownsRow.lt hO k e).1))
/-- v reads as a list of turns; its cells lie below block S. -/
def TRow (n : Int) (w : World) (S : Nat) (lv : Value) (φs : List (Int → Int)) : Prop :=
  ∃ a cap, lv = .slice a φs.length cap ∧ (0 < φs.length → ∃ b off, a = some ⟨b, off, none⟩ ∧ b < S ∧ ∀ j φ, φs[j]? = some φ → ∃ v bs, w.cell? ⟨b, off + j, none⟩ = some v ∧ TurnV n v φ bs ∧ Has w bs)
theorem TRow.below {n : Int} {w W : World} {S : Nat} {lv : Value} {φs : List (Int → Int)} (h : TRow n w S lv φs) (hb : Below w.heap.size w W) (hS : S ≤ w.heap.size) : TRow n W S lv φs := by
  obtain ⟨a, cap, rfl, h⟩ := h
  refine ⟨a, cap, rfl, fun hp => ?_⟩
  obtain ⟨b, off, rfl, hs, hc⟩ := h hp
  refine ⟨b, off, rfl, hs, fun j φ hj => ?_⟩
  obtain ⟨v, bs, h1, h2, h3⟩ := hc j φ hj
  exact ⟨v, bs, (hb.cell (p := ⟨b, off + j, none⟩) (show b < w.heap.size by omega)).trans h1, h2, h3.below hb⟩
theorem TRow.mono {n : Int} {w : World} {S S' : Nat} {lv : Value} {φs : List (Int → Int)} (h : TRow n w S lv φs) (hS : S ≤ S') : TRow n w S' lv φs := by
  obtain ⟨a, cap, rfl, h⟩ := h
  refine ⟨a, cap, rfl, fun hp => ?_⟩
  obtain ⟨b, off, rfl, hs, hc⟩ := h hp
  exact ⟨b, off, rfl, by omega, hc⟩
theorem TurnL.row {n : Int} {w : World} {B : Nat} {v : Value} {φs : List (Int → Int)} (h : TurnL n w B v φs) : TRow n w w.heap.size v φs := by
  obtain ⟨vs, hO, hT⟩ := h
  have hlt := World.ownsRow.lt hO
  have hce := @World.ownsRow.cells _ _ _ _ _ _ _ hO
  rcases hO.2 with ⟨rfl, h0⟩ | ⟨g, cap, cur, rfl, _⟩
  · exact ⟨none, 0, by rw [← hT.1, h0], fun hp => by have := hT.1; omega⟩
  · refine ⟨some ⟨g, 0, none⟩, cap, by rw [← hT.1], fun hp => ⟨g, 0, rfl, (hlt g rfl).2, fun j φ hj => ?_⟩⟩
    have hjl : j < vs.length := by rw [hT.1]; exact (List.getElem?_eq_some_iff.1 hj).1
    obtain ⟨bs, h1, h2, _⟩ := hT.2 j _ φ (List.getElem?_eq_getElem hjl) hj
    have := hce (g := g) rfl j _ (List.getElem?_eq_getElem hjl)
    have hadd : (⟨g, 0, none⟩ : Addr).add j = ⟨g, 0 + j, none⟩ := by rw [Nat.zero_add]; unfold Addr.add; split <;> simp_all
    rw [hadd] at this
    exact ⟨_, bs, this, h1, h2⟩
/-- what a function that makes a list of turns leaves. -/
def TurnsPost (n : Int) (φs : List (Int → Int)) (w : World) (e : Ending) (w' : World) : Prop := ∃ v, e = .returned v ∧ TRow n w' w'.heap.size v φs ∧ Below w.heap.size w w'
theorem prTo_len (k : Nat) : (prTo k).length = k := by unfold prTo; rw [List.length_map, upI_len]
theorem shTo_len (i : Nat) : ∀ k, (shTo i k).length = (shTo i 0).length + k
  | 0 => rfl
  | k + 1 => by rw [shTo_k, List.length_append, shTo_len i k]; simp; omega
theorem shTo_le : ∀ i, i ≤ 8 → (shTo i 0).length ≤ i * 8
  | 0, _ => by simp [shTo_len0]
  | i + 1, h => by rw [shTo_i, shTo_len]; have := shTo_le i (by omega); omega

set_option maxRecDepth 100000 in
set_option maxHeartbeats 2000000 in
theorem shifts_at (n : Int) (n1 : 1 ≤ n) (n2 : n ≤ 8) (w : World) : Calls Try.prog 12 #[.int .i64 n] w (TurnsPost n (shL n) w) := by
  obtain ⟨N, hN⟩ : ∃ N : Nat, n = (N : Int) := ⟨n.toNat, by omega⟩
  subst hN
  have hL := Lib.hid (show shTo N 0 = shL (N : Int) by unfold shL; simp)
  go_enter Try.func12, Try.ntmps12
  go_wp2_with fail
  go_loopw [3, 8] (fun v q wr => ∃ k : Nat, k ≤ N ∧ q = .int .i64 k ∧ Hid (TurnL (N : Int) wr w.heap.size v (shTo k 0)) ∧ Hid (Below w.heap.size w wr)) (fun _ q _ => N - (intOf q).toNat)
  case atStart => exact ⟨0, by omega, rfl, Lib.hid (TurnL.lit _ w (Nat.le_refl _)), Lib.hid ((Below.refl w.heap.size w).alloc (Nat.le_refl _) _)⟩
  case round =>
    obtain ⟨i, hi, rfl, hO, hb⟩ := hrel
    by_cases hlt : i < N
    · have i1 : (i : Int) < (N : Int) := by omega
      have hsi := Lib.hid (shTo_i i)
      have hli := Lib.hid (shTo_le i (by omega))
      go_wp2_with fail
      go_loopw [3, 12] (fun v q wq => ∃ k : Nat, k ≤ i ∧ q = .int .i64 k ∧ Hid (TurnL (N : Int) wq w.heap.size v (shTo i k)) ∧ Hid (Below w.heap.size w wq)) (fun _ q _ => i - (intOf q).toNat)
      case atStart => exact ⟨0, by omega, rfl, hO, hb⟩
      case round =>
        obtain ⟨k, hk, rfl, hO, hb⟩ := hrel
        have hzz := hb.out.size
        obtain ⟨a, c, hv⟩ := hO.out.form
        subst hv
        have hlen := Lib.hid (shTo_len i k)
        have hL2 := Lib.hid (show TurnL (N : Int) wr w.heap.size (.slice a (shTo i k).length c) (shTo i k) from hO.out)
        by_cases hlt2 : k < i
        · have k1 : (k : Int) < (i : Int) := by omega
          have hp := Lib.hid (shift_at (N : Int) (i : Nat) (k : Nat) (ptB_mk (by omega) i1) (ptB_mk (by omega) (by omega)) wr)
          have hs := Lib.hid (shTo_k i k)
          obtain ⟨φs, hφ⟩ : ∃ φs, shTo i k = φs := ⟨_, rfl⟩
          rw [hφ] at hL2 hlen hs ⊢
          replace hφ := Lib.hid hφ
          clear hO
          go_wp2_with (first
            | (go_at_call 20; (with_reducible refine hp.out.mono ?_); rintro e w1 ⟨u, bs, rfl, hu, hH, hno, hb1⟩; obtain ⟨g, cs, rfl, _⟩ := id hu; have hz1 := hb1.size; have hO1 := Lib.hid ((hL2.out.below hb1).below ((Below.refl w1.heap.size w1).alloc (Nat.le_refl _) (.cells #[.func (.func g) #[] cs] 44))); have hH1 := Lib.hid (hH.below ((Below.refl w1.heap.size w1).alloc (Nat.le_refl _) (.cells #[.func (.func g) #[] cs] 44))); replace hu := Lib.hid hu; replace hno := Lib.hid hno; replace hb1 := Lib.hid (hb.out.trans (hb1.mono hzz)); clear hH)
            | (at_builtin; refine app_turn rfl _ _ rfl (N : Int) w.heap.size _ φs rfl hO1.out (.func (.func g) #[] cs) _ bs w1.heap.size rfl (cell_new _ _ _) hu.out hH1.out hno.out ?_ ?_ ?_; (have := hlen.out; have := hli.out; omega); (simp; omega); intro v' w2 hO2 hb2))
          go_wp2_with fail
          go_roundw
          case rel => exact ⟨k + 1, by omega, by go_num, Lib.hid (by rw [hs.out]; exact hO2), Lib.hid ((hb1.out.alloc (by omega) _).trans hb2)⟩
          case measure => simp [intOf]; omega
        · obtain rfl : k = i := by omega
          rw [← hsi.out] at hL2 ⊢
          clear hO
          go_wp2_with fail
          go_roundw
          case rel => exact ⟨k + 1, by omega, by go_num, hL2, hb⟩
          case measure => simp [intOf]; omega
    · obtain rfl : i = N := by omega
      obtain ⟨a, c, hv⟩ := hO.out.form
      subst hv
      go_wp2_with fail
      go_ret
      refine ⟨_, rfl, ?_, hb.out⟩
      rw [← hL.out]
      exact hO.out.row
end Go.Proofs.Yteikiedffnnceaa
