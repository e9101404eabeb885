/- Chains of sets: plain mathematics; the numbers of linked sets. -/
import Derived.Test.YtoglcinfnhhkhabDoorLk
import Derived.Test.YtoglcinfnhhkhabDoorIter
namespace Go.Proofs.YtoglcinfnhhkhabDoor
open Go.ChangeShapes Go.WideShapes Go.ChangeAt Go.RowKit Go.Proofs

/-- the paired points of s that are in it, and the points that are not paired, below k. -/
def cutI (s : Int) (P : List Int) : Nat → Int × Int
  | 0 => (0, 0)
  | k + 1 => if P.getD k 0 < 0 then ((cutI s P k).1, withI (cutI s P k).2 (k : Nat)) else if hasB s (k : Nat) then (withI (cutI s P k).1 (k : Nat), (cutI s P k).2) else cutI s P k
/-- one point more at each step. -/
def lkI : Int → List Int → List Int
  | x, [] => [x]
  | x, p :: ps => x :: lkI (withI x p) ps
def lastI : Int → List Int → Int
  | x, [] => x
  | x, p :: ps => lastI (withI x p) ps
theorem lkI_snoc : ∀ (ps : List Int) (x p : Int), lkI x (ps ++ [p]) = lkI x ps ++ [withI (lastI x ps) p]
  | [], _, _ => rfl
  | q :: ps, x, p => by
    show x :: lkI (withI x q) (ps ++ [p]) = x :: lkI (withI x q) ps ++ _
    rw [lkI_snoc ps]; rfl
theorem lastI_snoc : ∀ (ps : List Int) (x p : Int), lastI x (ps ++ [p]) = withI (lastI x ps) p
  | [], _, _ => rfl
  | q :: ps, x, p => by
    show lastI (withI x q) (ps ++ [p]) = withI (lastI (withI x q) ps) p
    rw [lastI_snoc ps]
theorem lkI_len : ∀ (ps : List Int) (x : Int), (lkI x ps).length = ps.length + 1
  | [], _ => rfl
  | q :: ps, x => by show (x :: lkI _ ps).length = _; rw [List.length_cons, lkI_len ps]; rfl
theorem lkI_head (x : Int) (ps : List Int) : ∃ T, lkI x ps = x :: T := by cases ps <;> exact ⟨_, rfl⟩
/-- the chain of a set of N points. -/
def chnL (N : Nat) (s : Int) : List Int := lkI (cutI s (pairL s N N) N).1 (ptsI (cutI s (pairL s N N) N).2)
/-- what the model keeps. -/
def mcI (s : Int) (P : List Int) : Nat → Int
  | 0 => 0
  | k + 1 => if 0 ≤ P.getD k 0 ∧ hasB s (k : Nat) = true then mcI s P k + 2 ^ k else mcI s P k
def mlI (P : List Int) (x : Int) : Nat → Int × List Int
  | 0 => (x, [x])
  | k + 1 => if P.getD k 0 < 0 then ((mlI P x k).1 + 2 ^ k, (mlI P x k).2 ++ [(mlI P x k).1 + 2 ^ k]) else mlI P x k
set_option maxRecDepth 100000 in
theorem chn_fin : ∀ N : Fin 9, ∀ s : Fin 256, s.val < 2 ^ N.val → (mlI (pairL s.val N.val N.val) (mcI s.val (pairL s.val N.val N.val) N.val) N.val).2 = chnL N.val s.val ∧ (chnL N.val s.val).all (fun z => decide (0 ≤ z ∧ z < 256)) = true ∧ (chnL N.val s.val).length ≤ 9 := by decide +kernel
theorem chn_facts {N : Nat} {s : Int} (h8 : N ≤ 8) (s1 : 0 ≤ s) (s2 : s < 2 ^ N) : (mlI (pairL s N N) (mcI s (pairL s N N) N) N).2 = chnL N s ∧ (∀ z ∈ chnL N s, 0 ≤ z ∧ z < 256) ∧ (chnL N s).length ≤ 9 := by
  have e2 : ((s.toNat : Nat) : Int) = s := Int.toNat_of_nonneg s1
  have hp : 2 ^ N ≤ 2 ^ 8 := Nat.pow_le_pow_right (by omega) h8
  have h2 : s.toNat < 2 ^ N := by
    have : ((s.toNat : Nat) : Int) < ((2 ^ N : Nat) : Int) := by rw [e2]; simpa using s2
    exact Int.ofNat_lt.1 this
  have h := chn_fin ⟨N, by omega⟩ ⟨s.toNat, by omega⟩ h2
  simp only [e2] at h
  refine ⟨h.1, fun z hz => ?_, h.2.2⟩
  have := List.all_eq_true.1 h.2.1 z hz
  exact of_decide_eq_true this
theorem mc_bd (s : Int) (P : List Int) : ∀ k, 0 ≤ mcI s P k ∧ mcI s P k < 2 ^ k
  | 0 => ⟨Int.le_refl _, by show (0 : Int) < 2 ^ 0; decide⟩
  | k + 1 => by
    have h := mc_bd s P k
    have e : (2 : Int) ^ (k + 1) = 2 ^ k + 2 ^ k := by rw [Int.pow_succ]; omega
    unfold mcI
    split <;> omega
theorem ml_bd (P : List Int) (x : Int) (hx : 0 ≤ x) : ∀ k, 0 ≤ (mlI P x k).1 ∧ (mlI P x k).1 < x + 2 ^ k
  | 0 => ⟨hx, by show x < x + 2 ^ 0; omega⟩
  | k + 1 => by
    have h := ml_bd P x hx k
    have hp : (0 : Int) < 2 ^ k := Int.pow_pos (by decide)
    have e : (2 : Int) ^ (k + 1) = 2 ^ k + 2 ^ k := by rw [Int.pow_succ]; omega
    unfold mlI
    split
    · dsimp only; omega
    · omega
theorem ml_len (P : List Int) (x : Int) : ∀ k, (mlI P x k).2.length ≤ k + 1
  | 0 => Nat.le_refl _
  | k + 1 => by
    have h := ml_len P x k
    unfold mlI
    split
    · dsimp only; rw [List.length_append, List.length_singleton]; omega
    · omega
theorem with_in8 : ∀ x : Fin 256, ∀ p : Fin 8, 0 ≤ withI x.val p.val ∧ withI x.val p.val < 256 := by decide +kernel
theorem with_bd8 {x p : Int} (x1 : 0 ≤ x) (x2 : x < 256) (p1 : 0 ≤ p) (p2 : p ≤ 7) : 0 ≤ withI x p ∧ withI x p < 256 := by
  have h := with_in8 ⟨x.toNat, by omega⟩ ⟨p.toNat, by omega⟩
  have e1 : ((x.toNat : Nat) : Int) = x := Int.toNat_of_nonneg x1
  have e2 : ((p.toNat : Nat) : Int) = p := Int.toNat_of_nonneg p1
  simpa only [e1, e2] using h
theorem cut_bd (s : Int) (P : List Int) : ∀ k, k ≤ 8 → (0 ≤ (cutI s P k).1 ∧ (cutI s P k).1 < 256) ∧ 0 ≤ (cutI s P k).2 ∧ (cutI s P k).2 < 256
  | 0, _ => by simp [cutI]
  | k + 1, hk => by
    have h := cut_bd s P k (by omega)
    have a := with_bd8 h.1.1 h.1.2 (show (0 : Int) ≤ (k : Nat) by omega) (by omega)
    have b := with_bd8 h.2.1 h.2.2 (show (0 : Int) ≤ (k : Nat) by omega) (by omega)
    unfold cutI
    split
    · exact ⟨h.1, b⟩
    · split
      · exact ⟨a, h.2⟩
      · exact h
/-- the sets of linked sets as numbers. -/
theorem lk_numbers (L : List Int) (v : Value) (w : World) (h : LinkV w L v) (hl : L.length ≤ 1000) (hz : ∀ z ∈ L, 0 ≤ z ∧ z < 256) : Calls Tryd.prog 14 #[v] w (IntsPost L w) := by
  have hlen := Lib.hid (fun W (hW : LinkV W L v) => length_at L v W hW hl)
  obtain ⟨i0, hi, hz0, hz1, hz2⟩ := info_parts Tryd.intInfo
  have hl0 : (0 : Int) ≤ (L.length : Nat) := by omega
  go_enter Tryd.func14, Tryd.ntmps14
  go_wp2_with (first | (go_at_call 27; refine (hlen.out _ h).mono ?_; rintro e w' ⟨rfl, rfl⟩) | (at_make; refine wpList_make_own _ rfl _ _ 28 rfl w.heap.size 3 i0 (.int .i64 0) 1 Tryd.underlying28 hi hz0 hz1 .i64 .i64 (L.length : Nat) L.length rfl rfl rfl (by rw [hz2]; omega) (by unfold maxLen; omega) (Nat.le_refl _) ?_; intro w1 hR hg))
  have hb1 : Below w.heap.size w w1 := (Below.refl _ w).grown hg (Nat.le_refl _) (fun k e => by cases e)
  have hX := Lib.hid (show OwnL w1 w.heap.size (.slice (some ⟨w.heap.size, 0, none⟩) 0 L.length) [] from hR)
  replace hb1 := Lib.hid hb1
  replace h := Lib.hid h
  replace hz := Lib.hid hz
  clear hR hg hlen
  go_wp2_with fail
  go_loopw [0, 3] (fun p o wr => ∃ A B : List Int, Hid (A ++ B = L) ∧ Hid (LinkV w B p) ∧ Hid (OwnL wr w.heap.size o A) ∧ Hid (Below w.heap.size w wr)) (fun _ o _ => L.length - (match o with | .slice _ n _ => n | _ => 0))
  case atStart => exact ⟨[], L, Lib.hid rfl, h, hX, hb1⟩
  case round =>
    obtain ⟨A, B, hAB, hL, hO, hB⟩ := hrel
    obtain ⟨a', c', rfl⟩ := hO.out.form
    have hsz := hB.out.size
    rcases B with _ | ⟨s, T⟩
    · have hp : u0 = .pointer none := hL.out
      subst hp
      have hA : A = L := by have := hAB.out; rwa [List.append_nil] at this
      subst hA
      go_wp2_with fail
      go_ret
      exact ⟨_, rfl, hO.out, hB.out⟩
    · obtain ⟨b, nx, rfl, hc, hT⟩ := hL.out
      have hbw : b < w.heap.size := (Array.getElem?_eq_some_iff.1 hc).1
      have hcr := (hB.out.block b hbw).trans hc
      obtain ⟨c0, c1⟩ := link_cells hcr
      obtain ⟨s1, s2⟩ := hz.out s (by rw [← hAB.out]; simp)
      have hAl : A.length < L.length := by rw [← hAB.out, List.length_append, List.length_cons]; omega
      have hAB2 := Lib.hid (show (A ++ [s]) ++ T = L by rw [← hAB.out]; simp)
      have hTh := Lib.hid hT
      have hB1 : w.heap.size ≤ (wr.alloc (.cells #[.int .i64 s] 3)).heap.size := by rw [World.size_alloc]; omega
      have hlA : A.length ≤ 1073741824 := by omega
      clear hL hT hcr
      go_wp2_with (at_builtin; refine app_int rfl _ _ rfl w.heap.size _ A rfl (hO.out.alloc _) s wr.heap.size rfl (cell_new _ _ _) hlA hB1 ?_; intro v' w2 hown1 hb2; have hb3 := hB.out.trans ((Below.refl w.heap.size wr).alloc hsz _ |>.trans hb2); obtain ⟨d0, d1⟩ := link_cells ((hb3.block b hbw).trans hc))
      obtain ⟨a2, c2, rfl⟩ := hown1.form
      replace hown1 := Lib.hid hown1
      replace hb3 := Lib.hid hb3
      go_roundw
      case rel => exact ⟨A ++ [s], T, hAB2, hTh, hown1, hb3⟩
      case measure => dsimp only; rw [List.length_append, List.length_singleton]; omega
end Go.Proofs.YtoglcinfnhhkhabDoor
