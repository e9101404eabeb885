/- Linked sets with their blocks; what a round of the chain keeps. -/
import Derived.Test.YtoglcinfnhhkhabDoorCh1
namespace Go.Proofs.YtoglcinfnhhkhabDoor
open Go.ChangeShapes Go.WideShapes Go.ChangeAt Go.RowKit Go.Proofs

def hdV : List (Int × Nat) → Value
  | [] => .pointer none
  | (_, b) :: _ => .pointer (some ⟨b, 0, none⟩)
/-- links in memory, each with its block. -/
def LB (w : World) : List (Int × Nat) → Prop
  | [] => True
  | (s, b) :: r => w.heap[b]? = some (.cells #[.int .u64 s, hdV r] 46 (0, 0)) ∧ LB w r
theorem LB.link {w : World} : ∀ {zs : List (Int × Nat)}, LB w zs → LinkV w (zs.map (·.1)) (hdV zs)
  | [], _ => rfl
  | (_, b) :: _, ⟨h1, h2⟩ => ⟨b, _, rfl, h1, LB.link h2⟩
theorem LB.kept {w w' : World} : ∀ {zs : List (Int × Nat)}, LB w zs → (∀ z ∈ zs, w'.heap[z.2]? = w.heap[z.2]?) → LB w' zs
  | [], _, _ => trivial
  | (s, b) :: _, ⟨h1, h2⟩, hk => ⟨(hk (s, b) (List.mem_cons_self ..)).trans h1, LB.kept h2 (fun z hz => hk z (List.mem_cons_of_mem _ hz))⟩
theorem hd_app : ∀ (zs : List (Int × Nat)) (z y : Int × Nat), hdV (zs ++ [z] ++ [y]) = hdV (zs ++ [z])
  | [], _, _ => rfl
  | _ :: _, _, _ => rfl
/-- one more at the end. -/
theorem LB.snoc {w w' : World} {s t : Int} {b c : Nat} : ∀ {zs : List (Int × Nat)}, LB w (zs ++ [(s, b)]) → (∀ z ∈ zs, w'.heap[z.2]? = w.heap[z.2]?) → w'.heap[b]? = some (.cells #[.int .u64 s, .pointer (some ⟨c, 0, none⟩)] 46 (0, 0)) → w'.heap[c]? = some (.cells #[.int .u64 t, .pointer none] 46 (0, 0)) → LB w' (zs ++ [(s, b)] ++ [(t, c)])
  | [], _, _, hb, hc => ⟨hb, hc, trivial⟩
  | (s', b') :: r, ⟨h1, h2⟩, hk, hb, hc => by
    refine ⟨?_, LB.snoc h2 (fun z hz => hk z (List.mem_cons_of_mem _ hz)) hb hc⟩
    rw [hk (s', b') (List.mem_cons_self ..)]
    show _ = some (Obj.cells #[.int .u64 s', hdV (r ++ [(s, b)] ++ [(t, c)])] _ _)
    rw [hd_app]
    exact h1
theorem LB.last {w : World} {s : Int} {b : Nat} : ∀ {zs : List (Int × Nat)}, LB w (zs ++ [(s, b)]) → w.heap[b]? = some (.cells #[.int .u64 s, .pointer none] 46 (0, 0))
  | [], h => h.1
  | _ :: _, h => LB.last h.2
/-- what a round keeps: the links so far; the box l holds the last one. -/
def JC (B : Nat) (w : World) (x : Int) (b0 l : Nat) {q : Int} (pre : List (PtOf q)) (W : World) : Prop :=
  ∃ (zs : List (Int × Nat)) (b : Nat), LB W (zs ++ [(lastI x (vals pre), b)]) ∧ (zs ++ [(lastI x (vals pre), b)]).map (·.1) = lkI x (vals pre) ∧ hdV (zs ++ [(lastI x (vals pre), b)]) = .pointer (some ⟨b0, 0, none⟩) ∧
    (∀ z ∈ zs, z.2 ≠ b) ∧ (∀ z ∈ zs, B ≤ z.2) ∧ B ≤ b ∧ W.heap[l]? = some (.cells #[.pointer (some ⟨b, 0, none⟩)] 43 (0, 0)) ∧ Below B w W
theorem LB.in {w : World} : ∀ {zs : List (Int × Nat)}, LB w zs → ∀ z ∈ zs, ∃ cs, w.heap[z.2]? = some (.cells cs 46 (0, 0))
  | (_, _) :: _, ⟨h1, h2⟩, z, hz => by
    rcases List.mem_cons.1 hz with rfl | hz
    · exact ⟨_, h1⟩
    · exact LB.in h2 z hz
theorem JC.kept {B : Nat} {w : World} {x : Int} {b0 l : Nat} {q : Int} {pre : List (PtOf q)} {W W' : World} (h : JC B w x b0 l pre W) (hk : ∀ (b : Nat) (cs : Array Value) (t : TypeId), W.heap[b]? = some (.cells cs t (0, 0)) → W'.heap[b]? = some (.cells cs t (0, 0))) (hb : Below B W W') : JC B w x b0 l pre W' := by
  obtain ⟨zs, b, h1, h2, h3, h4, h5, h6, h7, h8⟩ := h
  refine ⟨zs, b, h1.kept (fun z hz => ?_), h2, h3, h4, h5, h6, hk _ _ _ h7, h8.trans hb⟩
  obtain ⟨cs, hcs⟩ := LB.in h1 z hz
  rw [hcs, hk _ _ _ hcs]
theorem JC.own {B : Nat} {w : World} {x : Int} {b0 l : Nat} {q : Int} {D : Nat} (hB : B ≤ w.heap.size) (hD : B ≤ D) : OwnFrom D (fun (pre : List (PtOf q)) W => JC B w x b0 l pre W) := by
  rintro s X Y row h hg hrow
  refine JC.kept h (fun b cs t hb => ?_) ?_
  · refine (hg.block b (Array.getElem?_eq_some_iff.1 hb).1 (fun e => ?_)).trans hb
    obtain ⟨_, o, ho, hc⟩ := hrow b e.symm
    rw [hb] at ho
    cases ho
    cases hc
  · obtain ⟨_, _, _, _, _, _, _, _, _, h8⟩ := h
    exact (Below.refl B X).grown hg (Nat.le_trans hB h8.size) (fun k e => Nat.le_trans hD (hrow k e).1)
/-- one link more. -/
theorem JC.step {B D : Nat} {w W : World} {x : Int} {b0 l : Nat} {q : Int} {pre : List (PtOf q)} {p : PtOf q} {zs : List (Int × Nat)} {b : Nat}
    (h1 : LB W (zs ++ [(lastI x (vals pre), b)])) (h2 : (zs ++ [(lastI x (vals pre), b)]).map (·.1) = lkI x (vals pre)) (h3 : hdV (zs ++ [(lastI x (vals pre), b)]) = .pointer (some ⟨b0, 0, none⟩))
    (h4 : ∀ z ∈ zs, z.2 ≠ b) (h5 : ∀ z ∈ zs, B ≤ z.2) (h6 : B ≤ b) (h7 : W.heap[l]? = some (.cells #[.pointer (some ⟨b, 0, none⟩)] 43 (0, 0))) (h8 : Below B w W) (hB : B ≤ w.heap.size) (hl : B ≤ l) (t : Int) (ht : t = withI (lastI x (vals pre)) p.1) :
    KeepsFrom D W (((W.alloc (.cells #[.int .u64 t, .pointer none] 46)).setCell ⟨b, 1, none⟩ (.pointer (some ⟨W.heap.size, 0, none⟩))).setCell ⟨l, 0, none⟩ (.pointer (some ⟨W.heap.size, 0, none⟩))) ∧
    Below B W (((W.alloc (.cells #[.int .u64 t, .pointer none] 46)).setCell ⟨b, 1, none⟩ (.pointer (some ⟨W.heap.size, 0, none⟩))).setCell ⟨l, 0, none⟩ (.pointer (some ⟨W.heap.size, 0, none⟩))) ∧
    JC B w x b0 l (pre ++ [p]) (((W.alloc (.cells #[.int .u64 t, .pointer none] 46)).setCell ⟨b, 1, none⟩ (.pointer (some ⟨W.heap.size, 0, none⟩))).setCell ⟨l, 0, none⟩ (.pointer (some ⟨W.heap.size, 0, none⟩))) := by
  subst ht
  have hBW := Nat.le_trans hB h8.size
  have hb := LB.last h1
  have hbs : b < W.heap.size := (Array.getElem?_eq_some_iff.1 hb).1
  have hls : l < W.heap.size := (Array.getElem?_eq_some_iff.1 h7).1
  have hbl : b ≠ l := fun e => by subst e; rw [hb] at h7; injection h7 with e; injection e with _ e; exact absurd e (by decide)
  have hzl : ∀ z ∈ zs, z.2 ≠ l ∧ z.2 < W.heap.size := fun z hz => by
    obtain ⟨cs, hcs⟩ := LB.in h1 z (List.mem_append.2 (.inl hz))
    refine ⟨fun e => ?_, (Array.getElem?_eq_some_iff.1 hcs).1⟩
    rw [e] at hcs
    rw [hcs] at h7
    injection h7 with e
    injection e with _ e
    exact absurd e (by decide)
  have hk1 := (KeepsOthers.alloc W (.cells #[.int .u64 (withI (lastI x (vals pre)) p.1), .pointer none] 46))
  have hbe : Below B W (((W.alloc (.cells #[.int .u64 (withI (lastI x (vals pre)) p.1), .pointer none] 46)).setCell ⟨b, 1, none⟩ (.pointer (some ⟨W.heap.size, 0, none⟩))).setCell ⟨l, 0, none⟩ (.pointer (some ⟨W.heap.size, 0, none⟩))) :=
    below_setCell (p := ⟨l, 0, none⟩) (below_setCell (p := ⟨b, 1, none⟩) ((Below.refl B W).alloc hBW _) h6 _) hl _
  have hcell : ∀ k, k ≠ b → k ≠ l → k < W.heap.size → (((W.alloc (.cells #[.int .u64 (withI (lastI x (vals pre)) p.1), .pointer none] 46)).setCell ⟨b, 1, none⟩ (.pointer (some ⟨W.heap.size, 0, none⟩))).setCell ⟨l, 0, none⟩ (.pointer (some ⟨W.heap.size, 0, none⟩))).heap[k]? = W.heap[k]? := fun k e1 e2 e3 => by
    rw [Below.heap_setCell _ _ _ _ (by exact e2), Below.heap_setCell _ _ _ _ (by exact e1), Below.heap_alloc _ _ _ e3]
  refine ⟨⟨?_, ?_⟩, hbe, zs ++ [(lastI x (vals pre), b)], W.heap.size, ?_, ?_, ?_, ?_, ?_, hBW, ?_, h8.trans hbe⟩
  · exact hbe.size
  · intro i o hD hi ho
    have hib : i ≠ b := fun e => by subst e; rw [hb] at hi; cases hi; cases ho
    have hil : i ≠ l := fun e => by subst e; rw [h7] at hi; cases hi; cases ho
    rw [hcell i hib hil (Array.getElem?_eq_some_iff.1 hi).1]
    exact hi
  · rw [vals_snoc, lastI_snoc]
    refine LB.snoc h1 (fun z hz => hcell _ (h4 z hz) (hzl z hz).1 (hzl z hz).2) ?_ ?_
    · rw [Below.heap_setCell _ _ _ _ (by exact hbl)]
      exact heap_setCell_same _ b 1 _ 46 _ ((Below.heap_alloc _ _ _ hbs).trans hb)
    · rw [Below.heap_setCell _ _ _ _ (by show W.heap.size ≠ l; omega), Below.heap_setCell _ _ _ _ (by show W.heap.size ≠ b; omega)]
      exact heap_alloc_new W _
  · rw [vals_snoc, lkI_snoc, List.map_append, h2, lastI_snoc]; rfl
  · rw [hd_app]; exact h3
  · intro z hz
    rcases List.mem_append.1 hz with hz | hz
    · have := (hzl z hz).2; omega
    · rw [List.mem_singleton.1 hz]; show b ≠ _; omega
  · intro z hz
    rcases List.mem_append.1 hz with hz | hz
    · exact h5 z hz
    · rw [List.mem_singleton.1 hz]; exact h6
  · refine heap_setCell_same _ l 0 #[.pointer (some ⟨b, 0, none⟩)] 43 (.pointer (some ⟨W.heap.size, 0, none⟩)) ?_
    rw [Below.heap_setCell _ _ _ _ (by exact fun e => hbl e.symm), Below.heap_alloc _ _ _ hls]
    exact h7
end Go.Proofs.YtoglcinfnhhkhabDoor
