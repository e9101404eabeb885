/- Levels and first sets: sizeIn, countIn, level, first, FamilyLevel. -/
import Derived.Test.YtpjapoaagbdlfaaDoorFams13
import Derived.Laws.CopyOwn
namespace Go.Proofs.YtpjapoaagbdlfaaDoor
open Go.ChangeShapes Go.WideShapes Go.ChangeAt Go.RowKit Go.Proofs

theorem szB_yes {n k : Int} (h : szB n k = true) : 1 ≤ n ∧ n ≤ 8 ∧ 0 ≤ k ∧ k ≤ n := by
  unfold szB at h
  rw [Bool.and_eq_true] at h
  obtain ⟨n1, n2⟩ := ptsB_yes h.1
  have := of_decide_eq_true h.2
  exact ⟨n1, n2, this.1, this.2⟩
theorem szB_mk {n k : Int} (h : 1 ≤ n ∧ n ≤ 8 ∧ 0 ≤ k ∧ k ≤ n) : szB n k = true := by
  unfold szB; rw [ptsB_mk h.1 h.2.1]; simp [h.2.2]
theorem szB_cases (n k : Int) : szB n k = true ∨ szB n k = false := by cases szB n k <;> simp

/-- there are m sets of a size. -/
def cntB (n k m : Int) : Bool := decide (0 ≤ m ∧ m ≤ chI n k)
theorem cntB_yes {n k m : Int} (h : cntB n k m = true) : 0 ≤ m ∧ m ≤ chI n k := of_decide_eq_true h
theorem cntB_cases (n k m : Int) : cntB n k m = true ∨ cntB n k m = false := by cases cntB n k m <;> simp
/-- all sets of a size. -/
def levL (n k : Int) : List Int := sortL ((sortL (upI (2 ^ n.toNat))).filter (fun x => cntI x == k))
theorem levL_mem {n k : Int} (n1 : 1 ≤ n) (n2 : n ≤ 8) {z : Int} (h : z ∈ levL n k) : setB n z = true := upI_lt n1 n2 z (List.mem_filter.1 (mem_sortL.1 h)).1
theorem levL_lt {n k : Int} (n1 : 1 ≤ n) (n2 : n ≤ 8) : ∀ z ∈ levL n k, 0 ≤ z ∧ z < 256 := fun _ hz => setB_lt (levL_mem n1 n2 hz)
theorem levL_asc (n k : Int) : Asc (levL n k) := asc_sortL _
theorem levL_len256 {n k : Int} (n1 : 1 ≤ n) (n2 : n ≤ 8) : (levL n k).length ≤ 256 := asc_len256 (levL_asc n k) (levL_lt n1 n2)

theorem lev_new (w : World) (k : Int) : (w.alloc (.cells #[.int .i64 k] 3)).cell? ⟨w.heap.size, 0, none⟩ = some (.int .i64 k) := by
  rw [cell_of_row _ _ 0 _ 3 (0, 0) (heap_alloc_new w _)]; rfl
/-- what 'first' leaves: the sets read off its copy. -/
def FirstPost (w : World) (ys : List Int) (e : Ending) (w' : World) : Prop := ∃ v, e = .returned (.agg #[v, (Value.func (.func 61) #[] #[])]) ∧ SRow w' w'.heap.size v ys ∧ Below w.heap.size w w'
theorem sp_copied (xs : List Int) (N : Nat) (hN : N = xs.length) : Go.splice (List.replicate N (Value.int .u64 0)) 0 (sv xs) = sv xs := by
  subst hN
  unfold Go.splice
  simp [sv]
theorem row_take {w : World} {g m : Nat} {xs : List Int} (hm : m ≤ xs.length) (hg : w.heap[g]? = some (.cells (sv xs).toArray 46 (0, 0))) (S : Nat) (hS : g < S) : SRow w S (.slice (some ⟨g, 0, none⟩) m m) (xs.take m) := by
  refine ⟨_, m, by rw [List.length_take, Nat.min_eq_left hm], fun _ => ⟨g, 0, rfl, hS, fun i hi => ?_⟩⟩
  rw [List.length_take, Nat.min_eq_left hm] at hi
  rw [cell_of_row w g (0 + i) _ 46 (0, 0) hg, Nat.zero_add, List.getElem?_toArray, sv_at (by omega)]
  congr 2
  simp [List.getD_eq_getElem?_getD, hi]
theorem SRow.setCell {w : World} {S g n c : Nat} {xs : List Int} {p : Addr} {u : Value} (h : SRow w S (.slice (some ⟨g, 0, none⟩) n c) xs) (hp : p.block ≠ g) : SRow (w.setCell p u) S (.slice (some ⟨g, 0, none⟩) n c) xs := by
  obtain ⟨a, cap, e, h⟩ := h
  refine ⟨a, cap, e, fun hl => ?_⟩
  obtain ⟨b, off, rfl, hs, hc⟩ := h hl
  injection e with e1 e2 e3
  injection e1 with e1
  injection e1 with e1 e4 e5
  subst e1
  exact ⟨_, off, rfl, hs, fun i hi => by rw [World.cell?_setCell_other _ _ _ _ (by intro e; rw [e] at hp; exact hp rfl)]; exact hc i hi⟩
theorem SRow.drewS {w : World} {S : Nat} {v : Value} {xs : List Int} (h : SRow w S v xs) : SRow w.drew S v xs := h
theorem made_list (z : Value) (n : Nat) : madeCells #[z] n = Array.replicate n z := by
  apply Array.ext
  · simp [madeCells]
  · intro i h1 h2
    simp [madeCells, Nat.mod_one]
end Go.Proofs.YtpjapoaagbdlfaaDoor
