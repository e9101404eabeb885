/- The law FnDegrees: degrees add up to the sizes. -/
import Derived.Test.YtapijjfhdhkakaaDoorDegB
import Derived.Test.YtapijjfhdhkakaaDoorDrawF
import Derived.Test.YtapijjfhdhkakaaDoorSameL
import Derived.Test.YtapijjfhdhkakaaDoorSizeL
import Derived.Test.YtapijjfhdhkakaaDoorFams13
namespace Go.Proofs.YtapijjfhdhkakaaDoor
open Go.ChangeShapes Go.WideShapes Go.ChangeAt Go.RowKit Go.Proofs

/-- the degrees of the points below m, added up. -/
def dgS (xs : List Int) : Nat → Int
  | 0 => 0
  | m + 1 => dgS xs m + dgP xs m
/-- the sizes of the first k sets, added up. -/
def szS (xs : List Int) : Nat → Int
  | 0 => 0
  | k + 1 => szS xs k + cntI (xs.getD k 0)
/-- the points below m of s. -/
def hbS (s : Int) : Nat → Int
  | 0 => 0
  | m + 1 => hbS s m + hb1 s m
theorem dg_step {xs : List Int} {k : Nat} {x : Int} (hk : k < xs.length) (hx : xs.getD k 0 = x) : ∀ m, dgS (xs.take (k + 1)) m = dgS (xs.take k) m + hbS x m
  | 0 => rfl
  | m + 1 => by
    simp only [dgS, hbS]
    rw [dg_step hk hx m, dgP_step hk hx m]; omega
theorem hbS_dec : ∀ n : Fin 9, ∀ s : Fin 256, s.val < 2 ^ n.val → hbS s.val n.val = cntI s.val := by decide +kernel
theorem hbS_cnt {n s : Int} (h : setB n s = true) : hbS s n.toNat = cntI s := by
  obtain ⟨n1, n2, h1, h2⟩ := setB_yes h
  have q := setB_lt h
  have e2 : ((s.toNat : Nat) : Int) = s := Int.toNat_of_nonneg h1
  have h := hbS_dec ⟨n.toNat, by omega⟩ ⟨s.toNat, by omega⟩ (by
    have : ((s.toNat : Nat) : Int) < ((2 ^ n.toNat : Nat) : Int) := by rw [e2]; simpa using h2
    simpa using Int.ofNat_lt.1 this)
  simpa only [e2] using h
theorem dgS_nil : ∀ m, dgS [] m = 0
  | 0 => rfl
  | m + 1 => by simp [dgS, dgS_nil m, dgP]
theorem dgS_szS {n : Int} {xs : List Int} (h : famB n xs = true) : ∀ k, k ≤ xs.length → dgS (xs.take k) n.toNat = szS xs k
  | 0, _ => by rw [List.take_zero, dgS_nil]; rfl
  | k + 1, hk => by
    have hs := (famB_all h).2.2 (xs.getD k 0) (getD_mem (by omega))
    rw [dg_step (by omega) rfl, dgS_szS h k (by omega), hbS_cnt hs]; rfl
theorem dgS_bd {xs : List Int} (hl : xs.length ≤ 256) : ∀ m, m ≤ 8 → 0 ≤ dgS xs m ∧ dgS xs m ≤ 256 * m
  | 0, _ => by simp [dgS]
  | m + 1, h => by
    have h1 := dgS_bd hl m (by omega)
    have h2 := dgP_bd xs m
    simp only [dgS]; omega
theorem szS_bd {xs : List Int} : ∀ k, 0 ≤ szS xs k ∧ szS xs k ≤ 8 * k
  | 0 => by simp [szS]
  | k + 1 => by
    have h1 := szS_bd (xs := xs) k
    have h2 := cnt_le (xs.getD k 0) 8
    have h3 : cntI (xs.getD k 0) = ((cntTo (xs.getD k 0) 8 : Nat) : Int) := rfl
    simp only [szS]; omega
theorem degL_get {N i : Nat} (xs : List Int) (h : i < N) : (degL N xs).getD i 0 = dgP xs i := by
  unfold degL; rw [List.getD_eq_getElem?_getD, List.getElem?_map, List.getElem?_range h]; rfl
theorem less_hasD {x p : Int} (h : hasB x p = true) : lessI x p = x - 2 ^ p.toNat := by unfold lessI; rw [h]; rfl
theorem nodupD {xs : List Int} (h : Asc xs) : xs.Nodup := List.Pairwise.imp (fun {a b} hab => by omega) h
theorem fold_lenD : ∀ (ys a : List Int), ys.Nodup → (∀ y ∈ ys, y ∉ a) → (ys.foldl (fun a x => insI x a) a).length = a.length + ys.length
  | [], a, _, _ => by simp
  | y :: ys, a, h, ha => by
    obtain ⟨h1, h2⟩ := List.nodup_cons.1 h
    have h3 : memB y a = false := memB_mk0 (ha y List.mem_cons_self)
    have ih := fold_lenD ys (insI y a) h2 (fun z hz hm => by
      rcases mem_insI.1 hm with e | e
      · exact h1 (e ▸ hz)
      · exact ha z (List.mem_cons_of_mem _ hz) e)
    rw [List.foldl_cons, ih, ins_len h3, List.length_cons]; omega
theorem lk_lenD {n : Int} {xs : List Int} (h : famB n xs = true) (p : Nat) : (((sortL ((sortL (xs.filter (fun x => hasB x (p : Nat)))).map (fun x => lessI x (p : Nat)))).length : Nat) : Int) = dgP xs p := by
  have hA := asc_filter (famB_asc h) (fun x => hasB x ((p : Nat) : Int))
  rw [sortL_asc hA]
  have hn : ((xs.filter (fun x => hasB x ((p : Nat) : Int))).map (fun x => lessI x ((p : Nat) : Int))).Nodup := by
    have hall : ∀ x ∈ xs.filter (fun x => hasB x ((p : Nat) : Int)), hasB x ((p : Nat) : Int) = true := fun x hx => (List.mem_filter.1 hx).2
    revert hall
    have hnd := nodupD hA
    generalize xs.filter (fun x => hasB x ((p : Nat) : Int)) = L at hnd ⊢
    induction L with
    | nil => intro _; simp
    | cons x L ih =>
      intro hall
      obtain ⟨h1, h2⟩ := List.nodup_cons.1 hnd
      rw [List.map_cons]
      refine List.nodup_cons.2 ⟨fun hm => ?_, ih h2 (fun y hy => hall y (List.mem_cons_of_mem _ hy))⟩
      obtain ⟨y, hy, he⟩ := List.mem_map.1 hm
      rw [less_hasD (hall x List.mem_cons_self), less_hasD (hall y (List.mem_cons_of_mem _ hy))] at he
      exact h1 ((show y = x by omega) ▸ hy)
  have := fold_lenD _ [] hn (fun _ _ h => nomatch h)
  unfold sortL dgP
  rw [this]; simp
end Go.Proofs.YtapijjfhdhkakaaDoor
