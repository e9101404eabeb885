/- The model: levels, traces, links, sets without a point. -/
import Derived.Test.YtgfmfecalhmplaaSpec6
import Derived.Test.YtgfmfecalhmplaaFams13
namespace Go.Proofs.Ytgfmfecalhmplaa
open Go.ChangeShapes Go.WideShapes Go.ChangeAt Go.RowKit Go.Proofs

theorem sz_in (n k : Int) : inB k 0 n = decide (0 ≤ k ∧ k ≤ n) := rfl
theorem trace_all {n s : Int} {xs : List Int} (h : allB n xs = true) (hs : setB n s = true) : allB n (xs.map (fun x => andI x s)) = true := List.all_eq_true.2 fun z hz => by
  obtain ⟨y, hy, rfl⟩ := List.mem_map.1 hz
  exact andI_set (allB_yes h y hy) hs
theorem less_lo : ∀ s : Fin 256, ∀ p : Fin 8, hasB s.val p.val = true → ((s.val : Nat) : Int) - 2 ^ p.val = lessI s.val p.val ∧ 2 ^ p.val ≤ s.val := by decide +kernel
theorem less_yes {s p : Int} (h1 : 0 ≤ s) (h2 : s < 256) (h3 : 0 ≤ p) (h4 : p ≤ 7) (h : hasB s p = true) : s - 2 ^ p.toNat = lessI s p ∧ (2 : Int) ^ p.toNat ≤ s := by
  have h0 := less_lo ⟨s.toNat, by omega⟩ ⟨p.toNat, by omega⟩
  have e1 : ((s.toNat : Nat) : Int) = s := Int.toNat_of_nonneg h1
  have e2 : ((p.toNat : Nat) : Int) = p := Int.toNat_of_nonneg h3
  simp only [e1, e2] at h0
  obtain ⟨a, b⟩ := h0 h
  refine ⟨a, ?_⟩
  have : ((2 ^ p.toNat : Nat) : Int) = 2 ^ p.toNat := by simp
  omega
theorem link_eq {xs : List Int} {p : Int} (hA : Asc xs) (hz : ∀ z ∈ xs, 0 ≤ z ∧ z < 256) (p1 : 0 ≤ p) (p2 : p ≤ 7) : (xs.filter (fun x => hasB x p)).map (fun x => lessI x p) = sortL ((sortL (xs.filter (fun x => hasB x p))).map (fun x => lessI x p)) := by
  rw [sortL_asc (asc_filter hA _)]
  refine (sortL_asc (asc_map (asc_filter hA _) fun x hx y hy hxy => ?_)).symm
  obtain ⟨hx1, hx2⟩ := List.mem_filter.1 hx
  obtain ⟨hy1, hy2⟩ := List.mem_filter.1 hy
  have a := less_yes (hz x hx1).1 (hz x hx1).2 p1 p2 hx2
  have b := less_yes (hz y hy1).1 (hz y hy1).2 p1 p2 hy2
  omega

/-- the sets that have not p. -/
def woL (p : Int) (xs : List Int) : List Int := xs.filter (fun x => !hasB x p)
theorem woL_len (p : Int) (xs : List Int) : (woL p xs).length ≤ xs.length := List.length_filter_le _ _
/-- the sets that have p, less p. -/
def liL (p : Int) (xs : List Int) : List Int := (xs.filter (fun x => hasB x p)).map (fun x => lessI x p)
theorem liL_len (p : Int) (xs : List Int) : (liL p xs).length ≤ xs.length := by unfold liL; rw [List.length_map]; exact List.length_filter_le _ _
theorem woL_yes {p x : Int} {xs : List Int} {k : Nat} (hk : k < xs.length) (hx : xs.getD k 0 = x) (h : hasB x p = false) : woL p (xs.take (k + 1)) = woL p (xs.take k) ++ [x] := filt_yes hk hx _ (by simp [h])
theorem woL_no {p x : Int} {xs : List Int} {k : Nat} (hk : k < xs.length) (hx : xs.getD k 0 = x) (h : hasB x p = true) : woL p (xs.take (k + 1)) = woL p (xs.take k) := filt_no hk hx _ (by simp [h])
theorem liL_yes {p x : Int} {xs : List Int} {k : Nat} (hk : k < xs.length) (hx : xs.getD k 0 = x) (h : hasB x p = true) : liL p (xs.take (k + 1)) = liL p (xs.take k) ++ [lessI x p] := by unfold liL; rw [filt_yes hk hx (fun x => hasB x p) h, List.map_append]; rfl
theorem liL_no {p x : Int} {xs : List Int} {k : Nat} (hk : k < xs.length) (hx : xs.getD k 0 = x) (h : hasB x p = false) : liL p (xs.take (k + 1)) = liL p (xs.take k) := by unfold liL; rw [filt_no hk hx (fun x => hasB x p) h]

end Go.Proofs.Ytgfmfecalhmplaa
