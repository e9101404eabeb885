/- The least distance: the program, the model, the law. -/
import Derived.Test.YtcadlfljlobjjaaBn1
import Derived.Test.YtcadlfljlobjjaaLawBool
import Derived.Lib.MinMax
import Derived.Deep.RegionWith
namespace Go.Proofs.Ytcadlfljlobjjaa
open Go.ChangeShapes Go.WideShapes Go.ChangeAt Go.RowKit Go.Proofs

/-- m, or the least distance of s from one of ys. -/
def rowD (m s : Int) (ys : List Int) : Int := ys.foldl (fun a x => min a (dstI s x)) m
theorem rowD_snoc (m s : Int) (ys : List Int) (x : Int) : rowD m s (ys ++ [x]) = min (rowD m s ys) (dstI s x) := by unfold rowD; rw [List.foldl_append]; rfl
theorem rowD_take {m s : Int} {ys : List Int} {j : Nat} (h : j < ys.length) : rowD m s (ys.take (j + 1)) = min (rowD m s (ys.take j)) (dstI s (ys.getD j 0)) := by rw [take_snoc h, rowD_snoc]
theorem rowD_min (s : Int) : ∀ (ys : List Int) (m a : Int), rowD (min m a) s ys = min m (rowD a s ys)
  | [], _, _ => rfl
  | y :: ys, m, a => by
    have e : min (min m a) (dstI s y) = min m (min a (dstI s y)) := by omega
    show rowD (min (min m a) (dstI s y)) s ys = min m (rowD (min a (dstI s y)) s ys)
    rw [e, rowD_min s ys]
theorem rowD_le (s : Int) : ∀ (ys : List Int) (a : Int), rowD a s ys ≤ a
  | [], _ => Int.le_refl _
  | y :: ys, a => by
    have h : rowD a s (y :: ys) = rowD (min a (dstI s y)) s ys := rfl
    have := rowD_le s ys (min a (dstI s y))
    rw [h]; omega
theorem rowD_ge (s : Int) : ∀ (ys : List Int) (a : Int), 0 ≤ a → 0 ≤ rowD a s ys
  | [], _, h => h
  | y :: ys, a, h => by
    have e : rowD a s (y :: ys) = rowD (min a (dstI s y)) s ys := rfl
    rw [e]
    exact rowD_ge s ys _ (by have : 0 ≤ dstI s y := (cntI_bd _).1; omega)
/-- the same over the first k of a list. -/
def ldT (m : Int) (xs : List Int) : Nat → Int
  | 0 => m
  | k + 1 => rowD (ldT m xs k) (xs.getD k 0) (xs.take k)
theorem ldT_min (xs : List Int) (m a : Int) : ∀ k, ldT (min m a) xs k = min m (ldT a xs k)
  | 0 => rfl
  | k + 1 => by
    show rowD (ldT (min m a) xs k) _ _ = min m (rowD (ldT a xs k) _ _)
    rw [ldT_min xs m a k, rowD_min]
theorem ldT_bd (xs : List Int) (a : Int) (h : 0 ≤ a) : ∀ k, 0 ≤ ldT a xs k ∧ ldT a xs k ≤ a
  | 0 => ⟨h, Int.le_refl _⟩
  | k + 1 => by
    obtain ⟨h1, h2⟩ := ldT_bd xs a h k
    have h3 := rowD_le (xs.getD k 0) (xs.take k) (ldT a xs k)
    exact ⟨rowD_ge _ _ _ h1, by show rowD (ldT a xs k) _ _ ≤ a; omega⟩
theorem ldT_two (xs : List Int) (a : Int) (h : 2 ≤ xs.length) : ∀ k, 2 ≤ k → ldT a xs k ≤ dstI (xs.getD 1 0) (xs.getD 0 0)
  | 0, h => by omega
  | 1, h => by omega
  | 2, _ => by
    show rowD (ldT a xs 1) (xs.getD 1 0) (xs.take 1) ≤ _
    rw [rowD_take (j := 0) (by omega)]
    omega
  | k + 3, _ => by
    have := ldT_two xs a h (k + 2) (by omega)
    have h3 := rowD_le (xs.getD (k + 2) 0) (xs.take (k + 2)) (ldT a xs (k + 2))
    show rowD (ldT a xs (k + 2)) _ _ ≤ _
    omega
theorem cnt_pts : ∀ n : Fin 9, ∀ z : Fin 256, z.val < 2 ^ n.val → cntI ((z.val : Nat) : Int) ≤ ((n.val : Nat) : Int) := by decide +kernel
theorem dst_pts {n x y : Int} (hx : setB n x = true) (hy : setB n y = true) : dstI x y ≤ n := by
  obtain ⟨n1, n2, x1, x2⟩ := setB_yes hx
  obtain ⟨_, _, y1, y2⟩ := setB_yes hy
  have h : x.toNat ^^^ y.toNat < 2 ^ n.toNat := Nat.xor_lt_two_pow (nat_lt_pow x2) (nat_lt_pow y2)
  have h8 : (2 : Nat) ^ n.toNat ≤ 256 := Nat.pow_le_pow_right (n := 2) (by omega) (show n.toNat ≤ 8 by omega)
  have := cnt_pts ⟨n.toNat, by omega⟩ ⟨x.toNat ^^^ y.toNat, by omega⟩ h
  dsimp only at this
  unfold dstI xorI
  omega
theorem ldT_same {n : Int} {xs : List Int} (hf : famB n xs = true) (h2 : 2 ≤ xs.length) : ldT n xs xs.length = ldT 8 xs xs.length := by
  obtain ⟨n1, n2, hs⟩ := famB_all hf
  have h := ldT_two xs 8 h2 xs.length h2
  have hd := dst_pts (hs _ (getD_mem (i := 1) (by omega))) (hs _ (getD_mem (i := 0) (by omega)))
  have e : n = min n 8 := by omega
  rw [e, ldT_min]
  omega
/-- a family of two sets at least. -/
def ldB (n : Int) (xs : List Int) : Bool := famB n xs && decide (2 ≤ xs.length)
def ldV (n : Int) (xs : List Int) : Int := if ldB n xs then ldT 8 xs xs.length else 0
end Go.Proofs.Ytcadlfljlobjjaa
