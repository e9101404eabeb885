/- Shadows: the model. -/
import Derived.Test.YtgkbaenjniapiaaDoorAllSp
import Derived.Test.YtgkbaenjniapiaaDoorShm6
namespace Go.Proofs.YtgkbaenjniapiaaDoor
open Go.ChangeShapes Go.WideShapes Go.ChangeAt Go.RowKit Go.Proofs

theorem xor_less {s p : Int} (h1 : 0 ≤ s) (h2 : s < 256) (h3 : 0 ≤ p) (h4 : p ≤ 7) : hasB s p = true → bits .xor .i64 s (wrap64 (2 ^ p.toNat)) = lessI s p :=
  all256_8 (P := fun s p => hasB s p = true → bits .xor .i64 s (wrap64 (2 ^ p.toNat)) = lessI s p) (by decide +kernel) h1 h2 h3 h4
theorem xor_with {s p : Int} (h1 : 0 ≤ s) (h2 : s < 256) (h3 : 0 ≤ p) (h4 : p ≤ 7) : hasB s p = false → bits .xor .i64 s (wrap64 (2 ^ p.toNat)) = withI s p :=
  all256_8 (P := fun s p => hasB s p = false → bits .xor .i64 s (wrap64 (2 ^ p.toNat)) = withI s p) (by decide +kernel) h1 h2 h3 h4
/-- one point the other way. -/
def pickI (u : Bool) (x p : Int) : Int := if u then withI x p else lessI x p
theorem xor_pick {u : Bool} {s p : Int} (h1 : 0 ≤ s) (h2 : s < 256) (h3 : 0 ≤ p) (h4 : p ≤ 7) (h : (hasB s p != u) = true) : bits .xor .i64 s (wrap64 (2 ^ p.toNat)) = pickI u s p := by
  cases u with
  | true => exact xor_with h1 h2 h3 h4 (by simpa using h)
  | false => exact xor_less h1 h2 h3 h4 (by simpa using h)
/-- what the model marks of one set, points below m. -/
def onL (u : Bool) (x : Int) (m : Nat) : List Int := ((upI m).filter fun p => hasB x p != u).map fun p => pickI u x p
theorem onL_succ (u : Bool) (x : Int) (m : Nat) : onL u x (m + 1) = onL u x m ++ (if (hasB x (m : Nat) != u) = true then [pickI u x (m : Nat)] else []) := by
  unfold onL; rw [upI_succ, filter_snoc, List.map_append]
  by_cases h : (hasB x (m : Nat) != u) = true
  · rw [if_pos h, if_pos h]; rfl
  · rw [if_neg h, if_neg h]; rfl
/-- what the model marks. -/
def spL (u : Bool) (n : Int) (xs : List Int) : List Int := xs.flatMap fun x => onL u x n.toNat
theorem spL_step {u : Bool} {n : Int} {xs : List Int} {k : Nat} (hk : k < xs.length) {x : Int} (hx : xs.getD k 0 = x) : spL u n (xs.take (k + 1)) = spL u n (xs.take k) ++ onL u x n.toNat := by
  unfold spL; rw [take_snoc hk, hx, List.flatMap_append]; simp
theorem pick_set {u : Bool} {n x p : Int} (hx : setB n x = true) (h0 : 0 ≤ p) (h1 : p < n) : setB n (pickI u x p) = true := by
  obtain ⟨n1, n8, x0, x1⟩ := setB_yes hx
  obtain ⟨N, rfl⟩ : ∃ N : Nat, n = N := ⟨n.toNat, by omega⟩
  obtain ⟨X, rfl⟩ : ∃ X : Nat, x = X := ⟨x.toNat, by omega⟩
  obtain ⟨q, rfl⟩ : ∃ q : Nat, p = q := ⟨p.toNat, by omega⟩
  rw [Int.toNat_natCast] at x1
  have x2 : X < 2 ^ N := by exact_mod_cast x1
  have hp : 2 ^ q < 2 ^ N := Nat.pow_lt_pow_right (by omega) (by omega)
  cases u with
  | true =>
    refine setB_mk ⟨n1, n8, by unfold pickI withI; simp, ?_⟩
    show ((X ||| 2 ^ q : Nat) : Int) < _
    rw [Int.toNat_natCast]
    exact_mod_cast Nat.or_lt_two_pow x2 hp
  | false =>
    show setB N (lessI X q) = true
    exact less_set hx h0 (by omega)
theorem spL_all {u : Bool} {n : Int} {xs : List Int} (h : ∀ x ∈ xs, setB n x = true) : allB n (spL u n xs) = true := List.all_eq_true.2 fun z hz => by
  obtain ⟨x, hx, hz⟩ := List.mem_flatMap.1 hz
  obtain ⟨p, hp, rfl⟩ := List.mem_map.1 hz
  obtain ⟨hp, _⟩ := List.mem_filter.1 hp
  have hp := mem_upI.1 hp
  have := setB_yes (h x hx)
  exact pick_set (h x hx) hp.1 (by omega)
theorem dn_one : ∀ n : Fin 9, ∀ x : Fin 256, x.val < 2 ^ n.val → (upI n.val).filter (fun p => hasB x.val p != false) = ptsI x.val := by decide +kernel
theorem up_one : ∀ n : Fin 9, ∀ x : Fin 256, x.val < 2 ^ n.val → (upI n.val).filter (fun p => hasB x.val p != true) = ptsI (2 ^ n.val - 1 - ((x.val : Nat) : Int)) := by decide +kernel
theorem onL_dn {n x : Int} (h : setB n x = true) : onL false x n.toNat = (ptsI x).map fun p => lessI x p := by
  obtain ⟨n1, n8, x0, x1⟩ := setB_yes h
  obtain ⟨_, x2⟩ := setB_lt h
  have e : ((x.toNat : Nat) : Int) = x := Int.toNat_of_nonneg x0
  have hd := dn_one ⟨n.toNat, by omega⟩ ⟨x.toNat, by omega⟩ (by
    have : ((x.toNat : Nat) : Int) < ((2 ^ n.toNat : Nat) : Int) := by rw [e]; simpa using x1
    simpa using Int.ofNat_lt.1 this)
  simp only [e] at hd
  unfold onL
  rw [hd]
  rfl
theorem onL_up {n x : Int} (h : setB n x = true) : onL true x n.toNat = (ptsI (otherI n x)).map fun p => withI x p := by
  obtain ⟨n1, n8, x0, x1⟩ := setB_yes h
  obtain ⟨_, x2⟩ := setB_lt h
  have e : ((x.toNat : Nat) : Int) = x := Int.toNat_of_nonneg x0
  have hd := up_one ⟨n.toNat, by omega⟩ ⟨x.toNat, by omega⟩ (by
    have : ((x.toNat : Nat) : Int) < ((2 ^ n.toNat : Nat) : Int) := by rw [e]; simpa using x1
    simpa using Int.ofNat_lt.1 this)
  simp only [e] at hd
  unfold onL otherI
  rw [hd]
  rfl
theorem spL_dn {n : Int} {xs : List Int} (h : ∀ x ∈ xs, setB n x = true) : spL false n xs = dnL xs := by
  induction xs with
  | nil => rfl
  | cons x xs ih =>
    have := ih (fun y hy => h y (List.mem_cons_of_mem _ hy))
    unfold spL dnL at this ⊢
    rw [List.flatMap_cons, List.flatMap_cons, this, onL_dn (h x (List.mem_cons_self ..))]
theorem spL_up {n : Int} {xs : List Int} (h : ∀ x ∈ xs, setB n x = true) : spL true n xs = upL n xs := by
  induction xs with
  | nil => rfl
  | cons x xs ih =>
    have := ih (fun y hy => h y (List.mem_cons_of_mem _ hy))
    unfold spL upL at this ⊢
    rw [List.flatMap_cons, List.flatMap_cons, this, onL_up (h x (List.mem_cons_self ..))]
end Go.Proofs.YtgkbaenjniapiaaDoor
