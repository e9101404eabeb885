/- All pressings: plain mathematics. -/
import Derived.Test.YtpepcjffolbdcaaDoorPr1
import Derived.Test.YtpepcjffolbdcaaDoorAllTn
import Derived.Test.YtpepcjffolbdcaaDoorPf1
namespace Go.Proofs.YtpepcjffolbdcaaDoor
open Go.ChangeShapes Go.WideShapes Go.ChangeAt Go.RowKit Go.Proofs

set_option maxRecDepth 100000 in
set_option maxHeartbeats 4000000 in
theorem it_endq {n : Int} {φs : List (Int → Int)} (h : TurnsT n φs) : ∀ (m : Nat) {xs : List Int}, famB n xs = true → smI xs ≤ m → ∃ j, rdL φs (itR φs j xs) = itR φs j xs
  | m, xs, hf, hm => by
    by_cases hr : rdL φs xs = xs
    · exact ⟨0, hr⟩
    · have hx : ∃ φ ∈ φs, tnL φ xs ≠ xs := Classical.byContradiction fun hc => hr (rd_same fun φ hφ => Classical.byContradiction fun hn => hc ⟨φ, hφ, hn⟩)
      have hlt := rd_lt h hf hx
      have hf2 := rd_fam (fun φ hφ => (h φ hφ).1) hf
      have hnn := smI_nonneg (fun x hx => (setB_lt ((famB_all hf2).2.2 x hx)).1)
      cases m with
      | zero => omega
      | succ m =>
        obtain ⟨j, hj⟩ := it_endq h m hf2 (by omega)
        have hcomm : ∀ j ys, itR φs (j + 1) ys = itR φs j (rdL φs ys) := fun j ys => by
          induction j with
          | zero => rfl
          | succ j ih => show rdL φs (itR φs (j + 1) ys) = rdL φs (itR φs j (rdL φs ys)); rw [ih]
        exact ⟨j + 1, by rw [hcomm]; exact hj⟩
set_option maxRecDepth 100000 in
set_option maxHeartbeats 4000000 in
theorem st_isq {n : Int} {φs : List (Int → Int)} (h : TurnsT n φs) {xs : List Int} (hf : famB n xs = true) : ∃ j, stL φs xs = itR φs j xs ∧ rdL φs (stL φs xs) = stL φs xs := by
  have hnn := smI_nonneg (fun x hx => (setB_lt ((famB_all hf).2.2 x hx)).1)
  obtain ⟨j, hj⟩ := it_endq h (smI xs).toNat hf (by omega)
  have := st_eq hj
  exact ⟨j, this.symm, by rw [← this]; exact hj⟩
set_option maxRecDepth 100000 in
set_option maxHeartbeats 4000000 in
theorem rd_keepq {n : Int} (Q : List Int → Prop) : ∀ {φs : List (Int → Int)} {xs : List Int}, (∀ φ ∈ φs, SetT n φ) → (∀ φ ∈ φs, ∀ ys, famB n ys = true → Q ys → Q (tnL φ ys)) → famB n xs = true → Q xs → Q (rdL φs xs)
  | [], _, _, _, _, hq => hq
  | φ :: φs, xs, hs, hk, hf, hq => by
    rw [rd_cons]
    exact rd_keepq Q (fun ψ hψ => hs ψ (List.mem_cons_of_mem _ hψ)) (fun ψ hψ => hk ψ (List.mem_cons_of_mem _ hψ)) (tn_fam (hs φ List.mem_cons_self) hf) (hk φ List.mem_cons_self xs hf hq)
set_option maxRecDepth 100000 in
set_option maxHeartbeats 4000000 in
theorem st_keepq {n : Int} (Q : List Int → Prop) {φs : List (Int → Int)} {xs : List Int} (h : TurnsT n φs) (hk : ∀ φ ∈ φs, ∀ ys, famB n ys = true → Q ys → Q (tnL φ ys)) (hf : famB n xs = true) (hq : Q xs) : Q (stL φs xs) := by
  obtain ⟨j, hj, _⟩ := st_isq h hf
  rw [hj]
  clear hj
  induction j with
  | zero => exact hq
  | succ j ih => exact rd_keepq Q (fun φ hφ => (h φ hφ).1) hk (it_fam h hf j) ih
set_option maxRecDepth 100000 in
set_option maxHeartbeats 4000000 in
theorem stays_stq {n : Int} {φs : List (Int → Int)} (h : TurnsT n φs) {xs : List Int} (hf : famB n xs = true) : staysB n φs (stL φs xs) = true := by
  obtain ⟨j, hj, hr⟩ := st_isq h hf
  have hf2 := st_in h hf
  unfold staysB
  rw [hf2, Bool.true_and]
  have h1 := rd_one h hf2 hr
  have h2 : φs.any (fun φ => !sameB (tnL φ (stL φs xs)) (stL φs xs)) = false := List.any_eq_false.2 fun φ hφ => by rw [h1 φ hφ]; simp [sameB]
  rw [h2]; rfl
set_option maxRecDepth 100000 in
set_option maxHeartbeats 4000000 in
theorem map_nodupq {f : Int → Int} : ∀ {xs : List Int}, xs.Nodup → (∀ x ∈ xs, ∀ y ∈ xs, f x = f y → x = y) → (xs.map f).Nodup
  | [], _, _ => List.nodup_nil
  | a :: xs, h, hi => by
    rw [List.nodup_cons] at h
    rw [List.map_cons, List.nodup_cons]
    refine ⟨fun hm => ?_, map_nodupq h.2 fun x hx y hy => hi x (List.mem_cons_of_mem _ hx) y (List.mem_cons_of_mem _ hy)⟩
    obtain ⟨b, hb, e⟩ := List.mem_map.1 hm
    exact h.1 (hi b (List.mem_cons_of_mem _ hb) a List.mem_cons_self e ▸ hb)
theorem rp_injq {p : Nat} (hp : p < 8) {xs : List Int} (hz : ∀ z ∈ xs, 0 ≤ z ∧ z < 256) {x y : Int} (hx : x ∈ xs) (hy : y ∈ xs) (h : rpI (fun x => lessI x (p : Nat)) xs x = rpI (fun x => lessI x (p : Nat)) xs y) : x = y := by
  unfold rpI at h
  have back : ∀ z ∈ xs, memB (lessI z (p : Nat)) xs = false → withI (lessI z (p : Nat)) (p : Nat) = z := fun z hm hn => by
    obtain ⟨z0, z1⟩ := hz z hm
    rcases (by cases hasB z (p : Nat) <;> simp : hasB z (p : Nat) = true ∨ hasB z (p : Nat) = false) with hh | hh
    · obtain ⟨_, f, _⟩ := nb_facts z0 z1 hp
      exact (f hh).2
    · have : lessI z (p : Nat) = z := by unfold lessI; rw [hh]; rfl
      rw [this, memB_mk hm] at hn; cases hn
  rcases (by cases memB (lessI x (p : Nat)) xs <;> simp : memB (lessI x (p : Nat)) xs = true ∨ memB (lessI x (p : Nat)) xs = false) with h1 | h1
  · rcases (by cases memB (lessI y (p : Nat)) xs <;> simp : memB (lessI y (p : Nat)) xs = true ∨ memB (lessI y (p : Nat)) xs = false) with h2 | h2
    · simp only [h1, h2] at h; exact h
    · simp only [h1, h2] at h
      exfalso
      have h : x = lessI y (p : Nat) := h
      rw [← h, memB_mk hx] at h2; cases h2
  · rcases (by cases memB (lessI y (p : Nat)) xs <;> simp : memB (lessI y (p : Nat)) xs = true ∨ memB (lessI y (p : Nat)) xs = false) with h2 | h2
    · simp only [h1, h2] at h
      exfalso
      have h : lessI x (p : Nat) = y := h
      rw [h, memB_mk hy] at h1; cases h1
    · simp only [h1, h2] at h
      have h : lessI x (p : Nat) = lessI y (p : Nat) := h
      rw [← back x hx h1, ← back y hy h2, h]
theorem tn_lenq {p : Nat} (hp : p < 8) {xs : List Int} (hA : Asc xs) (hz : ∀ z ∈ xs, 0 ≤ z ∧ z < 256) : (tnL (fun x => lessI x (p : Nat)) xs).length = xs.length := by
  have hn := map_nodupq (f := rpI (fun x => lessI x (p : Nat)) xs) (asc_nodup hA) (fun x hx y hy e => rp_injq hp hz hx hy e)
  have hpm : (tnL (fun x => lessI x (p : Nat)) xs).Perm (xs.map (rpI (fun x => lessI x (p : Nat)) xs)) := (List.perm_ext_iff_of_nodup (asc_nodup (asc_sortL _)) hn).2 fun z => mem_sortL
  rw [hpm.length_eq, List.length_map]
theorem prL_is {n : Int} {φ : Int → Int} (h : φ ∈ prL n) : ∃ p : Nat, (p : Int) < n ∧ φ = fun x => lessI x (p : Nat) := by
  obtain ⟨p, hp, rfl⟩ := List.mem_map.1 h
  have h1 := mem_upI.1 hp
  exact ⟨p.toNat, by omega, by rw [Int.toNat_of_nonneg h1.1]⟩
theorem press_all {n : Int} {xs : List Int} (hf : famB n xs = true) : (stL (prL n) xs).length = xs.length ∧ ieN xs ≤ ieN (stL (prL n) xs) := by
  have h8 := (famB_all hf).2.1
  exact st_keepq (fun ys => ys.length = xs.length ∧ ieN xs ≤ ieN ys) (prL_turns n) (fun φ hφ ys hy hq => by
    obtain ⟨p, hp, rfl⟩ := prL_is hφ
    have hft := tn_fam ((prL_turns n _ hφ).1) hy
    exact ⟨by rw [tn_lenq (by omega) (famB_asc hy) (famB_lt hy)]; exact hq.1, Nat.le_trans hq.2 (press_ie hy hp hft)⟩) hf ⟨rfl, Nat.le_refl _⟩
end Go.Proofs.YtpepcjffolbdcaaDoor
