/- Pressing does not take inner edges away: plain mathematics. -/
import Derived.Test.YtpepcjffolbdcaaDoorEm1
import Derived.Test.YtpepcjffolbdcaaDoorEm2
import Derived.Test.YtpepcjffolbdcaaDoorAllTn
namespace Go.Proofs.YtpepcjffolbdcaaDoor
open Go.ChangeShapes Go.WideShapes Go.ChangeAt Go.RowKit Go.Proofs

theorem mem_tn {φ : Int → Int} {xs : List Int} {z : Int} : z ∈ tnL φ xs ↔ (z ∈ xs ∧ φ z ∈ xs) ∨ (∃ x ∈ xs, φ x ∉ xs ∧ φ x = z) := by
  unfold tnL
  rw [mem_sortL, List.mem_map]
  constructor
  · rintro ⟨x, hx, h⟩
    unfold rpI at h
    rcases (by cases memB (φ x) xs <;> simp : memB (φ x) xs = true ∨ memB (φ x) xs = false) with hm | hm
    · rw [hm, if_pos rfl] at h
      subst h
      exact .inl ⟨hx, memB_yes hm⟩
    · rw [hm, if_neg (by simp)] at h
      exact .inr ⟨x, hx, memB_no hm, h⟩
  · rintro (⟨h1, h2⟩ | ⟨x, hx, h1, h2⟩)
    · exact ⟨z, h1, by unfold rpI; rw [memB_mk h2, if_pos rfl]⟩
    · exact ⟨x, hx, by unfold rpI; rw [memB_mk0 h1, if_neg (by simp)]; exact h2⟩
/-- the pressed family, below and above the point. -/
theorem pr_lo {n : Int} {xs : List Int} (hf : famB n xs = true) {p : Nat} (hp : p < 8) {z : Int} (z0 : 0 ≤ z) (z1 : z < 256) (hz : hasB z (p : Nat) = false) :
    memB z (tnL (fun x => lessI x (p : Nat)) xs) = (memB z xs || memB (withI z (p : Nat)) xs) := by
  obtain ⟨_, _, f⟩ := nb_facts z0 z1 hp
  obtain ⟨f1, f2⟩ := f hz
  have hl : lessI z (p : Nat) = z := by unfold lessI; rw [hz]; rfl
  unfold memB
  rw [← Bool.decide_or]
  refine decide_eq_decide.2 ?_
  rw [mem_tn]
  constructor
  · rintro (⟨h1, _⟩ | ⟨x, hx, h1, h2⟩)
    · exact .inl h1
    · obtain ⟨x0, x1⟩ := famB_lt hf x hx
      rcases (by cases hasB x (p : Nat) <;> simp : hasB x (p : Nat) = true ∨ hasB x (p : Nat) = false) with hh | hh
      · obtain ⟨_, g, _⟩ := nb_facts x0 x1 hp
        have h2 : lessI x (p : Nat) = z := h2
        have := (g hh).2
        rw [h2] at this
        rw [this]; exact .inr hx
      · have : lessI x (p : Nat) = x := by unfold lessI; rw [hh]; rfl
        exact absurd (by show lessI x (p : Nat) ∈ xs; rw [this]; exact hx) h1
  · intro h
    by_cases hz2 : z ∈ xs
    · exact .inl ⟨hz2, by show lessI z (p : Nat) ∈ xs; rw [hl]; exact hz2⟩
    · rcases h with h | h
      · exact absurd h hz2
      · exact .inr ⟨_, h, by show lessI (withI z (p : Nat)) (p : Nat) ∉ xs; rw [f2]; exact hz2, f2⟩
theorem pr_hi {n : Int} {xs : List Int} (hf : famB n xs = true) {p : Nat} (hp : p < 8) {z : Int} (z0 : 0 ≤ z) (z1 : z < 256) (hz : hasB z (p : Nat) = false) :
    memB (withI z (p : Nat)) (tnL (fun x => lessI x (p : Nat)) xs) = (memB z xs && memB (withI z (p : Nat)) xs) := by
  obtain ⟨_, _, f⟩ := nb_facts z0 z1 hp
  obtain ⟨f1, f2⟩ := f hz
  unfold memB
  rw [← Bool.decide_and]
  refine decide_eq_decide.2 ?_
  rw [mem_tn]
  constructor
  · rintro (⟨h1, h2⟩ | ⟨x, hx, h1, h2⟩)
    · have h2 : lessI (withI z (p : Nat)) (p : Nat) ∈ xs := h2
      rw [f2] at h2
      exact ⟨h2, h1⟩
    · obtain ⟨x0, x1⟩ := famB_lt hf x hx
      have h2 : lessI x (p : Nat) = withI z (p : Nat) := h2
      have hb : hasB (lessI x (p : Nat)) (p : Nat) = false := by
        rcases (by cases hasB x (p : Nat) <;> simp : hasB x (p : Nat) = true ∨ hasB x (p : Nat) = false) with hh | hh
        · obtain ⟨_, g, _⟩ := nb_facts x0 x1 hp
          exact (g hh).1
        · unfold lessI; rw [hh]; exact hh
      rw [h2, f1] at hb; cases hb
  · rintro ⟨h1, h2⟩
    exact .inl ⟨h2, by show lessI (withI z (p : Nat)) (p : Nat) ∈ xs; rw [f2]; exact h1⟩
/-- the inner edges at q, over the sets without p. -/
theorem col_at {n : Int} {xs : List Int} (hf : famB n xs = true) {p q : Nat} (hp : (p : Int) < n) (hq : (q : Int) < n) (hne : q ≠ p) :
    xs.countP (fun s => inP xs s q) = (upI (2 ^ n.toNat)).countP (fun z => !hasB z (p : Nat) && (hasB z (q : Nat) && (memB z xs && memB (lessI z (q : Nat)) xs))) + (upI (2 ^ n.toNat)).countP (fun z => !hasB z (p : Nat) && (hasB z (q : Nat) && (memB (withI z (p : Nat)) xs && memB (withI (lessI z (q : Nat)) (p : Nat)) xs))) := by
  obtain ⟨n1, n2, hs⟩ := famB_all hf
  have h256 := pow_le256 n1 n2
  have a1 : xs.countP (fun s => inP xs s q) = (upI (2 ^ n.toNat)).countP (fun s => hasB s (q : Nat) && (memB s xs && memB (lessI s (q : Nat)) xs)) := by
    conv => lhs; rw [show xs.countP (fun s => inP xs s q) = ((upI (2 ^ n.toNat)).filter (fun x => memB x xs)).countP (fun s => inP xs s q) by rw [fam_filter hf]]
    rw [List.countP_filter]
    refine List.countP_congr (fun s _ => ?_)
    unfold inP
    cases hasB s (q : Nat) <;> cases memB s xs <;> cases memB (lessI s (q : Nat)) xs <;> simp
  have c := swap_pt n1 n2 hp (fun s => hasB s (q : Nat) && (memB s xs && memB (lessI s (q : Nat)) xs)) (fun z => hasB z (q : Nat) && (memB (withI z (p : Nat)) xs && memB (withI (lessI z (q : Nat)) (p : Nat)) xs)) (fun s s0 s1 hh => by
    have hp8 : p < 8 := by omega
    have hq8 : q < 8 := by omega
    obtain ⟨c1, c2⟩ := less_comm s0 (by omega) hp8 hq8 (fun e => hne e.symm)
    obtain ⟨d1, d2⟩ := less_comm s0 (by omega) hq8 hp8 hne
    obtain ⟨_, f, _⟩ := nb_facts s0 (by omega) hp8
    have hl := less_lt s0 (by omega) (show (0 : Int) ≤ (q : Nat) by omega) (show ((q : Nat) : Int) ≤ 7 by omega)
    obtain ⟨_, g, _⟩ := nb_facts hl.1 hl.2 hp8
    show (hasB s (q : Nat) && (memB s xs && memB (lessI s (q : Nat)) xs)) = (hasB (lessI s (p : Nat)) (q : Nat) && (memB (withI (lessI s (p : Nat)) (p : Nat)) xs && memB (withI (lessI (lessI s (p : Nat)) (q : Nat)) (p : Nat)) xs))
    rw [c1, (f hh).2, c2, (g (by rw [d1]; exact hh)).2])
  rw [a1, count_split (fun s => hasB s (p : Nat)), c]
  omega
theorem countP_le4 (A B C D : Int → Bool) : ∀ U : List Int, (∀ x ∈ U, (if A x then 1 else 0) + (if B x then 1 else 0) ≤ (if C x then 1 else 0) + (if D x then 1 else (0 : Nat))) → U.countP A + U.countP B ≤ U.countP C + U.countP D
  | [], _ => by simp
  | x :: U, h => by
    have ih := countP_le4 A B C D U (fun y hy => h y (List.mem_cons_of_mem _ hy))
    have hx := h x (List.mem_cons_self ..)
    simp only [List.countP_cons]
    omega
theorem press_col {n : Int} {xs : List Int} (hf : famB n xs = true) {p : Nat} (hp : (p : Int) < n) (hft : famB n (tnL (fun x => lessI x (p : Nat)) xs) = true) {q : Nat} (hq : (q : Int) < n) :
    xs.countP (fun s => inP xs s q) ≤ (tnL (fun x => lessI x (p : Nat)) xs).countP (fun s => inP (tnL (fun x => lessI x (p : Nat)) xs) s q) := by
  obtain ⟨n1, n2, hs⟩ := famB_all hf
  have h256 := pow_le256 n1 n2
  have eN : ((2 ^ n.toNat : Nat) : Int) = 2 ^ n.toNat := by simp
  have hp8 : p < 8 := by omega
  have hq8 : q < 8 := by omega
  by_cases hne : q = p
  · subst hne
    -- both counts are over the sets without the point
    have key : ∀ ys : List Int, famB n ys = true → ys.countP (fun s => inP ys s q) = (upI (2 ^ n.toNat)).countP (fun z => !hasB z (q : Nat) && (memB z ys && memB (withI z (q : Nat)) ys)) := fun ys hy => by
      have a1 : ys.countP (fun s => inP ys s q) = (upI (2 ^ n.toNat)).countP (fun s => hasB s (q : Nat) && (memB s ys && memB (lessI s (q : Nat)) ys)) := by
        conv => lhs; rw [show ys.countP (fun s => inP ys s q) = ((upI (2 ^ n.toNat)).filter (fun x => memB x ys)).countP (fun s => inP ys s q) by rw [fam_filter hy]]
        rw [List.countP_filter]
        refine List.countP_congr (fun s _ => ?_)
        unfold inP
        cases hasB s (q : Nat) <;> cases memB s ys <;> cases memB (lessI s (q : Nat)) ys <;> simp
      rw [a1]
      exact swap_pt n1 n2 hq _ _ (fun s s0 s1 hh => by
        obtain ⟨_, f, _⟩ := nb_facts s0 (by omega) hq8
        show (memB s ys && memB (lessI s (q : Nat)) ys) = (memB (lessI s (q : Nat)) ys && memB (withI (lessI s (q : Nat)) (q : Nat)) ys)
        rw [(f hh).2, Bool.and_comm])
    rw [key xs hf, key _ hft]
    refine Nat.le_of_eq (List.countP_congr (fun z hz => ?_))
    have hz2 := mem_upI.1 hz
    rcases (by cases hasB z (q : Nat) <;> simp : hasB z (q : Nat) = true ∨ hasB z (q : Nat) = false) with hh | hh
    · rw [hh]; simp
    · rw [hh, pr_lo hf hp8 hz2.1 (by omega) hh, pr_hi hf hp8 hz2.1 (by omega) hh]
      cases memB z xs <;> cases memB (withI z (q : Nat)) xs <;> simp
  · rw [col_at hf hp hq hne, col_at hft hp hq hne]
    refine countP_le4 _ _ _ _ _ (fun z hz => ?_)
    have hz2 := mem_upI.1 hz
    rcases (by cases hasB z (p : Nat) <;> simp : hasB z (p : Nat) = true ∨ hasB z (p : Nat) = false) with hh | hh
    · rw [hh]; simp
    · have hl := less_lt hz2.1 (show z < 256 by omega) (show (0 : Int) ≤ (q : Nat) by omega) (show ((q : Nat) : Int) ≤ 7 by omega)
      obtain ⟨d1, _⟩ := less_comm hz2.1 (show z < 256 by omega) hq8 hp8 hne
      rw [hh, pr_lo hf hp8 hz2.1 (by omega) hh, pr_hi hf hp8 hz2.1 (by omega) hh, pr_lo hf hp8 hl.1 hl.2 (by rw [d1]; exact hh), pr_hi hf hp8 hl.1 hl.2 (by rw [d1]; exact hh)]
      cases hasB z (q : Nat) <;> cases memB z xs <;> cases memB (withI z (p : Nat)) xs <;> cases memB (lessI z (q : Nat)) xs <;> cases memB (withI (lessI z (q : Nat)) (p : Nat)) xs <;> decide
theorem colT_mono {P Q : Int → Nat → Bool} {xs ys : List Int} : ∀ k, (∀ q, q < k → xs.countP (fun s => P s q) ≤ ys.countP (fun s => Q s q)) → colT P xs k ≤ colT Q ys k
  | 0, _ => Nat.le_refl _
  | k + 1, h => by
    have ih := colT_mono (P := P) (Q := Q) (xs := xs) (ys := ys) k (fun q hq => h q (by omega))
    have := h k (by omega)
    simp only [colT]; omega
theorem press_ie {n : Int} {xs : List Int} (hf : famB n xs = true) {p : Nat} (hp : (p : Int) < n) (hft : famB n (tnL (fun x => lessI x (p : Nat)) xs) = true) : ieN xs ≤ ieN (tnL (fun x => lessI x (p : Nat)) xs) := by
  have a := ie_model hf
  have b := ie_model hft
  obtain ⟨n1, n2, hs⟩ := famB_all hf
  have c := nb_twice (famB_asc hf) (famB_lt hf) n.toNat (by omega)
  have d := nb_twice (famB_asc hft) (famB_lt hft) n.toNat (by omega)
  have e := colT_mono (P := inP xs) (Q := inP (tnL (fun x => lessI x (p : Nat)) xs)) n.toNat (fun q hq => press_col hf hp hft (q := q) (by omega))
  omega
end Go.Proofs.YtpepcjffolbdcaaDoor
