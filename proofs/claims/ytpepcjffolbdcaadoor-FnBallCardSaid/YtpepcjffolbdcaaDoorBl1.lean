/- Balls and their boundaries: plain mathematics. -/
import Derived.Test.YtpepcjffolbdcaaDoorBp2
import Derived.Test.YtpepcjffolbdcaaDoorDi1
namespace Go.Proofs.YtpepcjffolbdcaaDoor
open Go.ChangeShapes Go.WideShapes Go.ChangeAt Go.RowKit Go.Proofs

theorem mem_bl {n s r z : Int} : z ∈ blL n s r ↔ z ∈ upI (2 ^ n.toNat) ∧ dstI z s ≤ r := by unfold blL; rw [List.mem_filter, decide_eq_true_iff]
theorem step_dec : ∀ y : Fin 256, ∀ p : Fin 8, cntI (y.val : Nat) ≤ cntI (xorI (y.val : Nat) (2 ^ p.val)) + 1 ∧ (hasB (y.val : Nat) (p.val : Nat) = true → cntI (xorI (y.val : Nat) (2 ^ p.val)) + 1 = cntI (y.val : Nat)) := by decide +kernel
theorem step_at {y : Int} (h1 : 0 ≤ y) (h2 : y < 256) {p : Nat} (hp : p < 8) : cntI y ≤ cntI (xorI y (2 ^ p)) + 1 ∧ (hasB y (p : Nat) = true → cntI (xorI y (2 ^ p)) + 1 = cntI y) := by
  have h := step_dec ⟨y.toNat, by omega⟩ ⟨p, hp⟩
  have e : ((y.toNat : Nat) : Int) = y := Int.toNat_of_nonneg h1
  simp only [e] at h
  exact h
theorem cnt_top : ∀ n : Fin 9, ∀ y : Fin 256, y.val < 2 ^ n.val → cntI (y.val : Nat) ≤ (n.val : Nat) := by decide +kernel
theorem dst_flip (z s : Int) (p : Nat) : dstI (xorI z (2 ^ p)) s = cntI (xorI (xorI z s) (2 ^ p)) := by
  unfold dstI
  rw [xorI_assoc, xorI_comm (2 ^ p) s, ← xorI_assoc]
theorem xor_in {n z s : Int} (hz : setB n z = true) (hs : setB n s = true) : 0 ≤ xorI z s ∧ xorI z s < 256 ∧ (xorI z s).toNat < 2 ^ n.toNat := by
  obtain ⟨n1, n2, z1, z2⟩ := setB_yes hz
  obtain ⟨_, _, s1, s2⟩ := setB_yes hs
  have h256 := pow_le256 n1 n2
  have eN : ((2 ^ n.toNat : Nat) : Int) = 2 ^ n.toNat := by simp
  have h : z.toNat ^^^ s.toNat < 2 ^ n.toNat := Nat.xor_lt_two_pow (by omega) (by omega)
  unfold xorI
  refine ⟨by omega, by omega, ?_⟩
  rw [Int.toNat_natCast]
  exact h
theorem bl_fam {n s d : Int} (n1 : 1 ≤ n) (n2 : n ≤ 8) : famB n (blL n s d) = true := by
  have eN : ((2 ^ n.toNat : Nat) : Int) = 2 ^ n.toNat := by simp
  refine famB_mk (ptsB_mk n1 n2) (fun z hz => ?_) (asc_filter (asc_upI _) _)
  have := mem_upI.1 (mem_bl.1 hz).1
  exact setB_mk ⟨n1, n2, this.1, by omega⟩
theorem bl_len {n s d : Int} (hs : setB n s = true) (d0 : 0 ≤ d) (d1 : d ≤ n) : (((blL n s d).length : Nat) : Int) = bndN n (d + 1).toNat := by
  obtain ⟨n1, n2, s1, s2⟩ := setB_yes hs
  have h := bl_size n1 n2 d0 (by omega) s.toNat s s1 s2 (Nat.le_refl _)
  have e : (d + 1).toNat = d.toNat + 1 := by omega
  rw [e, ← h]
  unfold blN blL
  rw [List.countP_eq_length_filter]
/-- the boundary of a ball is the next ball's rest. -/
theorem bl_bd {n s d : Int} (hs : setB n s = true) (d0 : 0 ≤ d) : bdL n (blL n s d) = sortL ((blL n s (d + 1)).filter (fun x => !memB x (blL n s d))) := by
  obtain ⟨n1, n2, s1, s2⟩ := setB_yes hs
  have h256 := pow_le256 n1 n2
  have eN : ((2 ^ n.toNat : Nat) : Int) = 2 ^ n.toNat := by simp
  have hf := bl_fam (s := s) (d := d) n1 n2
  unfold bdL
  refine sortL_eq (asc_sortL _) (fun z => ?_)
  rw [List.mem_filter, mem_sortL, List.mem_filter]
  constructor
  · rintro ⟨h1, h2⟩
    refine ⟨?_, h2⟩
    have hz := nb_set' hf z h1
    obtain ⟨_, _, z1, z2⟩ := setB_yes hz
    obtain ⟨x1, x2, x3⟩ := xor_in hz hs
    obtain ⟨p, hp, hm⟩ := (nr_iff _ _ _).1 ((nb_mem hf z1 z2).1 h1)
    unfold nbP at hm
    have hm := (mem_bl.1 (memB_yes hm)).2
    rw [dst_flip] at hm
    have h3 := (step_at x1 x2 (show p < 8 by omega)).1
    refine mem_bl.2 ⟨mem_upI.2 ⟨z1, by omega⟩, ?_⟩
    unfold dstI
    omega
  · rintro ⟨h1, h2⟩
    refine ⟨?_, h2⟩
    obtain ⟨hU, hd⟩ := mem_bl.1 h1
    have hz2 := mem_upI.1 hU
    have hz : setB n z = true := setB_mk ⟨n1, n2, hz2.1, by omega⟩
    obtain ⟨x1, x2, x3⟩ := xor_in hz hs
    have hgt : d < dstI z s := by
      refine Classical.byContradiction fun hc => ?_
      rw [memB_mk (mem_bl.2 ⟨hU, by omega⟩)] at h2
      cases h2
    unfold dstI at hgt hd
    have hne : (xorI z s).toNat ≠ 0 := fun h0 => by
      have h0' : xorI z s = 0 := by omega
      rw [h0'] at hgt
      have : cntI 0 = 0 := by decide
      omega
    obtain ⟨p, hp, _⟩ := top_dec ⟨(xorI z s).toNat, by omega⟩ hne
    have e : (((xorI z s).toNat : Nat) : Int) = xorI z s := Int.toNat_of_nonneg x1
    simp only [e] at hp
    have hpn : p.val < n.toNat := by
      refine Classical.byContradiction fun hc => ?_
      have := has_high ⟨n.toNat, by omega⟩ ⟨(xorI z s).toNat, by omega⟩ p x3 (by show n.toNat ≤ p.val; omega)
      simp only [e] at this
      rw [this] at hp; cases hp
    refine (nb_mem hf hz2.1 (by omega)).2 ((nr_iff _ _ _).2 ⟨p.val, hpn, ?_⟩)
    unfold nbP
    obtain ⟨t, ht, htN⟩ := nb_bd hz (p := p.val) (by omega)
    refine memB_mk (mem_bl.2 ⟨?_, ?_⟩)
    · rw [ht]; exact mem_upI.2 ⟨by omega, by omega⟩
    · rw [dst_flip]
      have := (step_at x1 x2 p.isLt).2 hp
      omega
theorem bl_top {n s : Int} (hs : setB n s = true) : bdL n (blL n s n) = [] := by
  obtain ⟨n1, n2, s1, s2⟩ := setB_yes hs
  have eN : ((2 ^ n.toNat : Nat) : Int) = 2 ^ n.toNat := by simp
  have hf := bl_fam (s := s) (d := n) n1 n2
  unfold bdL
  have : (nbL n (blL n s n)).filter (fun x => !memB x (blL n s n)) = [] := by
    rw [List.filter_eq_nil_iff]
    intro z h1
    have hz := nb_set' hf z h1
    obtain ⟨_, _, z1, z2⟩ := setB_yes hz
    obtain ⟨x1, x2, x3⟩ := xor_in hz hs
    have h := cnt_top ⟨n.toNat, by omega⟩ ⟨(xorI z s).toNat, by omega⟩ x3
    have e : (((xorI z s).toNat : Nat) : Int) = xorI z s := Int.toNat_of_nonneg x1
    have e2 : ((n.toNat : Nat) : Int) = n := Int.toNat_of_nonneg (by omega)
    simp only [e, e2] at h
    rw [memB_mk (mem_bl.2 ⟨mem_upI.2 ⟨z1, by omega⟩, h⟩)]
    simp
  rw [this]
  rfl
end Go.Proofs.YtpepcjffolbdcaaDoor
