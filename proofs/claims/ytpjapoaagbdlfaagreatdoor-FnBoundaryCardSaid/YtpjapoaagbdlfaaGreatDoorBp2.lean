/- Boundaries: the model. -/
import Derived.Test.YtpjapoaagbdlfaaGreatDoorBp1
import Derived.Test.YtpjapoaagbdlfaaGreatDoorBe3
namespace Go.Proofs.YtpjapoaagbdlfaaGreatDoor
open Go.ChangeShapes Go.WideShapes Go.ChangeAt Go.RowKit Go.Proofs

theorem ownL_monob {w : World} {B B' : Nat} {v : Value} {xs : List Int} (h : OwnL w B v xs) (hB : B' ≤ B) : OwnL w B' v xs := by
  refine ⟨h.1, ?_⟩
  rcases h.2 with hn | ⟨g, cap, cur, rfl, hb, rest⟩
  · exact .inl hn
  · exact .inr ⟨g, cap, cur, rfl, by omega, rest⟩
/-- one of the first k neighbours of s is one of xs. -/
def nrB (xs : List Int) (s : Int) : Nat → Bool
  | 0 => false
  | k + 1 => nrB xs s k || nbP xs s k
theorem nr_iff (xs : List Int) (s : Int) : ∀ k, nrB xs s k = true ↔ ∃ p, p < k ∧ nbP xs s p = true
  | 0 => by simp [nrB]
  | k + 1 => by
    unfold nrB
    rw [Bool.or_eq_true, nr_iff xs s k]
    constructor
    · rintro (⟨p, hp, h⟩ | h)
      · exact ⟨p, by omega, h⟩
      · exact ⟨k, by omega, h⟩
    · rintro ⟨p, hp, h⟩
      by_cases e : p = k
      · subst e; exact .inr h
      · exact .inl ⟨p, by omega, h⟩
theorem pts_all : ∀ x : Fin 256, ∀ p : Fin 8, hasB (x.val : Nat) (p.val : Nat) = true → ((p.val : Nat) : Int) ∈ ptsI (x.val : Nat) := by decide +kernel
theorem pts_in' {x : Int} (h1 : 0 ≤ x) (h2 : x < 256) {p : Nat} (hp : p < 8) (h : hasB x (p : Nat) = true) : ((p : Nat) : Int) ∈ ptsI x := by
  have := pts_all ⟨x.toNat, by omega⟩ ⟨p, hp⟩
  have e : ((x.toNat : Nat) : Int) = x := Int.toNat_of_nonneg h1
  simp only [e] at this
  exact this h
theorem oth_all : ∀ n : Fin 9, ∀ x : Fin 256, ∀ p : Fin 8, x.val < 2 ^ n.val → hasB (otherI (n.val : Nat) (x.val : Nat)) (p.val : Nat) = (decide (p.val < n.val) && !hasB (x.val : Nat) (p.val : Nat)) := by decide +kernel
theorem oth_has {n x : Int} (h : setB n x = true) {p : Nat} (hp : p < 8) : hasB (otherI n x) (p : Nat) = (decide ((p : Int) < n) && !hasB x (p : Nat)) := by
  obtain ⟨n1, n2, x1, x2⟩ := setB_yes h
  have hb := setB_lt h
  have := oth_all ⟨n.toNat, by omega⟩ ⟨x.toNat, by omega⟩ ⟨p, hp⟩ (nat_lt_pow x2)
  have e : ((x.toNat : Nat) : Int) = x := Int.toNat_of_nonneg x1
  have e2 : ((n.toNat : Nat) : Int) = n := Int.toNat_of_nonneg (by omega)
  simp only [e, e2] at this
  rw [this]
  congr 1
  exact decide_eq_decide.2 (by omega)
/-- the neighbours are those that differ in one point. -/
theorem nb_mem {n : Int} {xs : List Int} (hf : famB n xs = true) {z : Int} (h1 : 0 ≤ z) (h2 : z < 2 ^ n.toNat) : z ∈ nbL n xs ↔ nrB xs z n.toNat = true := by
  obtain ⟨n1, n2, hs⟩ := famB_all hf
  have hp8 := pow_le256 n1 n2
  rw [nr_iff]
  unfold nbL
  rw [mem_sortL, List.mem_append, mem_sortL, mem_sortL]
  unfold dnL upL
  constructor
  · rintro (h | h)
    · obtain ⟨x, hx, hm⟩ := List.mem_flatMap.1 h
      obtain ⟨p, hp, rfl⟩ := List.mem_map.1 hm
      obtain ⟨x1, x2⟩ := setB_lt (hs x hx)
      obtain ⟨p1, p2, p3⟩ := mem_pts x1 x2 hp
      obtain ⟨q, rfl⟩ := Int.eq_ofNat_of_zero_le p1
      obtain ⟨_, f, _⟩ := nb_facts x1 x2 (show q < 8 by omega)
      obtain ⟨f1, f2⟩ := f p3
      obtain ⟨g, _, _⟩ := nb_facts h1 (by omega) (show q < 8 by omega)
      rw [f1, if_neg (by simp), f2] at g
      refine ⟨q, ?_, by unfold nbP; rw [g]; exact memB_mk hx⟩
      have hh := has_high ⟨n.toNat, by omega⟩ ⟨x.toNat, by omega⟩ ⟨q, by omega⟩ (nat_lt_pow (setB_yes (hs x hx)).2.2.2)
      have e : ((x.toNat : Nat) : Int) = x := Int.toNat_of_nonneg x1
      simp only [e] at hh
      refine Classical.byContradiction fun hc => ?_
      have := hh (by show n.toNat ≤ q; omega)
      rw [this] at p3; cases p3
    · obtain ⟨x, hx, hm⟩ := List.mem_flatMap.1 h
      obtain ⟨p, hp, rfl⟩ := List.mem_map.1 hm
      obtain ⟨x1, x2⟩ := setB_lt (hs x hx)
      obtain ⟨y1, y2⟩ := setB_lt (other_set (hs x hx))
      obtain ⟨p1, p2, p3⟩ := mem_pts y1 y2 hp
      obtain ⟨q, rfl⟩ := Int.eq_ofNat_of_zero_le p1
      rw [oth_has (hs x hx) (show q < 8 by omega), Bool.and_eq_true, Bool.not_eq_true'] at p3
      obtain ⟨_, _, f⟩ := nb_facts x1 x2 (show q < 8 by omega)
      obtain ⟨f1, f2⟩ := f p3.2
      obtain ⟨g, _, _⟩ := nb_facts h1 (by omega) (show q < 8 by omega)
      rw [f1, if_pos rfl, f2] at g
      have := of_decide_eq_true p3.1
      exact ⟨q, by omega, by unfold nbP; rw [g]; exact memB_mk hx⟩
  · rintro ⟨p, hp, hm⟩
    unfold nbP at hm
    have hm := memB_yes hm
    have hs0 := hs _ hm
    obtain ⟨g, f, f'⟩ := nb_facts h1 (show z < 256 by omega) (show p < 8 by omega)
    rcases (by cases hasB z (p : Nat) <;> simp : hasB z (p : Nat) = true ∨ hasB z (p : Nat) = false) with hz | hz
    · rw [hz, if_pos rfl] at g
      obtain ⟨f1, f2⟩ := f hz
      rw [g] at hm hs0
      refine .inr (List.mem_flatMap.2 ⟨_, hm, List.mem_map.2 ⟨(p : Nat), ?_, f2⟩⟩)
      obtain ⟨y1, y2⟩ := setB_lt (other_set hs0)
      refine pts_in' y1 y2 (by omega) ?_
      rw [oth_has hs0 (by omega), f1, decide_eq_true (by omega)]; rfl
    · rw [hz, if_neg (by simp)] at g
      obtain ⟨f1, f2⟩ := f' hz
      rw [g] at hm hs0
      refine .inl (List.mem_flatMap.2 ⟨_, hm, List.mem_map.2 ⟨(p : Nat), ?_, f2⟩⟩)
      obtain ⟨y1, y2⟩ := setB_lt hs0
      exact pts_in' y1 y2 (by omega) f1
theorem nb_set' {n : Int} {xs : List Int} (hf : famB n xs = true) : ∀ z ∈ nbL n xs, setB n z = true := fun z hz => by
  obtain ⟨n1, n2, hs⟩ := famB_all hf
  unfold nbL at hz
  rcases List.mem_append.1 (mem_sortL.1 hz) with h | h
  · obtain ⟨x, hx, hm⟩ := List.mem_flatMap.1 (mem_sortL.1 h)
    obtain ⟨p, hp, rfl⟩ := List.mem_map.1 hm
    obtain ⟨x1, x2⟩ := setB_lt (hs x hx)
    obtain ⟨p1, p2, p3⟩ := mem_pts x1 x2 hp
    exact less_set (hs x hx) p1 p2
  · obtain ⟨x, hx, hm⟩ := List.mem_flatMap.1 (mem_sortL.1 h)
    obtain ⟨p, hp, rfl⟩ := List.mem_map.1 hm
    obtain ⟨x1, x2⟩ := setB_lt (hs x hx)
    obtain ⟨y1, y2⟩ := setB_lt (other_set (hs x hx))
    obtain ⟨p1, p2, p3⟩ := mem_pts y1 y2 hp
    obtain ⟨q, rfl⟩ := Int.eq_ofNat_of_zero_le p1
    rw [oth_has (hs x hx) (show q < 8 by omega), Bool.and_eq_true, Bool.not_eq_true'] at p3
    have hq := of_decide_eq_true p3.1
    obtain ⟨t, ht, htN⟩ := nb_bd (hs x hx) (p := q) hq
    obtain ⟨g, _, _⟩ := nb_facts x1 x2 (show q < 8 by omega)
    rw [p3.2, if_neg (by simp)] at g
    rw [← g, ht]
    have e : ((2 ^ n.toNat : Nat) : Int) = 2 ^ n.toNat := by simp
    exact setB_mk ⟨n1, n2, by omega, by omega⟩
theorem bd_eq {n : Int} {xs : List Int} (hf : famB n xs = true) : mkL (fun j : Nat => nrB xs (j : Nat) n.toNat && !memB (j : Nat) xs) (2 ^ n.toNat) = bdL n xs := by
  obtain ⟨n1, n2, hs⟩ := famB_all hf
  have e : ((2 ^ n.toNat : Nat) : Int) = 2 ^ n.toNat := by simp
  unfold bdL mkL
  refine (sortL_eq (asc_filter (asc_upI _) _) (fun z => ?_)).symm
  rw [List.mem_filter, List.mem_filter, mem_upI]
  constructor
  · rintro ⟨h1, h2⟩
    obtain ⟨_, _, z1, z2⟩ := setB_yes (nb_set' hf z h1)
    refine ⟨⟨z1, by omega⟩, ?_⟩
    show (nrB xs ((z.toNat : Nat) : Int) n.toNat && !memB ((z.toNat : Nat) : Int) xs) = true
    rw [Int.toNat_of_nonneg z1, (nb_mem hf z1 z2).1 h1]
    exact h2
  · rintro ⟨⟨z1, z2⟩, h⟩
    change (nrB xs ((z.toNat : Nat) : Int) n.toNat && !memB ((z.toNat : Nat) : Int) xs) = true at h
    rw [Int.toNat_of_nonneg z1, Bool.and_eq_true] at h
    exact ⟨(nb_mem hf z1 (by omega)).2 h.1, h.2⟩
set_option maxRecDepth 100000 in
set_option maxHeartbeats 4000000 in
theorem sp_boundary (n : Int) (lv : Value) (xs : List Int) (S : Nat) (w : World) (hx : Row w S lv xs) (hS : S ≤ w.heap.size) (hf : famB n xs = true) :
    Calls Tryz.prog 45 #[.int .i64 n, lv] w (IntsPost (bdL n xs) w) := by
  obtain ⟨n1, n2, hset⟩ := famB_all hf
  have hlen := famB_len hf
  obtain ⟨p1, p2, p3⟩ := pow_nat n1 n2
  have hmk := marks_at n lv xs S w hx hS (by omega) n1 n2 (famB_allB hf)
  have hbd := bd_eq hf
  have hxs : ∀ (j : Nat), ((j : Nat) : Int) < 2 ^ n.toNat → ∀ p : Nat, (p : Int) < n → ∃ t : Nat, xorI (j : Nat) (2 ^ p) = t ∧ t < 2 ^ n.toNat := fun j hj p hp => nb_bd (setB_mk ⟨n1, n2, by omega, hj⟩) hp
  obtain ⟨M, hM⟩ : ∃ M : Nat, n.toNat = M := ⟨_, rfl⟩
  obtain rfl : n = (M : Nat) := by omega
  obtain ⟨N, hN⟩ : ∃ N : Nat, 2 ^ ((M : Nat) : Int).toNat = N := ⟨_, rfl⟩
  have hNi : (2 : Int) ^ ((M : Nat) : Int).toNat = (N : Nat) := by rw [← hN]; simp
  rw [hN] at p1 p2 p3 hmk hbd
  rw [hM] at hbd
  simp only [Int.toNat_natCast] at p3
  have hxs2 := Lib.hid (fun (j : Nat) (hj : j < N) (p : Nat) (hp : p < M) => by
    have := hxs j (by rw [hNi]; omega) p (by omega)
    rwa [hN] at this)
  have hn0 : (0 : Int) ≤ (M : Nat) := by omega
  have hn64 : ((M : Nat) : Int) < 64 := by omega
  have hM8 : M ≤ 8 := by omega
  rw [← hbd]
  obtain ⟨P, hP⟩ : ∃ P : Nat → Bool, (fun j : Nat => nrB xs (j : Nat) M && !memB (j : Nat) xs) = P := ⟨_, rfl⟩
  have hPk : ∀ k : Nat, (nrB xs (k : Nat) M && !memB (k : Nat) xs) = P k := fun k => by rw [← hP]
  rw [hP]
  obtain ⟨la, lc, rfl, _⟩ := id hx
  replace hP := Lib.hid hP
  replace hPk := Lib.hid hPk
  replace hmk := Lib.hid hmk
  replace hN := Lib.hid hN
  replace hNi := Lib.hid hNi
  replace hM := Lib.hid hM
  replace hf := Lib.hid hf
  replace hbd := Lib.hid hbd
  clear hx hset hxs
  go_enter Tryz.func45, Tryz.ntmps45
  go_wp2_with fail
  refine hmk.out.mono ?_
  rintro e w2 ⟨b2, rfl, hb1, hb3, hMR, hbw⟩
  have hz2 := hbw.size
  replace hMR := Lib.hid hMR
  replace hbw := Lib.hid hbw
  clear hmk
  go_wp2_with fail
  go_loopw [6, 7] (fun v s wr => ∃ k : Nat, k ≤ N ∧ s = .int .i64 k ∧ Hid (OwnL wr w2.heap.size v (mkL P k)) ∧ Hid (Below w2.heap.size w2 wr)) (fun _ s _ => N - (intOf s).toNat)
  case atStart => exact ⟨0, by omega, rfl, Lib.hid (OwnL.lit w2 (Nat.le_refl _)), Lib.hid ((Below.refl _ _).alloc (Nat.le_refl _) _)⟩
  case round =>
    obtain ⟨k, hk, rfl, hown, hbel⟩ := hrel
    have hsz := hbel.out.size
    by_cases hlt : k < N
    · have k1 : (0 : Int) ≤ (k : Int) := by omega
      have k2 : (k : Int) < (N : Nat) := by omega
      have hrow := Lib.hid (hMR.out.below hbel.out hb3)
      have hpk := hPk.out k
      have hlen2 : (mkL P k).length ≤ 1073741824 := by have := mkL_len P k; omega
      have hsu := mkL_succ P k
      obtain ⟨ys, hys⟩ : ∃ ys, mkL P k = ys := ⟨_, rfl⟩
      rw [hys] at hown hsu hlen2
      obtain ⟨a', c', rfl⟩ := hown.out.form
      replace hys := Lib.hid hys
      replace hsu := Lib.hid hsu
      replace hpk := Lib.hid hpk
      go_wp2_with fail
      replace p3 := Lib.hid p3
      go_loopw [8, 9] (fun v i wq => ∃ j : Nat, j ≤ M ∧ i = .int .i64 j ∧ v = .bool (nrB xs (k : Nat) j) ∧ wq = wr) (fun _ i _ => M - (intOf i).toNat)
      case atStart => exact ⟨0, by omega, rfl, rfl, rfl⟩
      case round =>
        obtain ⟨j, hj, rfl, rfl, rfl⟩ := hrel
        by_cases hlj : j < M
        · have j1 : (0 : Int) ≤ (j : Int) := by omega
          have j2 : (j : Int) < (M : Nat) := by omega
          have j3 : (j : Int) < 64 := by omega
          obtain ⟨t, ht, htN⟩ := hxs2.out k hlt j hlj
          have e2 : wr.cell? ⟨b2, t, none⟩ = some (.bool (memB (t : Nat) xs)) := World.rowIs.cell hrow.out htN
          obtain ⟨g1, g2, g3⟩ := pow8 j1 (show (j : Int) ≤ 7 by omega)
          simp only [Int.toNat_natCast] at g1 g2 g3
          have hxo := i64_xorI (x := (k : Nat)) (y := 2 ^ j) k1 (by omega) (by omega) (by omega)
          rw [ht] at hxo
          have hst : nrB xs (k : Nat) (j + 1) = (nrB xs (k : Nat) j || memB (t : Nat) xs) := by
            show (nrB xs (k : Nat) j || nbP xs (k : Nat) j) = _
            unfold nbP; rw [ht]
          obtain ⟨Q, hQ⟩ : ∃ Q, (2 : Int) ^ j = Q := ⟨_, rfl⟩
          rw [hQ] at g1 g2 g3 hxo
          have t1' : (0 : Int) ≤ (t : Int) := by omega
          have t2' : (t : Int) < (N : Nat) := by omega
          obtain ⟨r, hr⟩ : ∃ r, nrB xs (k : Nat) j = r := ⟨_, rfl⟩
          rw [hr] at hst ⊢
          obtain ⟨m, hm⟩ : ∃ m, memB (t : Nat) xs = m := ⟨_, rfl⟩
          rw [hm] at hst e2
          replace hr := Lib.hid hr
          replace ht := Lib.hid ht
          replace hm := Lib.hid hm
          cases r
          · rw [Bool.false_or] at hst
            replace hst := Lib.hid hst
            go_wp2_with fail
            go_roundw
            case rel => exact ⟨j + 1, by omega, by go_num, by rw [hst.out], by first | trivial | rfl⟩
            case measure => simp [intOf]; omega
          · rw [Bool.true_or] at hst
            replace hst := Lib.hid hst
            go_wp2_with fail
            go_roundw
            case rel => exact ⟨j + 1, by omega, by go_num, by rw [hst.out], by first | trivial | rfl⟩
            case measure => simp [intOf]; omega
        · obtain rfl : j = M := by omega
          have e3 : wr.cell? ⟨b2, k, none⟩ = some (.bool (memB (k : Nat) xs)) := World.rowIs.cell hrow.out hlt
          obtain ⟨r, hr⟩ : ∃ r, nrB xs (k : Nat) j = r := ⟨_, rfl⟩
          obtain ⟨m, hm⟩ : ∃ m, memB (k : Nat) xs = m := ⟨_, rfl⟩
          have hpk2 := hpk.out
          rw [hr, hm] at hpk2
          rw [hm] at e3
          rw [hr]
          replace hr := Lib.hid hr
          replace hm := Lib.hid hm
          have hB1 : w2.heap.size ≤ (wr.alloc (.cells #[.int .i64 (k : Int)] 3)).heap.size := by rw [World.size_alloc]; omega
          rcases (by cases P k <;> simp : P k = true ∨ P k = false) with hp | hp
          · have hs : ys ++ [(k : Int)] = mkL P (k + 1) := by rw [hsu.out, if_pos hp]
            rw [hp] at hpk2
            obtain rfl : r = true := by cases r <;> simp_all
            obtain rfl : m = false := by cases m <;> simp_all
            replace hs := Lib.hid hs
            replace hp := Lib.hid hp
            clear hpk2
            go_wp2_with (at_builtin; refine app_int rfl _ _ rfl w2.heap.size _ ys rfl (hown.out.alloc _) (k : Int) wr.heap.size rfl (cell_new _ _ _) hlen2 hB1 ?_; intro v' w3 hown3 hb4)
            rw [hs.out] at hown3
            replace hown3 := Lib.hid hown3
            have hb5 := Lib.hid ((hbel.out.alloc hsz _).trans hb4)
            go_roundw
            case rel => exact ⟨k + 1, by omega, by go_num, hown3, hb5⟩
            case measure => simp [intOf]; omega
          · have hs : ys = mkL P (k + 1) := by rw [hsu.out, if_neg (by simp [hp]), List.append_nil]
            rw [hp] at hpk2
            have hfin := Lib.hid (show OwnL wr w2.heap.size (.slice a' ys.length c') (mkL P (k + 1)) by rw [← hs]; exact hown.out)
            have hrm : r = false ∨ (r = true ∧ m = true) := by cases r <;> cases m <;> simp_all
            replace hs := Lib.hid hs
            replace hp := Lib.hid hp
            clear hpk2
            rcases hrm with rfl | ⟨rfl, rfl⟩
            · go_wp2_with fail
              go_roundw
              case rel => exact ⟨k + 1, by omega, by go_num, hfin, hbel⟩
              case measure => simp [intOf]; omega
            · go_wp2_with fail
              go_roundw
              case rel => exact ⟨k + 1, by omega, by go_num, hfin, hbel⟩
              case measure => simp [intOf]; omega
    · obtain rfl : k = N := by omega
      obtain ⟨a', c', rfl⟩ := hown.out.form
      have hown2 := Lib.hid (ownL_monob hown.out hz2)
      have hb5 := Lib.hid (hbw.out.trans (hbel.out.mono hz2))
      clear hown
      go_wp2_with fail
      go_ret
      exact ⟨_, rfl, hown2.out, hb5.out⟩
end Go.Proofs.YtpjapoaagbdlfaaGreatDoor
