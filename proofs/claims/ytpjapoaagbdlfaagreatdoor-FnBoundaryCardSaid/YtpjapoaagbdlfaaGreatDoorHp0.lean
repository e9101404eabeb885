/- Boundaries are not less than those of first sets in ball order (at most six points), plain mathematics. -/
import Derived.Test.YtpjapoaagbdlfaaGreatDoorKk1
import Derived.Test.YtpjapoaagbdlfaaGreatDoorBp1
import Derived.Test.YtpjapoaagbdlfaaGreatDoorMa1
import Derived.Test.YtpjapoaagbdlfaaGreatDoorAllBp
namespace Go.Proofs.YtpjapoaagbdlfaaGreatDoor
open Go.ChangeShapes Go.WideShapes Go.ChangeAt Go.RowKit Go.Proofs

set_option maxRecDepth 100000 in
set_option maxHeartbeats 4000000 in
theorem sort_lenh {L : List Int} (h : L.Nodup) : (sortL L).length = L.length := by
  unfold sortL
  rw [fold_len L [] h (fun _ _ => by simp)]
  simp
set_option maxRecDepth 100000 in
set_option maxHeartbeats 4000000 in
theorem fi_lenh {n m : Int} (h : fiB n m = true) : (fiL n m).length = m.toNat := by
  obtain ⟨n1, n2, m1, m2⟩ := fiB_yes h
  have h256 := pow_le256 n1 n2
  have hol := orL_len n1 n2
  have eN : ((2 ^ n.toNat : Nat) : Int) = 2 ^ n.toNat := by simp
  have hnd : (orL n).Nodup := by
    unfold orL unL List.Nodup
    rw [List.pairwise_map]
    have hA : (kL (sortL (upI (2 ^ n.toNat)))).Pairwise (fun a b => a < b) := asc_sortL _
    refine List.Pairwise.imp_of_mem ?_ hA
    intro a b ha hb hlt e
    have mem : ∀ k ∈ kL (sortL (upI (2 ^ n.toNat))), bkI (unb k) = k := fun k hk => by
      unfold kL at hk
      rw [mem_sortL, List.mem_map] at hk
      obtain ⟨x, hx, rfl⟩ := hk
      have hx2 := mem_upI.1 (mem_sortL.1 hx)
      rw [(bk_facts hx2.1 (by omega)).2.2]
    have e1 := mem a ha
    have e2 := mem b hb
    rw [e, e2] at e1
    omega
  unfold fiL
  rw [sort_lenh (List.Nodup.sublist (List.take_sublist _ _) hnd), List.length_take, hol]
  omega
/-- ball order, its first sets as numbers, and how many sets they have with their boundary. -/
def orT : List (List Nat) := [[0], [0, 1], [0, 1, 2, 3], [0, 1, 2, 4, 3, 5, 6, 7], [0, 1, 2, 4, 8, 3, 5, 9, 6, 10, 12, 7, 11, 13, 14, 15], [0, 1, 2, 4, 8, 16, 3, 5, 9, 17, 6, 10, 18, 12, 20, 24, 7, 11, 19, 13, 21, 25, 14, 22, 26, 28, 15, 23, 27, 29, 30, 31], [0, 1, 2, 4, 8, 16, 32, 3, 5, 9, 17, 33, 6, 10, 18, 34, 12, 20, 36, 24, 40, 48, 7, 11, 19, 35, 13, 21, 37, 25, 41, 49, 14, 22, 38, 26, 42, 50, 28, 44, 52, 56, 15, 23, 39, 27, 43, 51, 29, 45, 53, 57, 30, 46, 54, 58, 60, 31, 47, 55, 59, 61, 62, 63]]
def mskT : List (List Nat) := [[0, 1], [0, 1, 3], [0, 1, 3, 7, 15], [0, 1, 3, 7, 23, 31, 63, 127, 255], [0, 1, 3, 7, 23, 279, 287, 319, 831, 895, 1919, 6015, 6143, 8191, 16383, 32767, 65535], [0, 1, 3, 7, 23, 279, 65815, 65823, 65855, 66367, 197439, 197503, 198527, 460671, 464767, 1513343, 18290559, 18290687, 18292735, 18817023, 18825215, 20922367, 54476799, 54493183, 58687487, 125796351, 394231807, 394264575, 402653183, 536870911, 1073741823, 2147483647, 4294967295], [0, 1, 3, 7, 23, 279, 65815, 4295033111, 4295033119, 4295033151, 4295033663, 4295164735, 12885099327, 12885099391, 12885100415, 12885362559, 30065231743, 30065235839, 30066284415, 98785761151, 98802538367, 1198314166143, 282673290876799, 282673290876927, 282673290878975, 282673291403263, 282707651141631, 282707651149823, 282707653246975, 282845092200447, 282845125754879, 285044149010431, 847994102431743, 847994102448127, 847994106642431, 848268984549375, 848269051658239, 852667098169343, 1978567005011967, 1978567273447423, 1996159459491839, 6499759086862335, 78557353124790271, 78557353124823039, 78557353133211647, 78557902889025535, 78557903023243263, 78566699116265471, 80818498929950719, 80818499466821631, 80853683838910463, 89860883093651455, 233976071169507327, 233976072243249151, 234046440987426815, 252060839496908799, 540291215648620543, 1693212720255467519, 1693212722402951167, 1693353459891306495, 1729382256910270463, 2305843009213693951, 4611686018427387903, 9223372036854775807, 18446744073709551615]]
def harT : List (List Nat) := [[0, 1], [0, 2, 2], [0, 3, 4, 4, 4], [0, 4, 6, 7, 7, 8, 8, 8, 8], [0, 5, 8, 10, 11, 11, 13, 14, 14, 15, 15, 15, 16, 16, 16, 16, 16], [0, 6, 10, 13, 15, 16, 16, 19, 21, 22, 22, 24, 25, 25, 26, 26, 26, 28, 29, 29, 30, 30, 30, 31, 31, 31, 31, 32, 32, 32, 32, 32, 32], [0, 7, 12, 16, 19, 21, 22, 22, 26, 29, 31, 32, 32, 35, 37, 38, 38, 40, 41, 41, 42, 42, 42, 45, 47, 48, 48, 50, 51, 51, 52, 52, 52, 54, 55, 55, 56, 56, 56, 57, 57, 57, 57, 59, 60, 60, 61, 61, 61, 62, 62, 62, 62, 63, 63, 63, 63, 63, 64, 64, 64, 64, 64, 64, 64]]
def orN (n : Nat) : List Nat := orT.getD n []
def mskN (n m : Nat) : Nat := (mskT.getD n []).getD m 0
def harN (n m : Nat) : Nat := (harT.getD n []).getD m 0
theorem or_tab : ∀ n : Fin 7, orL (n.val : Nat) = (orN n.val).map (fun k : Nat => (k : Int)) := by decide +kernel
theorem msk_tab : ∀ n : Fin 7, ∀ m : Fin 65, m.val ≤ 2 ^ n.val → ((orN n.val).take m.val).foldl (fun a o => a ||| 2 ^ o) 0 = mskN n.val m.val := by decide +kernel
theorem har_tab : ∀ n : Fin 7, ∀ m : Fin 65, m.val ≤ 2 ^ n.val → cN n.val (nbN n.val (fun z => (mskN n.val m.val).testBit z)) ≤ harN n.val m.val := by decide +kernel
theorem har_sum : ∀ n : Fin 6, ∀ a : Fin 33, a.val ≤ 2 ^ n.val → ∀ b : Fin 33, b.val ≤ 2 ^ n.val → harN (n.val + 1) (a.val + b.val) ≤ max (harN n.val a.val) b.val + max (harN n.val b.val) a.val := by decide +kernel
theorem fold_bit (z : Nat) : ∀ (l : List Nat) (a : Nat), (l.foldl (fun a o => a ||| 2 ^ o) a).testBit z = (a.testBit z || decide (z ∈ l))
  | [], a => by simp
  | o :: l, a => by
    rw [List.foldl_cons, fold_bit z l, Nat.testBit_or, Nat.testBit_two_pow, Bool.or_assoc]
    congr 1
    by_cases h : o = z
    · subst h; simp
    · rw [decide_eq_false h, Bool.false_or]
      have : z ∈ o :: l ↔ z ∈ l := by rw [List.mem_cons]; constructor
                                      · rintro (e | h2)
                                        · exact absurd e.symm h
                                        · exact h2
                                      · exact .inr
      rw [decide_eq_decide]; exact this.symm
theorem cN_split : ∀ (n : Nat) (P Q R : Nat → Bool), (∀ z, z < 2 ^ n → R z = (P z || Q z)) → (∀ z, z < 2 ^ n → (P z && Q z) = false) → cN n R = cN n P + cN n Q
  | 0, P, Q, R, h1, h2 => by
    have a := h1 0 (by decide)
    have b := h2 0 (by decide)
    unfold cN
    cases hp : P 0 <;> cases hq : Q 0 <;> rw [hp, hq] at a b <;> simp_all
  | n + 1, P, Q, R, h1, h2 => by
    have hp : 2 ^ (n + 1) = 2 ^ n + 2 ^ n := by rw [Nat.pow_succ]; omega
    unfold cN
    have a := cN_split n P Q R (fun z hz => h1 z (by omega)) (fun z hz => h2 z (by omega))
    have b := cN_split n (fun z => P (z + 2 ^ n)) (fun z => Q (z + 2 ^ n)) (fun z => R (z + 2 ^ n)) (fun z hz => h1 _ (by omega)) (fun z hz => h2 _ (by omega))
    omega
theorem hp_dec1 : ∀ n : Fin 7, ∀ z : Fin 64, ∀ p : Fin 6, z.val < 2 ^ n.val → p.val < n.val →
    ((p.val : Nat) : Int) ∈ ptsI ((z.val ^^^ 2 ^ p.val : Nat) : Int) ∧ lessI ((z.val ^^^ 2 ^ p.val : Nat) : Int) (p.val : Nat) = (z.val : Nat) ∨ ((p.val : Nat) : Int) ∈ ptsI (otherI (n.val : Nat) ((z.val ^^^ 2 ^ p.val : Nat) : Int)) ∧ withI ((z.val ^^^ 2 ^ p.val : Nat) : Int) (p.val : Nat) = (z.val : Nat) := by decide +kernel
theorem hp_dec2 : ∀ n : Fin 7, ∀ x : Fin 64, x.val < 2 ^ n.val → (∀ p ∈ ptsI (x.val : Nat), p.toNat < n.val ∧ ((lessI (x.val : Nat) p).toNat ^^^ 2 ^ p.toNat) = x.val) ∧ (∀ p ∈ ptsI (otherI (n.val : Nat) (x.val : Nat)), p.toNat < n.val ∧ ((withI (x.val : Nat) p).toNat ^^^ 2 ^ p.toNat) = x.val) := by decide +kernel
theorem bd_fam {n : Int} {xs : List Int} (hf : famB n xs = true) (_ : n ≤ 6) : famB n (bdL n xs) = true := by
  obtain ⟨n1, n2, hs⟩ := famB_all hf
  refine famB_mk (ptsB_mk n1 n2) (fun z hz => ?_) (asc_sortL _)
  unfold bdL at hz
  have hz := (List.mem_filter.1 (mem_sortL.1 hz)).1
  unfold nbL at hz
  rcases List.mem_append.1 (mem_sortL.1 hz) with h | h
  · exact (famB_all (dn_fam hf)).2.2 z h
  · rw [← up_via hf] at h
    exact (famB_all (fam_other (dn_fam (fam_other hf)))).2.2 z h
theorem bd_dis {n : Int} (xs : List Int) : sortL ((bdL n xs).filter (fun x => memB x xs)) = [] := by
  rw [List.filter_eq_nil_iff.2 fun z hz => by
    unfold bdL at hz
    have := (List.mem_filter.1 (mem_sortL.1 hz)).2
    simpa using this]
  rfl
theorem fi_fit {n : Int} {xs : List Int} (hf : famB n xs = true) : fiB n (xs.length : Nat) = true := by
  obtain ⟨n1, n2, hs⟩ := famB_all hf
  have hp : ((2 ^ n.toNat : Nat) : Int) = (2 : Int) ^ n.toNat := by simp
  have h := cN_fam (n := n.toNat) (famB_asc hf) fun z hz => by
    obtain ⟨_, _, h1, h2⟩ := setB_yes (hs z hz)
    exact ⟨h1, by rw [hp]; exact h2⟩
  have h2 := cN_le n.toNat (famP xs)
  unfold fiB
  rw [ptsB_mk n1 n2, decide_eq_true ⟨by omega, by rw [← hp]; omega⟩]; rfl
theorem or_lt : ∀ n : Fin 7, ∀ o ∈ orN n.val, o < 2 ^ n.val := by decide +kernel
theorem fi_fam {n m : Int} (n1 : 1 ≤ n) (n6 : n ≤ 6) : famB n (fiL n m) = true := by
  obtain ⟨N, hN⟩ : ∃ N : Nat, n = (N : Nat) := ⟨n.toNat, by omega⟩
  subst hN
  have hp : ((2 ^ N : Nat) : Int) = (2 : Int) ^ N := by simp
  refine famB_mk (ptsB_mk n1 (by omega)) (fun z hz => ?_) (asc_sortL _)
  unfold fiL at hz
  have ho := or_tab ⟨N, by omega⟩
  simp only at ho
  rw [mem_sortL, ho] at hz
  obtain ⟨k, hk, rfl⟩ := List.mem_map.1 (List.mem_of_mem_take hz)
  have := or_lt ⟨N, by omega⟩ k hk
  exact setB_mk ⟨n1, by omega, by omega, by rw [Int.toNat_natCast, ← hp]; exact Int.ofNat_lt.2 this⟩
/-- a family and its boundary, as numbers. -/
theorem bd_len {N : Nat} {xs : List Int} (hf : famB (N : Nat) xs = true) (hN6 : N ≤ 6) : (bdL (N : Nat) xs).length + xs.length = cN N (nbN N (famP xs)) := by
  obtain ⟨n1, n2, hs⟩ := famB_all hf
  have h64 : 2 ^ N ≤ 64 := (show 2 ^ _ ≤ 2 ^ 6 from Nat.pow_le_pow_right (by decide) hN6)
  have hp : ((2 ^ N : Nat) : Int) = (2 : Int) ^ N := by simp
  have hr : ∀ z, setB (N : Nat) z = true → 0 ≤ z ∧ z < ((2 ^ N : Nat) : Int) := fun z hz => by
    obtain ⟨_, _, h1, h2⟩ := setB_yes hz
    rw [Int.toNat_natCast] at h2
    exact ⟨h1, by rw [hp]; exact h2⟩
  have hA := famB_asc hf
  have hfn : ∀ z ∈ nbL (N : Nat) xs, 0 ≤ z ∧ z < ((2 ^ N : Nat) : Int) := fun z hz => by
    unfold nbL at hz
    rcases List.mem_append.1 (mem_sortL.1 hz) with h | h
    · exact hr z ((famB_all (dn_fam hf)).2.2 z h)
    · rw [← up_via hf] at h
      have := fam_other (dn_fam (fam_other hf))
      exact hr z ((famB_all this).2.2 z h)
  have hbd : ∀ z : Int, z ∈ bdL (N : Nat) xs ↔ z ∈ nbL (N : Nat) xs ∧ z ∉ xs := fun z => by
    unfold bdL
    rw [mem_sortL, List.mem_filter, Bool.not_eq_true']
    unfold memB
    rw [decide_eq_false_iff_not]
  have hnb : ∀ z : Nat, z < 2 ^ N → ((z : Int) ∈ nbL (N : Nat) xs ↔ ∃ p, p < N ∧ famP xs (z ^^^ 2 ^ p) = true) := fun z hz => by
    unfold nbL
    rw [mem_sortL, List.mem_append, mem_dn, mem_up]
    constructor
    · rintro (⟨x, hx, p, hp, he⟩ | ⟨x, hx, p, hp, he⟩)
      · obtain ⟨x1, x2⟩ := hr x (hs x hx)
        have h := (hp_dec2 ⟨N, by omega⟩ ⟨x.toNat, by omega⟩ (by show x.toNat < 2 ^ N; omega)).1
        simp only [Int.toNat_of_nonneg x1] at h
        obtain ⟨a, b⟩ := h p hp
        rw [he, Int.toNat_natCast] at b
        exact ⟨p.toNat, a, by rw [b]; exact decide_eq_true (by rw [Int.toNat_of_nonneg x1]; exact hx)⟩
      · obtain ⟨x1, x2⟩ := hr x (hs x hx)
        have h := (hp_dec2 ⟨N, by omega⟩ ⟨x.toNat, by omega⟩ (by show x.toNat < 2 ^ N; omega)).2
        simp only [Int.toNat_of_nonneg x1] at h
        obtain ⟨a, b⟩ := h p hp
        rw [he, Int.toNat_natCast] at b
        exact ⟨p.toNat, a, by rw [b]; exact decide_eq_true (by rw [Int.toNat_of_nonneg x1]; exact hx)⟩
    · rintro ⟨p, hp, h⟩
      have hx := of_decide_eq_true h
      rcases hp_dec1 ⟨N, by omega⟩ ⟨z, by omega⟩ ⟨p, by omega⟩ hz hp with ⟨a, b⟩ | ⟨a, b⟩
      · exact .inl ⟨_, hx, _, a, b⟩
      · exact .inr ⟨_, hx, _, a, b⟩
  have e1 := cN_fam (n := N) (xs := bdL (N : Nat) xs) (asc_sortL _) fun z hz => hfn z ((hbd z).1 hz).1
  have e2 := cN_fam (n := N) hA fun z hz => hr z (hs z hz)
  rw [← e1]
  conv => lhs; rhs; rw [← e2]
  refine (cN_split N _ _ _ (fun z hz => ?_) fun z hz => ?_).symm
  · have h := nbN_iff N (famP xs) z hz
    have h2 := hnb z hz
    have h3 := hbd z
    apply Bool.eq_iff_iff.2
    rw [h, Bool.or_eq_true, ← h2]
    show _ ↔ decide ((z : Int) ∈ bdL (N : Nat) xs) = true ∨ decide ((z : Int) ∈ xs) = true
    rw [decide_eq_true_eq, decide_eq_true_eq, h3]
    show decide ((z : Int) ∈ xs) = true ∨ _ ↔ _
    rw [decide_eq_true_eq]
    constructor
    · rintro (h | h)
      · exact .inr h
      · by_cases hz : (z : Int) ∈ xs
        · exact .inr hz
        · exact .inl ⟨h, hz⟩
    · rintro (⟨h, _⟩ | h)
      · exact .inr h
      · exact .inl h
  · have h3 := hbd z
    show (decide ((z : Int) ∈ bdL (N : Nat) xs) && decide ((z : Int) ∈ xs)) = false
    by_cases hz : (z : Int) ∈ xs
    · rw [decide_eq_false fun h => (h3.1 h).2 hz]; rfl
    · rw [decide_eq_false hz, Bool.and_false]
/-- no family has a lesser boundary than as many first sets. -/
theorem bd_first {n : Int} {xs : List Int} (hf : famB n xs = true) (n6 : n ≤ 6) (hg : famB n (fiL n (xs.length : Nat)) = true) (hb : fiB n (xs.length : Nat) = true) :
    (bdL n (fiL n (xs.length : Nat))).length ≤ (bdL n xs).length := by
  obtain ⟨n1, n2, hs⟩ := famB_all hf
  obtain ⟨N, hN⟩ : ∃ N : Nat, n = (N : Nat) := ⟨n.toNat, by omega⟩
  subst hN
  have hN6 : N ≤ 6 := by omega
  have h64 : 2 ^ N ≤ 64 := (show 2 ^ _ ≤ 2 ^ 6 from Nat.pow_le_pow_right (by decide) hN6)
  have hp : ((2 ^ N : Nat) : Int) = (2 : Int) ^ N := by simp
  have hr : ∀ z, setB (N : Nat) z = true → 0 ≤ z ∧ z < ((2 ^ N : Nat) : Int) := fun z hz => by
    obtain ⟨_, _, h1, h2⟩ := setB_yes hz
    rw [Int.toNat_natCast] at h2
    exact ⟨h1, by rw [hp]; exact h2⟩
  have e1 := bd_len hf hN6
  have e2 := bd_len hg hN6
  have lm := fi_lenh hb
  rw [Int.toNat_natCast] at lm
  have e3 := cN_fam (n := N) (famB_asc hf) fun z hz => hr z (hs z hz)
  have h1 := harper harN 6 (by decide) (by decide) (fun n hn a ha b hb => by
    have h32 : 2 ^ n ≤ 32 := (show 2 ^ _ ≤ 2 ^ 5 from Nat.pow_le_pow_right (by decide) (by omega))
    exact har_sum ⟨n, hn⟩ ⟨a, by omega⟩ ha ⟨b, by omega⟩ hb) N hN6 (famP xs)
  have hle := cN_le N (famP xs)
  rw [e3] at h1 hle
  have h2 := har_tab ⟨N, by omega⟩ ⟨xs.length, by omega⟩ hle
  have h3 : nbN N (famP (fiL (N : Nat) (xs.length : Nat))) = nbN N (fun z => (mskN N xs.length).testBit z) := by
    congr 1
    funext z
    have hm := msk_tab ⟨N, by omega⟩ ⟨xs.length, by omega⟩ hle
    simp only at hm
    rw [← hm, fold_bit, Nat.zero_testBit, Bool.false_or]
    show decide ((z : Int) ∈ fiL (N : Nat) (xs.length : Nat)) = _
    unfold fiL
    have ho := or_tab ⟨N, by omega⟩
    simp only at ho
    rw [decide_eq_decide, mem_sortL, ho, Int.toNat_natCast, ← List.map_take, List.mem_map]
    constructor
    · rintro ⟨k, hk, e⟩
      obtain rfl : k = z := by omega
      exact hk
    · intro h; exact ⟨z, h, rfl⟩
  rw [h3] at e2
  simp only at h2
  omega
end Go.Proofs.YtpjapoaagbdlfaaGreatDoor
