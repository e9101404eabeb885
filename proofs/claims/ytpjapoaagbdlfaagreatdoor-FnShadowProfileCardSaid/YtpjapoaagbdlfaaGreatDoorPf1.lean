/- Families: unions, common sets, what is left, the rest, joins, sets put in order: plain mathematics for the laws. -/
import Derived.Test.YtpjapoaagbdlfaaGreatDoorFams13
namespace Go.Proofs.YtpjapoaagbdlfaaGreatDoor
open Go.RowKit

theorem filt_split (p : Int → Bool) : ∀ l : List Int, (l.filter p).length + (l.filter (fun x => !p x)).length = l.length
  | [] => rfl
  | x :: l => by
    have := filt_split p l
    rcases (by cases p x <;> simp : p x = true ∨ p x = false) with h | h
    · rw [List.filter_cons_of_pos h, List.filter_cons_of_neg (by simp [h])]; simp; omega
    · rw [List.filter_cons_of_neg (by simp [h]), List.filter_cons_of_pos (by simp [h])]; simp; omega
theorem asc_nodup {xs : List Int} (h : Asc xs) : xs.Nodup := List.Pairwise.imp (fun {a b} hab => by omega) h
theorem memB_iff {x : Int} {xs : List Int} : memB x xs = true ↔ x ∈ xs := by unfold memB; exact decide_eq_true_iff
theorem fold_lenq : ∀ (ys a : List Int), ys.Nodup → (ys.foldl (fun a x => insI x a) a).length = a.length + (ys.filter (fun y => !memB y a)).length
  | [], a, _ => by simp
  | y :: ys, a, h => by
    obtain ⟨h1, h2⟩ := List.nodup_cons.1 h
    have ih := fold_lenq ys (insI y a) h2
    have he : ys.filter (fun z => !memB z (insI y a)) = ys.filter (fun z => !memB z a) := List.filter_congr fun z hz => by
      have hne : z ≠ y := fun e => h1 (e ▸ hz)
      have : memB z (insI y a) = memB z a := by
        unfold memB
        exact decide_eq_decide.2 ⟨fun h => (mem_insI.1 h).resolve_left hne, fun h => mem_insI.2 (.inr h)⟩
      rw [this]
    rw [List.foldl_cons, ih, he]
    rcases (by cases memB y a <;> simp : memB y a = true ∨ memB y a = false) with h3 | h3
    · rw [ins_yes h3, List.filter_cons_of_neg (by simp [h3])]
    · rw [ins_len h3, List.filter_cons_of_pos (by simp [h3]), List.length_cons]; omega
theorem union_len {xs ys : List Int} (hx : Asc xs) (hy : Asc ys) : (sortL (xs ++ ys)).length + (sortL (xs.filter (fun x => memB x ys))).length = xs.length + ys.length := by
  have e1 : sortL (xs ++ ys) = ys.foldl (fun a x => insI x a) xs := by
    have : sortL (xs ++ ys) = ys.foldl (fun a x => insI x a) (sortL xs) := by unfold sortL; rw [List.foldl_append]
    rw [this, sortL_asc hx]
  have e2 : sortL (xs.filter (fun x => memB x ys)) = ys.filter (fun y => memB y xs) := asc_ext (asc_sortL _) (asc_filter hy _) fun z => by
    rw [mem_sortL, List.mem_filter, List.mem_filter, memB_iff, memB_iff]
    exact And.comm
  rw [e1, e2, fold_lenq ys xs (asc_nodup hy)]
  have := filt_split (fun y => memB y xs) ys
  omega
theorem fam_mk {n : Int} {L : List Int} (n1 : 1 ≤ n) (n2 : n ≤ 8) (h : ∀ z ∈ L, setB n z = true) : famB n (sortL L) = true := famB_mk (ptsB_mk n1 n2) (fun z hz => h z (mem_sortL.1 hz)) (asc_sortL _)
theorem fam_sub {n : Int} {xs : List Int} (p : Int → Bool) (h : famB n xs = true) : famB n (sortL (xs.filter p)) = true := by
  obtain ⟨n1, n2, hs⟩ := famB_all h
  exact fam_mk n1 n2 fun z hz => hs z (List.mem_filter.1 hz).1
theorem fam_union {n : Int} {xs ys : List Int} (h1 : famB n xs = true) (h2 : famB n ys = true) : famB n (sortL (xs ++ ys)) = true := by
  obtain ⟨n1, n2, hs⟩ := famB_all h1
  exact fam_mk n1 n2 fun z hz => (List.mem_append.1 hz).elim (hs z) ((famB_all h2).2.2 z)
theorem union_comm (xs ys : List Int) : sortL (ys ++ xs) = sortL (xs ++ ys) := asc_ext (asc_sortL _) (asc_sortL _) fun z => by
  rw [mem_sortL, mem_sortL, List.mem_append, List.mem_append]; exact Or.comm
theorem common_less (xs ys : List Int) : sortL (xs.filter (fun x => !memB x (sortL (xs.filter (fun x => !memB x ys))))) = sortL (xs.filter (fun x => memB x ys)) := asc_ext (asc_sortL _) (asc_sortL _) fun z => by
  rw [mem_sortL, mem_sortL, List.mem_filter, List.mem_filter]
  constructor
  · rintro ⟨h1, h2⟩
    refine ⟨h1, Classical.byContradiction fun hc => ?_⟩
    have h3 : z ∈ sortL (xs.filter (fun x => !memB x ys)) := mem_sortL.2 (List.mem_filter.2 ⟨h1, by simpa using hc⟩)
    rw [memB_mk h3] at h2; simp at h2
  · rintro ⟨h1, h2⟩
    refine ⟨h1, ?_⟩
    have h3 : z ∉ sortL (xs.filter (fun x => !memB x ys)) := fun h => by
      have := (List.mem_filter.1 (mem_sortL.1 h)).2
      rw [h2] at this; simp at this
    rw [memB_mk0 h3]; rfl
theorem less_none (xs ys : List Int) : sortL ((sortL (xs.filter (fun x => !memB x ys))).filter (fun x => memB x ys)) = [] := asc_ext (asc_sortL _) List.Pairwise.nil fun z => by
  rw [mem_sortL, List.mem_filter, mem_sortL, List.mem_filter]
  constructor
  · rintro ⟨⟨_, h1⟩, h2⟩
    rw [h2] at h1; simp at h1
  · intro h; cases h
theorem less_back {xs : List Int} (hx : Asc xs) (ys : List Int) : sortL (sortL (xs.filter (fun x => !memB x ys)) ++ sortL (xs.filter (fun x => memB x ys))) = xs := asc_ext (asc_sortL _) hx fun z => by
  rw [mem_sortL, List.mem_append, mem_sortL, mem_sortL, List.mem_filter, List.mem_filter]
  constructor
  · rintro (h | h)
    · exact h.1
    · exact h.1
  · intro h
    rcases (by cases memB z ys <;> simp : memB z ys = true ∨ memB z ys = false) with h2 | h2
    · exact .inr ⟨h, h2⟩
    · exact .inl ⟨h, by simp [h2]⟩
theorem rest_eqq (n : Int) (xs : List Int) : sortL ((sortL (upI (2 ^ n.toNat))).filter (fun x => !memB x xs)) = (upI (2 ^ n.toNat)).filter (fun x => !memB x xs) := by
  rw [sortL_asc (asc_upI _)]; exact sortL_asc (asc_filter (asc_upI _) _)
theorem set_up {n z : Int} (n1 : 1 ≤ n) (n2 : n ≤ 8) : z ∈ upI (2 ^ n.toNat) ↔ setB n z = true := by
  rw [mem_upI]
  have e : ((2 ^ n.toNat : Nat) : Int) = 2 ^ n.toNat := by simp
  constructor
  · intro h; exact setB_mk ⟨n1, n2, h.1, by omega⟩
  · intro h; have := setB_yes h; omega
theorem rest_back {n : Int} {xs : List Int} (h : famB n xs = true) : (upI (2 ^ n.toNat)).filter (fun x => !memB x ((upI (2 ^ n.toNat)).filter (fun x => !memB x xs))) = xs := by
  obtain ⟨n1, n2, hs⟩ := famB_all h
  refine asc_ext (asc_filter (asc_upI _) _) (famB_asc h) fun z => ?_
  rw [List.mem_filter]
  constructor
  · rintro ⟨h1, h2⟩
    refine Classical.byContradiction fun hc => ?_
    have h3 : z ∈ (upI (2 ^ n.toNat)).filter (fun x => !memB x xs) := List.mem_filter.2 ⟨h1, by rw [memB_mk0 hc]; rfl⟩
    rw [memB_mk h3] at h2; simp at h2
  · intro hz
    refine ⟨(set_up n1 n2).2 (hs z hz), ?_⟩
    have h3 : z ∉ (upI (2 ^ n.toNat)).filter (fun x => !memB x xs) := fun h => by
      have := (List.mem_filter.1 h).2
      rw [memB_mk hz] at this; simp at this
    rw [memB_mk0 h3]; rfl
theorem rest_len {n : Int} {xs : List Int} (h : famB n xs = true) : ((upI (2 ^ n.toNat)).filter (fun x => !memB x xs)).length + xs.length = 2 ^ n.toNat := by
  obtain ⟨n1, n2, hs⟩ := famB_all h
  have e : (upI (2 ^ n.toNat)).filter (fun x => memB x xs) = xs := asc_ext (asc_filter (asc_upI _) _) (famB_asc h) fun z => by
    rw [List.mem_filter, memB_iff]
    exact ⟨fun h => h.2, fun hz => ⟨(set_up n1 n2).2 (hs z hz), hz⟩⟩
  have h1 := filt_split (fun x => memB x xs) (upI (2 ^ n.toNat))
  rw [e, upI_len] at h1
  omega
theorem rest_famq {n : Int} {xs : List Int} (h : famB n xs = true) : famB n ((upI (2 ^ n.toNat)).filter (fun x => !memB x xs)) = true := by
  obtain ⟨n1, n2, hs⟩ := famB_all h
  exact famB_mk (ptsB_mk n1 n2) (fun z hz => (set_up n1 n2).1 (List.mem_filter.1 hz).1) (asc_filter (asc_upI _) _)
theorem mem_pairs {F : Int → Int → Int} {xs ys : List Int} {z : Int} : z ∈ pairsTo F xs ys xs.length ↔ ∃ a ∈ xs, ∃ b ∈ ys, z = F a b := by
  unfold pairsTo
  rw [List.take_length, List.mem_flatMap]
  constructor
  · rintro ⟨a, ha, h⟩
    obtain ⟨b, hb, rfl⟩ := List.mem_map.1 h
    exact ⟨a, ha, b, hb, rfl⟩
  · rintro ⟨a, ha, b, hb, rfl⟩
    exact ⟨a, ha, List.mem_map.2 ⟨b, hb, rfl⟩⟩
theorem joins_comm (xs ys : List Int) : sortL (pairsTo orI ys xs ys.length) = sortL (pairsTo orI xs ys xs.length) := asc_ext (asc_sortL _) (asc_sortL _) fun z => by
  rw [mem_sortL, mem_sortL, mem_pairs, mem_pairs]
  have hc : ∀ a b, orI a b = orI b a := fun a b => by unfold orI; rw [Nat.or_comm]
  constructor
  · rintro ⟨a, ha, b, hb, rfl⟩; exact ⟨b, hb, a, ha, hc a b⟩
  · rintro ⟨a, ha, b, hb, rfl⟩; exact ⟨b, hb, a, ha, hc a b⟩
theorem pairs_len (F : Int → Int → Int) (ys : List Int) : ∀ xs : List Int, (xs.flatMap fun a => ys.map (F a)).length = xs.length * ys.length
  | [] => by simp
  | x :: xs => by rw [List.flatMap_cons, List.length_append, pairs_len F ys xs, List.length_map, List.length_cons, Nat.add_mul]; omega
theorem ins_le' (x : Int) (xs : List Int) : (insI x xs).length ≤ xs.length + 1 := by
  rcases (by cases memB x xs <;> simp : memB x xs = true ∨ memB x xs = false) with h | h
  · rw [ins_yes h]; omega
  · rw [ins_len h]; omega
theorem fold_le' (xs : List Int) : ∀ a : List Int, (xs.foldl (fun a x => insI x a) a).length ≤ a.length + xs.length := by
  induction xs with
  | nil => intro a; simp
  | cons x xs ih => intro a; have := ih (insI x a); have := ins_le' x a; simp only [List.foldl_cons, List.length_cons]; omega
theorem sort_le' (xs : List Int) : (sortL xs).length ≤ xs.length := by have := fold_le' xs []; simpa [sortL] using this
theorem joins_len (F : Int → Int → Int) (xs ys : List Int) : (sortL (pairsTo F xs ys xs.length)).length ≤ xs.length * ys.length := by
  have h1 := sort_le' (pairsTo F xs ys xs.length)
  have h2 : (pairsTo F xs ys xs.length).length = xs.length * ys.length := by unfold pairsTo; rw [List.take_length]; exact pairs_len F ys xs
  omega
theorem fam_pairs {n : Int} {F : Int → Int → Int} {xs ys : List Int} (hF : ∀ a b, setB n a = true → setB n b = true → setB n (F a b) = true) (h1 : famB n xs = true) (h2 : famB n ys = true) : famB n (sortL (pairsTo F xs ys xs.length)) = true := by
  obtain ⟨n1, n2, hs⟩ := famB_all h1
  refine fam_mk n1 n2 fun z hz => ?_
  obtain ⟨a, ha, b, hb, rfl⟩ := mem_pairs.1 hz
  exact hF a b (hs a ha) ((famB_all h2).2.2 b hb)
theorem fam_other {n : Int} {xs : List Int} (h : famB n xs = true) : famB n (sortL (xs.map (otherI n))) = true := by
  obtain ⟨n1, n2, hs⟩ := famB_all h
  refine fam_mk n1 n2 fun z hz => ?_
  obtain ⟨a, ha, rfl⟩ := List.mem_map.1 hz
  exact other_set (hs a ha)
theorem oth8_dec : ∀ x : Fin 256, ∀ y : Fin 256, otherI 8 (andI x.val y.val) = orI (otherI 8 x.val) (otherI 8 y.val) := by decide +kernel
theorem othn_dec : ∀ n : Fin 9, ∀ x : Fin 256, x.val < 2 ^ n.val → otherI n.val x.val = andI (otherI 8 x.val) (2 ^ n.val - 1) := by decide +kernel
theorem and_or (a b m : Int) : andI (orI a b) m = orI (andI a m) (andI b m) := by
  unfold andI orI
  simp only [Int.toNat_natCast]
  rw [Nat.and_comm, Nat.and_or_distrib_left, Nat.and_comm m.toNat a.toNat, Nat.and_comm m.toNat b.toNat]
theorem oth_meet {n x y : Int} (hx : setB n x = true) (hy : setB n y = true) : otherI n (andI x y) = orI (otherI n x) (otherI n y) := by
  have hxy := andI_set hx hy
  have key : ∀ {z : Int}, setB n z = true → otherI n z = andI (otherI 8 z) (2 ^ n.toNat - 1) := fun {z} hz => by
    have z0 := setB_lt hz
    obtain ⟨n1, n2, z1, z2⟩ := setB_yes hz
    have e1 : ((z.toNat : Nat) : Int) = z := Int.toNat_of_nonneg z1
    have e2 : ((n.toNat : Nat) : Int) = n := Int.toNat_of_nonneg (by omega)
    have h := othn_dec ⟨n.toNat, by omega⟩ ⟨z.toNat, by omega⟩ (by
      show z.toNat < 2 ^ n.toNat
      have : ((z.toNat : Nat) : Int) < ((2 ^ n.toNat : Nat) : Int) := by rw [e1]; simpa using z2
      exact Int.ofNat_lt.1 this)
    simpa only [e1, e2] using h
  have x0 := setB_lt hx
  have y0 := setB_lt hy
  have e1 : ((x.toNat : Nat) : Int) = x := Int.toNat_of_nonneg x0.1
  have e2 : ((y.toNat : Nat) : Int) = y := Int.toNat_of_nonneg y0.1
  have h8 := oth8_dec ⟨x.toNat, by omega⟩ ⟨y.toNat, by omega⟩
  simp only [e1, e2] at h8
  rw [key hxy, h8, and_or, ← key hx, ← key hy]
theorem meets_other {n : Int} {xs ys : List Int} (h1 : famB n xs = true) (h2 : famB n ys = true) :
    sortL (pairsTo orI (sortL (xs.map (otherI n))) (sortL (ys.map (otherI n))) (sortL (xs.map (otherI n))).length) = sortL ((sortL (pairsTo andI xs ys xs.length)).map (otherI n)) := asc_ext (asc_sortL _) (asc_sortL _) fun z => by
  rw [mem_sortL, mem_sortL, mem_pairs, List.mem_map]
  constructor
  · rintro ⟨a, ha, b, hb, rfl⟩
    obtain ⟨x, hx, rfl⟩ := List.mem_map.1 (mem_sortL.1 ha)
    obtain ⟨y, hy, rfl⟩ := List.mem_map.1 (mem_sortL.1 hb)
    exact ⟨andI x y, mem_sortL.2 (mem_pairs.2 ⟨x, hx, y, hy, rfl⟩), oth_meet ((famB_all h1).2.2 x hx) ((famB_all h2).2.2 y hy)⟩
  · rintro ⟨a, ha, rfl⟩
    obtain ⟨x, hx, y, hy, rfl⟩ := mem_pairs.1 (mem_sortL.1 ha)
    exact ⟨otherI n x, mem_sortL.2 (List.mem_map.2 ⟨x, hx, rfl⟩), otherI n y, mem_sortL.2 (List.mem_map.2 ⟨y, hy, rfl⟩), oth_meet ((famB_all h1).2.2 x hx) ((famB_all h2).2.2 y hy)⟩
end Go.Proofs.YtpjapoaagbdlfaaGreatDoor
