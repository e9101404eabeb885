/- Lists of lists of integers in memory: each is filled. -/
import Derived.Test.YtffnpignkimkhaaDoorSs1
namespace Go.Proofs.YtffnpignkimkhaaDoor
open Go.ChangeShapes Go.WideShapes Go.ChangeAt Go.RowKit

/-- all blocks but g are as they were. -/
def ButAt (g : Nat) (w w' : World) : Prop := ∀ b, b ≠ g → w'.heap[b]? = w.heap[b]?
theorem ButAt.set {g : Nat} {w w' : World} (h : ButAt g w w') (o : Nat) (v : Value) : ButAt g w (w'.setCell ⟨g, o, none⟩ v) := fun b hb => (Below.heap_setCell _ _ _ _ (by exact hb)).trans (h b hb)
theorem mark_row (g o cap : Nat) (xs : List Int) (m : Int) (B S : Nat) (w : World) (hx : Own w B S (.slice (some ⟨g, o, none⟩) xs.length cap) xs) (hl : xs.length ≤ 1073741824) (hm0 : 0 ≤ m) (hm : m ≤ 1073741824) :
    Calls Tryd.prog 12 #[.slice (some ⟨g, o, none⟩) xs.length cap, .int .i64 m] w fun e w' => e = .returned (.int .i64 (m + xs.length)) ∧ Own w' B S (.slice (some ⟨g, o, none⟩) xs.length cap) (marks m xs.length) ∧ Below B w w' ∧ ButAt g w w' := by
  obtain ⟨a, cap', ha0, ha⟩ := hx
  cases ha0
  have ha := Lib.hid ha
  go_enter Tryd.func12, Tryd.ntmps12
  go_wp2
  go_loopw [1, 5] (fun q i wr => ∃ k : Nat, k ≤ xs.length ∧ i = .int .i64 k ∧ q = .int .i64 (m + k) ∧ Below B w wr ∧ Hid (ButAt g w wr) ∧ Hid ((∀ j, j < xs.length → wr.frozen? ⟨g, o + j, none⟩ = false ∧ (wr.cell? ⟨g, o + j, none⟩).isSome = true) ∧ ∀ j, j < k → wr.cell? ⟨g, o + j, none⟩ = some (.int .i64 (m + j)))) (fun _ i _ => xs.length - (intOf i).toNat)
  case atStart =>
    refine ⟨0, Nat.zero_le _, rfl, by go_num, Below.refl _ _, Lib.hid (fun _ _ => rfl), Lib.hid ⟨fun j hj => ?_, fun j hj => by omega⟩⟩
    obtain ⟨b', off', e', _, _, hc, hf⟩ := ha.out (by omega)
    cases e'
    exact ⟨hf j hj, by rw [hc j hj]; rfl⟩
  case round =>
    obtain ⟨k, hk, rfl, rfl, hbel, hbut, hsame⟩ := hrel
    by_cases hlt : k < xs.length
    · obtain ⟨b1, o1, e', s0, s1, c1, f1⟩ := ha.out (by omega)
      cases e'
      obtain ⟨g1, g2⟩ := hsame.out
      have k1 : (0 : Int) ≤ (k : Int) := by omega
      have k2 : (k : Int) < (xs.length : Nat) := by omega
      have e1 := (g1 k hlt).1
      obtain ⟨u, e2⟩ := Option.isSome_iff_exists.1 (g1 k hlt).2
      have hn := Lib.hid (show (∀ j, j < xs.length → (wr.setCell ⟨g, o + k, none⟩ (.int .i64 (m + k))).frozen? ⟨g, o + j, none⟩ = false ∧ ((wr.setCell ⟨g, o + k, none⟩ (.int .i64 (m + k))).cell? ⟨g, o + j, none⟩).isSome = true) ∧ ∀ j, j < k + 1 → (wr.setCell ⟨g, o + k, none⟩ (.int .i64 (m + k))).cell? ⟨g, o + j, none⟩ = some (.int .i64 (m + j)) by
        refine ⟨fun j hj => ⟨?_, ?_⟩, fun j hj => ?_⟩
        · rw [World.frozen?_setCell]; exact (g1 j hj).1
        · by_cases e : j = k
          · subst e; rw [World.cell?_setCell_same _ _ _ e2]; rfl
          · rw [World.cell?_setCell_other _ _ _ _ (by intro x; injection x; omega)]; exact (g1 j hj).2
        · by_cases e : j = k
          · subst e; exact World.cell?_setCell_same _ _ _ e2
          · rw [World.cell?_setCell_other _ _ _ _ (by intro x; injection x; omega)]; exact g2 j (by omega))
      have hbel' := below_setCell hbel (p := ⟨g, o + k, none⟩) s0 (.int .i64 (m + k))
      have hbut' := Lib.hid (hbut.out.set (o + k) (.int .i64 (m + k)))
      clear hsame g1 g2 c1 f1
      go_wp2
      go_roundw
      case rel => exact ⟨k + 1, by omega, by go_num, by go_num, hbel', hbut', hn⟩
      case measure => simp [intOf]; omega
    · obtain rfl : k = xs.length := by omega
      have hO := Lib.hid (show Own wr B S (.slice (some ⟨g, o, none⟩) xs.length cap) (marks m xs.length) by
        refine ⟨_, cap, by rw [marks_len], fun hp => ?_⟩
        rw [marks_len] at hp
        obtain ⟨b1, o1, e', s0, s1, c1, f1⟩ := ha.out hp
        cases e'
        obtain ⟨g1, g2⟩ := hsame.out
        refine ⟨g, o, rfl, s0, s1, fun i hi => ?_, fun i hi => ?_⟩
        · rw [marks_len] at hi; rw [g2 i hi, marks_get m _ i hi]
        · rw [marks_len] at hi; exact (g1 i hi).1)
      clear hsame ha
      go_wp2
      go_ret
      exact ⟨rfl, hO.out, hbel, hbut.out⟩
/-- the call's own lists: V i lies in block K i. -/
def OwnR (w : World) (B S : Nat) (V : Nat → Value) (K : Nat → Nat) (Ls : List (List Int)) : Prop := ∀ i, i < Ls.length → Own w B S (V i) (Ls.getD i []) ∧ ∃ o c, V i = .slice (some ⟨K i, o, none⟩) (Ls.getD i []).length c
theorem cell_heap {w w' : World} {b : Nat} (h : w'.heap[b]? = w.heap[b]?) (o : Nat) : w'.cell? ⟨b, o, none⟩ = w.cell? ⟨b, o, none⟩ ∧ w'.frozen? ⟨b, o, none⟩ = w.frozen? ⟨b, o, none⟩ := by
  unfold World.cell? World.frozen?
  rw [h]
  exact ⟨rfl, rfl⟩
theorem own_but {w w' : World} {B S g : Nat} {v : Value} {xs : List Int} (h : Own w B S v xs) (hb : ButAt g w w') {k o c n : Nat} (hv : v = .slice (some ⟨k, o, none⟩) n c) (hk : k ≠ g) : Own w' B S v xs := by
  obtain ⟨a, cap, e, h⟩ := h
  rw [e] at hv
  cases hv
  refine ⟨_, _, e, fun hp => ?_⟩
  obtain ⟨b, off, e', h1, h2, h3, h4⟩ := h hp
  cases e'
  have hh := hb k hk
  exact ⟨k, o, rfl, h1, h2, fun i hi => (cell_heap hh _).1.trans (h3 i hi), fun i hi => (cell_heap hh _).2.trans (h4 i hi)⟩
/-- the first k lists filled, the others as they were. -/
def mixL (m : Int) (Ls : List (List Int)) (k i : Nat) : List Int := if i < k then marks (ofsI m Ls i) (Ls.getD i []).length else Ls.getD i []
theorem mixL_len (m : Int) (Ls : List (List Int)) (k i : Nat) : (mixL m Ls k i).length = (Ls.getD i []).length := by
  unfold mixL
  split
  · rw [marks_len]
  · rfl
set_option maxHeartbeats 4000000 in
theorem mark_rows (Ls : List (List Int)) (a : Option Addr) (c : Nat) (V : Nat → Value) (K : Nat → Nat) (m : Int) (B S : Nat) (w : World) (hl : Short Ls) (hm0 : 0 ≤ m) (hm : m ≤ 1000000) (h1 : Tbl w S a Ls.length V) (ht : ∀ b off, a = some ⟨b, off, none⟩ → ∀ i, i < Ls.length → K i ≠ b)
    (h3 : OwnR w B S V K Ls) (hinj : ∀ i j, i < Ls.length → j < Ls.length → i ≠ j → K i ≠ K j) :
    Calls Tryd.prog 17 #[.slice a Ls.length c, .int .i64 m] w fun e w' => e = .returned (.int .i64 (ofsI m Ls Ls.length)) ∧ Tbl w' S a Ls.length V ∧ MarkR w' S V m Ls ∧ Below B w w' := by
  have hbd := ofs_bd m Ls hl
  obtain ⟨hl1, hl2⟩ := hl
  have h3' : ∀ i, i < Ls.length → Own w B S (V i) (mixL m Ls 0 i) ∧ ∃ o c, V i = .slice (some ⟨K i, o, none⟩) (Ls.getD i []).length c := fun i hi => ⟨by unfold mixL; rw [if_neg (by omega)]; exact (h3 i hi).1, (h3 i hi).2⟩
  obtain ⟨n, hn⟩ : ∃ n, Ls.length = n := ⟨_, rfl⟩
  unfold MarkR
  rw [hn] at h1 hl1 hl2 hbd ht hinj h3' ⊢
  replace hl2 := Lib.hid hl2
  replace hbd := Lib.hid hbd
  replace h1 := Lib.hid h1
  replace h3' := Lib.hid h3'
  replace hn := Lib.hid hn
  replace ht := Lib.hid ht
  replace hinj := Lib.hid hinj
  clear h3
  go_enter Tryd.func17, Tryd.ntmps17
  go_wp2_with fail
  go_loopw [1, 5] (fun s i wr => ∃ k : Nat, k ≤ n ∧ i = .int .i64 k ∧ s = .int .i64 (ofsI m Ls k) ∧ Hid (Tbl wr S a n V) ∧ Hid (∀ i, i < n → Own wr B S (V i) (mixL m Ls k i) ∧ ∃ o c, V i = .slice (some ⟨K i, o, none⟩) (Ls.getD i []).length c) ∧ Hid (Below B w wr)) (fun _ i _ => n - (intOf i).toNat)
  case atStart => exact ⟨0, Nat.zero_le _, rfl, rfl, h1, h3', Lib.hid (Below.refl _ _)⟩
  case round =>
    obtain ⟨k, hk, rfl, rfl, hT, hO, hB⟩ := hrel
    obtain ⟨o0, o1'⟩ := hbd.out k hk
    have hst : ofsI m Ls (k + 1) = ofsI m Ls k + (Ls.getD k []).length := rfl
    by_cases hlt : k < n
    · obtain ⟨b1, o1, rfl, s1, c1⟩ := hT.out (by omega)
      have k1 : (0 : Int) ≤ (k : Int) := by omega
      have k2 : (k : Int) < (n : Nat) := by omega
      have e1 := c1 k hlt
      have hlk := hl2.out k hlt
      obtain ⟨hOk, o, cc, hV⟩ := hO.out k hlt
      have hmx : mixL m Ls k k = Ls.getD k [] := by unfold mixL; rw [if_neg (Nat.lt_irrefl k)]
      rw [hmx, hV] at hOk
      have he := mark_row (K k) o cc _ (ofsI m Ls k) B S wr hOk (by omega) (by omega) (by omega)
      rw [← hst, ← hV] at he
      obtain ⟨x, hx⟩ : ∃ x, V k = x := ⟨_, rfl⟩
      rw [hx] at e1 he
      replace he := Lib.hid he
      have hstep := Lib.hid (fun (w2 : World) (h2 : Own w2 B S x (marks (ofsI m Ls k) (Ls.getD k []).length)) (hb : ButAt (K k) wr w2) => show Tbl w2 S (some ⟨b1, o1, none⟩) n V ∧ (∀ i, i < n → Own w2 B S (V i) (mixL m Ls (k + 1) i) ∧ ∃ o c, V i = .slice (some ⟨K i, o, none⟩) (Ls.getD i []).length c) from by
        refine ⟨fun _ => ⟨b1, o1, rfl, s1, fun i hi => ?_⟩, fun i hi => ?_⟩
        · exact (cell_heap (hb b1 (fun e => ht.out b1 o1 rfl k hlt e.symm)) _).1.trans (c1 i hi)
        · obtain ⟨p1, p2⟩ := hO.out i hi
          refine ⟨?_, p2⟩
          by_cases e : i = k
          · subst e
            unfold mixL
            rw [if_pos (Nat.lt_succ_self i), hx]
            exact h2
          · have hmi : mixL m Ls (k + 1) i = mixL m Ls k i := by
              unfold mixL
              by_cases hik : i < k
              · rw [if_pos hik, if_pos (by omega)]
              · rw [if_neg hik, if_neg (by omega)]
            rw [hmi]
            obtain ⟨o, c, hv⟩ := p2
            exact own_but p1 hb hv (hinj.out i k hi hlt e))
      replace hst := Lib.hid hst
      replace hx := Lib.hid hx
      clear c1 hV hOk hT
      obtain ⟨X, hX⟩ : ∃ X, ofsI m Ls k = X := ⟨_, rfl⟩
      obtain ⟨Y, hY⟩ : ∃ Y, ofsI m Ls (k + 1) = Y := ⟨_, rfl⟩
      rw [hX, hY] at he
      rw [hX] at hstep o0 o1' ⊢
      replace hX := Lib.hid hX
      replace hY := Lib.hid hY
      go_wp2_with (first | (go_at_call 12; refine he.out.mono ?_; rintro e w2 ⟨rfl, hO2, hB2, hbut⟩; obtain ⟨hT3, hO3⟩ := hstep.out w2 hO2 hbut; replace hT3 := Lib.hid hT3; replace hO3 := Lib.hid hO3; have hB3 := Lib.hid (hB.out.trans hB2); clear hO2 hB2 hbut))
      go_roundw
      case rel => exact ⟨k + 1, by omega, by go_num, by rw [hY.out], hT3, hO3, hB3⟩
      case measure => simp [intOf]; omega
    · obtain rfl : k = n := by omega
      go_wp2_with fail
      go_ret
      refine ⟨rfl, hT.out, fun i hi => ?_, hB.out⟩
      have h := (hO.out i hi).1.row
      unfold mixL at h
      rw [if_pos hi] at h
      exact h
end Go.Proofs.YtffnpignkimkhaaDoor
