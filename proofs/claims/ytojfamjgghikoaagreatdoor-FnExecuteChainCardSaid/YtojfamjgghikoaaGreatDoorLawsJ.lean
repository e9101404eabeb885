/- The exact law of texts of sets. -/
import Derived.Test.YtojfamjgghikoaaGreatDoorIter
import Derived.Test.YtojfamjgghikoaaGreatDoorLawsA
import Derived.Test.YtojfamjgghikoaaGreatDoorAppend
import Derived.Laws.BytesString
import Derived.Laws.IdiomStrings
namespace Go.Proofs.YtojfamjgghikoaaGreatDoor
open Go.ChangeShapes Go.WideShapes Go.ChangeAt Go.RowKit Go.Shelf
attribute [local go_sem] Oper.semAt_some

/-- the sign of a point. -/
def sign (s : Int) (p : Nat) : UInt8 := if hasB s p then 49 else 48
/-- the signs of n points. -/
def txtL (s : Int) : Nat → List UInt8
  | 0 => []
  | k + 1 => txtL s k ++ [sign s k]
theorem txtL_len (s : Int) : ∀ k, (txtL s k).length = k := by
  intro k
  induction k with
  | zero => rfl
  | succ k ih => simp [txtL, ih]
theorem txtL_get (s : Int) : ∀ (k j : Nat) (h : j < (txtL s k).length), (txtL s k)[j] = sign s j := by
  intro k
  induction k with
  | zero => intro j h; simp [txtL] at h
  | succ k ih =>
    intro j h
    simp only [txtL]
    by_cases e : j < k
    · rw [List.getElem_append_left (by rw [txtL_len]; exact e)]; exact ih j _
    · have h' := h
      rw [txtL_len] at h'
      have : j = k := by omega
      subst this
      rw [List.getElem_append_right (by rw [txtL_len]; omega)]
      simp [txtL_len]
/-- the text of n points. -/
def txt (s : Int) (k : Nat) : ByteArray := ⟨(txtL s k).toArray⟩
theorem txt_size (s : Int) (k : Nat) : (txt s k).size = k := by
  show (txtL s k).toArray.size = k
  simp [txtL_len]
theorem txt_snoc (s : Int) (k : Nat) : txt s k ++ ⟨#[sign s k]⟩ = txt s (k + 1) := by
  apply ByteArray.ext
  simp [txt, txtL]
set_option maxRecDepth 100000 in
theorem dec_bit (b : Int) (hb : b = 0 ∨ b = 1) (w : World) : Calls Tryz.prog 34 #[.int .i64 b] w fun e w' => e = .returned (.string ⟨#[if b = 1 then 49 else 48]⟩) ∧ Below w.heap.size w w' := by
  rcases hb with rfl | rfl
  · have hcv := run_convert_bytes_back (P := Tryz.prog) (w.alloc (.cells #[.int .u8 48] 5)) 22 9 5 ⟨w.heap.size, 0, none⟩ 1 [48] Tryz.underlying22 Tryz.underlying5 Tryz.underlying9 (by
      intro j hj
      have : j = 0 := by simpa using hj
      subst this
      simp [Addr.add])
    simp only [List.length_cons, List.length_nil, Nat.zero_add] at hcv
    go_enter Tryz.func34, Tryz.ntmps34
    go_wp2
    go_ret
    exact ⟨rfl, (Below.refl _ _).alloc (Nat.le_refl _) _⟩
  · have hcv := run_convert_bytes_back (P := Tryz.prog) (w.alloc (.cells #[.int .u8 49] 5)) 22 9 5 ⟨w.heap.size, 0, none⟩ 1 [49] Tryz.underlying22 Tryz.underlying5 Tryz.underlying9 (by
      intro j hj
      have : j = 0 := by simpa using hj
      subst this
      simp [Addr.add])
    simp only [List.length_cons, List.length_nil, Nat.zero_add] at hcv
    go_enter Tryz.func34, Tryz.ntmps34
    go_wp2
    go_ret
    exact ⟨rfl, (Below.refl _ _).alloc (Nat.le_refl _) _⟩

theorem im_text_no (n s : Int) (h : setB n s = false) (w : World) : Calls Tryz.prog 23 #[.int .i64 n, .int .i64 s] w fun e w' =>
    e = .returned (.tuple #[.string ⟨#[]⟩, .bool false]) ∧ Below w.heap.size w w' := by
  have h1 := Lib.hid (fun W => set_in_no n s h W)
  clear h
  go_enter Tryz.func23, Tryz.ntmps23
  go_wp2_with (first | (go_at_call 43; refine (h1.out _).mono ?_; rintro e w' ⟨rfl, rfl⟩) | go_in)
  go_ret2
  exact ⟨rfl, Below.refl _ _⟩

theorem Tryz.byteInfo : (Tryz.prog.info? 5).map (fun i => (i.zero, i.size, i.bytes)) = some (some (.int .u8 0), 1, 1) := by kernel_rfl
theorem rowIs_own {β : Type} (b : Nat) (t : TypeId) (n : Nat) (f : β → Nat → Value) : _root_.Go.Own (fun s W => World.rowIs W b t n (f s)) := fun s X Y row hs hg hrow => by
  refine hs.of_block (hg.block b hs.lt ?_)
  rintro e
  obtain ⟨o, ho, hc⟩ := hrow b e.symm
  obtain ⟨c, hb, _⟩ := hs
  rw [hb] at ho
  cases ho
  simp [Obj.isCells] at hc
theorem has_mem : ∀ s : Fin 256, ∀ p : Fin 8, (decide (((p.val : Nat) : Int) ∈ ptsI s.val)) = hasB s.val (p.val : Nat) := by decide +kernel
theorem has_mem' {s : Int} (h1 : 0 ≤ s) (h2 : s < 256) {p : Nat} (hp : p ≤ 7) : ((p : Int) ∈ ptsI s) ↔ hasB s p = true := by
  have h := all256_8 (P := fun s p => decide (p ∈ ptsI s) = hasB s p) has_mem h1 h2 (p := (p : Nat)) (by omega) (by omega)
  rw [← h]; simp
theorem has_small : ∀ n : Fin 9, ∀ s : Fin 256, ∀ p : Fin 8, s.val < 2 ^ n.val → hasB s.val (p.val : Nat) = true → p.val < n.val := by decide +kernel
theorem has_small' {n s p : Int} (h : setB n s = true) (p1 : 0 ≤ p) (p2 : p ≤ 7) (hp : hasB s p = true) : p < n := by
  obtain ⟨n1, n2, h1, h2⟩ := setB_yes h
  have q := pow_le256 n1 n2
  have e1 : ((n.toNat : Nat) : Int) = n := Int.toNat_of_nonneg (by omega)
  have e2 : ((s.toNat : Nat) : Int) = s := Int.toNat_of_nonneg h1
  have e3 : ((p.toNat : Nat) : Int) = p := Int.toNat_of_nonneg p1
  have h := has_small ⟨n.toNat, by omega⟩ ⟨s.toNat, by omega⟩ ⟨p.toNat, by omega⟩ (by
    have : ((s.toNat : Nat) : Int) < ((2 ^ n.toNat : Nat) : Int) := by rw [e2]; simpa using h2
    simpa using Int.ofNat_lt.1 this) (by simp only [e2, e3]; exact hp)
  simp only at h
  omega
/-- the signs while they are written. -/
def sgnAt (l : List Int) (j : Nat) : Value := .int .u8 (if (j : Int) ∈ l then 49 else 48)
def sgnAtZ (_ : Nat) : Value := .int .u8 48
def zerAt (k j : Nat) : Value := .int .u8 (if j < k then 48 else 0)

set_option maxRecDepth 100000 in
set_option maxHeartbeats 2000000 in
theorem im_text_yes (n : Nat) (s : Int) (h : setB n s = true) (w : World) (hT : Tab w) : Calls Tryz.prog 23 #[.int .i64 (n : Nat), .int .i64 s] w fun e w' =>
    e = .returned (.tuple #[.string (txt s n), .bool true]) ∧ Below w.heap.size w w' := by
  obtain ⟨n1, n2, _, _⟩ := setB_yes h
  obtain ⟨s1, s2⟩ := setB_lt h
  have hsm := Lib.hid (show ∀ p : Int, 0 ≤ p → p ≤ 7 → hasB s p = true → p < n from fun p p1 p2 hp => has_small' h p1 p2 hp)
  have h1 := Lib.hid (fun W => set_in_yes n s h W)
  have hlt := hT.lt
  have hmk := fun W => run_make_row' (P := Tryz.prog) 22 5 (.int .u8 0) 1 Tryz.underlying22 Tryz.byteInfo rfl .i64 .i64 n (by omega) (by omega) W
  clear h
  refine (callsIn_wide (n := 10)).1 ?_
  refine callsIn_of_wp_marks Tryz.func23 rfl trivial ?_ rfl
  simp only [Tryz.ntmps23, List.size_toArray, List.length_cons, List.length_nil, Nat.reduceAdd, Nat.reduceSub, Array.replicate_succ, Array.replicate_zero, List.push_toArray, List.append_toArray, List.nil_append, List.cons_append]
  gi_wp2_with (first | (refine ⟨trivial, ?_⟩; gi_at_call 43; refine (callsIn_wide.2 (h1.out _)).mono ?_; rintro e w' ⟨rfl, rfl⟩))
  have bS := Boxed.new (w.alloc (.cells (madeCells #[.int .u8 0] n) 5)) 22 (.slice (some ⟨w.heap.size, 0, none⟩) n n)
  rw [World.size_alloc] at bS
  have rS := ((World.rowIs_made w (.int .u8 0) n 5).congr (g := zerAt 0) (fun i _ => by simp [zerAt])).alloc (.cells #[.slice (some ⟨w.heap.size, 0, none⟩) n n] 22)
  have hB0 : Below w.heap.size w ((w.alloc (.cells (madeCells #[.int .u8 0] n) 5)).alloc (.cells #[.slice (some ⟨w.heap.size, 0, none⟩) n n] 22)) := ((Below.refl _ w).alloc (Nat.le_refl _) _).alloc (by simp) _
  gi_loopw [7, 17] (fun _ i wr => ∃ k : Nat, k ≤ n ∧ i = .int .i64 k ∧ Boxed wr (w.heap.size + 1) 22 (.slice (some ⟨w.heap.size, 0, none⟩) n n) ∧ wr.rowIs w.heap.size 5 n (zerAt k) ∧ Below w.heap.size w wr) (fun _ i _ => n - (intOf i).toNat)
  case atStart => exact ⟨0, by omega, rfl, bS, rS, hB0⟩
  case round =>
    obtain ⟨k, hk, rfl, hbox, hrow, hbel⟩ := hrel
    have hc := hbox.cell
    have hsz := hbox.lt
    by_cases hl : k < n
    · have c1 := hrow.cell hl
      have f1 := hrow.frozen k
      have k1 : (0 : Int) ≤ (k : Int) := by omega
      have k2 : (k : Int) < (n : Nat) := by omega
      have hbox' := Lib.hid (hbox.kept (row := some w.heap.size) (W' := wr.setCell ⟨w.heap.size, k, none⟩ (.int .u8 48)) ⟨rfl, rfl, rfl, by simp, fun i _ hne => Below.heap_setCell _ _ _ _ (fun e => hne (by rw [e]))⟩ (by simp))
      have hrow' := Lib.hid ((hrow.set k (.int .u8 48)).congr (g := zerAt (k + 1)) (fun j hj => by
        unfold zerAt
        by_cases e : j = k
        · subst e; simp
        · rw [if_neg e]; congr 1
          by_cases h2 : j < k
          · rw [if_pos h2, if_pos (by omega)]
          · rw [if_neg h2, if_neg (by omega)]))
      have hbel' := Lib.hid (below_setCell hbel (p := ⟨w.heap.size, k, none⟩) (Nat.le_refl _) (.int .u8 48))
      clear hbox hrow hbel
      gi_wp2
      go_roundw
      case rel => exact ⟨k + 1, by omega, by go_num, hbox'.out, hrow'.out, hbel'.out⟩
      case measure => simp [intOf]; omega
    · obtain rfl : k = n := by omega
      have hR0 := Lib.hid (hrow.congr (g := sgnAtZ) (fun j hj => by unfold zerAt sgnAtZ; rw [if_pos hj]))
      have hTr := hT.below hbel hlt
      clear hrow hl hk
      gi_wp2_with (first | (refine ⟨trivial, ?_⟩; gi_at_call 48; refine (pts_make _ _).mono ?_; rintro e w' ⟨rfl, rfl⟩))
      have bN := Boxed.new wr 72 (.int .u64 s)
      have hB1 : Below w.heap.size w (wr.alloc (.cells #[.int .u64 s] 72)) := hbel.alloc hbel.size _
      refine wpIn_rangeFunc_ownG rfl (by omega) (gf := 77) (lb := #[.pointer (some ⟨wr.heap.size, 0, none⟩)]) rfl trivial (enters_of Tryz.func77 (by kernel_rfl) rfl)
        (pts_stops _ (by omega) wr.heap.size w.heap.size s s1 s2 _ (by simp) bN.cell (hTr.alloc hTr.lt _) hlt) belowK_t (belowK_b (by have := hbel.size; simp; omega)) (Below.refl _ _) (fun _ => rfl)
        (fun pre W => (Boxed W (w.heap.size + 1) 22 (.slice (some ⟨w.heap.size, 0, none⟩) k k) ∧ W.rowIs w.heap.size 5 k (sgnAt (vals pre))) ∧ Below w.heap.size w W)
        (fun _ _ _ => False)
        (OwnFrom.and (OwnFrom.and (_root_.Go.Own.from (boxed_own _ _ (fun (_ : List (PtOf s)) => .slice (some ⟨w.heap.size, 0, none⟩) k k)) _) (_root_.Go.Own.from (rowIs_own _ _ _ (fun (pre : List (PtOf s)) => sgnAt (vals pre))) _)) (ownFrom_below (Nat.le_refl _) (by have := hbel.size; simp; omega)))
        (fun _ _ _ _ _ hs _ _ => hs)
        ⟨⟨hbox.alloc _, (hR0.out.congr (g := sgnAt (vals ([] : List (PtOf s)))) (fun j _ => by simp [sgnAtZ, sgnAt, vals])).alloc _⟩, hB1⟩
        (fun x => { tmps := #[.int .i64 (k : Nat), .int .i64 s, undef, undef, .string ⟨#[]⟩, .bool false, .pointer (some ⟨w.heap.size + 1, 0, none⟩), u7, .int .i64 x.1, .int .i64 (k : Nat), .int .i64 s, .bool true, .bool false, .int .i64 (k : Nat), .slice (some ⟨w.heap.size, 0, none⟩) k k, .slice (some ⟨w.heap.size, 0, none⟩) k k, .int .i64 (k : Nat), .int .i64 (k : Nat), .bool false, u19, u20, u21, u22, u23, .int .i64 s, .int .u64 s, .func (.func 77) #[] #[.pointer (some ⟨wr.heap.size, 0, none⟩)], .int .i64 x.1, undef, undef, undef, undef, undef], defers := [] }) ?assign ?body ?done ?stop
      case assign =>
        intro l x W K hK
        gi_wp2
        exact hK
      case body =>
        rintro l pre ⟨x, x1, x2, x3⟩ W ⟨⟨hbx, hrw⟩, hB⟩ hlen
        have x4 := hsm.out x x1 x2 x3
        have hc2 := hbx.cell
        have hj : x.toNat < k := by omega
        have c1 := hrw.cell hj
        have f1 := hrw.frozen x.toNat
        have hbx' := Lib.hid (hbx.kept (row := some w.heap.size) (W' := W.setCell ⟨w.heap.size, x.toNat, none⟩ (.int .u8 49)) ⟨rfl, rfl, rfl, by simp, fun i _ hne => Below.heap_setCell _ _ _ _ (fun e => hne (by rw [e]))⟩ (by simp))
        have hrw' := Lib.hid ((hrw.set x.toNat (.int .u8 49)).congr (g := sgnAt (vals (pre ++ [⟨x, x1, x2, x3⟩]))) (fun j hj2 => by
          unfold sgnAt
          rw [vals_snoc]
          by_cases e : j = x.toNat
          · rw [if_pos e, if_pos (by rw [List.mem_append]; right; simp; omega)]
          · rw [if_neg e]; congr 1
            by_cases h2 : (j : Int) ∈ vals pre
            · rw [if_pos h2, if_pos (by rw [List.mem_append]; left; exact h2)]
            · rw [if_neg h2, if_neg (by rw [List.mem_append]; rintro (h3 | h3); exact h2 h3; simp at h3; omega)]))
        have hB2 := Lib.hid (below_setCell hB (p := ⟨w.heap.size, x.toNat, none⟩) (Nat.le_refl _) (.int .u8 49))
        have hB3 := Lib.hid (below_setCell (Below.refl w.heap.size W) (p := ⟨w.heap.size, x.toNat, none⟩) (Nat.le_refl _) (.int .u8 49))
        clear hbx hrw hB
        gi_wp2
        exact ⟨(KeepsOthers.setCell _ _ _).from _, hB3.out, ⟨hbx'.out, hrw'.out⟩, hB2.out⟩
      case done =>
        rintro D ys W hD hys ⟨⟨hbx, hrw⟩, hB⟩ hK
        rw [hys] at hrw
        have hc2 := hbx.cell
        have hcv := run_convert_bytes_back (P := Tryz.prog) W 22 9 5 ⟨w.heap.size, 0, none⟩ k (txtL s k) Tryz.underlying22 Tryz.underlying5 Tryz.underlying9 (by
          intro j hj
          have hj' := hj
          rw [txtL_len] at hj'
          have hadd : (⟨w.heap.size, 0, none⟩ : Addr).add j = ⟨w.heap.size, j, none⟩ := by unfold Addr.add; split <;> simp_all
          rw [hadd, hrw.cell hj', txtL_get s k j hj]
          unfold sgnAt sign
          have hm := has_mem' s1 s2 (p := j) (by omega)
          by_cases hh : hasB s (j : Nat) = true
          · rw [if_pos (hm.2 hh), if_pos hh]; rfl
          · rw [if_neg (fun h => hh (hm.1 h)), if_neg hh]; rfl)
        rw [txtL_len] at hcv
        gi_wp2
        refine ⟨by simp, .inl ⟨_, _, rfl, run_takeDeferred hK, ?_⟩⟩
        exact ⟨_, results_tmp2 rfl _ _ _, rfl, hB.trans (belowK_b (w := w) (Nat.le_refl _) W D _ _ (by have := hbel.size; simp at hD; omega) hK rfl rfl)⟩
      case stop =>
        rintro D c pre W _ _ h _
        exact h.elim

end Go.Proofs.YtojfamjgghikoaaGreatDoor
