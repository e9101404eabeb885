/- The model's closed families: sets are added until nothing is new. -/
import Derived.Test.YtjhjmbiecihjhaaDoorAllKn
import Derived.Test.YtjhjmbiecihjhaaDoorAllSp
namespace Go.Proofs.YtjhjmbiecihjhaaDoor
open Go.ChangeShapes Go.WideShapes Go.ChangeAt Go.RowKit Go.Proofs

theorem asc_part {L M : List Int} (hL : Asc L) (hM : Asc M) (h : ∀ z ∈ L, z ∈ M) : L.length ≤ M.length ∧ (L.length = M.length → M = L) := by
  have h1 : M.filter (fun z => memB z L) = L := asc_ext (asc_filter hM _) hL (fun z => by
    rw [List.mem_filter]
    exact ⟨fun hz => memB_yes hz.2, fun hz => ⟨h z hz, memB_mk hz⟩⟩)
  have h2 := List.length_filter_le (fun z => memB z L) M
  rw [h1] at h2
  refine ⟨h2, fun e => ?_⟩
  have h3 : (M.filter (fun z => memB z L)).length = M.length := by rw [h1, e]
  have h4 := List.length_filter_eq_length_iff.1 h3
  have h5 : M.filter (fun z => memB z L) = M := List.filter_eq_self.2 h4
  rw [← h5]; exact h1
/-- what is known of the sets at the start of a round. -/
structure GrowI (op : Int → Int → Int) (n : Int) (xs L : List Int) : Prop where
  asc : Asc L
  has : ∀ z ∈ xs, z ∈ L
  few : ∀ z ∈ L, z ∈ ucL op xs
  set : ∀ z ∈ L, setB n z = true
theorem GrowI.len {op : Int → Int → Int} {n : Int} {xs L : List Int} (h : GrowI op n xs L) : L.length ≤ 256 := asc_len256 h.asc (fun z hz => setB_lt (h.set z hz))
theorem GrowI.all {op : Int → Int → Int} {n : Int} {xs L : List Int} (h : GrowI op n xs L) (hs : Semi op) (hx : ∀ z ∈ xs, setB n z = true) : ∀ z ∈ L ++ pairsTo op L xs L.length, setB n z = true := fun z hz => by
  rcases List.mem_append.1 hz with hz | hz
  · exact h.set z hz
  · obtain ⟨a, ha, b, hb, rfl⟩ := pairs_mem hz
    exact hs.keep n a b (h.set a ha) (hx b hb)
theorem grow_start {op : Int → Int → Int} (hs : Semi op) {n : Int} {xs : List Int} (hf : famB n xs = true) : GrowI op n xs xs := by
  obtain ⟨n1, n2, h⟩ := famB_all hf
  exact ⟨famB_asc hf, fun _ hz => hz, ucL_has hs (fun z hz => (setB_lt (h z hz)).1), h⟩
theorem grow_next {op : Int → Int → Int} (hs : Semi op) {n : Int} {xs L : List Int} (hx : ∀ z ∈ xs, setB n z = true) (h : GrowI op n xs L) : GrowI op n xs (sortL (L ++ pairsTo op L xs L.length)) := by
  have h0 : ∀ z ∈ xs, 0 ≤ z := fun z hz => (setB_lt (hx z hz)).1
  refine ⟨asc_sortL _, fun z hz => mem_sortL.2 (List.mem_append.2 (.inl (h.has z hz))), fun z hz => ?_, fun z hz => h.all hs hx z (mem_sortL.1 hz)⟩
  rcases List.mem_append.1 (mem_sortL.1 hz) with hz | hz
  · exact h.few z hz
  · obtain ⟨a, ha, b, hb, rfl⟩ := pairs_mem hz
    exact ucL_closed hs h0 a (h.few a ha) b (ucL_has hs h0 b hb)
theorem grow_len {op : Int → Int → Int} {n : Int} {xs L : List Int} (h : GrowI op n xs L) : L.length ≤ (sortL (L ++ pairsTo op L xs L.length)).length := (asc_part h.asc (asc_sortL _) (fun _ hz => mem_sortL.2 (List.mem_append.2 (.inl hz)))).1
theorem grow_end {op : Int → Int → Int} {n : Int} {xs L : List Int} (h : GrowI op n xs L) (e : (sortL (L ++ pairsTo op L xs L.length)).length = L.length) : sortL (L ++ pairsTo op L xs L.length) = ucL op xs := by
  have h1 := (asc_part h.asc (asc_sortL _) (fun _ hz => mem_sortL.2 (List.mem_append.2 (.inl hz)))).2 e.symm
  rw [h1]
  refine ucL_eq h.asc h.has (fun a ha b hb => ?_) h.few
  rw [← h1, mem_sortL]
  refine List.mem_append.2 (.inr ?_)
  unfold pairsTo
  rw [List.take_length]
  exact List.mem_flatMap.2 ⟨a, ha, List.mem_map.2 ⟨b, hb, rfl⟩⟩
/-- the length of a slice. -/
def lenV : Value → Nat
  | .slice _ l _ => l
  | _ => 0

set_option maxRecDepth 20000 in
set_option maxHeartbeats 4000000 in
theorem grow_or (n : Int) (lv : Value) (xs : List Int) (S : Nat) (w : World) (hx : Row w S lv xs) (hS : S ≤ w.heap.size) (hf : famB n xs = true) :
    Calls Tryd.prog 73 #[.int .i64 n, lv, .bool true] w (IntsPost (ucL orI xs) w) := by
  obtain ⟨n1, n2, hset0⟩ := famB_all hf
  have l1 := famB_len hf
  have hg0 := Lib.hid (grow_start semi_or hf)
  obtain ⟨a, cap, rfl, ha⟩ := id hx
  have hx0 := Lib.hid hx
  have hset : ∀ x, setB n x = true → ∃ t : Nat, x = t ∧ t < 2 ^ n.toNat := fun x h => set_nat h
  obtain ⟨p1, p2, p3⟩ := pow_nat n1 n2
  have hmks := fun (L : List Int) (h : allB n L = true) => mkL_sort h
  obtain ⟨N, hN⟩ : ∃ N : Nat, 2 ^ n.toNat = N := ⟨_, rfl⟩
  rw [hN] at p1 p2 p3 hset hmks
  have hma := fun (W : World) (v : Value) (L : List Int) (h1 : Row W W.heap.size v L) (h2 : L.length ≤ 256) (h3 : allB n L = true) => hN ▸ marks_at n v L W.heap.size W h1 (Nat.le_refl _) (by omega) n1 n2 h3
  replace hma := Lib.hid hma
  replace hN := Lib.hid hN
  replace hset := Lib.hid hset
  replace hset0 := Lib.hid hset0
  replace hmks := Lib.hid hmks
  replace ha := Lib.hid ha
  replace hf := Lib.hid hf
  have hlit := Lib.hid (OwnL.lit w (Nat.le_refl w.heap.size))
  have hbl := Lib.hid ((Below.refl w.heap.size w).alloc (Nat.le_refl _) (.cells #[] 3))
  have hrx := Lib.hid (hx.below hbl.out hS)
  have hqs : w.heap.size ≤ (w.alloc (.cells #[] 3)).heap.size := by rw [World.size_alloc]; exact Nat.le_succ _
  have h0 : ([] : List Int).length ≤ 1073741824 := by simp
  have hl1' : xs.length ≤ 1073741824 := by omega
  clear hx
  go_enter Tryd.func73, Tryd.ntmps73
  go_wp2_with (at_builtin; refine app_ints rfl _ _ rfl w.heap.size _ [] rfl hlit.out a cap S xs rfl hrx.out h0 hl1' hqs ?_; intro v1 w1 hO1 hb1; rw [List.nil_append] at hO1; replace hO1 := Lib.hid hO1; replace hb1 := Lib.hid (hbl.out.trans hb1))
  go_loopw [7] (fun v wr => ∃ L : List Int, Hid (GrowI orI n xs L) ∧ Hid (OwnL wr w.heap.size v L) ∧ Hid (Below w.heap.size w wr)) (fun v _ => 256 - lenV v)
  case atStart => exact ⟨xs, hg0, hO1, hb1⟩
  case round =>
    obtain ⟨L, hg, hown, hbel⟩ := hrel
    obtain ⟨W1, rfl⟩ : ∃ W1, W1 = wr := ⟨_, rfl⟩
    have hsz := hbel.out.size
    have hLl := hg.out.len
    have hLall : allB n L = true := List.all_eq_true.2 hg.out.set
    obtain ⟨a', c', rfl⟩ := hown.out.form
    have hmr := Lib.hid (hma.out W1 _ L hown.out.own.row hLl hLall)
    replace hLall := Lib.hid hLall
    go_wp2_with fail
    refine hmr.out.mono ?_
    rintro e w2 ⟨b, rfl, hbB, hbW, hrow, hb2⟩
    have hz2 := hb2.size
    replace hrow := Lib.hid hrow
    replace hb2 := Lib.hid hb2
    have hrowL := Lib.hid hown.out.own.row
    clear hmr
    go_wp2_with fail
    go_loopw [9] (fun s wq => ∃ k : Nat, k ≤ L.length ∧ s = .int .i64 k ∧ Hid (Below W1.heap.size W1 wq) ∧ Hid (MarkRow wq b N (fun j => memB (j : Nat) (L ++ pairsTo orI L xs k)))) (fun s _ => L.length - (intOf s).toNat)
    case atStart => exact ⟨0, by omega, rfl, hb2, Lib.hid (by unfold pairsTo; rw [List.take_zero, List.flatMap_nil, List.append_nil]; exact hrow.out)⟩
    case round =>
      obtain ⟨k, hk, rfl, hbk, hrk⟩ := hrel
      by_cases hlt : k < L.length
      · obtain ⟨a3, c3, he3, ha3⟩ := hrowL.out
        cases he3
        obtain ⟨b1, o1, he1, s1, c1⟩ := ha3 (by omega)
        subst he1
        have k1 : (0 : Int) ≤ (k : Int) := by omega
        have k2 : (k : Int) < (L.length : Nat) := by omega
        obtain ⟨x, hx1⟩ : ∃ x, L.getD k 0 = x := ⟨_, rfl⟩
        have hmx := Lib.hid (show x ∈ L by rw [← hx1]; exact getD_mem hlt)
        have hps := Lib.hid (pairs_step (ys := xs) hlt hx1 orI)
        replace hx1 := Lib.hid hx1
        replace c1 := Lib.hid c1
        clear ha3
        go_wp2_with fail
        go_loopw [10] (fun s wq => ∃ j : Nat, j ≤ xs.length ∧ s = .int .i64 j ∧ Hid (Below W1.heap.size W1 wq) ∧ Hid (MarkRow wq b N (fun j' => memB (j' : Nat) (L ++ (pairsTo orI L xs k ++ (xs.take j).map (orI x)))))) (fun s _ => xs.length - (intOf s).toNat)
        case atStart => exact ⟨0, by omega, rfl, hbk, Lib.hid (by rw [List.take_zero, List.map_nil, List.append_nil]; exact hrk.out)⟩
        case round =>
          obtain ⟨j, hj, rfl, hbj, hrj⟩ := hrel
          by_cases hlj : j < xs.length
          · obtain ⟨b2, o2, rfl, s2, c2⟩ := ha.out (by omega)
            have j1 : (0 : Int) ≤ (j : Int) := by omega
            have j2 : (j : Int) < (xs.length : Nat) := by omega
            have e1 : wr.cell? ⟨b1, o1 + k, none⟩ = some (.int .i64 (L.getD k 0)) := (hbj.out.cell (p := ⟨b1, o1 + k, none⟩) (show b1 < W1.heap.size by omega)).trans (c1.out k hlt)
            have e2 : wr.cell? ⟨b2, o2 + j, none⟩ = some (.int .i64 (xs.getD j 0)) := (hbj.out.cell (p := ⟨b2, o2 + j, none⟩) (show b2 < W1.heap.size by omega)).trans ((hbel.out.cell (p := ⟨b2, o2 + j, none⟩) (show b2 < w.heap.size by omega)).trans (c2 j hlj))
            rw [hx1.out] at e1
            obtain ⟨y, hy0⟩ : ∃ y, xs.getD j 0 = y := ⟨_, rfl⟩
            have hmy : y ∈ xs := by rw [← hy0]; exact getD_mem hlj
            have hft : L ++ (pairsTo orI L xs k ++ (xs.take (j + 1)).map (orI x)) = (L ++ (pairsTo orI L xs k ++ (xs.take j).map (orI x))) ++ [orI x y] := by rw [map_take hlj hy0 (orI x)]; simp only [List.append_assoc]
            have hsx := hg.out.set x hmx.out
            have hsy := hset0.out y hmy
            obtain ⟨x1, x2⟩ := setB_lt hsx
            obtain ⟨y1, y2⟩ := setB_lt hsy
            have ho := i64_orI x1 x2 y1 y2
            obtain ⟨t, hte, ht⟩ := hset.out _ ((semi_or).keep n x y hsx hsy)
            rw [hte] at ho hft
            rw [hy0] at e2
            have t1 : (0 : Int) ≤ (t : Int) := by omega
            have t2 : (t : Int) < (N : Nat) := by omega
            have e3 := World.rowIs.cell hrj.out ht
            have e4 := World.rowIs.frozen hrj.out t
            have hrow' := Lib.hid (MarkRow.put (w := wr.drew) hrj.out (p' := fun j' => memB (j' : Nat) (L ++ (pairsTo orI L xs k ++ (xs.take (j + 1)).map (orI x)))) t (fun j' hj' => by
              rw [hft, mem_snoc]
              by_cases e : j' = t
              · subst e; simp
              · rw [if_neg e, if_neg (by omega)]))
            have hbel' := Lib.hid (below_setCell hbj.out.drew (p := ⟨b, t, none⟩) hbB (.bool true))
            replace hte := Lib.hid hte
            replace hft := Lib.hid hft
            replace hy0 := Lib.hid hy0
            replace hmy := Lib.hid hmy
            replace hsx := Lib.hid hsx
            replace hsy := Lib.hid hsy
            clear c2 hrj hbj
            go_wp2_with fail
            go_region
            all_goals
              go_wp2_with fail
              go_roundw
              case rel => exact ⟨j + 1, by omega, by go_num, hbel', hrow'⟩
              case measure => simp [intOf]; omega
          · obtain rfl : j = xs.length := by omega
            have hr2 := hrj.out
            rw [List.take_length, ← hps.out] at hr2
            replace hr2 := Lib.hid hr2
            clear hrj
            go_wp2_with fail
            go_roundw
            case rel => exact ⟨k + 1, by omega, by go_num, hbj, hr2⟩
            case measure => simp [intOf]; omega
      · obtain rfl : k = L.length := by omega
        have hli := list_at b N _ wr hrk.out p1
        rw [hmks.out _ (List.all_eq_true.2 (hg.out.all semi_or hset0.out))] at hli
        have hgn := grow_next semi_or hset0.out hg.out
        have hgl := grow_len hg.out
        have hge := grow_end hg.out
        have hgl2 := hgn.len
        obtain ⟨M, hM⟩ : ∃ M, sortL (L ++ pairsTo orI L xs L.length) = M := ⟨_, rfl⟩
        rw [hM] at hli hgn hgl hge hgl2
        replace hli := Lib.hid hli
        replace hgn := Lib.hid hgn
        replace hM := Lib.hid hM
        have hz := hbk.out.size
        clear hrk
        by_cases hml : M.length = L.length
        · have hgf := Lib.hid (hge hml)
          have hbb : (((M.length : Nat) : Int) == ((L.length : Nat) : Int)) = true := by simp [hml]
          replace hml := Lib.hid hml
          clear hge
          go_wp2_with fail
          refine hli.out.mono ?_
          rintro e w3 ⟨v, rfl, hO, hb3⟩
          obtain ⟨x1, x2, rfl⟩ := hO.form
          have hb4 := Lib.hid (hbel.out.trans (hbk.out.mono hsz))
          have hb5 := Lib.hid (hb4.out.trans (hb3.mono (by omega)))
          replace hO := Lib.hid (hO.mono (by omega : w.heap.size ≤ _))
          clear hb3
          go_wp2_with fail
          go_ret
          exact ⟨_, rfl, hgf.out ▸ hO.out, hb5.out⟩
        · have hbb : (((M.length : Nat) : Int) == ((L.length : Nat) : Int)) = false := by simp; omega
          have hlt2 : L.length < M.length := by omega
          clear hge hml
          go_wp2_with fail
          refine hli.out.mono ?_
          rintro e w3 ⟨v, rfl, hO, hb3⟩
          obtain ⟨x1, x2, rfl⟩ := hO.form
          have hb4 := Lib.hid (hbel.out.trans (hbk.out.mono hsz))
          have hb5 := Lib.hid (hb4.out.trans (hb3.mono (by omega)))
          replace hO := Lib.hid (hO.mono (by omega : w.heap.size ≤ _))
          clear hb3
          go_wp2_with fail
          go_roundw
          case rel => exact ⟨M, hgn, hO, hb5⟩
          case measure => simp [lenV]; omega

set_option maxHeartbeats 2000000 in
theorem sp_UnionOf (n : Int) (lv : Value) (xs : List Int) (S : Nat) (w : World) (hx : Row w S lv xs) (hS : S ≤ w.heap.size) (hl : xs.length ≤ 100000000) :
    Calls Tryd.prog 62 #[.int .i64 n, lv] w (ListPost (ifL (famB n xs) (ucL orI xs)) (famB n xs) w) := by
  have h1 := sp_FamilyIn n lv xs S w hx (by omega)
  obtain ⟨a, cap, rfl, ha⟩ := id hx
  rcases (by cases famB n xs <;> simp : famB n xs = true ∨ famB n xs = false) with f1 | f1
  · rw [f1] at h1 ⊢
    obtain ⟨n1, n2, _⟩ := famB_all f1
    have A1 := famB_asc f1
    have hzz := famB_lt f1
    have l1 := asc_len256 A1 hzz
    have hot := fun q : Nat => grow_or n _ xs S (w.drewN q) (hx.drewN q) hS f1
    rw [show ifL true (ucL orI xs) = ucL orI xs from rfl]
    obtain ⟨ys, hys⟩ : ∃ ys, ucL orI xs = ys := ⟨_, rfl⟩
    rw [hys] at hot ⊢
    replace hys := Lib.hid hys
    replace hot := Lib.hid hot
    replace h1 := Lib.hid h1
    replace f1 := Lib.hid f1
    replace A1 := Lib.hid A1
    replace hzz := Lib.hid hzz
    replace hx := Lib.hid hx
    replace ha := Lib.hid ha
    go_enter Tryd.func62, Tryd.ntmps62
    go_wp2_with fail
    refine h1.out.mono ?_
    rintro e w1 ⟨rfl, q, rfl⟩
    clear h1
    go_wp2_with fail
    refine (hot.out q).mono ?_
    rintro e w3 ⟨v, rfl, hO, hb3⟩
    obtain ⟨a', c', rfl⟩ := hO.form
    replace hb3 := Lib.hid ((below_drewN (Below.refl w.heap.size w) q).trans hb3)
    replace hO := Lib.hid (own_lift hO)
    go_wp2_with fail
    go_ret2
    exact ⟨_, rfl, hO.out, hb3.out⟩
  · rw [f1] at h1 ⊢
    replace h1 := Lib.hid h1
    replace f1 := Lib.hid f1
    clear hx ha
    go_enter Tryd.func62, Tryd.ntmps62
    go_wp2_with fail
    refine h1.out.mono ?_
    rintro e w1 ⟨rfl, q, rfl⟩
    go_wp2_with fail
    go_ret2
    exact ⟨_, rfl, own_empty0 _ _ _ _ _, ((below_drewN (Below.refl _ w) q).alloc (Nat.le_refl _) _)⟩


set_option maxRecDepth 20000 in
set_option maxHeartbeats 4000000 in
theorem grow_and (n : Int) (lv : Value) (xs : List Int) (S : Nat) (w : World) (hx : Row w S lv xs) (hS : S ≤ w.heap.size) (hf : famB n xs = true) :
    Calls Tryd.prog 73 #[.int .i64 n, lv, .bool false] w (IntsPost (ucL andI xs) w) := by
  obtain ⟨n1, n2, hset0⟩ := famB_all hf
  have l1 := famB_len hf
  have hg0 := Lib.hid (grow_start semi_and hf)
  obtain ⟨a, cap, rfl, ha⟩ := id hx
  have hx0 := Lib.hid hx
  have hset : ∀ x, setB n x = true → ∃ t : Nat, x = t ∧ t < 2 ^ n.toNat := fun x h => set_nat h
  obtain ⟨p1, p2, p3⟩ := pow_nat n1 n2
  have hmks := fun (L : List Int) (h : allB n L = true) => mkL_sort h
  obtain ⟨N, hN⟩ : ∃ N : Nat, 2 ^ n.toNat = N := ⟨_, rfl⟩
  rw [hN] at p1 p2 p3 hset hmks
  have hma := fun (W : World) (v : Value) (L : List Int) (h1 : Row W W.heap.size v L) (h2 : L.length ≤ 256) (h3 : allB n L = true) => hN ▸ marks_at n v L W.heap.size W h1 (Nat.le_refl _) (by omega) n1 n2 h3
  replace hma := Lib.hid hma
  replace hN := Lib.hid hN
  replace hset := Lib.hid hset
  replace hset0 := Lib.hid hset0
  replace hmks := Lib.hid hmks
  replace ha := Lib.hid ha
  replace hf := Lib.hid hf
  have hlit := Lib.hid (OwnL.lit w (Nat.le_refl w.heap.size))
  have hbl := Lib.hid ((Below.refl w.heap.size w).alloc (Nat.le_refl _) (.cells #[] 3))
  have hrx := Lib.hid (hx.below hbl.out hS)
  have hqs : w.heap.size ≤ (w.alloc (.cells #[] 3)).heap.size := by rw [World.size_alloc]; exact Nat.le_succ _
  have h0 : ([] : List Int).length ≤ 1073741824 := by simp
  have hl1' : xs.length ≤ 1073741824 := by omega
  clear hx
  go_enter Tryd.func73, Tryd.ntmps73
  go_wp2_with (at_builtin; refine app_ints rfl _ _ rfl w.heap.size _ [] rfl hlit.out a cap S xs rfl hrx.out h0 hl1' hqs ?_; intro v1 w1 hO1 hb1; rw [List.nil_append] at hO1; replace hO1 := Lib.hid hO1; replace hb1 := Lib.hid (hbl.out.trans hb1))
  go_loopw [7] (fun v wr => ∃ L : List Int, Hid (GrowI andI n xs L) ∧ Hid (OwnL wr w.heap.size v L) ∧ Hid (Below w.heap.size w wr)) (fun v _ => 256 - lenV v)
  case atStart => exact ⟨xs, hg0, hO1, hb1⟩
  case round =>
    obtain ⟨L, hg, hown, hbel⟩ := hrel
    obtain ⟨W1, rfl⟩ : ∃ W1, W1 = wr := ⟨_, rfl⟩
    have hsz := hbel.out.size
    have hLl := hg.out.len
    have hLall : allB n L = true := List.all_eq_true.2 hg.out.set
    obtain ⟨a', c', rfl⟩ := hown.out.form
    have hmr := Lib.hid (hma.out W1 _ L hown.out.own.row hLl hLall)
    replace hLall := Lib.hid hLall
    go_wp2_with fail
    refine hmr.out.mono ?_
    rintro e w2 ⟨b, rfl, hbB, hbW, hrow, hb2⟩
    have hz2 := hb2.size
    replace hrow := Lib.hid hrow
    replace hb2 := Lib.hid hb2
    have hrowL := Lib.hid hown.out.own.row
    clear hmr
    go_wp2_with fail
    go_loopw [9] (fun s wq => ∃ k : Nat, k ≤ L.length ∧ s = .int .i64 k ∧ Hid (Below W1.heap.size W1 wq) ∧ Hid (MarkRow wq b N (fun j => memB (j : Nat) (L ++ pairsTo andI L xs k)))) (fun s _ => L.length - (intOf s).toNat)
    case atStart => exact ⟨0, by omega, rfl, hb2, Lib.hid (by unfold pairsTo; rw [List.take_zero, List.flatMap_nil, List.append_nil]; exact hrow.out)⟩
    case round =>
      obtain ⟨k, hk, rfl, hbk, hrk⟩ := hrel
      by_cases hlt : k < L.length
      · obtain ⟨a3, c3, he3, ha3⟩ := hrowL.out
        cases he3
        obtain ⟨b1, o1, he1, s1, c1⟩ := ha3 (by omega)
        subst he1
        have k1 : (0 : Int) ≤ (k : Int) := by omega
        have k2 : (k : Int) < (L.length : Nat) := by omega
        obtain ⟨x, hx1⟩ : ∃ x, L.getD k 0 = x := ⟨_, rfl⟩
        have hmx := Lib.hid (show x ∈ L by rw [← hx1]; exact getD_mem hlt)
        have hps := Lib.hid (pairs_step (ys := xs) hlt hx1 andI)
        replace hx1 := Lib.hid hx1
        replace c1 := Lib.hid c1
        clear ha3
        go_wp2_with fail
        go_loopw [10] (fun s wq => ∃ j : Nat, j ≤ xs.length ∧ s = .int .i64 j ∧ Hid (Below W1.heap.size W1 wq) ∧ Hid (MarkRow wq b N (fun j' => memB (j' : Nat) (L ++ (pairsTo andI L xs k ++ (xs.take j).map (andI x)))))) (fun s _ => xs.length - (intOf s).toNat)
        case atStart => exact ⟨0, by omega, rfl, hbk, Lib.hid (by rw [List.take_zero, List.map_nil, List.append_nil]; exact hrk.out)⟩
        case round =>
          obtain ⟨j, hj, rfl, hbj, hrj⟩ := hrel
          by_cases hlj : j < xs.length
          · obtain ⟨b2, o2, rfl, s2, c2⟩ := ha.out (by omega)
            have j1 : (0 : Int) ≤ (j : Int) := by omega
            have j2 : (j : Int) < (xs.length : Nat) := by omega
            have e1 : wr.cell? ⟨b1, o1 + k, none⟩ = some (.int .i64 (L.getD k 0)) := (hbj.out.cell (p := ⟨b1, o1 + k, none⟩) (show b1 < W1.heap.size by omega)).trans (c1.out k hlt)
            have e2 : wr.cell? ⟨b2, o2 + j, none⟩ = some (.int .i64 (xs.getD j 0)) := (hbj.out.cell (p := ⟨b2, o2 + j, none⟩) (show b2 < W1.heap.size by omega)).trans ((hbel.out.cell (p := ⟨b2, o2 + j, none⟩) (show b2 < w.heap.size by omega)).trans (c2 j hlj))
            rw [hx1.out] at e1
            obtain ⟨y, hy0⟩ : ∃ y, xs.getD j 0 = y := ⟨_, rfl⟩
            have hmy : y ∈ xs := by rw [← hy0]; exact getD_mem hlj
            have hft : L ++ (pairsTo andI L xs k ++ (xs.take (j + 1)).map (andI x)) = (L ++ (pairsTo andI L xs k ++ (xs.take j).map (andI x))) ++ [andI x y] := by rw [map_take hlj hy0 (andI x)]; simp only [List.append_assoc]
            have hsx := hg.out.set x hmx.out
            have hsy := hset0.out y hmy
            obtain ⟨x1, x2⟩ := setB_lt hsx
            obtain ⟨y1, y2⟩ := setB_lt hsy
            have ho := i64_andI x1 x2 y1 y2
            obtain ⟨t, hte, ht⟩ := hset.out _ ((semi_and).keep n x y hsx hsy)
            rw [hte] at ho hft
            rw [hy0] at e2
            have t1 : (0 : Int) ≤ (t : Int) := by omega
            have t2 : (t : Int) < (N : Nat) := by omega
            have e3 := World.rowIs.cell hrj.out ht
            have e4 := World.rowIs.frozen hrj.out t
            have hrow' := Lib.hid (MarkRow.put (w := wr.drew) hrj.out (p' := fun j' => memB (j' : Nat) (L ++ (pairsTo andI L xs k ++ (xs.take (j + 1)).map (andI x)))) t (fun j' hj' => by
              rw [hft, mem_snoc]
              by_cases e : j' = t
              · subst e; simp
              · rw [if_neg e, if_neg (by omega)]))
            have hbel' := Lib.hid (below_setCell hbj.out.drew (p := ⟨b, t, none⟩) hbB (.bool true))
            replace hte := Lib.hid hte
            replace hft := Lib.hid hft
            replace hy0 := Lib.hid hy0
            replace hmy := Lib.hid hmy
            replace hsx := Lib.hid hsx
            replace hsy := Lib.hid hsy
            clear c2 hrj hbj
            go_wp2_with fail
            go_region
            all_goals
              go_wp2_with fail
              go_roundw
              case rel => exact ⟨j + 1, by omega, by go_num, hbel', hrow'⟩
              case measure => simp [intOf]; omega
          · obtain rfl : j = xs.length := by omega
            have hr2 := hrj.out
            rw [List.take_length, ← hps.out] at hr2
            replace hr2 := Lib.hid hr2
            clear hrj
            go_wp2_with fail
            go_roundw
            case rel => exact ⟨k + 1, by omega, by go_num, hbj, hr2⟩
            case measure => simp [intOf]; omega
      · obtain rfl : k = L.length := by omega
        have hli := list_at b N _ wr hrk.out p1
        rw [hmks.out _ (List.all_eq_true.2 (hg.out.all semi_and hset0.out))] at hli
        have hgn := grow_next semi_and hset0.out hg.out
        have hgl := grow_len hg.out
        have hge := grow_end hg.out
        have hgl2 := hgn.len
        obtain ⟨M, hM⟩ : ∃ M, sortL (L ++ pairsTo andI L xs L.length) = M := ⟨_, rfl⟩
        rw [hM] at hli hgn hgl hge hgl2
        replace hli := Lib.hid hli
        replace hgn := Lib.hid hgn
        replace hM := Lib.hid hM
        have hz := hbk.out.size
        clear hrk
        by_cases hml : M.length = L.length
        · have hgf := Lib.hid (hge hml)
          have hbb : (((M.length : Nat) : Int) == ((L.length : Nat) : Int)) = true := by simp [hml]
          replace hml := Lib.hid hml
          clear hge
          go_wp2_with fail
          refine hli.out.mono ?_
          rintro e w3 ⟨v, rfl, hO, hb3⟩
          obtain ⟨x1, x2, rfl⟩ := hO.form
          have hb4 := Lib.hid (hbel.out.trans (hbk.out.mono hsz))
          have hb5 := Lib.hid (hb4.out.trans (hb3.mono (by omega)))
          replace hO := Lib.hid (hO.mono (by omega : w.heap.size ≤ _))
          clear hb3
          go_wp2_with fail
          go_ret
          exact ⟨_, rfl, hgf.out ▸ hO.out, hb5.out⟩
        · have hbb : (((M.length : Nat) : Int) == ((L.length : Nat) : Int)) = false := by simp; omega
          have hlt2 : L.length < M.length := by omega
          clear hge hml
          go_wp2_with fail
          refine hli.out.mono ?_
          rintro e w3 ⟨v, rfl, hO, hb3⟩
          obtain ⟨x1, x2, rfl⟩ := hO.form
          have hb4 := Lib.hid (hbel.out.trans (hbk.out.mono hsz))
          have hb5 := Lib.hid (hb4.out.trans (hb3.mono (by omega)))
          replace hO := Lib.hid (hO.mono (by omega : w.heap.size ≤ _))
          clear hb3
          go_wp2_with fail
          go_roundw
          case rel => exact ⟨M, hgn, hO, hb5⟩
          case measure => simp [lenV]; omega

set_option maxHeartbeats 2000000 in
theorem sp_MeetOf (n : Int) (lv : Value) (xs : List Int) (S : Nat) (w : World) (hx : Row w S lv xs) (hS : S ≤ w.heap.size) (hl : xs.length ≤ 100000000) :
    Calls Tryd.prog 45 #[.int .i64 n, lv] w (ListPost (ifL (famB n xs) (ucL andI xs)) (famB n xs) w) := by
  have h1 := sp_FamilyIn n lv xs S w hx (by omega)
  obtain ⟨a, cap, rfl, ha⟩ := id hx
  rcases (by cases famB n xs <;> simp : famB n xs = true ∨ famB n xs = false) with f1 | f1
  · rw [f1] at h1 ⊢
    obtain ⟨n1, n2, _⟩ := famB_all f1
    have A1 := famB_asc f1
    have hzz := famB_lt f1
    have l1 := asc_len256 A1 hzz
    have hot := fun q : Nat => grow_and n _ xs S (w.drewN q) (hx.drewN q) hS f1
    rw [show ifL true (ucL andI xs) = ucL andI xs from rfl]
    obtain ⟨ys, hys⟩ : ∃ ys, ucL andI xs = ys := ⟨_, rfl⟩
    rw [hys] at hot ⊢
    replace hys := Lib.hid hys
    replace hot := Lib.hid hot
    replace h1 := Lib.hid h1
    replace f1 := Lib.hid f1
    replace A1 := Lib.hid A1
    replace hzz := Lib.hid hzz
    replace hx := Lib.hid hx
    replace ha := Lib.hid ha
    go_enter Tryd.func45, Tryd.ntmps45
    go_wp2_with fail
    refine h1.out.mono ?_
    rintro e w1 ⟨rfl, q, rfl⟩
    clear h1
    go_wp2_with fail
    refine (hot.out q).mono ?_
    rintro e w3 ⟨v, rfl, hO, hb3⟩
    obtain ⟨a', c', rfl⟩ := hO.form
    replace hb3 := Lib.hid ((below_drewN (Below.refl w.heap.size w) q).trans hb3)
    replace hO := Lib.hid (own_lift hO)
    go_wp2_with fail
    go_ret2
    exact ⟨_, rfl, hO.out, hb3.out⟩
  · rw [f1] at h1 ⊢
    replace h1 := Lib.hid h1
    replace f1 := Lib.hid f1
    clear hx ha
    go_enter Tryd.func45, Tryd.ntmps45
    go_wp2_with fail
    refine h1.out.mono ?_
    rintro e w1 ⟨rfl, q, rfl⟩
    go_wp2_with fail
    go_ret2
    exact ⟨_, rfl, own_empty0 _ _ _ _ _, ((below_drewN (Below.refl _ w) q).alloc (Nat.le_refl _) _)⟩

end Go.Proofs.YtjhjmbiecihjhaaDoor
