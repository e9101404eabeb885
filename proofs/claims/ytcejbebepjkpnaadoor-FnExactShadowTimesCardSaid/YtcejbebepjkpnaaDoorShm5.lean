/- Shadows: ShadowOf, ShadowUp, the program. -/
import Derived.Test.YtcejbebepjkpnaaDoorShm4
import Derived.Test.YtcejbebepjkpnaaDoorFams8
namespace Go.Proofs.YtcejbebepjkpnaaDoor
open Go.ChangeShapes Go.WideShapes Go.ChangeAt Go.RowKit Go.Proofs Go.Shelf Go.Maps

/-- a family to be read, nothing below B turned. -/
def FamPostR (B : Nat) (ys : List Int) (w : World) (e : Ending) (w' : World) : Prop := ∃ v, e = .returned (.agg #[v, (Value.func (.func 68) #[] #[])]) ∧ SRow w' w'.heap.size v ys ∧ Below B w w' ∧ w.heap.size ≤ w'.heap.size
/-- the function value g, bound to rs and cs, makes ys of the family xs. -/
def FamMapR (B : Nat) (g : Nat) (rs cs : Array Value) (xs ys : List Int) (w : World) : Prop :=
  ∀ (W : World) (lv : Value), Below w.heap.size w W → SRow W W.heap.size lv xs → Calls Tryd.prog g (rs ++ #[.agg #[lv, (Value.func (.func 68) #[] #[])]] ++ cs) W (FamPostR B ys W)
/-- as ListPost, from B on. -/
def ListPostB (B : Nat) (L : List Int) (b : Bool) (w : World) (e : Ending) (w' : World) : Prop := ∃ v, e = .returned (.tuple #[v, .bool b]) ∧ Own w' B w'.heap.size v L ∧ Below B w w'
set_option maxRecDepth 100000 in
set_option maxHeartbeats 2000000 in
theorem made_any (B : Nat) (g : Nat) (eg : EntersG g) (rs cs : Array Value) (n : Int) (lv : Value) (xs ys : List Int) (S : Nat) (w : World) (hB : B ≤ w.heap.size) (hx : Row w S lv xs) (hS : S ≤ w.heap.size) (hl : xs.length ≤ 100000000)
    (hF : famB n xs = true → FamMapR B g rs cs xs ys w ∧ (∀ z ∈ ys, 0 ≤ z ∧ z < 256) ∧ ys.length ≤ 1000) :
    Calls Tryd.prog 33 #[.int .i64 n, lv, .func (.func g) rs cs] w (ListPostB B (ifL (famB n xs) ys) (famB n xs) w) := by
  have eg1 : ∀ args w, (callFunc g args).run Tryd.prog w = .ok (.enter g args) w := eg
  have hr := Lib.hid (read_any n lv xs S w hx hS hl)
  obtain ⟨la, lc, rfl, _⟩ := id hx
  replace hF := Lib.hid hF
  clear hx
  go_enter Tryd.func33, Tryd.ntmps33
  go_wp2_with fail
  refine hr.out.mono ?_
  rintro e w1 (⟨hf, v, rfl, hS1, hb1⟩ | ⟨hf, rfl, hb1⟩)
  · obtain ⟨a', c', rfl⟩ := hS1.form
    have hz1 := hb1.size
    obtain ⟨hM, hzz, hlen⟩ := hF.out hf
    have hb2 := hb1.alloc hz1 (.cells #[.slice a' xs.length c', (Value.func (.func 68) #[] #[])] 48)
    have hS2 := hS1.alloc (.cells #[.slice a' xs.length c', (Value.func (.func 68) #[] #[])] 48)
    have hm := Lib.hid (hM _ _ hb2 hS2.row)
    have hL := Lib.hid (show ys = ifL (famB n xs) ys by unfold ifL; rw [if_pos hf])
    replace hf := Lib.hid hf.symm
    replace hb2 := Lib.hid hb2
    replace hzz := Lib.hid hzz
    clear hr hS1 hb1 hS2 hM hF
    go_wp2_with fail
    refine hm.out.mono ?_
    rintro e w2 ⟨u, rfl, hS3, hb3, hz3⟩
    obtain ⟨a3, c3, rfl, _⟩ := id hS3
    have hnum := Lib.hid (numbers_at _ _ _ _ hS3 (Nat.le_refl _) (by omega) hzz.out)
    simp at hz3
    replace hb3 := Lib.hid ((hb2.out.mono hB).trans hb3)
    clear hS3
    go_wp2_with fail
    refine hnum.out.mono ?_
    rintro e w3 ⟨t, rfl, hO, hb4⟩
    obtain ⟨ua, uc, rfl, _⟩ := id hO
    replace hb4 := Lib.hid (hb3.out.trans (hb4.mono (by omega)))
    replace hO := Lib.hid (hO.mono (show B ≤ w2.heap.size by omega) (Nat.le_refl _))
    go_wp2_with fail
    go_ret2
    exact ⟨_, ret_vb hf.out, hL.out ▸ hO.out, hb4.out⟩
  · have hz1 := hb1.size
    have hL := Lib.hid (show [] = ifL (famB n xs) ys by unfold ifL; rw [hf]; rfl)
    replace hf := Lib.hid hf.symm
    replace hb1 := Lib.hid (hb1.mono hB)
    clear hr hF
    go_wp2_with fail
    go_ret2
    exact ⟨_, ret_vb hf.out, hL.out ▸ own_empty _ _ _ _ _, (hb1.out.alloc (by omega) _).alloc (by simp; omega) _⟩
theorem mkmap (t : TypeId) (w : World) : (Instr.makeMap t none).run Tryd.prog w = .ok (.map (some w.heap.size)) (w.alloc (.map #[] 0)) := rfl
theorem dn_len {xs : List Int} (h : ∀ x ∈ xs, 0 ≤ x ∧ x < 256) : (sortL (dnL xs)).length ≤ 1000 := by
  have := asc_len256 (asc_sortL (dnL xs)) (fun z hz => dnL_in h z (mem_sortL.1 hz))
  omega
theorem up_len {n : Int} {xs : List Int} (h : ∀ x ∈ xs, setB n x = true) : (sortL (upL n xs)).length ≤ 1000 := by
  have := asc_len256 (asc_sortL (upL n xs)) (fun z hz => upL_in h z (mem_sortL.1 hz))
  omega
theorem below_map (B b nn : Nat) (l : List Int) (n : Int) (xs : List Int) (w : World) (h : MapS w b nn l) (hB : B ≤ b) (htB : 1 < B) (hT : Tab w) (hf : famB n xs = true) :
    FamMapR B 34 #[.map (some b)] #[] xs (sortL (dnL xs)) w := fun W lv hb hx => by
  have hbl := h.lt
  refine (sha_below b nn B W.heap.size l lv xs W (h.below hb (Nat.le_refl _)) hB htB (hT.below hb (by omega)) hx (Nat.le_refl _) (famB_len hf) (famB_lt hf)).mono ?_
  rintro e w' ⟨v, rfl, hS, hg, _⟩
  exact ⟨v, rfl, hS.row, (Below.refl B W).grown hg (by have := hb.size; omega) (fun k e => by cases e; exact hB), hg.size⟩
set_option maxRecDepth 100000 in
set_option maxHeartbeats 1000000 in
theorem im_ShadowOf (n : Int) (lv : Value) (xs : List Int) (S : Nat) (w : World) (hx : Row w S lv xs) (hS : S ≤ w.heap.size) (hl : xs.length ≤ 100000000) (hT : Tab w) :
    Calls Tryd.prog 11 #[.int .i64 n, lv] w (ListPost (ifL (famB n xs) (sortL (dnL xs))) (famB n xs) w) := by
  have htl := hT.lt
  have hm0 := MapS.made w
  have hbw := (Below.refl w.heap.size w).alloc (Nat.le_refl _) (.map #[] 0)
  have hk := Lib.hid (made_any w.heap.size 34 (enters_of Tryd.func34 (by kernel_rfl) rfl) #[.map (some w.heap.size)] #[] n lv xs (sortL (dnL xs)) S (w.alloc (.map #[] 0)) (by simp) (hx.below hbw hS) (by simp; omega) hl
    (fun hf => ⟨below_map w.heap.size w.heap.size 0 [] n xs _ hm0 (Nat.le_refl _) htl (hT.below hbw htl) hf, fun z hz => dnL_in (famB_lt hf) z (mem_sortL.1 hz), dn_len (famB_lt hf)⟩))
  have hmf := mkfunc
  have hmm := mkmap
  replace hbw := Lib.hid hbw
  obtain ⟨la, lc, rfl, _⟩ := id hx
  clear hx hm0
  go_enter Tryd.func11, Tryd.ntmps11
  go_wp2_with fail
  refine hk.out.mono ?_
  rintro e w2 ⟨v, rfl, hO, hb2⟩
  obtain ⟨ua, uc, rfl, _⟩ := id hO
  replace hO := Lib.hid hO
  replace hb2 := Lib.hid (hbw.out.trans hb2)
  go_wp2_with fail
  go_ret2
  exact ⟨_, rfl, hO.out, hb2.out⟩
set_option maxRecDepth 100000 in
set_option maxHeartbeats 1000000 in
theorem up_map (n : Int) (Bn : Nat) (xs : List Int) (w : World) (hB : Bn < w.heap.size) (hc : w.cell? ⟨Bn, 0, none⟩ = some (.int .i64 n)) (hT : Tab w) (hf : famB n xs = true) :
    FamMapR w.heap.size 39 #[] #[.pointer (some ⟨Bn, 0, none⟩)] xs (sortL (upL n xs)) w := fun W lv hb hx => by
  have hBW : Bn < W.heap.size := by have := hb.size; omega
  have hcW : W.cell? ⟨Bn, 0, none⟩ = some (.int .i64 n) := (hb.cell (p := ⟨Bn, 0, none⟩) hB).trans hc
  have htl := hT.lt
  have hzW := hb.size
  obtain ⟨n1, n8, hset⟩ := famB_all hf
  obtain ⟨a, cap, rfl, _⟩ := id hx
  have hbw := ((Below.refl W.heap.size W).alloc (Nat.le_refl _) (.cells #[.slice a xs.length cap, (Value.func (.func 68) #[] #[])] 48)).alloc (by simp) (.cells #[.slice none 0 0, .nilFunc] 48)
  have hbw3 := hbw.alloc (by simp; omega) (.map #[] 0)
  have hm0 := MapS.made ((W.alloc (.cells #[.slice a xs.length cap, (Value.func (.func 68) #[] #[])] 48)).alloc (.cells #[.slice none 0 0, .nilFunc] 48))
  have hk := Lib.hid (sha_above n _ 0 W.heap.size W.heap.size [] (.slice a xs.length cap) xs _ hm0 (by simp; omega) (by omega) ((hT.below hb htl).below hbw3 (by omega)) (hx.below hbw3 (Nat.le_refl _)) (by simp; omega) (famB_len hf) hset n1 n8)
  simp only [World.size_alloc] at hk
  replace hb := Lib.hid hb
  replace hf := Lib.hid hf
  replace hbw3 := Lib.hid hbw3
  clear hx hcW hbw hm0 hset
  have hcW : W.cell? ⟨Bn, 0, none⟩ = some (.int .i64 n) := (hb.out.cell (p := ⟨Bn, 0, none⟩) hB).trans hc
  have hcW3 : (((W.alloc (.cells #[.slice a xs.length cap, (Value.func (.func 68) #[] #[])] 48)).alloc (.cells #[.slice none 0 0, .nilFunc] 48)).alloc (.map #[] 0)).cell? ⟨Bn, 0, none⟩ = some (.int .i64 n) := (hbw3.out.cell (p := ⟨Bn, 0, none⟩) hBW).trans hcW
  have h0 : (((W.alloc (.cells #[.slice a xs.length cap, (Value.func (.func 68) #[] #[])] 48)).alloc (.cells #[.slice none 0 0, .nilFunc] 48)).alloc (.map #[] 0)).heap[W.heap.size]? = some (.cells #[.slice a xs.length cap, (Value.func (.func 68) #[] #[])] 48 (0, 0)) := by
    rw [Below.heap_alloc _ _ _ (by simp; omega), Below.heap_alloc _ _ _ (by simp)]; exact heap_alloc_new W _
  have g0 : (((W.alloc (.cells #[.slice a xs.length cap, (Value.func (.func 68) #[] #[])] 48)).alloc (.cells #[.slice none 0 0, .nilFunc] 48)).alloc (.map #[] 0)).cell? ⟨W.heap.size, 0, none⟩ = some (.slice a xs.length cap) := by rw [cell_of_row _ _ 0 _ 48 (0, 0) h0]; rfl
  have g1 : (((W.alloc (.cells #[.slice a xs.length cap, (Value.func (.func 68) #[] #[])] 48)).alloc (.cells #[.slice none 0 0, .nilFunc] 48)).alloc (.map #[] 0)).cell? ⟨W.heap.size, 1, none⟩ = some (Value.func (.func 68) #[] #[]) := by rw [cell_of_row _ _ 1 _ 48 (0, 0) h0]; rfl
  have hmm := mkmap 58 ((W.alloc (.cells #[.slice a xs.length cap, (Value.func (.func 68) #[] #[])] 48)).alloc (.cells #[.slice none 0 0, .nilFunc] 48))
  simp only [World.size_alloc] at hmm
  have hnew := Lib.hid (show (((W.alloc (.cells #[.slice a xs.length cap, (Value.func (.func 68) #[] #[])] 48)).alloc (.cells #[.slice none 0 0, .nilFunc] 48)).alloc (.map #[] 0)).heap[W.heap.size + 1]? = some (.cells #[.slice none 0 0, .nilFunc] 48 (0, 0)) by
    rw [Below.heap_alloc _ _ _ (by simp)]; exact new_cell1 W _ _ _)
  have hz3 := Lib.hid (show (((W.alloc (.cells #[.slice a xs.length cap, (Value.func (.func 68) #[] #[])] 48)).alloc (.cells #[.slice none 0 0, .nilFunc] 48)).alloc (.map #[] 0)).heap.size = W.heap.size + 1 + 1 + 1 by simp)
  clear h0 hcW
  obtain ⟨W3, hW3⟩ : ∃ W3, (((W.alloc (.cells #[.slice a xs.length cap, (Value.func (.func 68) #[] #[])] 48)).alloc (.cells #[.slice none 0 0, .nilFunc] 48)).alloc (.map #[] 0)) = W3 := ⟨_, rfl⟩
  rw [hW3] at hk hbw3 hnew hcW3 g0 g1 hmm hz3
  clear hW3
  show Calls Tryd.prog 39 #[.agg #[.slice a xs.length cap, (Value.func (.func 68) #[] #[])], .pointer (some ⟨Bn, 0, none⟩)] W _
  go_enter Tryd.func39, Tryd.ntmps39
  go_wp2_with fail
  refine hk.out.mono ?_
  rintro e w2 ⟨v, rfl, hS2, hg2, _⟩
  rw [hz3.out] at hS2
  have hz2 := hg2.size
  rw [hz3.out] at hz2
  obtain ⟨a', c', rfl⟩ := hS2.form
  have hb2 := (Below.refl (W.heap.size + 1 + 1) _).grown hg2 (by have := hz3.out; omega) (fun k e => by cases e; exact Nat.le_refl _)
  obtain ⟨d0, d1, df0, df1⟩ := res_cells hnew.out hb2
  have rr := two_cells (.slice a' (sortL (upL n xs)).length c') (Value.func (.func 68) #[] #[]) d0 d1
  have hff := Lib.hid (fam_fin (hS2.mono (B' := W.heap.size + 1 + 1) (by omega)) (hbw3.out.trans (hb2.mono (by omega))) (by omega))
  clear hS2 hb2 hk hg2
  go_wp2_with fail
  exact bodyPost_ret (v := .agg #[.slice a' (sortL (upL n xs)).length c', (Value.func (.func 68) #[] #[])]) (by simp [results, Tryd.results39, go_sem, rr.1, rr.2]) rfl ⟨_, rfl, hff.out.1.row, hff.out.2.mono hzW, hff.out.2.size⟩
set_option maxRecDepth 100000 in
set_option maxHeartbeats 1000000 in
theorem im_ShadowUp (n : Int) (lv : Value) (xs : List Int) (S : Nat) (w : World) (hx : Row w S lv xs) (hS : S ≤ w.heap.size) (hl : xs.length ≤ 100000000) (hT : Tab w) :
    Calls Tryd.prog 19 #[.int .i64 n, lv] w (ListPost (ifL (famB n xs) (sortL (upL n xs))) (famB n xs) w) := by
  have htl := hT.lt
  have hbw := (Below.refl w.heap.size w).alloc (Nat.le_refl _) (.cells #[.int .i64 n] 3)
  have hk := Lib.hid (made_any (w.heap.size + 1) 39 (enters_of Tryd.func39 (by kernel_rfl) rfl) #[] #[.pointer (some ⟨w.heap.size, 0, none⟩)] n lv xs (sortL (upL n xs)) S (w.alloc (.cells #[.int .i64 n] 3)) (by simp) (hx.below hbw hS) (by simp; omega) hl
    (fun hf => ⟨by
      have := up_map n w.heap.size xs (w.alloc (.cells #[.int .i64 n] 3)) (by simp) (cell_new _ _ _) (hT.below hbw htl) hf
      rw [World.size_alloc] at this; exact this, fun z hz => upL_in (famB_all hf).2.2 z (mem_sortL.1 hz), up_len (famB_all hf).2.2⟩))
  have hmf := mkfunc
  replace hbw := Lib.hid hbw
  obtain ⟨la, lc, rfl, _⟩ := id hx
  clear hx
  go_enter Tryd.func19, Tryd.ntmps19
  go_wp2_with fail
  refine hk.out.mono ?_
  rintro e w2 ⟨v, rfl, hO, hb2⟩
  obtain ⟨ua, uc, rfl, _⟩ := id hO
  replace hO := Lib.hid (hO.mono (show w.heap.size ≤ w.heap.size + 1 by omega) (Nat.le_refl _))
  replace hb2 := Lib.hid (hbw.out.trans (hb2.mono (by omega)))
  go_wp2_with fail
  go_ret2
  exact ⟨_, rfl, hO.out, hb2.out⟩
end Go.Proofs.YtcejbebepjkpnaaDoor
