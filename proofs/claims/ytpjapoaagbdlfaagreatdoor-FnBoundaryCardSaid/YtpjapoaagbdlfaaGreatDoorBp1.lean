/- Boundaries: the program. -/
import Derived.Test.YtpjapoaagbdlfaaGreatDoorAllShm
import Derived.Test.YtpjapoaagbdlfaaGreatDoorBn1
import Derived.Test.YtpjapoaagbdlfaaGreatDoorFams10
import Derived.Test.YtpjapoaagbdlfaaGreatDoorFams11
import Derived.Test.YtpjapoaagbdlfaaGreatDoorFams13
import Derived.Deep.RegionHeld3
namespace Go.Proofs.YtpjapoaagbdlfaaGreatDoor
open Go.ChangeShapes Go.WideShapes Go.ChangeAt Go.RowKit Go.Proofs Go.Shelf Go.Maps

/-- the neighbours of the sets of a family, with a point less or more. -/
def nbL (n : Int) (xs : List Int) : List Int := sortL (sortL (dnL xs) ++ sortL (upL n xs))
/-- the boundary. -/
def bdL (n : Int) (xs : List Int) : List Int := sortL ((nbL n xs).filter (fun x => !memB x xs))
theorem nbL_lt {n : Int} {xs : List Int} (hf : famB n xs = true) : ∀ z ∈ nbL n xs, 0 ≤ z ∧ z < 256 := fun z hz => by
  unfold nbL at hz
  rcases List.mem_append.1 (mem_sortL.1 hz) with h | h
  · exact dnL_in (famB_lt hf) z (mem_sortL.1 h)
  · exact upL_in (famB_all hf).2.2 z (mem_sortL.1 h)
theorem bdL_lt {n : Int} {xs : List Int} (hf : famB n xs = true) : ∀ z ∈ bdL n xs, 0 ≤ z ∧ z < 256 := fun z hz => by
  unfold bdL at hz
  exact nbL_lt hf z (List.mem_filter.1 (mem_sortL.1 hz)).1
set_option maxRecDepth 100000 in
set_option maxHeartbeats 8000000 in
theorem boundary_fam (n : Int) (xs : List Int) (lv : Value) (w : World) (hf : famB n xs = true) (hx : SRow w w.heap.size lv xs) (hT : Tab w) :
    Calls Tryz.prog 43 #[.int .i64 n, .agg #[lv, (Value.func (.func 57) #[] #[])]] w (FamPost w (bdL n xs)) := by
  have htl := hT.lt
  obtain ⟨n1, n8, hset⟩ := famB_all hf
  have hlt := famB_lt hf
  have hlen := famB_len hf
  obtain ⟨a, cap, rfl, _⟩ := id hx
  obtain ⟨W2, hW2⟩ : ∃ W2, (w.alloc (.cells #[.slice a xs.length cap, (Value.func (.func 57) #[] #[])] 44)).alloc (.cells #[.slice none 0 0, .nilFunc] 44) = W2 := ⟨_, rfl⟩
  have hbw := ((Below.refl w.heap.size w).alloc (Nat.le_refl _) (.cells #[.slice a xs.length cap, (Value.func (.func 57) #[] #[])] 44)).alloc (by simp) (.cells #[.slice none 0 0, .nilFunc] 44)
  have hc2 := new_cell1 w #[.slice none 0 0, .nilFunc] 44 (.cells #[.slice a xs.length cap, (Value.func (.func 57) #[] #[])] 44)
  have hc1 := new_cell2 w #[.slice a xs.length cap, (Value.func (.func 57) #[] #[])] 44 (.cells #[.slice none 0 0, .nilFunc] 44)
  have hs2 : W2.heap.size = w.heap.size + 2 := by rw [← hW2]; simp
  rw [hW2] at hbw hc1 hc2
  have hx2 := hx.below hbw (Nat.le_refl _)
  have hT2 := hT.below hbw htl
  -- what each call does, wherever it comes
  have hbl : ∀ W' b, Below W2.heap.size W2 W' → MapS W' b 0 [] → W2.heap.size ≤ b → Calls Tryz.prog 36 #[.map (some b), .agg #[.slice a xs.length cap, (Value.func (.func 57) #[] #[])]] W' fun e w' => ∃ v, e = .returned (.agg #[v, (Value.func (.func 57) #[] #[])]) ∧ SRow w' w'.heap.size v (sortL (dnL xs)) ∧ (∀ b', b' ≠ b → MapS W' b' 0 [] → MapS w' b' 0 []) ∧ Below W2.heap.size W2 w' := fun W' b hb hm hB => by
    refine (sha_below b 0 W2.heap.size w.heap.size [] _ xs W' hm hB (by omega) (hT2.below hb (by omega)) ((hx2.below hb (by omega))) (by have := hb.size; omega) hlen hlt).mono ?_
    rintro e w' ⟨v, rfl, hS, hg, _⟩
    exact ⟨v, rfl, hS.row, fun b' hne hm' => hm'.kept hg (fun e => hne (by injection e)), hb.trans ((Below.refl W2.heap.size W').grown hg hb.size (fun k e => by cases e; exact hB))⟩
  have hab : ∀ W' b, Below W2.heap.size W2 W' → MapS W' b 0 [] → W2.heap.size ≤ b → Calls Tryz.prog 73 #[.map (some b), .int .i64 n, .agg #[.slice a xs.length cap, (Value.func (.func 57) #[] #[])]] W' fun e w' => ∃ v, e = .returned (.agg #[v, (Value.func (.func 57) #[] #[])]) ∧ SRow w' w'.heap.size v (sortL (upL n xs)) ∧ (∀ u zs, SRow W' W'.heap.size u zs → SRow w' w'.heap.size u zs) ∧ (∀ b', b' ≠ b → MapS W' b' 0 [] → MapS w' b' 0 []) ∧ Below W2.heap.size W2 w' := fun W' b hb hm hB => by
    refine (sha_above n b 0 W2.heap.size w.heap.size [] _ xs W' hm hB (by omega) (hT2.below hb (by omega)) ((hx2.below hb (by omega))) (by have := hb.size; omega) hlen hset n1 n8).mono ?_
    rintro e w' ⟨v, rfl, hS, hg, _⟩
    exact ⟨v, rfl, hS.row, fun u zs hu => (hu.grown hg hm (Nat.le_refl _)).mono hg.size, fun b' hne hm' => hm'.kept hg (fun e => hne (by injection e)), hb.trans ((Below.refl W2.heap.size W').grown hg hb.size (fun k e => by cases e; exact hB))⟩
  have hun : ∀ W' u v, Below W2.heap.size W2 W' → SRow W' W'.heap.size u (sortL (dnL xs)) → SRow W' W'.heap.size v (sortL (upL n xs)) → Calls Tryz.prog 29 #[.agg #[u, (Value.func (.func 57) #[] #[])], .agg #[v, (Value.func (.func 57) #[] #[])]] W' fun e w' => ∃ t, e = .returned (.agg #[t, (Value.func (.func 57) #[] #[])]) ∧ SRow w' w'.heap.size t (nbL n xs) ∧ Below W2.heap.size W2 w' := fun W' u v hb h1 h2 => by
    refine (union_fam _ _ W' ⟨asc_sortL _, asc_sortL _, fun z hz => dnL_in hlt z (mem_sortL.1 hz), fun z hz => upL_in hset z (mem_sortL.1 hz)⟩ W' u v (Below.refl _ _) h1 h2).mono ?_
    rintro e w' ⟨t, rfl, hS, hb2⟩
    exact ⟨t, rfl, hS.row, hb.trans (hb2.mono hb.size)⟩
  have hle : ∀ W' t, Below W2.heap.size W2 W' → SRow W' W'.heap.size t (nbL n xs) → Calls Tryz.prog 74 #[.agg #[t, (Value.func (.func 57) #[] #[])], .agg #[.slice a xs.length cap, (Value.func (.func 57) #[] #[])]] W' fun e w' => ∃ r, e = .returned (.agg #[r, (Value.func (.func 57) #[] #[])]) ∧ SetL w' W2.heap.size r (bdL n xs) ∧ Below W2.heap.size W2 w' := fun W' t hb h1 => by
    refine (less_fam _ xs W' ⟨asc_sortL _, famB_asc hf, nbL_lt hf, hlt⟩ W' t _ (Below.refl _ _) h1 ((hx2.below hb (by omega)).mono (by have := hb.size; omega))).mono ?_
    rintro e w' ⟨r, rfl, hS, hb2⟩
    exact ⟨r, rfl, hS.mono hb.size, hb.trans (hb2.mono hb.size)⟩
  have hres : ∀ W', Below W2.heap.size W2 W' → W'.cell? ⟨w.heap.size + 1, 0, none⟩ = some (.slice none 0 0) ∧ W'.cell? ⟨w.heap.size + 1, 1, none⟩ = some .nilFunc ∧ W'.frozen? ⟨w.heap.size + 1, 0, none⟩ = false ∧ W'.frozen? ⟨w.heap.size + 1, 1, none⟩ = false := fun W' hb => res_cells hc2 (hb.mono (by omega))
  have hSB : ∀ W', Below W2.heap.size W2 W' → W'.cell? ⟨w.heap.size, 0, none⟩ = some (.slice a xs.length cap) ∧ W'.cell? ⟨w.heap.size, 1, none⟩ = some (Value.func (.func 57) #[] #[]) := fun W' hb => by
    obtain ⟨l0, l1⟩ := pair_cells hc1 hb (by omega)
    exact ⟨l0, l1⟩
  have hKa : ∀ (W' : World) (o : Obj), (W'.cell? ⟨w.heap.size, 0, none⟩ = some (.slice a xs.length cap) ∧ W'.cell? ⟨w.heap.size, 1, none⟩ = some (Value.func (.func 57) #[] #[])) → (W'.alloc o).cell? ⟨w.heap.size, 0, none⟩ = some (.slice a xs.length cap) ∧ (W'.alloc o).cell? ⟨w.heap.size, 1, none⟩ = some (Value.func (.func 57) #[] #[]) := fun W' o h => by
    have hl := cell_lt h.1
    exact ⟨by rw [World.cell?_alloc_past _ _ _ hl]; exact h.1, by rw [World.cell?_alloc_past _ _ _ hl]; exact h.2⟩
  have hKs : ∀ (W' : World) (i : Nat) (u : Value), (W'.cell? ⟨w.heap.size, 0, none⟩ = some (.slice a xs.length cap) ∧ W'.cell? ⟨w.heap.size, 1, none⟩ = some (Value.func (.func 57) #[] #[])) → (W'.setCell ⟨w.heap.size + 1, i, none⟩ u).cell? ⟨w.heap.size, 0, none⟩ = some (.slice a xs.length cap) ∧ (W'.setCell ⟨w.heap.size + 1, i, none⟩ u).cell? ⟨w.heap.size, 1, none⟩ = some (Value.func (.func 57) #[] #[]) := fun W' i u h =>
    ⟨by rw [World.cell?_setCell_other _ _ _ _ (by intro e; injection e with e; omega)]; exact h.1, by rw [World.cell?_setCell_other _ _ _ _ (by intro e; injection e with e; omega)]; exact h.2⟩
  have hB1 : Below W2.heap.size W2 (W2.alloc (.map #[] 0)).drew := ((Below.refl W2.heap.size W2).alloc (Nat.le_refl _) _).drew
  have hB2 : Below W2.heap.size W2 ((W2.alloc (.map #[] 0)).alloc (.map #[] 0)).drew := (((Below.refl W2.heap.size W2).alloc (Nat.le_refl _) _).alloc (by simp) _).drew
  have m1 : MapS (W2.alloc (.map #[] 0)).drew W2.heap.size 0 [] := MapS.made W2
  have m2 : MapS ((W2.alloc (.map #[] 0)).alloc (.map #[] 0)).drew W2.heap.size 0 [] := (MapS.made W2).alloc _
  have m3 : MapS ((W2.alloc (.map #[] 0)).alloc (.map #[] 0)).drew (W2.heap.size + 1) 0 [] := by
    have h := MapS.made (W2.alloc (.map #[] 0))
    rw [World.size_alloc] at h
    exact h
  have m4 : ∀ W : World, MapS (W.alloc (.map #[] 0)) W.heap.size 0 [] := fun W => MapS.made W
  have hne1 : W2.heap.size ≠ W2.heap.size + 1 := by omega
  have hne2 : W2.heap.size + 1 ≠ W2.heap.size := by omega
  have hb0 : W2.heap.size ≤ W2.heap.size := Nat.le_refl _
  have hb1 : W2.heap.size ≤ W2.heap.size + 1 := by omega
  have hmm := mkmap
  obtain ⟨ys, hys⟩ : ∃ ys, bdL n xs = ys := ⟨_, rfl⟩
  obtain ⟨ds, hds⟩ : ∃ ds, sortL (dnL xs) = ds := ⟨_, rfl⟩
  obtain ⟨us, hus⟩ : ∃ us, sortL (upL n xs) = us := ⟨_, rfl⟩
  obtain ⟨ns, hns⟩ : ∃ ns, nbL n xs = ns := ⟨_, rfl⟩
  rw [hys] at hle ⊢
  rw [hds] at hbl hun
  rw [hus] at hab hun
  rw [hns] at hun hle
  replace hys := Lib.hid hys
  replace hds := Lib.hid hds
  replace hus := Lib.hid hus
  replace hns := Lib.hid hns
  replace hbl := Lib.hid hbl
  replace hab := Lib.hid hab
  replace hun := Lib.hid hun
  replace hle := Lib.hid hle
  replace hres := Lib.hid hres
  replace hSB := Lib.hid hSB
  replace hKa := Lib.hid hKa
  replace hKs := Lib.hid hKs
  replace hB1 := Lib.hid hB1
  replace hB2 := Lib.hid hB2
  replace m1 := Lib.hid m1
  replace m2 := Lib.hid m2
  replace m3 := Lib.hid m3
  replace m4 := Lib.hid m4
  replace hs2 := Lib.hid hs2
  replace hW2 := Lib.hid hW2
  replace hbw := Lib.hid hbw
  replace hf := Lib.hid hf
  replace hset := Lib.hid hset
  replace hlt := Lib.hid hlt
  have hmx : Tryz.prog.follows .mixedOrders = true := by kernel_rfl
  clear hx hc1 hc2 hx2 hT2 hT
  go_enter Tryz.func43, Tryz.ntmps43
  go_wp2_with fail
  rw [hW2.out]
  go_region_held3 (fun w' => w'.cell? ⟨w.heap.size, 0, none⟩ = some (.slice a xs.length cap) ∧ w'.cell? ⟨w.heap.size, 1, none⟩ = some (Value.func (.func 57) #[] #[]))
    (first
      | exact hSB.out _ (Below.refl _ _).drew
      | exact hSB.out _ (by assumption)
      | exact hKs.out _ _ _ (hKs.out _ _ _ (by assumption))
      | exact hKs.out _ _ _ (by assumption)
      | exact hKa.out _ _ (by assumption))
    (first
      | (go_at_call 36; refine (hbl.out _ _ (by first | exact hB1.out | exact hB2.out) (by first | exact m1.out | exact m2.out | exact m3.out) (by first | exact hb0 | exact hb1)).mono ?_; rintro e w3 ⟨v3, rfl, hx3, hk3, hb3⟩; obtain ⟨a3, c3, rfl, _⟩ := id hx3)
      | (go_at_call 73; refine (hab.out _ _ (by first | exact hb3 | exact hb3.alloc hb3.size _) (by first | exact m4.out _ | exact hk3 _ hne1 m2.out | exact hk3 _ hne2 m3.out) (by first | exact hb0 | exact hb1 | exact hb3.size)).mono ?_; rintro e w4 ⟨v4, rfl, hx4, hk4, _, hb4⟩; obtain ⟨a4, c4, rfl, _⟩ := id hx4; first | have hx5 := hk4 _ _ hx3 | have hx5 := hk4 _ _ ((hx3.below ((Below.refl _ _).alloc (Nat.le_refl _) _) (Nat.le_refl _)).mono (by simp)))
      | (go_at_call 29; refine (hun.out _ _ _ hb4 hx5 hx4).mono ?_; rintro e w6 ⟨v6, rfl, hx6, hb6⟩; obtain ⟨a6, c6, rfl, _⟩ := id hx6)
      | (go_at_call 74; refine (hle.out _ _ hb6 hx6).mono ?_; rintro e w7 ⟨v7, rfl, hx7, hb7⟩; obtain ⟨a7, c7, rfl⟩ := hx7.form; obtain ⟨d0, d1, df0, df1⟩ := hres.out _ hb7))
  all_goals
    have rr := two_cells (.slice a7 ys.length c7) (Value.func (.func 57) #[] #[]) d0 d1
    have hff := Lib.hid (fam_fin (w := w) (h := w.heap.size + 1) (hx7.mono (by have := hs2.out; omega)) (hbw.out.trans (hb7.mono (by have := hs2.out; omega))) (by omega))
    go_wp2_with fail
    exact bodyPost_ret (v := .agg #[.slice a7 ys.length c7, (Value.func (.func 57) #[] #[])]) (by simp [results, Tryz.results43, go_sem, rr.1, rr.2]) rfl ⟨_, rfl, hff.out⟩
end Go.Proofs.YtpjapoaagbdlfaaGreatDoor
