/- Texts merged: XFk3 XFk4. -/
import Derived.Test.YtjhjmbiecihjhaaDoorAllKf
import Derived.Test.YtjhjmbiecihjhaaDoorPf1
import Derived.Test.YtjhjmbiecihjhaaDoorSameL
import Derived.Test.YtjhjmbiecihjhaaDoorCs1
import Derived.Test.YtjhjmbiecihjhaaDoorAllD
import Derived.Test.YtjhjmbiecihjhaaDoorFams13
namespace Go.Proofs.YtjhjmbiecihjhaaDoor
section
/- FnKernelSame: mathematics and the draw. -/
open Go.ChangeShapes Go.WideShapes Go.ChangeAt Go.RowKit Go.Proofs

/-- the sets that are their own kernels. -/
def selfL (n : Int) (xs : List Int) : List Int := (upI (2 ^ n.toNat)).filter fun z => kerI n xs z == z
theorem self_mem {n : Int} {xs : List Int} (n1 : 1 ≤ n) (n2 : n ≤ 8) {z : Int} : z ∈ selfL n xs ↔ setB n z = true ∧ kerI n xs z = z := by
  have hM : ((2 ^ n.toNat : Nat) : Int) = 2 ^ n.toNat := by simp
  unfold selfL
  rw [List.mem_filter, mem_upI]
  constructor
  · rintro ⟨⟨h1, h2⟩, h3⟩
    exact ⟨setB_mk ⟨n1, n2, h1, by omega⟩, by simpa using h3⟩
  · rintro ⟨h1, h2⟩
    obtain ⟨_, _, h3, h4⟩ := setB_yes h1
    exact ⟨⟨h3, by omega⟩, by simpa using h2⟩
theorem self_top {n : Int} {xs : List Int} (hf : famB n xs = true) : kerI n xs (2 ^ n.toNat - 1) = 2 ^ n.toNat - 1 := by
  obtain ⟨n1, n2, _⟩ := famB_all hf
  have ht : setB n (2 ^ n.toNat - 1) = true := setB_mk ⟨n1, n2, (all_pow n1 n2).1, by omega⟩
  refine eq_bits (ker_le2 hf _).1 (all_pow n1 n2).1 (fun i => ?_)
  cases e : ((2 : Int) ^ n.toNat - 1).toNat.testBit i with
  | true => exact ker_above ht e
  | false =>
    rw [ker_bits]
    rw [all_bits] at e
    rw [e, Bool.false_and]
theorem self_and {n : Int} {xs : List Int} (hf : famB n xs = true) {a b : Int} (ha : setB n a = true) (hb : setB n b = true) (h1 : kerI n xs a = a) (h2 : kerI n xs b = b) : kerI n xs (andI a b) = andI a b := by
  have hab : setB n (andI a b) = true := semi_and.keep n a b ha hb
  refine eq_bits (ker_le2 hf _).1 (setB_lt hab).1 (fun i => ?_)
  cases e : (andI a b).toNat.testBit i with
  | true => exact ker_above hab e
  | false =>
    refine Bool.eq_false_iff.2 (fun h => ?_)
    rw [ker_bits, Bool.and_eq_true, List.all_eq_true] at h
    have up : ∀ c : Int, setB n c = true → (∀ j, (andI a b).toNat.testBit j = true → c.toNat.testBit j = true) → kerI n xs c = c → c.toNat.testBit i = true := fun c hc hle hk => by
      rw [← hk, ker_bits, h.1, Bool.true_and, List.all_eq_true]
      intro x hx
      cases p : partB c x with
      | false => rfl
      | true =>
        have h3 := h.2 x hx
        rw [(part_bits (setB_lt hab).1).2 (fun j hj => (part_bits (setB_lt hc).1).1 p j (hle j hj))] at h3
        simpa using h3
    have sub : ∀ j, (andI a b).toNat.testBit j = true → a.toNat.testBit j = true ∧ b.toNat.testBit j = true := fun j hj => by
      unfold andI at hj
      rw [Int.toNat_natCast, Nat.testBit_and, Bool.and_eq_true] at hj
      exact hj
    have e1 := up a ha (fun j hj => (sub j hj).1) h1
    have e2 := up b hb (fun j hj => (sub j hj).2) h2
    unfold andI at e
    rw [Int.toNat_natCast, Nat.testBit_and, e1, e2] at e
    cases e
theorem self_clo {n : Int} {xs : List Int} (hf : famB n xs = true) : selfL n xs = ucL andI (sortL (xs ++ [2 ^ n.toNat - 1])) := by
  obtain ⟨n1, n2, hset⟩ := famB_all hf
  have ht : setB n (2 ^ n.toNat - 1) = true := setB_mk ⟨n1, n2, (all_pow n1 n2).1, by omega⟩
  have hin : ∀ z ∈ sortL (xs ++ [2 ^ n.toNat - 1]), setB n z = true ∧ kerI n xs z = z := fun z hz => by
    rw [mem_sortL, List.mem_append] at hz
    rcases hz with hz | hz
    · exact ⟨hset z hz, ker_self hf hz⟩
    · obtain rfl : z = 2 ^ n.toNat - 1 := by simpa using hz
      exact ⟨ht, self_top hf⟩
  have h0 : ∀ z ∈ sortL (xs ++ [2 ^ n.toNat - 1]), 0 ≤ z := fun z hz => (setB_lt (hin z hz).1).1
  refine ucL_eq ?_ (fun z hz => (self_mem n1 n2).2 (hin z hz)) (fun a ha b hb => ?_) (fun z hz => ?_)
  · exact List.Pairwise.filter _ (asc_upI _)
  · obtain ⟨a1, a2⟩ := (self_mem n1 n2).1 ha
    obtain ⟨b1, b2⟩ := hin b hb
    exact (self_mem n1 n2).2 ⟨semi_and.keep n a b a1 b1, self_and hf a1 b1 a2 b2⟩
  · obtain ⟨_, z2⟩ := (self_mem n1 n2).1 hz
    have hcl := ucL_closed semi_and h0
    have hhas := ucL_has semi_and h0
    have key : ∀ (l : List Int) (a : Int), (∀ x ∈ l, x ∈ xs) → a ∈ ucL andI (sortL (xs ++ [2 ^ n.toNat - 1])) → l.foldl (fun a x => if partB z x then andI a x else a) a ∈ ucL andI (sortL (xs ++ [2 ^ n.toNat - 1])) := by
      intro l
      induction l with
      | nil => intro a _ h; exact h
      | cons x l ih =>
        intro a hl h
        rw [List.foldl_cons]
        refine ih _ (fun y hy => hl y (by simp [hy])) ?_
        by_cases e : partB z x
        · rw [if_pos e]
          exact hcl a h x (hhas x (mem_sortL.2 (List.mem_append_left _ (hl x (by simp)))))
        · rw [if_neg e]; exact h
    rw [← z2]
    exact key xs _ (fun _ h => h) (hhas _ (mem_sortL.2 (List.mem_append_right _ (by simp))))
theorem self_same {n : Int} {xs zs : List Int} (h : kersB n xs zs = true) : selfL n xs = selfL n zs := by
  unfold selfL
  refine List.filter_congr (fun z hz => ?_)
  obtain ⟨h1, h2⟩ := mem_upI.1 hz
  unfold kersB at h
  rw [List.all_eq_true] at h
  have h3 := h z.toNat (List.mem_range.2 (by omega))
  rw [Int.toNat_of_nonneg h1] at h3
  rw [eq_of_beq h3]
theorem clo_same {n : Int} {xs zs : List Int} (hf : famB n xs = true) (hg : famB n zs = true) (h : kersB n xs zs = true) : ucL andI (sortL (xs ++ [2 ^ n.toNat - 1])) = ucL andI (sortL (zs ++ [2 ^ n.toNat - 1])) := by
  rw [← self_clo hf, ← self_clo hg, self_same h]
theorem kers_swap (n : Int) (xs zs : List Int) : kersB n zs xs = kersB n xs zs := by
  unfold kersB
  congr 1
  funext j
  rw [Bool.eq_iff_iff, beq_iff_eq, beq_iff_eq]
  exact ⟨fun h => h.symm, fun h => h.symm⟩
theorem top_fam1 {n : Int} (n1 : 1 ≤ n) (n2 : n ≤ 8) : famB n [2 ^ n.toNat - 1] = true := by
  have h := fam_mk (L := [2 ^ n.toNat - 1]) n1 n2 (fun z hz => by
    obtain rfl : z = 2 ^ n.toNat - 1 := by simpa using hz
    exact setB_mk ⟨n1, n2, (all_pow n1 n2).1, by omega⟩)
  have e : sortL [(2 : Int) ^ n.toNat - 1] = [2 ^ n.toNat - 1] := rfl
  rw [e] at h
  exact h

end
section
/- FnKernelSame: the draw and the law. -/
open Go.ChangeShapes Go.WideShapes Go.ChangeAt Go.RowKit Go.Proofs

set_option maxRecDepth 100000 in
set_option maxHeartbeats 4000000 in
theorem draw_KernelSame (v : Value) (a : Option Addr) (len cap : Nat) (w : World) (hv : v = .slice a len cap) (hc : len ≤ cap) (hcap : cap ≤ 9223372036854775807) (hB : Bytes w w.heap.size a len) :
    Calls Tryd.prog 22 #[v] w (TwoDraw w) := by
  have h0 := Lib.hid (draw_two v a len cap w hv hc hcap hB)
  subst hv
  clear hB
  go_enter Tryd.func22, Tryd.ntmps22
  go_wp2_with fail
  refine (h0.out).mono ?_
  rintro e w1 ⟨n, u, xs, t, ys, rfl, hl, hl2, hO, hO2, hb⟩
  obtain ⟨ua, uc, rfl, _⟩ := id hO
  obtain ⟨ta, tc, rfl, _⟩ := id hO2
  have z1 := hb.size
  have hm0 : (0 : Int) ≤ (len : Nat) := by omega
  have c1 := sp_MeetOf n _ xs w1.heap.size w1 hO.row (Nat.le_refl _) (by omega)
  have s1 : (ifL (famB n xs) (ucL andI xs)).length ≤ 300 := by
    cases hf : famB n xs with
    | false => simp [ifL]
    | true =>
      have := ucL_len semi_and (famB_all hf).2.2
      simp only [ifL, if_true]
      omega
  obtain ⟨L1, e1⟩ : ∃ L, ifL (famB n xs) (ucL andI xs) = L := ⟨_, rfl⟩
  rw [e1] at s1 c1
  obtain ⟨b1, d1⟩ : ∃ b, famB n xs = b := ⟨_, rfl⟩
  rw [d1] at c1
  have OX1 := Lib.hid hO
  have OY1 := Lib.hid hO2
  have hb1 := Lib.hid hb
  replace c1 := Lib.hid c1
  replace e1 := Lib.hid e1
  replace d1 := Lib.hid d1
  clear hO hO2 hb
  go_wp2_with fail
  refine c1.out.mono ?_
  rintro e w2 ⟨v2, rfl, hN, hbn⟩
  obtain ⟨p2, q2, rfl, _⟩ := id hN
  have zn := hbn.size
  have OX2 := Lib.hid ((OX1.out.below hbn (Nat.le_refl _)).mono (Nat.le_refl _) zn)
  have OY2 := Lib.hid ((OY1.out.below hbn (Nat.le_refl _)).mono (Nat.le_refl _) zn)
  have OA2 := Lib.hid (hN.mono (show w.heap.size ≤ w1.heap.size by omega) (Nat.le_refl _))
  have hb2 := Lib.hid (hb1.out.trans (hbn.mono hb1.out.size))
  clear hN hbn zn
  rcases (by omega : (len : Int) % 2 = 0 ∨ (len : Int) % 2 = 1) with hm | hm <;> cases b1
  · go_wp2_with fail
    go_ret3
    exact ⟨_, _, xs, _, ys, rfl, hl, hl2, OX2.out, OY2.out, hb2.out⟩
  · go_wp2_with fail
    go_ret3
    exact ⟨_, _, xs, _, L1, rfl, hl, s1, OX2.out, OA2.out, hb2.out⟩
  · go_wp2_with fail
    go_ret3
    exact ⟨_, _, xs, _, ys, rfl, hl, hl2, OX2.out, OY2.out, hb2.out⟩
  · go_wp2_with fail
    go_ret3
    exact ⟨_, _, xs, _, ys, rfl, hl, hl2, OX2.out, OY2.out, hb2.out⟩
theorem row_lit1 (w : World) (x : Int) : Row (w.alloc (.cells #[.int .i64 x] 3)) (w.alloc (.cells #[.int .i64 x] 3)).heap.size (.slice (some ⟨w.heap.size, 0, none⟩) 1 1) [x] :=
  ⟨_, _, rfl, fun _ => ⟨_, _, rfl, by simp, fun i hi => by
    have h0 : i = 0 := by simp at hi; omega
    subst h0
    exact new_cell_int w x⟩⟩
set_option maxRecDepth 100000 in
set_option maxHeartbeats 4000000 in
theorem law_FnKernelSame (v : Value) (a : Option Addr) (len cap : Nat) (w : World) (hv : v = .slice a len cap) (hc : len ≤ cap) (hcap : cap ≤ 9223372036854775807) (hB : Bytes w w.heap.size a len) (hT : Tab w) :
    Calls Tryd.prog 8 #[v] w fun e w' => e = .returned (.bool true) ∧ Below w.heap.size w w' := by
  have h0 := Lib.hid (draw_KernelSame v a len cap w hv hc hcap hB)
  subst hv
  clear hB
  by_cases hbig : 1048576 < len
  · go_enter Tryd.func8, Tryd.ntmps8
    go_wp2_with fail
    go_ret
    exact ⟨rfl, Below.refl _ _⟩
  · go_enter Tryd.func8, Tryd.ntmps8
    go_wp2_with fail
    refine (h0.out).mono ?_
    rintro e w1 ⟨n, u, xs, t, ys, rfl, hl, hl2, hO, hO2, hb⟩
    obtain ⟨ua, uc, rfl, _⟩ := id hO
    obtain ⟨ta, tc, rfl, _⟩ := id hO2
    have z1 := hb.size
    have hb1 := Lib.hid hb
    have hi := fun (W : World) (h1 : Row W W.heap.size (.slice ua xs.length uc) xs) (h2 : Row W W.heap.size (.slice ta ys.length tc) ys) (h3 : Tab W) => im_KernelSame n _ _ xs ys W.heap.size W h1 h2 (Nat.le_refl _) (by omega) (by omega) h3
    have hs := fun (W : World) (h1 : Row W W.heap.size (.slice ua xs.length uc) xs) (h2 : Row W W.heap.size (.slice ta ys.length tc) ys) => sp_KernelSame n _ _ xs ys W.heap.size W h1 h2 (Nat.le_refl _) (by omega) (by omega)
    have hr := fun (W : World) (h1 : Row W W.heap.size (.slice ua xs.length uc) xs) (h2 : Row W W.heap.size (.slice ta ys.length tc) ys) (h3 : Tab W) => im_KernelSame n _ _ ys xs W.heap.size W h2 h1 (Nat.le_refl _) (by omega) (by omega) h3
    have RX1 := Lib.hid hO.row
    have RY1 := Lib.hid hO2.row
    have hTT := Lib.hid (fun W (h : Below w.heap.size w W) => hT.below h hT.lt)
    clear hb hO hO2
    rcases (by cases ksaB n xs ys <;> simp : ksaB n xs ys = true ∨ ksaB n xs ys = false) with hF | hF
    · obtain ⟨⟨hf, hg⟩, hk⟩ : (famB n xs = true ∧ famB n ys = true) ∧ kersB n xs ys = true := by simpa [ksaB] using hF
      have hF2 : ksaB n ys xs = true := by unfold ksaB; rw [hf, hg, kers_swap n xs ys, hk]; rfl
      obtain ⟨n1, n2, _⟩ := famB_all hf
      have hcs := clo_same hf hg hk
      have ht := top_fam1 n1 n2
      have hfa : famB n (sortL (xs ++ [2 ^ n.toNat - 1])) = true := fam_union hf ht
      have hfb : famB n (sortL (ys ++ [2 ^ n.toNat - 1])) = true := fam_union hg ht
      have hla := famB_len hfa
      have hlb := famB_len hfb
      have hul : (ucL andI (sortL (ys ++ [2 ^ n.toNat - 1]))).length ≤ 256 := ucL_len semi_and (famB_all hfb).2.2
      have hua := fun (u1 : Value) (W : World) (h1 : Row W W.heap.size (.slice ua xs.length uc) xs) (h2 : Row W W.heap.size u1 [2 ^ n.toNat - 1]) => im_FamilyUnion n _ _ xs [2 ^ n.toNat - 1] W.heap.size W h1 h2 (Nat.le_refl _) (by omega) (by simp)
      have hub := fun (u1 : Value) (W : World) (h1 : Row W W.heap.size (.slice ta ys.length tc) ys) (h2 : Row W W.heap.size u1 [2 ^ n.toNat - 1]) => im_FamilyUnion n _ _ ys [2 ^ n.toNat - 1] W.heap.size W h1 h2 (Nat.le_refl _) (by omega) (by simp)
      have hma := fun (u1 : Value) (W : World) (h1 : Row W W.heap.size u1 (sortL (xs ++ [2 ^ n.toNat - 1]))) => im_MeetOf n u1 _ W.heap.size W h1 (Nat.le_refl _) (by omega)
      have hmb := fun (u1 : Value) (W : World) (h1 : Row W W.heap.size u1 (sortL (ys ++ [2 ^ n.toNat - 1]))) => im_MeetOf n u1 _ W.heap.size W h1 (Nat.le_refl _) (by omega)
      simp only [hfa, hfb, hcs, ifL, if_true] at hma hmb
      simp only [hf, hg, ht, ifL, Bool.true_and, if_true] at hua hub
      simp only [hF] at hi hs
      simp only [hF2] at hr
      obtain ⟨M, hM⟩ : ∃ M, ucL andI (sortL (ys ++ [2 ^ n.toNat - 1])) = M := ⟨_, rfl⟩
      obtain ⟨A, hA⟩ : ∃ A, sortL (xs ++ [2 ^ n.toNat - 1]) = A := ⟨_, rfl⟩
      obtain ⟨B, hB⟩ : ∃ B, sortL (ys ++ [2 ^ n.toNat - 1]) = B := ⟨_, rfl⟩
      rw [hM] at hul
      simp only [hM] at hma hmb
      simp only [hA] at hua hma
      simp only [hB] at hub hmb
      have hsm := same_self M
      have hn0 : (0 : Int) ≤ n := by omega
      have hn64 : n < 64 := by omega
      obtain ⟨p1, p2⟩ := all_pow n1 n2
      replace hi := Lib.hid hi
      replace hs := Lib.hid hs
      replace hr := Lib.hid hr
      replace hua := Lib.hid hua
      replace hub := Lib.hid hub
      replace hma := Lib.hid hma
      replace hmb := Lib.hid hmb
      replace hM := Lib.hid hM
      replace hA := Lib.hid hA
      replace hB := Lib.hid hB
      replace hf := Lib.hid hf
      replace hg := Lib.hid hg
      replace hk := Lib.hid hk
      replace ht := Lib.hid ht
      replace hsm := Lib.hid hsm
      clear hF hF2 hcs hfa hfb hT
      go_wp2_with fail
      refine (hi.out w1 RX1.out RY1.out (hTT.out _ hb1.out)).mono ?_
      rintro e w2 ⟨rfl, hbn⟩
      have zn := hbn.size
      have RX2 := Lib.hid ((RX1.out.below hbn (Nat.le_refl _)).mono zn)
      have RY2 := Lib.hid ((RY1.out.below hbn (Nat.le_refl _)).mono zn)
      have hb2 := Lib.hid (hb1.out.trans (hbn.mono hb1.out.size))
      clear hbn zn
      go_wp2_with fail
      refine (hs.out w2 RX2.out RY2.out).mono ?_
      rintro e w3 ⟨rfl, hbn⟩
      have zn := hbn.size
      have RX3 := Lib.hid ((RX2.out.below hbn (Nat.le_refl _)).mono zn)
      have RY3 := Lib.hid ((RY2.out.below hbn (Nat.le_refl _)).mono zn)
      have hb3 := Lib.hid (hb2.out.trans (hbn.mono hb2.out.size))
      clear hbn zn
      go_wp2_with fail
      have hal : Below w3.heap.size w3 (w3.alloc (.cells #[.int .i64 (2 ^ n.toNat - 1)] 3)) := (Below.refl _ _).alloc (Nat.le_refl _) _
      have RT4 := row_lit1 w3 (2 ^ n.toNat - 1)
      have RX4 := (RX3.out.below hal (Nat.le_refl _)).mono hal.size
      have RY4 := (RY3.out.below hal (Nat.le_refl _)).mono hal.size
      have hb4 := hb3.out.trans (hal.mono hb3.out.size)
      obtain ⟨w4, hw4⟩ : ∃ w4, w3.alloc (.cells #[.int .i64 (2 ^ n.toNat - 1)] 3) = w4 := ⟨_, rfl⟩
      rw [hw4] at RT4 RX4 RY4 hb4 ⊢
      replace RT4 := Lib.hid RT4
      replace RX4 := Lib.hid RX4
      replace RY4 := Lib.hid RY4
      replace hb4 := Lib.hid hb4
      replace hw4 := Lib.hid hw4
      clear hal
      refine (hua.out _ w4 RX4.out RT4.out).mono ?_
      rintro e w5 ⟨v5, rfl, hO5, hbn⟩
      obtain ⟨a5, c5, rfl, _⟩ := id hO5
      have zn := hbn.size
      have RA5 := Lib.hid hO5.row
      have RX5 := Lib.hid ((RX4.out.below hbn (Nat.le_refl _)).mono zn)
      have RY5 := Lib.hid ((RY4.out.below hbn (Nat.le_refl _)).mono zn)
      have RT5 := Lib.hid ((RT4.out.below hbn (Nat.le_refl _)).mono zn)
      have hb5 := Lib.hid (hb4.out.trans (hbn.mono hb4.out.size))
      clear hbn zn hO5
      go_wp2_with fail
      refine (hub.out _ w5 RY5.out RT5.out).mono ?_
      rintro e w6 ⟨v6, rfl, hO6, hbn⟩
      obtain ⟨a6, c6, rfl, _⟩ := id hO6
      have zn := hbn.size
      have RB6 := Lib.hid hO6.row
      have RX6 := Lib.hid ((RX5.out.below hbn (Nat.le_refl _)).mono zn)
      have RY6 := Lib.hid ((RY5.out.below hbn (Nat.le_refl _)).mono zn)
      have RA6 := Lib.hid ((RA5.out.below hbn (Nat.le_refl _)).mono zn)
      have hb6 := Lib.hid (hb5.out.trans (hbn.mono hb5.out.size))
      clear hbn zn hO6
      go_wp2_with fail
      refine (hma.out _ w6 RA6.out).mono ?_
      rintro e w7 ⟨v7, rfl, hO7, hbn⟩
      obtain ⟨a7, c7, rfl, _⟩ := id hO7
      have zn := hbn.size
      have RM7 := Lib.hid hO7.row
      have RX7 := Lib.hid ((RX6.out.below hbn (Nat.le_refl _)).mono zn)
      have RY7 := Lib.hid ((RY6.out.below hbn (Nat.le_refl _)).mono zn)
      have RB7 := Lib.hid ((RB6.out.below hbn (Nat.le_refl _)).mono zn)
      have hb7 := Lib.hid (hb6.out.trans (hbn.mono hb6.out.size))
      clear hbn zn hO7
      go_wp2_with fail
      refine (hmb.out _ w7 RB7.out).mono ?_
      rintro e w8 ⟨v8, rfl, hO8, hbn⟩
      obtain ⟨a8, c8, rfl, _⟩ := id hO8
      have zn := hbn.size
      have RN8 := Lib.hid hO8.row
      have RX8 := Lib.hid ((RX7.out.below hbn (Nat.le_refl _)).mono zn)
      have RY8 := Lib.hid ((RY7.out.below hbn (Nat.le_refl _)).mono zn)
      have RM8 := Lib.hid ((RM7.out.below hbn (Nat.le_refl _)).mono zn)
      have hb8 := Lib.hid (hb7.out.trans (hbn.mono hb7.out.size))
      clear hbn zn hO8
      go_wp2_with fail
      refine (same_l _ _ M M w8.heap.size w8 RM8.out RN8.out (by omega) (by omega)).mono ?_
      rintro e w' ⟨rfl, q, rfl⟩
      rw [hsm.out]
      go_wp2_with fail
      refine (hr.out (w8.drewN q) (RX8.out.drewN q) (RY8.out.drewN q) (hTT.out _ (below_drewN hb8.out q))).mono ?_
      rintro e w9 ⟨rfl, hbn⟩
      have hb9 := Lib.hid ((below_drewN hb8.out q).trans (hbn.mono hb8.out.size))
      clear hbn
      go_wp2_with fail
      go_ret
      exact ⟨rfl, hb9.out⟩
    · simp only [hF] at hi hs
      replace hi := Lib.hid hi
      replace hs := Lib.hid hs
      replace hF := Lib.hid hF
      clear hr hT
      go_wp2_with fail
      refine (hi.out w1 RX1.out RY1.out (hTT.out _ hb1.out)).mono ?_
      rintro e w2 ⟨rfl, hbn⟩
      have zn := hbn.size
      have RX2 := Lib.hid ((RX1.out.below hbn (Nat.le_refl _)).mono zn)
      have RY2 := Lib.hid ((RY1.out.below hbn (Nat.le_refl _)).mono zn)
      have hb2 := Lib.hid (hb1.out.trans (hbn.mono hb1.out.size))
      clear hbn zn
      go_wp2_with fail
      refine (hs.out w2 RX2.out RY2.out).mono ?_
      rintro e w3 ⟨rfl, hbn⟩
      have hb3 := Lib.hid (hb2.out.trans (hbn.mono hb2.out.size))
      clear hbn
      go_wp2_with fail
      go_ret
      exact ⟨rfl, hb3.out⟩

end
end Go.Proofs.YtjhjmbiecihjhaaDoor
