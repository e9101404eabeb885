/- The law FnIntersectRank: few points meet all. -/
import Derived.Test.YtgkbaenjniapiaaDoorRk4
import Derived.Test.YtgkbaenjniapiaaDoorIp5
import Derived.Test.YtgkbaenjniapiaaDoorSizeL
namespace Go.Proofs.YtgkbaenjniapiaaDoor
open Go.ChangeShapes Go.WideShapes Go.ChangeAt Go.RowKit Go.Shelf Go.Proofs

theorem with_dec5 : ∀ t : Fin 256, ∀ p : Fin 8, cntTo (withI (t.val : Nat) (p.val : Nat)) 8 ≤ cntTo (t.val : Nat) 8 + 1 ∧ hasB (withI (t.val : Nat) (p.val : Nat)) (p.val : Nat) = true ∧ ∀ q : Fin 8, hasB (t.val : Nat) (q.val : Nat) = true → hasB (withI (t.val : Nat) (p.val : Nat)) (q.val : Nat) = true := by decide +kernel
theorem with_set5 : ∀ n : Fin 9, ∀ t : Fin 256, t.val < 2 ^ n.val → ∀ p : Fin 8, p.val < n.val → 0 ≤ withI (t.val : Nat) (p.val : Nat) ∧ withI (t.val : Nat) (p.val : Nat) < 2 ^ n.val := by decide +kernel
/-- one point of each set. -/
theorem few {n : Int} (n1 : 1 ≤ n) (n2 : n ≤ 8) : ∀ xs : List Int, (∀ z ∈ xs, setB n z = true ∧ z ≠ 0) → ∃ t, setB n t = true ∧ (∀ z ∈ xs, meetB t z = true) ∧ cntTo t 8 ≤ xs.length
  | [], _ => by
    have := pow_nat n1 n2
    have h2 : (2 : Int) ^ n.toNat = ((2 ^ n.toNat : Nat) : Int) := by simp
    exact ⟨0, setB_mk ⟨n1, n2, by omega, by omega⟩, by simp, by decide⟩
  | x :: xs, h => by
    obtain ⟨t, ht, hm, hc⟩ := few n1 n2 xs fun z hz => h z (List.mem_cons_of_mem _ hz)
    obtain ⟨hx, hx0⟩ := h x List.mem_cons_self
    obtain ⟨x1, x2⟩ := setB_lt hx
    obtain ⟨p, p8, hp, _⟩ := meet_pt5 x1 x2 (meet_self5 x1 hx0)
    have hpn := low_has5 hx p8 hp
    obtain ⟨N, T, rfl, rfl, a, b, c, d⟩ := set_nat5 ht
    obtain ⟨w1, w2, w3⟩ := with_dec5 ⟨T, c⟩ ⟨p, p8⟩
    have ws := with_set5 ⟨N, by omega⟩ ⟨T, c⟩ d ⟨p, p8⟩ (by dsimp only; omega)
    refine ⟨withI (T : Nat) (p : Nat), setB_mk ⟨n1, n2, ws.1, by rw [Int.toNat_natCast]; exact ws.2⟩, fun z hz => ?_, ?_⟩
    · rcases List.mem_cons.1 hz with rfl | hz
      · exact meet_mk5 hp w2
      · obtain ⟨z1, z2⟩ := setB_lt (h z (List.mem_cons_of_mem _ hz)).1
        obtain ⟨q, q8, q1, q2⟩ := meet_pt5 z1 z2 (hm z hz)
        exact meet_mk5 q1 (w3 ⟨q, q8⟩ q2)
    · rw [List.length_cons]
      dsimp only at w1
      omega
theorem rk_facts {n : Int} {xs : List Int} (h : rkB n xs = true) : ∃ m : Nat, rkV n xs = (m : Int) ∧ (m : Int) ≤ n ∧ m ≤ xs.length ∧ (m = 0 ↔ xs.length = 0) ∧ (crsB n xs xs = true → ∀ x ∈ xs, (m : Int) ≤ cntI x) := by
  unfold rkV
  rw [h, if_pos rfl]
  unfold rkB at h
  rw [Bool.and_eq_true, Bool.not_eq_true'] at h
  obtain ⟨hf, h0⟩ := h
  obtain ⟨n1, n2, hs⟩ := famB_all hf
  have hne : ∀ z ∈ xs, z ≠ 0 := fun z hz e => memB_no h0 (e ▸ hz)
  have e : ((n.toNat : Nat) : Int) = n := Int.toNat_of_nonneg (by omega)
  have hz : ∀ z ∈ xs, 0 ≤ z ∧ z < ((2 ^ n.toNat : Nat) : Int) := fun z hz => by
    obtain ⟨_, _, z1, z2⟩ := setB_yes (hs z hz)
    exact ⟨z1, by simpa using z2⟩
  rw [rank_eq (n := n.toNat) (by omega) hz hne]
  obtain ⟨b1, b2⟩ := bs_le n.toNat xs (2 ^ n.toNat)
  have up : ∀ t, setB n t = true → (∀ z ∈ xs, meetB t z = true) → bsI n.toNat xs (2 ^ n.toNat) ≤ cntTo t 8 := fun t ht hm => by
    obtain ⟨_, _, t1, t2⟩ := setB_yes ht
    obtain ⟨T, rfl⟩ := Int.eq_ofNat_of_zero_le t1
    exact b2 T (by have : ((T : Nat) : Int) < ((2 ^ n.toNat : Nat) : Int) := by simpa using t2
                   exact Int.ofNat_lt.1 this) (List.all_eq_true.2 hm)
  obtain ⟨t, ht, hm, hc⟩ := few n1 n2 xs fun z hz => ⟨hs z hz, hne z hz⟩
  have hle := up t ht hm
  refine ⟨_, rfl, by omega, by omega, ⟨fun hm0 => ?_, fun hl => by omega⟩, fun hcr x hx => ?_⟩
  · rcases bs_at n.toNat xs (2 ^ n.toNat) with h | ⟨s, s1, s2, s3⟩
    · omega
    · cases xs with
      | nil => rfl
      | cons x xs =>
        exfalso
        have hs0 : s = 0 := by
          have hs8 : ∀ s : Fin 256, cntTo (s.val : Nat) 8 = 0 → s.val = 0 := by decide +kernel
          have hp := (pow_nat n1 n2).1
          exact hs8 ⟨s, by omega⟩ (by dsimp only; omega)
        have := List.all_eq_true.1 s2 x List.mem_cons_self
        subst hs0
        unfold meetB andI at this
        simp at this
  · have hcx := cross_out (crs_fam hcr).2.2
    have := up x (hs x hx) fun z hz => hcx x hx z hz
    unfold cntI
    omega
/-- the least size so far. -/
def lsTo (n : Int) (xs : List Int) : Nat → Int
  | 0 => n
  | k + 1 => min (lsTo n xs k) (cntI (xs.getD k 0))
theorem cnt_rng (x : Int) : 0 ≤ cntI x ∧ cntI x ≤ 8 := by
  have := cnt_8 x
  unfold cntI
  omega
theorem ls_rng {n : Int} (n1 : 1 ≤ n) (n2 : n ≤ 8) (xs : List Int) : ∀ k, 0 ≤ lsTo n xs k ∧ lsTo n xs k ≤ 8
  | 0 => ⟨by show 0 ≤ n; omega, n2⟩
  | k + 1 => by
    have h := ls_rng n1 n2 xs k
    have := cnt_rng (xs.getD k 0)
    show 0 ≤ min _ _ ∧ min _ _ ≤ 8
    omega
theorem ls_le {n m : Int} (hn : m ≤ n) {xs : List Int} (h : ∀ x ∈ xs, m ≤ cntI x) : ∀ k, k ≤ xs.length → m ≤ lsTo n xs k
  | 0, _ => hn
  | k + 1, hk => by
    have := ls_le hn h k (by omega)
    have := h _ (getD_mem (show k < xs.length by omega))
    show m ≤ min _ _
    omega
theorem draw_IntersectRank (v : Value) (a : Option Addr) (len cap : Nat) (w : World) (hv : v = .slice a len cap) (hc : len ≤ cap) (hcap : cap ≤ 9223372036854775807) (hB : Bytes w w.heap.size a len) :
    Calls Tryd.prog 28 #[v] w (GivenDraw w) := by
  have h0 := Lib.hid (draw_meets v a len cap w hv hc hcap hB)
  clear hv hc hcap hB
  go_enter Tryd.func28, Tryd.ntmps28
  go_wp2_with fail
  refine (h0.out).mono ?_
  rintro e w1 ⟨n, u, xs, rfl, hl, hO, hb⟩
  obtain ⟨ua, uc, rfl, _⟩ := id hO
  replace hO := Lib.hid hO
  replace hb := Lib.hid hb
  go_wp2_with fail
  go_ret2
  exact ⟨_, _, xs, rfl, hl, hO.out, hb.out⟩
set_option maxRecDepth 100000 in
set_option maxHeartbeats 4000000 in
theorem law_FnIntersectRank (v : Value) (a : Option Addr) (len cap : Nat) (w : World) (hv : v = .slice a len cap) (hc : len ≤ cap) (hcap : cap ≤ 9223372036854775807) (hB : Bytes w w.heap.size a len) (hT0 : TabE w) :
    Calls Tryd.prog 7 #[v] w fun e w' => e = .returned (.bool true) ∧ Below w.heap.size w w' := by
  have h0 := Lib.hid (draw_IntersectRank v a len cap w hv hc hcap hB)
  have htl := hT0.lt
  replace hT0 := Lib.hid hT0
  subst hv
  clear hB
  by_cases hbig : 1048576 < len
  · go_enter Tryd.func7, Tryd.ntmps7
    go_wp2_with fail
    go_ret
    exact ⟨rfl, Below.refl _ _⟩
  · go_enter Tryd.func7, Tryd.ntmps7
    go_wp2_with fail
    refine (h0.out).mono ?_
    rintro e w1 ⟨n, u, xs, rfl, hl, hO, hb⟩
    obtain ⟨ua, uc, rfl, _⟩ := id hO
    have z1 := hb.size
    have hi := im_IntersectRank n _ xs _ w1 hO.row (Nat.le_refl _) (by omega) (hT0.out.below hb htl)
    have hs := fun (W : World) (hW : Below w1.heap.size w1 W) => sp_IntersectRank n _ xs w1.heap.size W (hO.row.below hW (Nat.le_refl _)) hW.size (by omega)
    have hcr := fun (W : World) (hW : Row W W.heap.size (.slice ua xs.length uc) xs) => im_IntersectIn n _ xs W.heap.size W hW (Nat.le_refl _) (by omega)
    have RX1 := Lib.hid hO.row
    have hb1 := Lib.hid hb
    clear hb hO h0
    rcases (by cases rkB n xs <;> simp : rkB n xs = true ∨ rkB n xs = false) with hbv | hbv
    · obtain ⟨m, hmv, m1, m2, m3, m4⟩ := rk_facts hbv
      have hfx : famB n xs = true := by unfold rkB at hbv; rw [Bool.and_eq_true] at hbv; exact hbv.1
      obtain ⟨n1, n2, _⟩ := famB_all hfx
      have hz := Lib.hid (famB_lt hfx)
      rw [hbv, hmv] at hi hs
      have hcc : (((m : Nat) : Int) != (m : Nat)) = false := by simp
      have hls := Lib.hid (fun k => ls_rng n1 n2 xs k)
      have hlle : Hid (crsB n xs xs = true → ((m : Nat) : Int) ≤ lsTo n xs xs.length) := Lib.hid fun h => ls_le m1 (m4 h) _ (Nat.le_refl _)
      have m5 : (((m : Nat) : Int) == 0) = (((xs.length : Nat) : Int) == 0) := by
        by_cases h : m = 0
        · have := m3.1 h; simp [h, this]
        · have := mt m3.2 h
          rw [beq_eq_false_iff_ne.2 (show ((m : Nat) : Int) ≠ 0 by omega), beq_eq_false_iff_ne.2 (show ((xs.length : Nat) : Int) ≠ 0 by omega)]
      have m6 : ((m : Nat) : Int) ≤ ((xs.length : Nat) : Int) := by omega
      obtain ⟨b, hbb⟩ : ∃ b, crsB n xs xs = b := ⟨_, rfl⟩
      rw [hbb] at hcr hlle
      replace hi := Lib.hid hi
      replace hs := Lib.hid hs
      replace hcr := Lib.hid hcr
      replace hbv := Lib.hid hbv
      replace hmv := Lib.hid hmv
      replace hfx := Lib.hid hfx
      replace hbb := Lib.hid hbb
      clear m3 m4
      go_wp2_with fail
      refine hi.out.mono ?_
      rintro e w2 ⟨rfl, hbn⟩
      have hcs := Lib.hid (hs.out w2 hbn)
      have RX2 := Lib.hid ((RX1.out.below hbn (Nat.le_refl _)).mono hbn.size)
      have hb2 := Lib.hid (hb1.out.trans (hbn.mono hb1.out.size))
      clear hbn
      go_wp2_with fail
      refine hcs.out.mono ?_
      rintro e w3 ⟨rfl, hbn⟩
      have RX3 := Lib.hid ((RX2.out.below hbn (Nat.le_refl _)).mono hbn.size)
      have hb3 := Lib.hid (hb2.out.trans (hbn.mono hb2.out.size))
      clear hbn
      obtain ⟨_, _, e', hcX⟩ := RX3.out
      injection e' with f1 f2 f3
      subst f1 f3
      replace hcX := Lib.hid hcX
      go_wp2_with fail
      go_loopw [9, 10] (fun l s wr => ∃ i : Nat, i ≤ xs.length ∧ s = .int .i64 i ∧ l = .int .i64 (lsTo n xs i) ∧ Hid (∃ q, wr = w3.drewN q)) (fun _ s _ => xs.length - (intOf s).toNat)
      case atStart => exact ⟨0, by omega, rfl, rfl, Lib.hid ⟨0, rfl⟩⟩
      case round =>
        obtain ⟨i, hik, rfl, rfl, hw⟩ := hrel
        obtain ⟨l1, l2⟩ := hls.out i
        by_cases hlt : i < xs.length
        · obtain ⟨b1, o1, rfl, t1, cc1⟩ := hcX.out (by omega)
          have k1 : (0 : Int) ≤ (i : Int) := by omega
          have k2 : (i : Int) < (xs.length : Nat) := by omega
          have hS := Lib.hid (show min (lsTo n xs i) (cntI (xs.getD i 0)) = lsTo n xs (i + 1) from rfl)
          have e1 : wr.cell? ⟨b1, o1 + i, none⟩ = some (.int .i64 (xs.getD i 0)) := by
            obtain ⟨q, h⟩ := hw.out
            rw [h]; exact cc1 i hlt
          have hmem := getD_mem hlt
          obtain ⟨u1, u2⟩ := hz.out _ hmem
          have hsz := fun W => law_size (xs.getD i 0) u1 u2 W
          obtain ⟨c1, c2⟩ := cnt_rng (xs.getD i 0)
          obtain ⟨c, hcv⟩ : ∃ c, cntI (xs.getD i 0) = c := ⟨_, rfl⟩
          obtain ⟨x, hxv⟩ : ∃ x, xs.getD i 0 = x := ⟨_, rfl⟩
          obtain ⟨l, hlv⟩ : ∃ l, lsTo n xs i = l := ⟨_, rfl⟩
          rw [hcv] at hsz hS c1 c2
          rw [hlv] at hS l1 l2 ⊢
          rw [hxv] at hsz e1 u1 u2
          have hwd : ∀ p, Hid (∃ q, wr.drewN p = w3.drewN q) := fun p => by
            obtain ⟨q, h⟩ := hw.out
            exact Lib.hid ⟨q + p, by rw [h]; exact World.drewN_drewN _ _ _⟩
          replace hcv := Lib.hid hcv
          replace hxv := Lib.hid hxv
          replace hlv := Lib.hid hlv
          replace hmem := Lib.hid hmem
          have hsz' : ∀ W, Calls Tryd.prog 31 #[.int .i64 x] W fun e w' => e = .returned (.int .i64 c) ∧ w' = W := fun W => (hsz W).mono fun _ _ h => ⟨h.1, h.2.symm⟩
          replace hsz := Lib.hid hsz'
          clear cc1
          go_wp2_with (go_at_call 31; refine (hsz.out _).mono ?_; rintro e w' ⟨rfl, rfl⟩)
          go_roundw
          case rel => exact ⟨i + 1, by omega, by go_num, by rw [← hS.out], by first | exact hw | exact hwd _⟩
          case measure => simp [intOf]; omega
        · obtain rfl : i = xs.length := by omega
          obtain ⟨q, rfl⟩ := hw.out
          have RX4 := Lib.hid (show Row (w3.drewN q) (w3.drewN q).heap.size _ _ from RX3.out.drewN q)
          have hb4 := Lib.hid (below_drewN hb3.out q)
          have hd := Lib.hid (hcr.out _ RX4.out)
          obtain ⟨l, hlv⟩ : ∃ l, lsTo n xs xs.length = l := ⟨_, rfl⟩
          rw [hlv] at l1 l2 hlle ⊢
          replace hlv := Lib.hid hlv
          have s4 := hb4.out.size
          cases b with
          | false =>
            go_wp2_with fail
            refine hd.out.mono ?_
            rintro e w5 ⟨rfl, hbn⟩
            have hb5 := Lib.hid (hb4.out.trans (hbn.mono s4))
            go_wp2_with fail
            go_ret
            exact ⟨rfl, hb5.out⟩
          | true =>
            have hml := hlle.out rfl
            go_wp2_with fail
            refine hd.out.mono ?_
            rintro e w5 ⟨rfl, hbn⟩
            have hb5 := Lib.hid (hb4.out.trans (hbn.mono s4))
            go_wp2_with fail
            go_ret
            exact ⟨rfl, hb5.out⟩
    · have hval : rkV n xs = 0 := by unfold rkV; rw [hbv]; rfl
      rw [hbv, hval] at hi hs
      replace hi := Lib.hid hi
      replace hs := Lib.hid hs
      replace hbv := Lib.hid hbv
      replace hval := Lib.hid hval
      clear hcr
      go_wp2_with fail
      refine hi.out.mono ?_
      rintro e w2 ⟨rfl, hbn⟩
      have hcs := Lib.hid (hs.out w2 hbn)
      have hb2 := Lib.hid (hb1.out.trans (hbn.mono hb1.out.size))
      clear hbn
      go_wp2_with fail
      refine hcs.out.mono ?_
      rintro e w3 ⟨rfl, hbn⟩
      have hb3 := Lib.hid (hb2.out.trans (hbn.mono hb2.out.size))
      go_wp2_with fail
      go_ret
      exact ⟨rfl, hb3.out⟩
end Go.Proofs.YtgkbaenjniapiaaDoor
