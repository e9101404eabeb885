/- The law FnGrow: grown families have half of all sets. -/
import Derived.Test.YtgkbaenjniapiaaDoorIs8
import Derived.Test.YtgkbaenjniapiaaDoorAllD
import Derived.Test.YtgkbaenjniapiaaDoorSameL
import Derived.Test.YtgkbaenjniapiaaDoorPf1
import Derived.Test.YtgkbaenjniapiaaDoorAllSp
namespace Go.Proofs.YtgkbaenjniapiaaDoor
open Go.ChangeShapes Go.WideShapes Go.ChangeAt Go.RowKit Go.Proofs

theorem one_row5 (w : World) (x : Int) : Row (w.alloc (.cells #[.int .i64 x] 3)) (w.alloc (.cells #[.int .i64 x] 3)).heap.size (.slice (some ⟨w.heap.size, 0, none⟩) 1 1) [x] := by
  refine ⟨_, 1, rfl, fun _ => ⟨w.heap.size, 0, rfl, by simp, fun i hi => ?_⟩⟩
  simp at hi
  subst hi
  exact cell_new _ _ _
theorem meet_pt5 {t x : Int} (hx : 0 ≤ x) (hx2 : x < 256) (h : meetB t x = true) : ∃ p : Nat, p < 8 ∧ hasB x (p : Nat) = true ∧ hasB t (p : Nat) = true := by
  unfold meetB andI at h
  have h1 : t.toNat &&& x.toNat ≠ 0 := by
    intro e; rw [e] at h; simp at h
  obtain ⟨i, hi⟩ := Nat.exists_testBit_of_ne_zero h1
  rw [Nat.testBit_and, Bool.and_eq_true] at hi
  refine ⟨i, ?_, ?_, ?_⟩
  · rcases Nat.lt_or_ge i 8 with h2 | h2
    · exact h2
    · have h3 : x.toNat < 2 ^ i := Nat.lt_of_lt_of_le (show x.toNat < 2 ^ 8 by omega) (Nat.pow_le_pow_right (by omega) h2)
      rw [Nat.testBit_lt_two_pow h3] at hi
      exact absurd hi.2 (by simp)
  · unfold hasB; rw [Int.toNat_natCast]; exact hi.2
  · unfold hasB; rw [Int.toNat_natCast]; exact hi.1
theorem meet_mk5 {t x : Int} {p : Nat} (h1 : hasB x (p : Nat) = true) (h2 : hasB t (p : Nat) = true) : meetB t x = true := by
  unfold hasB at h1 h2
  rw [Int.toNat_natCast] at h1 h2
  unfold meetB andI
  have h3 : (t.toNat &&& x.toNat).testBit p = true := by rw [Nat.testBit_and, h1, h2]; rfl
  have h4 : t.toNat &&& x.toNat ≠ 0 := fun e => by rw [e, Nat.zero_testBit] at h3; cases h3
  rw [bne_iff_ne]
  omega
theorem oth_bit5 : ∀ n : Fin 9, ∀ x : Fin 256, x.val < 2 ^ n.val → ∀ p : Fin 8, p.val < n.val → hasB (otherI (n.val : Nat) (x.val : Nat)) (p.val : Nat) = !hasB (x.val : Nat) (p.val : Nat) := by decide +kernel
theorem low_bit5 : ∀ n : Fin 9, ∀ x : Fin 256, x.val < 2 ^ n.val → ∀ p : Fin 8, hasB (x.val : Nat) (p.val : Nat) = true → p.val < n.val := by decide +kernel
theorem set_nat5 {n x : Int} (h : setB n x = true) : ∃ N X : Nat, n = N ∧ x = X ∧ 1 ≤ N ∧ N ≤ 8 ∧ X < 256 ∧ X < 2 ^ N := by
  obtain ⟨n1, n2, x1, x2⟩ := setB_yes h
  obtain ⟨N, rfl⟩ := Int.eq_ofNat_of_zero_le (show 0 ≤ n by omega)
  obtain ⟨X, rfl⟩ := Int.eq_ofNat_of_zero_le x1
  rw [Int.toNat_natCast] at x2
  have hh : ((2 ^ N : Nat) : Int) = (2 : Int) ^ N := by simp
  rw [← hh] at x2
  exact ⟨N, X, rfl, rfl, by omega, by omega, by have := (setB_lt h).2; omega, Int.ofNat_lt.1 x2⟩
theorem oth_has5 {n x : Int} {p : Nat} (h : setB n x = true) (hp : (p : Int) < n) : hasB (otherI n x) (p : Nat) = !hasB x (p : Nat) := by
  obtain ⟨N, X, rfl, rfl, a, b, c, d⟩ := set_nat5 h
  exact oth_bit5 ⟨N, by omega⟩ ⟨X, c⟩ d ⟨p, by omega⟩ (by dsimp only; omega)
theorem low_has5 {n x : Int} {p : Nat} (h : setB n x = true) (p8 : p < 8) (hp : hasB x (p : Nat) = true) : (p : Int) < n := by
  obtain ⟨N, X, rfl, rfl, a, b, c, d⟩ := set_nat5 h
  have := low_bit5 ⟨N, by omega⟩ ⟨X, c⟩ d ⟨p, p8⟩ hp
  dsimp only at this
  omega
theorem meet_oth5 {n s : Int} (h : setB n s = true) : meetB s (otherI n s) = false := by
  rcases (by cases meetB s (otherI n s) <;> simp : meetB s (otherI n s) = true ∨ meetB s (otherI n s) = false) with hm | hm
  · have ho := other_set h
    obtain ⟨o1, o2⟩ := setB_lt ho
    obtain ⟨p, p8, h1, h2⟩ := meet_pt5 o1 o2 hm
    rw [oth_has5 h (low_has5 h p8 h2), h2] at h1
    cases h1
  · exact hm
theorem gr_step {xs : List Int} {k : Nat} {z : Int} (h : z ∈ grL xs k) : z ∈ grL xs (k + 1) := by
  show z ∈ grS (grL xs k) (k : Nat)
  unfold grS
  split
  · exact mem_insI.2 (.inr h)
  · exact h
theorem gr_up {xs : List Int} {k : Nat} {z : Int} (h : z ∈ grL xs k) : ∀ m, z ∈ grL xs (k + m)
  | 0 => h
  | m + 1 => gr_step (gr_up h m)
theorem cross_out {L zs : List Int} (h : crossB L zs = true) : ∀ x ∈ L, ∀ y ∈ zs, meetB x y = true := fun x hx y hy => by
  unfold crossB at h
  rw [List.all_eq_true] at h
  exact List.all_eq_true.1 (h x hx) y hy
theorem cross_mk5 {L zs : List Int} (h : ∀ x ∈ L, ∀ y ∈ zs, meetB x y = true) : crossB L zs = true := by
  unfold crossB
  exact List.all_eq_true.2 fun x hx => List.all_eq_true.2 fun y hy => h x hx y hy
theorem meet_self5 {s : Int} (h0 : 0 ≤ s) (h : s ≠ 0) : meetB s s = true := by
  unfold meetB andI
  rw [Nat.and_self, bne_iff_ne]
  omega
theorem gr_cross {xs : List Int} (h : crossB xs xs = true) : ∀ k, crossB (grL xs k) (grL xs k) = true
  | 0 => h
  | k + 1 => by
    have ih := cross_out (gr_cross h k)
    show crossB (grS (grL xs k) (k : Nat)) (grS (grL xs k) (k : Nat)) = true
    unfold grS
    split
    · next hc =>
      rw [Bool.and_eq_true, Bool.not_eq_true', beq_eq_false_iff_ne] at hc
      have ha := List.all_eq_true.1 hc.2
      refine cross_mk5 fun x hx y hy => ?_
      rcases mem_insI.1 hx with rfl | hx
      · rcases mem_insI.1 hy with rfl | hy
        · exact meet_self5 (by omega) hc.1
        · exact ha y hy
      · rcases mem_insI.1 hy with rfl | hy
        · rw [meet_comm]; exact ha x hx
        · exact ih x hx y hy
    · exact cross_mk5 ih
theorem gr_max {xs : List Int} {N s : Nat} (h0 : s ≠ 0) (hs : s < N) : ((s : Nat) : Int) ∈ grL xs N ∨ ∃ x ∈ grL xs N, meetB (s : Nat) x = false := by
  obtain ⟨m, rfl⟩ : ∃ m, N = s + 1 + m := ⟨N - (s + 1), by omega⟩
  rcases (by cases (grL xs s).all (meetB (s : Nat)) <;> simp : (grL xs s).all (meetB (s : Nat)) = true ∨ (grL xs s).all (meetB (s : Nat)) = false) with h | h
  · refine .inl (gr_up (k := s + 1) ?_ m)
    show _ ∈ grS (grL xs s) (s : Nat)
    rw [grS_yes (by omega) h]
    exact mem_insI.2 (.inl rfl)
  · rw [List.all_eq_false] at h
    obtain ⟨x, hx, hm⟩ := h
    exact .inr ⟨x, gr_up (k := s + 1) (gr_step hx) m, by simpa using hm⟩
theorem gr_set {n : Int} {xs : List Int} (hf : famB n xs = true) : ∀ z ∈ grL xs (2 ^ n.toNat), setB n z = true := fun z hz => by
  obtain ⟨n1, n2, hs⟩ := famB_all hf
  rcases gr_mem _ hz with h | h
  · exact hs z h
  · exact setB_mk ⟨n1, n2, h.1, by have := h.2; simpa using this⟩
/-- a grown family has a set or its other. -/
theorem gr_one {n : Int} {xs : List Int} (h : crsB n xs xs = true) {s : Int} (hs : setB n s = true) : memB (otherI n s) (grL xs (2 ^ n.toNat)) = !memB s (grL xs (2 ^ n.toNat)) := by
  obtain ⟨hf, _, hc⟩ := crs_fam h
  have hG := cross_out (gr_cross hc (2 ^ n.toNat))
  have hset := gr_set hf
  have hnat : ∀ t : Int, setB n t = true → t ≠ 0 → t ∈ grL xs (2 ^ n.toNat) ∨ ∃ x ∈ grL xs (2 ^ n.toNat), meetB t x = false := fun t ht h0 => by
    obtain ⟨_, _, t1, t2⟩ := setB_yes ht
    obtain ⟨T, rfl⟩ := Int.eq_ofNat_of_zero_le t1
    exact gr_max (by omega) (by have : ((T : Nat) : Int) < ((2 ^ n.toNat : Nat) : Int) := by simpa using t2
                                exact Int.ofNat_lt.1 this)
  have hne : ∀ x ∈ grL xs (2 ^ n.toNat), x ≠ 0 := fun x hx e => by
    have := hG x hx x hx
    subst e
    cases this
  generalize grL xs (2 ^ n.toNat) = G at *
  have key : ∀ t : Int, setB n t = true → t ∉ G → otherI n t ∈ G := fun t ht hn => by
    by_cases ho : otherI n t ∈ G
    · exact ho
    · exfalso
      have hot := other_set ht
      by_cases t0 : t = 0
      · have o0 : otherI n t ≠ 0 := by
          obtain ⟨n1, n2, _, _⟩ := setB_yes ht
          have := pow_nat n1 n2
          subst t0
          unfold otherI
          have h2 : (2 : Int) ^ n.toNat = ((2 ^ n.toNat : Nat) : Int) := by simp
          omega
        obtain ⟨x, hx, hm⟩ := (hnat _ hot o0).resolve_left ho
        have hx0 := hne x hx
        have hsx := hset x hx
        obtain ⟨x1, x2⟩ := setB_lt hsx
        obtain ⟨p, p8, p1, p2⟩ := meet_pt5 x1 x2 (meet_self5 x1 hx0)
        have hb := oth_has5 ht (low_has5 hsx p8 p1)
        subst t0
        rw [show hasB 0 (p : Nat) = false by unfold hasB; simp] at hb
        rw [meet_mk5 p1 hb] at hm
        cases hm
      · by_cases o0 : otherI n t = 0
        · obtain ⟨x, hx, hm⟩ := (hnat t ht t0).resolve_left hn
          have hx0 := hne x hx
          have hsx := hset x hx
          obtain ⟨x1, x2⟩ := setB_lt hsx
          obtain ⟨p, p8, p1, p2⟩ := meet_pt5 x1 x2 (meet_self5 x1 hx0)
          have hb := oth_has5 ht (low_has5 hsx p8 p1)
          rw [o0, show hasB 0 (p : Nat) = false by unfold hasB; simp] at hb
          have hb' : hasB t (p : Nat) = true := by simpa using hb.symm
          rw [meet_mk5 p1 hb'] at hm
          cases hm
        · obtain ⟨x, hx, hm⟩ := (hnat t ht t0).resolve_left hn
          obtain ⟨y, hy, hm2⟩ := (hnat _ hot o0).resolve_left ho
          have hsx := hset x hx
          have hsy := hset y hy
          obtain ⟨y1, y2⟩ := setB_lt hsy
          obtain ⟨p, p8, p1, p2⟩ := meet_pt5 y1 y2 (hG x hx y hy)
          have hb := oth_has5 ht (low_has5 hsx p8 p2)
          rcases (by cases hasB t (p : Nat) <;> simp : hasB t (p : Nat) = true ∨ hasB t (p : Nat) = false) with hc | hc
          · rw [meet_mk5 p2 hc] at hm; cases hm
          · rw [hc] at hb
            rw [meet_mk5 p1 hb] at hm2; cases hm2
  by_cases hin : s ∈ G
  · rw [memB_mk hin]
    refine memB_mk0 fun ho => ?_
    have := hG s hin _ ho
    rw [meet_oth5 hs] at this
    cases this
  · rw [memB_mk0 hin]
    exact memB_mk (key s hs hin)
theorem oth_perm {n : Int} (n1 : 1 ≤ n) (n2 : n ≤ 8) : ((upI (2 ^ n.toNat)).map (otherI n)).Perm (upI (2 ^ n.toNat)) := by
  have hnd : ((upI (2 ^ n.toNat)).map (otherI n)).Nodup := by
    refine List.pairwise_map.2 (List.Pairwise.imp (fun {x y} hne e => hne ?_) (asc_nodup (asc_upI _)))
    unfold otherI at e; omega
  refine (List.perm_ext_iff_of_nodup hnd (asc_nodup (asc_upI _))).2 fun z => ?_
  rw [List.mem_map]
  constructor
  · rintro ⟨x, hx, rfl⟩
    exact (set_up n1 n2).2 (other_set ((set_up n1 n2).1 hx))
  · intro hz
    exact ⟨otherI n z, (set_up n1 n2).2 (other_set ((set_up n1 n2).1 hz)), by unfold otherI; omega⟩
theorem gr_half {n : Int} {xs : List Int} (h : crsB n xs xs = true) : 2 * (grL xs (2 ^ n.toNat)).length = 2 ^ n.toNat := by
  obtain ⟨hf, _, hc⟩ := crs_fam h
  obtain ⟨n1, n2, hs⟩ := famB_all hf
  have hG : grL xs (2 ^ n.toNat) = (upI (2 ^ n.toNat)).filter (fun x => memB x (grL xs (2 ^ n.toNat))) := asc_ext (gr_asc (famB_asc hf) _) (asc_filter (asc_upI _) _) fun z => by
    rw [List.mem_filter, memB_iff]
    exact ⟨fun hz => ⟨(set_up n1 n2).2 (gr_set hf z hz), hz⟩, fun hz => hz.2⟩
  have h1 : ((upI (2 ^ n.toNat)).filter (fun x => memB x (grL xs (2 ^ n.toNat)))).length = ((upI (2 ^ n.toNat)).filter (fun x => !memB x (grL xs (2 ^ n.toNat)))).length := by
    rw [← ((oth_perm n1 n2).filter _).length_eq, List.filter_map, List.length_map]
    congr 1
    exact List.filter_congr fun x hx => gr_one h ((set_up n1 n2).1 hx)
  have h2 := filt_split (fun x => memB x (grL xs (2 ^ n.toNat))) (upI (2 ^ n.toNat))
  rw [upI_len] at h2
  rw [← h1, ← hG] at h2
  omega
set_option maxRecDepth 100000 in
set_option maxHeartbeats 2000000 in
theorem draw_meets (v : Value) (a : Option Addr) (len cap : Nat) (w : World) (hv : v = .slice a len cap) (hc : len ≤ cap) (hcap : cap ≤ 9223372036854775807) (hB : Bytes w w.heap.size a len) :
    Calls Tryd.prog 65 #[v] w (GivenDraw w) := by
  have h0 := Lib.hid (draw_given v a len cap w hv hc hcap hB)
  subst hv
  clear hc hB
  go_enter Tryd.func65, Tryd.ntmps65
  go_wp2_with fail
  refine (h0.out).mono ?_
  rintro e w1 ⟨n, u, ys, rfl, hl2, hO2, hb⟩
  obtain ⟨va, vc, rfl, _⟩ := id hO2
  have z1 := hb.size
  have hf1 := Lib.hid (sp_FamilyIn n _ ys _ w1 hO2.row (by omega))
  replace hO2 := Lib.hid hO2
  replace hb := Lib.hid hb
  clear h0
  obtain ⟨b1, hb1⟩ : ∃ b, famB n ys = b := ⟨_, rfl⟩
  rw [hb1] at hf1
  go_wp2_with fail
  refine hf1.out.mono ?_
  rintro e w2 ⟨rfl, Q, rfl⟩
  have e2 : GivenDraw w (.returned (.tuple #[.int .i64 n, .slice va ys.length vc])) (w1.drewN Q) := ⟨n, _, ys, rfl, hl2, hO2.out.drewN Q, below_drewN hb.out Q⟩
  replace e2 := Lib.hid e2
  cases b1 with
  | false =>
    go_wp2_with fail
    exact bodyPost_ret (v := .tuple #[.int .i64 n, .slice va ys.length vc]) (by simp [results, Tryd.results65, go_sem]) rfl e2.out
  | true =>
    obtain ⟨b3, h3⟩ : ∃ b, (((len : Nat) : Int) % 4 == 0) = b := ⟨_, rfl⟩
    cases b3 with
    | true =>
      go_wp2_with fail
      exact bodyPost_ret (v := .tuple #[.int .i64 n, .slice va ys.length vc]) (by simp [results, Tryd.results65, go_sem]) rfl e2.out
    | false =>
      have hzy := Lib.hid (famB_lt hb1)
      have hcY := Lib.hid (show Row (w1.drewN Q) (w1.drewN Q).heap.size (.slice va ys.length vc) ys from (hO2.out.drewN Q).row)
      have hbW := Lib.hid (below_drewN hb.out Q)
      have zW : w.heap.size ≤ (w1.drewN Q).heap.size := z1
      obtain ⟨W, hW⟩ : ∃ W, w1.drewN Q = W := ⟨_, rfl⟩
      rw [hW] at hcY hbW zW e2 ⊢
      replace hW := Lib.hid hW
      replace hb1 := Lib.hid hb1
      have hlit := Lib.hid (OwnL.lit W (Nat.le_refl W.heap.size))
      clear e2 hf1 hO2 hb
      go_wp2_with fail
      go_loopw [6, 7] (fun o s wr => ∃ (k : Nat) (acc : List Int), k ≤ ys.length ∧ acc.length ≤ k ∧ s = .int .i64 k ∧ Hid (∀ y ∈ acc, 0 ≤ y ∧ y < 256) ∧ Hid (OwnL wr W.heap.size o acc) ∧ Hid (Below W.heap.size W wr)) (fun _ s _ => ys.length - (intOf s).toNat)
      case atStart => exact ⟨0, [], by omega, by simp, rfl, Lib.hid (by simp), hlit, Lib.hid ((Below.refl _ W).alloc (Nat.le_refl _) _)⟩
      case round =>
        obtain ⟨k, acc, hk, hacc, rfl, haz, hown, hbel⟩ := hrel
        have hsz := hbel.out.size
        obtain ⟨oa, oc, rfl⟩ := hown.out.form
        by_cases hlt : k < ys.length
        · have k1 : (0 : Int) ≤ (k : Int) := by omega
          have k2 : (k : Int) < (ys.length : Nat) := by omega
          obtain ⟨ya, yc, ye, yh⟩ := hcY.out
          injection ye with ye1 ye2 ye3
          subst ye1 ye3
          obtain ⟨bb, oo, rfl, t1, c1⟩ := yh (by omega)
          obtain ⟨z, hz0⟩ : ∃ z, ys.getD k 0 = z := ⟨_, rfl⟩
          have hmem : z ∈ ys := by rw [← hz0]; exact getD_mem hlt
          obtain ⟨u1, u2⟩ := hzy.out z hmem
          have e1 : wr.cell? ⟨bb, oo + k, none⟩ = some (.int .i64 z) := by rw [hbel.out.cell (p := ⟨bb, oo + k, none⟩) (show bb < W.heap.size by omega), ← hz0]; exact c1 k hlt
          by_cases hz00 : z = 0
          · subst hz00
            replace hz0 := Lib.hid hz0
            replace hmem := Lib.hid hmem
            clear c1 yh
            go_wp2_with fail
            go_roundw
            case rel => exact ⟨k + 1, acc, by omega, by omega, by go_num, haz, hown, hbel⟩
            case measure => simp [intOf]; omega
          · have hbA := hbel.out.alloc hsz (.cells #[.int .i64 z] 3)
            have hrowA : Row (wr.alloc (.cells #[.int .i64 z] 3)) (wr.alloc (.cells #[.int .i64 z] 3)).heap.size (.slice oa acc.length oc) acc := (hown.out.alloc (.cells #[.int .i64 z] 3)).own.row
            have hsp := sp_meets _ _ acc [z] _ _ hrowA (one_row5 wr z) (by omega) (by simp) haz.out (fun y hy => by simp at hy; subst hy; exact ⟨u1, u2⟩)
            have e3 : ∀ q, ((wr.alloc (.cells #[.int .i64 z] 3)).drewN q).cell? ⟨bb, oo + k, none⟩ = some (.int .i64 z) := fun q => by
              show (wr.alloc (.cells #[.int .i64 z] 3)).cell? ⟨bb, oo + k, none⟩ = _
              rw [World.cell?_alloc_lt _ _ ⟨bb, oo + k, none⟩ (show bb < wr.heap.size by omega)]; exact e1
            have hown2 := Lib.hid (fun q => (hown.out.alloc (.cells #[.int .i64 z] 3)).drewN q)
            have hown3 := Lib.hid (fun q => ((hown.out.alloc (.cells #[.int .i64 z] 3)).drewN q).alloc (.cells #[.int .i64 z] 3))
            have hb2' := Lib.hid (fun q => below_drewN hbA q)
            have hB1 : ∀ q, W.heap.size ≤ (((wr.alloc (.cells #[.int .i64 z] 3)).drewN q).alloc (.cells #[.int .i64 z] 3)).heap.size := fun q => by
              rw [World.size_alloc]
              have : ((wr.alloc (.cells #[.int .i64 z] 3)).drewN q).heap.size = wr.heap.size + 1 := by show (wr.alloc _).heap.size = _; rw [World.size_alloc]
              omega
            have hLl : acc.length ≤ 1073741824 := by omega
            have haz2 : ∀ y ∈ acc ++ [z], 0 ≤ y ∧ y < 256 := fun y hy => by
              rcases List.mem_append.1 hy with h | h
              · exact haz.out y h
              · simp at h; subst h; exact ⟨u1, u2⟩
            replace haz2 := Lib.hid haz2
            replace hB1 := Lib.hid hB1
            replace hz0 := Lib.hid hz0
            replace hmem := Lib.hid hmem
            replace e3 := Lib.hid e3
            obtain ⟨b, hbb⟩ : ∃ b, crossB acc [z] = b := ⟨_, rfl⟩
            rw [hbb] at hsp
            replace hbb := Lib.hid hbb
            replace hsp := Lib.hid hsp
            replace hown := Lib.hid hown
            clear c1 yh hbA hrowA
            cases b with
            | false =>
              go_wp2_with fail
              refine hsp.out.mono ?_
              rintro e w2 ⟨rfl, q2, rfl⟩
              have hO2 := Lib.hid (hown2.out q2)
              have hb3 := Lib.hid (hb2'.out q2)
              go_wp2_with fail
              go_roundw
              case rel => exact ⟨k + 1, acc, by omega, by omega, by go_num, haz, hO2, hb3⟩
              case measure => simp [intOf]; omega
            | true =>
              go_wp2_with fail
              refine hsp.out.mono ?_
              rintro e w2 ⟨rfl, q2, rfl⟩
              have hO2 := Lib.hid (hown3.out q2)
              have hb3 := Lib.hid (hb2'.out q2)
              have hB2 := hB1.out q2
              have e4 := e3.out q2
              have hcn := cell_new ((wr.alloc (.cells #[.int .i64 z] 3)).drewN q2) (.int .i64 z) 3
              obtain ⟨W6, hW6⟩ : ∃ W6, (wr.alloc (.cells #[.int .i64 z] 3)).drewN q2 = W6 := ⟨_, rfl⟩
              rw [hW6] at hO2 hb3 hB2 hcn e4 ⊢
              replace hW6 := Lib.hid hW6
              go_wp2_with (at_builtin; refine app_int rfl _ _ rfl W.heap.size _ acc rfl hO2.out z W6.heap.size rfl hcn hLl hB2 ?_; intro v' w3 hown4 hb4)
              replace hown4 := Lib.hid hown4
              replace hb4 := Lib.hid ((hb3.out.alloc hb3.out.size _).trans hb4)
              go_roundw
              case rel => exact ⟨k + 1, acc ++ [z], by omega, by simp; omega, by go_num, haz2, hown4, hb4⟩
              case measure => simp [intOf]; omega
        · have hfin : GivenDraw w (.returned (.tuple #[.int .i64 n, .slice oa acc.length oc])) wr := ⟨n, _, acc, rfl, by omega, hown.out.own.mono zW (Nat.le_refl _), hbW.out.trans (hbel.out.mono zW)⟩
          replace hfin := Lib.hid hfin
          go_wp2_with fail
          exact bodyPost_ret (v := .tuple #[.int .i64 n, .slice oa acc.length oc]) (by simp [results, Tryd.results65, go_sem]) rfl hfin.out
end Go.Proofs.YtgkbaenjniapiaaDoor
