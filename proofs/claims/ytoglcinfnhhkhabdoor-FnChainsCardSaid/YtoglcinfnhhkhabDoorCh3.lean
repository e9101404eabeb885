/- The program's chainOf. -/
import Derived.Test.YtoglcinfnhhkhabDoorCh2
import Derived.Test.YtoglcinfnhhkhabDoorCp3
import Derived.Test.YtoglcinfnhhkhabDoorLawsH
import Derived.Test.YtoglcinfnhhkhabDoorRl
namespace Go.Proofs.YtoglcinfnhhkhabDoor
open Go.ChangeShapes Go.WideShapes Go.ChangeAt Go.RowKit Go.Shelf
attribute [local go_sem] Oper.semAt_some

theorem keeps_drew {B : Nat} {W W' : World} (h : KeepsFrom B W W') : KeepsFrom B W W'.drew := ⟨h.size, h.same⟩
theorem JC.drew {B : Nat} {w : World} {x : Int} {b0 l : Nat} {q : Int} {pre : List (PtOf q)} {W : World} (h : JC B w x b0 l pre W) : JC B w x b0 l pre W.drew := JC.kept (W' := W.drew) h (fun _ _ _ h => h) (Below.refl B W).drew
theorem last_bd {q : Int} : ∀ {ps : List (PtOf q)} {x : Int}, 0 ≤ x → x < 256 → 0 ≤ lastI x (vals ps) ∧ lastI x (vals ps) < 256
  | [], _, h1, h2 => ⟨h1, h2⟩
  | ⟨_, p1, p2, _⟩ :: ps, _, h1, h2 => by
    have := with_bd8 h1 h2 p1 p2
    exact last_bd (ps := ps) this.1 this.2
set_option maxRecDepth 100000 in
set_option maxHeartbeats 4000000 in
theorem chain_of (N : Nat) (s : Int) (w : World) (hT : Tab w) (h1 : 1 ≤ N) (h8 : N ≤ 8) (s1 : 0 ≤ s) (s2 : s < 256) :
    Calls Tryd.prog 13 #[.int .i64 (N : Nat), .int .u64 s] w fun e w' => ∃ p, e = .returned p ∧ LinkV w' (chnL N s) p ∧ Below w.heap.size w w' := by
  have hpart := Lib.hid (partners_at N s w h1 h8 s1 s2)
  have hlt := hT.lt
  have n1 : (1 : Int) ≤ (N : Nat) := by omega
  have n8 : (N : Int) ≤ 8 := by omega
  refine (callsIn_wide (n := 10)).1 ?_
  refine callsIn_of_wp_marks Tryd.func13 rfl trivial ?_ rfl
  simp only [Tryd.ntmps13, List.size_toArray, List.length_cons, List.length_nil, Nat.reduceAdd, Nat.reduceSub, Array.replicate_succ, Array.replicate_zero, List.push_toArray, List.append_toArray, List.nil_append, List.cons_append]
  gi_wp2_with (first | (refine ⟨trivial, ?_⟩; gi_at_call 23; refine (callsIn_wide.2 hpart.out).mono ?_; rintro e w1 ⟨v, rfl, hO, hb1⟩; obtain ⟨pa, pc, rfl⟩ := hO.form))
  have hPl := pr_len s N N
  obtain ⟨P, hP⟩ : ∃ P, pairL s N N = P := ⟨_, rfl⟩
  rw [hP] at hO hPl ⊢
  obtain ⟨ra, rc, hre, hrow⟩ := hO.own.row
  cases hre
  rw [hPl] at hrow ⊢
  have hzw := hb1.size
  have hchn : lkI (cutI s P N).1 (ptsI (cutI s P N).2) = chnL N s := by unfold chnL; rw [hP]
  replace hP := Lib.hid hP
  replace hO := Lib.hid hO
  replace hrow := Lib.hid hrow
  replace hchn := Lib.hid hchn
  replace hT := Lib.hid (hT.below hb1 hlt)
  replace hb1 := Lib.hid hb1
  gi_loopw [5, 6, 16] (fun a b i wr => wr = w1 ∧ ∃ k : Nat, k ≤ N ∧ i = .int .i64 (k : Nat) ∧ a = .int .u64 (cutI s P k).1 ∧ b = .int .u64 (cutI s P k).2) (fun _ _ i _ => N - (intOf i).toNat)
  case atStart => exact ⟨rfl, 0, by omega, rfl, rfl, rfl⟩
  case round =>
    obtain ⟨rfl, k, hk, rfl, rfl, rfl⟩ := hrel
    obtain ⟨⟨a1, a2⟩, b1, b2⟩ := cut_bd s P k (by omega)
    by_cases hkN : k < N
    · obtain ⟨g, off, rfl, hg1, hgc⟩ := hrow.out (by omega)
      have k1 : (0 : Int) ≤ (k : Int) := by omega
      have k2 : (k : Int) < (N : Nat) := by omega
      have k7 : (k : Int) ≤ 7 := by omega
      have e1 := hgc k (by omega)
      have hst : cutI s P (k + 1) = if P.getD k 0 < 0 then ((cutI s P k).1, withI (cutI s P k).2 (k : Nat)) else if hasB s (k : Nat) then (withI (cutI s P k).1 (k : Nat), (cutI s P k).2) else cutI s P k := rfl
      obtain ⟨y, hy⟩ : ∃ y, P.getD k 0 = y := ⟨_, rfl⟩
      obtain ⟨cc, hcc⟩ : ∃ cc, cutI s P k = cc := ⟨_, rfl⟩
      obtain ⟨ca, cb⟩ := cc
      rw [hy] at e1 hst
      rw [hcc] at hst a1 a2 b1 b2 ⊢
      dsimp only at a1 a2 b1 b2 hst ⊢
      have hwa := Lib.hid (fun W => set_with ca (k : Nat) a1 a2 k1 k7 W)
      have hwb := Lib.hid (fun W => set_with cb (k : Nat) b1 b2 k1 k7 W)
      have hhas := fun W => set_has s (k : Nat) s1 s2 k1 k7 W
      obtain ⟨hb, hhb⟩ : ∃ b, hasB s (k : Nat) = b := ⟨_, rfl⟩
      rw [hhb] at hhas hst
      replace hhas := Lib.hid hhas
      replace hhb := Lib.hid hhb
      replace hy := Lib.hid hy
      replace hcc := Lib.hid hcc
      clear hgc
      by_cases hneg : y < 0
      · rw [if_pos hneg] at hst
        replace hst := Lib.hid hst
        gi_wp2_with (first | (refine ⟨trivial, ?_⟩; gi_at_call 24; (with_reducible refine (callsIn_wide.2 (hwb.out _)).mono ?_); rintro e w' ⟨rfl, rfl⟩))
        go_roundw
        case rel => exact ⟨trivial, k + 1, by omega, by first | rfl | go_num, by rw [hst.out], by rw [hst.out]⟩
        case measure => simp [intOf]; omega
      · rw [if_neg hneg] at hst
        rcases (by cases hb <;> simp : hb = true ∨ hb = false) with rfl | rfl
        · rw [if_pos rfl] at hst
          replace hst := Lib.hid hst
          gi_wp2_with (first | (refine ⟨trivial, ?_⟩; gi_at_call 25; refine (callsIn_wide.2 (hhas.out _)).mono ?_; rintro e w' ⟨rfl, rfl⟩) | (refine ⟨trivial, ?_⟩; gi_at_call 24; (with_reducible refine (callsIn_wide.2 (hwa.out _)).mono ?_); rintro e w' ⟨rfl, rfl⟩))
          go_roundw
          case rel => exact ⟨trivial, k + 1, by omega, by first | rfl | go_num, by rw [hst.out], by rw [hst.out]⟩
          case measure => simp [intOf]; omega
        · rw [if_neg (by simp)] at hst
          replace hst := Lib.hid hst
          gi_wp2_with (first | (refine ⟨trivial, ?_⟩; gi_at_call 25; refine (callsIn_wide.2 (hhas.out _)).mono ?_; rintro e w' ⟨rfl, rfl⟩))
          go_roundw
          case rel => exact ⟨trivial, k + 1, by omega, by first | rfl | go_num, by rw [hst.out], by rw [hst.out]⟩
          case measure => simp [intOf]; omega
    · obtain rfl : k = N := by omega
      obtain ⟨cc, hcc⟩ : ∃ cc, cutI s P k = cc := ⟨_, rfl⟩
      obtain ⟨ca, cb⟩ := cc
      rw [hcc] at hchn a1 a2 b1 b2 ⊢
      dsimp only at a1 a2 b1 b2 hchn ⊢
      replace hcc := Lib.hid hcc
      gi_wp2_with (first | (refine ⟨trivial, ?_⟩; gi_at_call 26; refine (pts_make _ _).mono ?_; rintro e w' ⟨rfl, rfl⟩))
      have hzz := hzw
      have hW0 : Below w.heap.size w (((wr.alloc (.cells #[.int .u64 ca, .pointer none] 46)).alloc (.cells #[.pointer (some ⟨wr.heap.size, 0, none⟩)] 43)).alloc (.cells #[.int .u64 cb] 42)) :=
        ((hb1.out.alloc hzw _).alloc (by simp; omega) _).alloc (by simp; omega) _
      have bL : ((wr.alloc (.cells #[.int .u64 ca, .pointer none] 46)).alloc (.cells #[.pointer (some ⟨wr.heap.size, 0, none⟩)] 43)).heap[wr.heap.size]? = some (.cells #[.int .u64 ca, .pointer none] 46 (0, 0)) := by
        rw [Below.heap_alloc _ _ _ (by simp)]; exact heap_alloc_new wr _
      have bO := heap_alloc_new (wr.alloc (.cells #[.int .u64 ca, .pointer none] 46)) (.cells #[.pointer (some ⟨wr.heap.size, 0, none⟩)] 43)
      have bN := Boxed.new ((wr.alloc (.cells #[.int .u64 ca, .pointer none] 46)).alloc (.cells #[.pointer (some ⟨wr.heap.size, 0, none⟩)] 43)) 42 (.int .u64 cb)
      simp only [World.size_alloc] at bO bN
      refine wpIn_rangeFunc_ownG rfl (by omega) (gf := 36) (lb := #[.pointer (some ⟨wr.heap.size + 1 + 1, 0, none⟩)]) rfl trivial (enters_of Tryd.func36 (by kernel_rfl) rfl)
        (pts_stops _ (by omega) (wr.heap.size + 1 + 1) w.heap.size cb b1 b2 _ (by simp) bN.cell (hT.out.below (((Below.refl wr.heap.size wr).alloc (Nat.le_refl _) _ |>.alloc (by simp) _).alloc (by simp; omega) _) (by omega)) hlt) belowK_t (belowK_b (by simp; omega)) (Below.refl _ _) (fun _ => rfl)
        (fun (pre : List (PtOf cb)) W => JC w.heap.size w ca wr.heap.size (wr.heap.size + 1) pre W)
        (fun _ _ _ => False)
        (JC.own (Nat.le_refl _) (by simp; omega))
        (fun _ _ _ _ _ hs _ _ => hs)
        ⟨[], wr.heap.size, ⟨(Below.heap_alloc _ _ _ (by simp; omega)).trans bL, trivial⟩, rfl, rfl, by simp, by simp, hzw, (Below.heap_alloc _ _ _ (by simp)).trans bO, hW0⟩
        (fun x => { tmps := #[.int .i64 (k : Nat), .int .u64 s, undef, undef, .pointer none, .int .u64 ca, .int .u64 cb, u7, u8, .pointer (some ⟨wr.heap.size, 0, none⟩), .pointer (some ⟨wr.heap.size + 1, 0, none⟩), .int .i64 x.1, .int .i64 (k : Nat), .int .u64 s, .slice pa k pc, .int .i64 (k : Nat), .int .i64 (k : Nat), .bool false, u18, u19, u20, u21, u22, u23, u24, u25, u26, u27, u28, u29, u30, u31, u32, .int .u64 ca, .agg #[.int .u64 ca, .pointer none], .pointer (some ⟨wr.heap.size, 0, none⟩), .pointer (some ⟨wr.heap.size, 0, none⟩), .int .u64 cb, .func (.func 36) #[] #[.pointer (some ⟨wr.heap.size + 1 + 1, 0, none⟩)], .int .i64 x.1, undef, undef, undef, undef, undef, undef, undef, undef, undef, undef, undef, undef, undef, undef, undef, undef], defers := [] }) ?assign ?body ?done ?stop
      case assign =>
        intro l x W K hK
        gi_wp2
        exact hK
      case body =>
        rintro l pre ⟨p, p1, p2, p3⟩ W ⟨zs, b, q1, q2, q3, q4, q5, q6, q7, q8⟩ hlen2
        have hsx := last_bd (ps := pre) a1 a2
        obtain ⟨sx, hsx0⟩ : ∃ sx, lastI ca (vals pre) = sx := ⟨_, rfl⟩
        have hstep := JC.step (D := (((wr.alloc (.cells #[.int .u64 ca, .pointer none] 46)).alloc (.cells #[.pointer (some ⟨wr.heap.size, 0, none⟩)] 43)).alloc (.cells #[.int .u64 cb] 42)).heap.size) (p := ⟨p, p1, p2, p3⟩) q1 q2 q3 q4 q5 q6 q7 q8 (Nat.le_refl _) (by omega) _ rfl
        have hb := LB.last q1
        rw [hsx0] at hb hsx hstep
        dsimp only at hstep
        obtain ⟨t, ht⟩ : ∃ t, withI sx p = t := ⟨_, rfl⟩
        have hwi := fun W => set_with sx p hsx.1 hsx.2 p1 p2 W
        rw [ht] at hwi hstep
        replace hwi := Lib.hid hwi
        obtain ⟨c0, c1⟩ := link_cells hb
        have c2 : W.cell? ⟨wr.heap.size + 1, 0, none⟩ = some (.pointer (some ⟨b, 0, none⟩)) := by rw [cell_of_row W _ 0 _ 43 (0, 0) q7]; rfl
        have c3 : (W.alloc (.cells #[.int .u64 t, .pointer none] 46)).cell? ⟨wr.heap.size + 1, 0, none⟩ = some (.pointer (some ⟨b, 0, none⟩)) := by rw [cell_of_row _ _ 0 _ 43 (0, 0) ((Below.heap_alloc _ _ _ (Array.getElem?_eq_some_iff.1 q7).1).trans q7)]; rfl
        have hbl : b ≠ wr.heap.size + 1 := fun e => by rw [e, q7] at hb; injection hb with hb; injection hb with _ hb; exact absurd hb (by decide)
        have hbs : b < W.heap.size := (Array.getElem?_eq_some_iff.1 hb).1
        have g1 := (Below.heap_alloc W (.cells #[.int .u64 t, .pointer none] 46) _ hbs).trans hb
        have g2 := (Below.heap_alloc W (.cells #[.int .u64 t, .pointer none] 46) _ (Array.getElem?_eq_some_iff.1 q7).1).trans q7
        obtain ⟨-, c4⟩ := link_cells g1
        have f4 : (W.alloc (.cells #[.int .u64 t, .pointer none] 46)).frozen? ⟨b, 1, none⟩ = false := by simp [World.frozen?, g1]
        have g3 := heap_setCell_same _ b 1 _ 46 (.pointer (some ⟨W.heap.size, 0, none⟩)) g1
        have c6 : ((W.alloc (.cells #[.int .u64 t, .pointer none] 46)).setCell ⟨b, 1, none⟩ (.pointer (some ⟨W.heap.size, 0, none⟩))).cell? ⟨b, 1, none⟩ = some (.pointer (some ⟨W.heap.size, 0, none⟩)) := by rw [cell_of_row _ b 1 _ 46 (0, 0) g3]; rfl
        have g4 : ((W.alloc (.cells #[.int .u64 t, .pointer none] 46)).setCell ⟨b, 1, none⟩ (.pointer (some ⟨W.heap.size, 0, none⟩))).heap[wr.heap.size + 1]? = some (.cells #[.pointer (some ⟨b, 0, none⟩)] 43 (0, 0)) := (Below.heap_setCell _ _ _ _ (by exact fun e => hbl e.symm)).trans g2
        have c5 : ((W.alloc (.cells #[.int .u64 t, .pointer none] 46)).setCell ⟨b, 1, none⟩ (.pointer (some ⟨W.heap.size, 0, none⟩))).cell? ⟨wr.heap.size + 1, 0, none⟩ = some (.pointer (some ⟨b, 0, none⟩)) := by rw [cell_of_row _ _ 0 _ 43 (0, 0) g4]; rfl
        have f5 : ((W.alloc (.cells #[.int .u64 t, .pointer none] 46)).setCell ⟨b, 1, none⟩ (.pointer (some ⟨W.heap.size, 0, none⟩))).frozen? ⟨wr.heap.size + 1, 0, none⟩ = false := by simp [World.frozen?, g4]
        have hcm := World.setCell_alloc_past (w := W) (.cells #[.int .u64 t, .pointer none] 46) b 1 (.pointer (some ⟨W.heap.size, 0, none⟩)) hbs
        have hcm2 := World.setCell_alloc_past (w := W.setCell ⟨b, 1, none⟩ (.pointer (some ⟨W.heap.size, 0, none⟩))) (.cells #[.int .u64 t, .pointer none] 46) (wr.heap.size + 1) 0 (.pointer (some ⟨W.heap.size, 0, none⟩)) (by rw [World.size_setCell]; exact (Array.getElem?_eq_some_iff.1 q7).1)
        rw [hcm] at c5 c6 f5 hstep
        rw [hcm2] at hstep
        have hfin := And.intro (keeps_drew hstep.1) (And.intro hstep.2.1.drew hstep.2.2.drew)
        clear g1 g2 g3 g4
        clear hstep
        replace hfin := Lib.hid hfin
        gi_wp2
        refine region_lift (by kernel_rfl) (fun ⟨_, _, h⟩ => h) (no_defer (by kernel_rfl)) ?_
        change wpAny _ _ _ _ _ _ _ W.drew
        refine wpAny_take (i := 5) rfl (by kernel_rfl) (by kernel_rfl) (by kernel_rfl) (fun _ _ _ h => h) (Or.inl ⟨by rfl, fun w => by go_simp <;> rfl⟩) ?_
        refine wpAny_ready (rs := [0, 1]) (by kernel_rfl) (by simp) ?_
        refine AllReady.cons rfl (fun K hK => ?_) ?_
        · go_simp
          refine hK _ _ ?_
          clear hK K
          refine wpAny_ready (rs := [1]) (by kernel_rfl) (by simp) ?_
          refine AllReady.cons rfl (fun K hK => ?_) ?_
          · go_simp
            refine hK _ _ ?_
            clear hK K
            refine wpAny_take (i := 2) rfl (by kernel_rfl) (by kernel_rfl) (by kernel_rfl) (fun _ _ _ h => h) (Or.inl ⟨by rfl, fun w => by go_simp <;> rfl⟩) ?_
            refine wpAny_take (i := 3) rfl (by kernel_rfl) (by kernel_rfl) (by kernel_rfl) (fun _ _ _ h => h) (Or.inl ⟨by rfl, fun w => by go_simp <;> rfl⟩) ?_
            refine wpAny_ready (rs := [4]) (by kernel_rfl) (by simp) ?_
            refine AllReady.cons rfl (fun K hK => ?_) ?_
            · go_simp
              refine hK _ _ ?_
              clear hK K
              refine wpAny_ready (rs := [6]) (by kernel_rfl) (by simp) ?_
              refine AllReady.cons rfl (fun K hK => ?_) ?_
              · go_simp
                refine (hwi.out _).mono ?_; rintro e w' ⟨rfl, rfl⟩; dsimp only
                refine hK _ _ ?_
                clear hK K
                refine wpAny_take (i := 7) rfl (by kernel_rfl) (by kernel_rfl) (by kernel_rfl) (fun _ _ _ h => h) (Or.inl ⟨by rfl, fun w => by go_simp <;> rfl⟩) ?_
                refine wpAny_ready (rs := [8]) (by kernel_rfl) (by simp) ?_
                refine AllReady.cons rfl (fun K hK => ?_) ?_
                · go_simp
                  refine hK _ _ ?_
                  clear hK K
                  refine wpAny_of_seq _ 9 _ _ _ (fun j => by match j with | 0 => rfl | 1 => rfl | 2 => rfl | j + 3 => exact (Array.getElem?_eq_none (by simp; omega)).symm) (by kernel_rfl) ?_
                  go_wp2_with fail
                  gi_wp2
                  exact hfin.out
                exact AllReady.nil
              exact AllReady.nil
            exact AllReady.nil
          exact AllReady.nil
        refine AllReady.cons rfl (fun K hK => ?_) ?_
        · go_simp
          refine hK _ _ ?_
          clear hK K
          refine wpAny_take (i := 2) rfl (by kernel_rfl) (by kernel_rfl) (by kernel_rfl) (fun _ _ _ h => h) (Or.inl ⟨by rfl, fun w => by go_simp <;> rfl⟩) ?_
          refine wpAny_take (i := 3) rfl (by kernel_rfl) (by kernel_rfl) (by kernel_rfl) (fun _ _ _ h => h) (Or.inl ⟨by rfl, fun w => by go_simp <;> rfl⟩) ?_
          refine wpAny_ready (rs := [0, 4]) (by kernel_rfl) (by simp) ?_
          refine AllReady.cons rfl (fun K hK => ?_) ?_
          · go_simp
            refine hK _ _ ?_
            clear hK K
            refine wpAny_ready (rs := [4]) (by kernel_rfl) (by simp) ?_
            refine AllReady.cons rfl (fun K hK => ?_) ?_
            · go_simp
              refine hK _ _ ?_
              clear hK K
              refine wpAny_ready (rs := [6]) (by kernel_rfl) (by simp) ?_
              refine AllReady.cons rfl (fun K hK => ?_) ?_
              · go_simp
                refine (hwi.out _).mono ?_; rintro e w' ⟨rfl, rfl⟩; dsimp only
                refine hK _ _ ?_
                clear hK K
                refine wpAny_take (i := 7) rfl (by kernel_rfl) (by kernel_rfl) (by kernel_rfl) (fun _ _ _ h => h) (Or.inl ⟨by rfl, fun w => by go_simp <;> rfl⟩) ?_
                refine wpAny_ready (rs := [8]) (by kernel_rfl) (by simp) ?_
                refine AllReady.cons rfl (fun K hK => ?_) ?_
                · go_simp
                  refine hK _ _ ?_
                  clear hK K
                  refine wpAny_of_seq _ 9 _ _ _ (fun j => by match j with | 0 => rfl | 1 => rfl | 2 => rfl | j + 3 => exact (Array.getElem?_eq_none (by simp; omega)).symm) (by kernel_rfl) ?_
                  go_wp2_with fail
                  gi_wp2
                  exact hfin.out
                exact AllReady.nil
              exact AllReady.nil
            exact AllReady.nil
          refine AllReady.cons rfl (fun K hK => ?_) ?_
          · go_simp
            refine hK _ _ ?_
            clear hK K
            refine wpAny_ready (rs := [0, 6]) (by kernel_rfl) (by simp) ?_
            refine AllReady.cons rfl (fun K hK => ?_) ?_
            · go_simp
              refine hK _ _ ?_
              clear hK K
              refine wpAny_ready (rs := [6]) (by kernel_rfl) (by simp) ?_
              refine AllReady.cons rfl (fun K hK => ?_) ?_
              · go_simp
                refine (hwi.out _).mono ?_; rintro e w' ⟨rfl, rfl⟩; dsimp only
                refine hK _ _ ?_
                clear hK K
                refine wpAny_take (i := 7) rfl (by kernel_rfl) (by kernel_rfl) (by kernel_rfl) (fun _ _ _ h => h) (Or.inl ⟨by rfl, fun w => by go_simp <;> rfl⟩) ?_
                refine wpAny_ready (rs := [8]) (by kernel_rfl) (by simp) ?_
                refine AllReady.cons rfl (fun K hK => ?_) ?_
                · go_simp
                  refine hK _ _ ?_
                  clear hK K
                  refine wpAny_of_seq _ 9 _ _ _ (fun j => by match j with | 0 => rfl | 1 => rfl | 2 => rfl | j + 3 => exact (Array.getElem?_eq_none (by simp; omega)).symm) (by kernel_rfl) ?_
                  go_wp2_with fail
                  gi_wp2
                  exact hfin.out
                exact AllReady.nil
              exact AllReady.nil
            refine AllReady.cons rfl (fun K hK => ?_) ?_
            · go_simp
              refine (hwi.out _).mono ?_; rintro e w' ⟨rfl, rfl⟩; dsimp only
              refine hK _ _ ?_
              clear hK K
              refine wpAny_take (i := 7) rfl (by kernel_rfl) (by kernel_rfl) (by kernel_rfl) (fun _ _ _ h => h) (Or.inl ⟨by rfl, fun w => by go_simp <;> rfl⟩) ?_
              refine wpAny_ready (rs := [0, 8]) (by kernel_rfl) (by simp) ?_
              refine AllReady.cons rfl (fun K hK => ?_) ?_
              · go_simp
                refine hK _ _ ?_
                clear hK K
                refine wpAny_ready (rs := [8]) (by kernel_rfl) (by simp) ?_
                refine AllReady.cons rfl (fun K hK => ?_) ?_
                · go_simp
                  refine hK _ _ ?_
                  clear hK K
                  refine wpAny_of_seq _ 9 _ _ _ (fun j => by match j with | 0 => rfl | 1 => rfl | 2 => rfl | j + 3 => exact (Array.getElem?_eq_none (by simp; omega)).symm) (by kernel_rfl) ?_
                  go_wp2_with fail
                  gi_wp2
                  exact hfin.out
                exact AllReady.nil
              refine AllReady.cons rfl (fun K hK => ?_) ?_
              · go_simp
                refine hK _ _ ?_
                clear hK K
                refine wpAny_ready (rs := [0]) (by kernel_rfl) (by simp) ?_
                refine AllReady.cons rfl (fun K hK => ?_) ?_
                · go_simp
                  refine hK _ _ ?_
                  clear hK K
                  refine wpAny_of_seq _ 9 _ _ _ (fun j => by match j with | 0 => rfl | 1 => rfl | 2 => rfl | j + 3 => exact (Array.getElem?_eq_none (by simp; omega)).symm) (by kernel_rfl) ?_
                  go_wp2_with fail
                  gi_wp2
                  exact hfin.out
                exact AllReady.nil
              exact AllReady.nil
            exact AllReady.nil
          exact AllReady.nil
        exact AllReady.nil
      case done =>
        rintro D ys W hD hys hJ hK
        obtain ⟨zs, b, q1, q2, q3, q4, q5, q6, q7, q8⟩ := hJ
        gi_wp2
        refine ⟨by simp, .inl ⟨_, _, rfl, run_takeDeferred hK, ?_⟩⟩
        have hlk := LB.link q1
        rw [q2, q3, hys, hchn.out] at hlk
        refine ⟨_, results_tmp rfl _ _ _, _, rfl, hlk.kept (fun c cs hc => ?_), q8.trans (belowK_b (w := w) (Nat.le_refl _) W D _ _ (by simp at hD; omega) hK rfl rfl)⟩
        rw [World.putObj_heap_other (fun e => by subst e; rw [hK] at hc; cases hc)]
        exact hc
      case stop =>
        rintro D c pre W _ _ h _
        exact h.elim
end Go.Proofs.YtoglcinfnhhkhabDoor
