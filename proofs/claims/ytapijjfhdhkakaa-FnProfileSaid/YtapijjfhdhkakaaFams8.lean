/- What the program makes of one family with a function of its own. -/
import Derived.Test.YtapijjfhdhkakaaFams7
import Derived.Test.YtapijjfhdhkakaaLawsB
import Derived.Test.YtapijjfhdhkakaaBits
namespace Go.Proofs.Ytapijjfhdhkakaa
open Go.ChangeShapes Go.WideShapes Go.ChangeAt Go.RowKit Go.Proofs

theorem mkfunc (fn : Fn) (first cap : Array Value) (w : World) : (Instr.makeFunc fn first cap).run Try.prog w = .ok (.func fn first cap) w := rfl
theorem fam_len {n : Int} {xs : List Int} (h : famB n xs = true) : xs.length ≤ 100000 := by have := famB_len h; omega

theorem other_clo (n : Int) (Bn : Nat) (xs : List Int) (w : World) (hB : Bn < w.heap.size) (hc : w.cell? ⟨Bn, 0, none⟩ = some (.int .i64 n)) (hf : famB n xs = true) :
    MapV 86 #[] #[.pointer (some ⟨Bn, 0, none⟩)] (otherI n) xs w := fun W x hx hb => by
  have hcW : W.cell? ⟨Bn, 0, none⟩ = some (.int .i64 n) := (hb.cell (p := ⟨Bn, 0, none⟩) hB).trans hc
  have hs := (famB_all hf).2.2 x hx
  obtain ⟨n1, n2, s1, s2⟩ := setB_yes hs
  have ho := other_u64 n1 n2 s1 s2
  have hall := Lib.hid (all_pts n n1 n2)
  obtain ⟨r, hr⟩ : ∃ r, otherI n x = r := ⟨_, rfl⟩
  rw [hr] at ho ⊢
  replace hr := Lib.hid hr
  replace hx := Lib.hid hx
  replace hs := Lib.hid hs
  show Calls Try.prog 86 #[.int .u64 x, .pointer (some ⟨Bn, 0, none⟩)] W _
  go_enter Try.func86, Try.ntmps86
  go_wp2_with (go_at_call 87; refine (hall.out _).mono ?_; rintro e w' ⟨rfl, rfl⟩)
  go_ret
  exact ⟨rfl, Below.refl _ _⟩
theorem trace_clo (n s : Int) (Bn : Nat) (xs : List Int) (w : World) (hB : Bn < w.heap.size) (hc : w.cell? ⟨Bn, 0, none⟩ = some (.int .i64 s)) (hs0 : setB n s = true) (hf : famB n xs = true) :
    MapV 106 #[] #[.pointer (some ⟨Bn, 0, none⟩)] (fun x => andI x s) xs w := fun W x hx hb => by
  have hcW : W.cell? ⟨Bn, 0, none⟩ = some (.int .i64 s) := (hb.cell (p := ⟨Bn, 0, none⟩) hB).trans hc
  obtain ⟨x1, x2⟩ := famB_lt hf x hx
  obtain ⟨s1, s2⟩ := setB_lt hs0
  have ho := u64_andI x1 x2 s1 s2
  obtain ⟨r, hr⟩ : ∃ r, andI x s = r := ⟨_, rfl⟩
  rw [hr] at ho
  replace hr := Lib.hid hr
  replace hx := Lib.hid hx
  replace hs0 := Lib.hid hs0
  replace hf := Lib.hid hf
  show Calls Try.prog 106 #[.int .u64 x, .pointer (some ⟨Bn, 0, none⟩)] W fun e w' => e = .returned (.int .u64 (andI x s)) ∧ Below W.heap.size W w'
  rw [hr.out]
  go_enter Try.func106, Try.ntmps106
  go_wp2
  go_ret
  exact ⟨rfl, Below.refl _ _⟩
theorem without_clo (n p : Int) (Bn : Nat) (xs : List Int) (w : World) (hB : Bn < w.heap.size) (hc : w.cell? ⟨Bn, 0, none⟩ = some (.int .i64 p)) (p1 : 0 ≤ p) (p2 : p ≤ 7) (hf : famB n xs = true) :
    PredV 103 #[] #[.pointer (some ⟨Bn, 0, none⟩)] (fun x => !hasB x p) xs w := fun W x hx hb => by
  have hcW : W.cell? ⟨Bn, 0, none⟩ = some (.int .i64 p) := (hb.cell (p := ⟨Bn, 0, none⟩) hB).trans hc
  obtain ⟨x1, x2⟩ := famB_lt hf x hx
  have hh := Lib.hid (set_has x p x1 x2 p1 p2)
  replace hx := Lib.hid hx
  replace hf := Lib.hid hf
  show Calls Try.prog 103 #[.int .u64 x, .pointer (some ⟨Bn, 0, none⟩)] W fun e w' => e = .returned (.bool (!hasB x p)) ∧ Below W.heap.size W w'
  obtain ⟨r, hr⟩ : ∃ r, hasB x p = r := ⟨_, rfl⟩
  rw [hr] at hh ⊢
  replace hr := Lib.hid hr
  go_enter Try.func103, Try.ntmps103
  go_wp2_with (go_at_call 98; refine (hh.out _).mono ?_; rintro e w' ⟨rfl, rfl⟩)
  go_ret
  exact ⟨rfl, Below.refl _ _⟩
theorem link_clo (n p : Int) (Bn : Nat) (xs : List Int) (w : World) (hB : Bn < w.heap.size) (hc : w.cell? ⟨Bn, 0, none⟩ = some (.int .i64 p)) (p1 : 0 ≤ p) (p2 : p ≤ 7) (hf : famB n xs = true) :
    PredV 97 #[] #[.pointer (some ⟨Bn, 0, none⟩)] (fun x => hasB x p) xs w := fun W x hx hb => by
  have hcW : W.cell? ⟨Bn, 0, none⟩ = some (.int .i64 p) := (hb.cell (p := ⟨Bn, 0, none⟩) hB).trans hc
  obtain ⟨x1, x2⟩ := famB_lt hf x hx
  have hh := Lib.hid (set_has x p x1 x2 p1 p2)
  replace hx := Lib.hid hx
  replace hf := Lib.hid hf
  show Calls Try.prog 97 #[.int .u64 x, .pointer (some ⟨Bn, 0, none⟩)] W fun e w' => e = .returned (.bool (hasB x p)) ∧ Below W.heap.size W w'
  obtain ⟨r, hr⟩ : ∃ r, hasB x p = r := ⟨_, rfl⟩
  rw [hr] at hh ⊢
  replace hr := Lib.hid hr
  go_enter Try.func97, Try.ntmps97
  go_wp2_with (go_at_call 98; refine (hh.out _).mono ?_; rintro e w' ⟨rfl, rfl⟩)
  go_ret
  exact ⟨rfl, Below.refl _ _⟩
theorem link_clo2 (n p : Int) (Bn : Nat) (xs : List Int) (w : World) (hB : Bn < w.heap.size) (hc : w.cell? ⟨Bn, 0, none⟩ = some (.int .i64 p)) (p1 : 0 ≤ p) (p2 : p ≤ 7) (hf : ∀ z ∈ xs, setB n z = true) :
    MapV 99 #[] #[.pointer (some ⟨Bn, 0, none⟩)] (fun x => lessI x p) xs w := fun W x hx hb => by
  have hcW : W.cell? ⟨Bn, 0, none⟩ = some (.int .i64 p) := (hb.cell (p := ⟨Bn, 0, none⟩) hB).trans hc
  obtain ⟨x1, x2⟩ := setB_lt (hf x hx)
  have hh := Lib.hid (set_without x p x1 x2 p1 p2)
  replace hx := Lib.hid hx
  replace hf := Lib.hid hf
  show Calls Try.prog 99 #[.int .u64 x, .pointer (some ⟨Bn, 0, none⟩)] W fun e w' => e = .returned (.int .u64 (lessI x p)) ∧ Below W.heap.size W w'
  obtain ⟨r, hr⟩ : ∃ r, lessI x p = r := ⟨_, rfl⟩
  rw [hr] at hh ⊢
  replace hr := Lib.hid hr
  go_enter Try.func99, Try.ntmps99
  go_wp2_with (go_at_call 100; refine (hh.out _).mono ?_; rintro e w' ⟨rfl, rfl⟩)
  go_ret
  exact ⟨rfl, Below.refl _ _⟩

set_option maxHeartbeats 1000000 in
theorem other_fam (n  : Int) (Bn : Nat) (xs : List Int) (w : World) (hB : Bn < w.heap.size) (hc : w.cell? ⟨Bn, 0, none⟩ = some (.int .i64 n))  (hf : famB n xs = true) :
    FamMap 84 #[.pointer (some ⟨Bn, 0, none⟩)] xs (sortL (xs.map (otherI n))) w := fun W lv hb hx => by
  have hBW : Bn < W.heap.size := by have := hb.size; omega
  have hcW : W.cell? ⟨Bn, 0, none⟩ = some (.int .i64 n) := (hb.cell (p := ⟨Bn, 0, none⟩) hB).trans hc
  have hmf := mkfunc
  obtain ⟨a, cap, rfl, _⟩ := id hx
  have hbw := ((Below.refl W.heap.size W).alloc (Nat.le_refl _) (.cells #[.slice a xs.length cap, (Value.func (.func 127) #[] #[])] 46)).alloc (by simp) (.cells #[.slice none 0 0, .nilFunc] 46)
  have hk := Lib.hid (changed_any 86 (enters_of Try.func86 (by kernel_rfl) rfl) #[] #[.pointer (some ⟨Bn, 0, none⟩)] (otherI n) _ xs _ _ (hx.below hbw (Nat.le_refl _)) (by simp; omega) (fam_len hf) (fun z hz => setB_lt (other_set ((famB_all hf).2.2 z hz)))
    (other_clo n Bn xs _ (by simp; omega) ((hbw.cell (p := ⟨Bn, 0, none⟩) hBW).trans hcW) hf))
  replace hbw := Lib.hid hbw
  replace hf := Lib.hid hf
  clear hx hcW hc hb
  show Calls Try.prog 84 #[.agg #[.slice a xs.length cap, (Value.func (.func 127) #[] #[])], .pointer (some ⟨Bn, 0, none⟩)] W _
  go_enter Try.func84, Try.ntmps84
  go_wp2_with fail
  refine hk.out.mono ?_
  rintro e w2 ⟨v, rfl, hS2, hb2⟩
  obtain ⟨a', c', rfl⟩ := hS2.form
  rw [World.size_alloc, World.size_alloc] at hS2 hb2
  obtain ⟨d0, d1, df0, df1⟩ := res_cells (new_cell1 W _ _ _) hb2
  have rr := two_cells (.slice a' (sortL (xs.map (otherI n))).length c') (Value.func (.func 127) #[] #[]) d0 d1
  have hff := Lib.hid (fam_fin hS2 (hbw.out.trans (hb2.mono (by omega))) (by omega))
  clear hS2 hb2 hk
  go_wp2_with fail
  exact bodyPost_ret (v := .agg #[.slice a' (sortL (xs.map (otherI n))).length c', (Value.func (.func 127) #[] #[])]) (by simp [results, Try.results84, go_sem, rr.1, rr.2]) rfl ⟨_, rfl, hff.out⟩

set_option maxHeartbeats 1000000 in
theorem trace_fam (n s : Int) (Bn : Nat) (xs : List Int) (w : World) (hB : Bn < w.heap.size) (hc : w.cell? ⟨Bn, 0, none⟩ = some (.int .i64 s)) (hs0 : setB n s = true) (hf : famB n xs = true) :
    FamMap 105 #[.pointer (some ⟨Bn, 0, none⟩)] xs (sortL (xs.map (fun x => andI x s))) w := fun W lv hb hx => by
  have hBW : Bn < W.heap.size := by have := hb.size; omega
  have hcW : W.cell? ⟨Bn, 0, none⟩ = some (.int .i64 s) := (hb.cell (p := ⟨Bn, 0, none⟩) hB).trans hc
  have hmf := mkfunc
  obtain ⟨a, cap, rfl, _⟩ := id hx
  have hbw := ((Below.refl W.heap.size W).alloc (Nat.le_refl _) (.cells #[.slice a xs.length cap, (Value.func (.func 127) #[] #[])] 46)).alloc (by simp) (.cells #[.slice none 0 0, .nilFunc] 46)
  have hk := Lib.hid (changed_any 106 (enters_of Try.func106 (by kernel_rfl) rfl) #[] #[.pointer (some ⟨Bn, 0, none⟩)] (fun x => andI x s) _ xs _ _ (hx.below hbw (Nat.le_refl _)) (by simp; omega) (fam_len hf) (fun z hz => setB_lt (andI_set ((famB_all hf).2.2 z hz) hs0))
    (trace_clo n s Bn xs _ (by simp; omega) ((hbw.cell (p := ⟨Bn, 0, none⟩) hBW).trans hcW) hs0 hf))
  replace hbw := Lib.hid hbw
  replace hf := Lib.hid hf
  replace hs0 := Lib.hid hs0
  clear hx hcW hc hb
  show Calls Try.prog 105 #[.agg #[.slice a xs.length cap, (Value.func (.func 127) #[] #[])], .pointer (some ⟨Bn, 0, none⟩)] W _
  go_enter Try.func105, Try.ntmps105
  go_wp2_with fail
  refine hk.out.mono ?_
  rintro e w2 ⟨v, rfl, hS2, hb2⟩
  obtain ⟨a', c', rfl⟩ := hS2.form
  rw [World.size_alloc, World.size_alloc] at hS2 hb2
  obtain ⟨d0, d1, df0, df1⟩ := res_cells (new_cell1 W _ _ _) hb2
  have rr := two_cells (.slice a' (sortL (xs.map (fun x => andI x s))).length c') (Value.func (.func 127) #[] #[]) d0 d1
  have hff := Lib.hid (fam_fin hS2 (hbw.out.trans (hb2.mono (by omega))) (by omega))
  clear hS2 hb2 hk
  go_wp2_with fail
  exact bodyPost_ret (v := .agg #[.slice a' (sortL (xs.map (fun x => andI x s))).length c', (Value.func (.func 127) #[] #[])]) (by simp [results, Try.results105, go_sem, rr.1, rr.2]) rfl ⟨_, rfl, hff.out⟩

set_option maxHeartbeats 1000000 in
theorem without_fam (n p : Int) (Bn : Nat) (xs : List Int) (w : World) (hB : Bn < w.heap.size) (hc : w.cell? ⟨Bn, 0, none⟩ = some (.int .i64 p)) (p1 : 0 ≤ p) (p2 : p ≤ 7) (hf : famB n xs = true) :
    FamMap 102 #[.pointer (some ⟨Bn, 0, none⟩)] xs (sortL (xs.filter (fun x => !hasB x p))) w := fun W lv hb hx => by
  have hBW : Bn < W.heap.size := by have := hb.size; omega
  have hcW : W.cell? ⟨Bn, 0, none⟩ = some (.int .i64 p) := (hb.cell (p := ⟨Bn, 0, none⟩) hB).trans hc
  have hmf := mkfunc
  obtain ⟨a, cap, rfl, _⟩ := id hx
  have hbw := ((Below.refl W.heap.size W).alloc (Nat.le_refl _) (.cells #[.slice a xs.length cap, (Value.func (.func 127) #[] #[])] 46)).alloc (by simp) (.cells #[.slice none 0 0, .nilFunc] 46)
  have hk := Lib.hid (kept_any 103 (enters_of Try.func103 (by kernel_rfl) rfl) #[] #[.pointer (some ⟨Bn, 0, none⟩)] (fun x => !hasB x p) _ xs _ _ (hx.below hbw (Nat.le_refl _)) (by simp; omega) (fam_len hf) (famB_lt hf)
    (without_clo n p Bn xs _ (by simp; omega) ((hbw.cell (p := ⟨Bn, 0, none⟩) hBW).trans hcW) p1 p2 hf))
  replace hbw := Lib.hid hbw
  replace hf := Lib.hid hf
  clear hx hcW hc hb
  show Calls Try.prog 102 #[.agg #[.slice a xs.length cap, (Value.func (.func 127) #[] #[])], .pointer (some ⟨Bn, 0, none⟩)] W _
  go_enter Try.func102, Try.ntmps102
  go_wp2_with fail
  refine hk.out.mono ?_
  rintro e w2 ⟨v, rfl, hS2, hb2⟩
  obtain ⟨a', c', rfl⟩ := hS2.form
  rw [World.size_alloc, World.size_alloc] at hS2 hb2
  obtain ⟨d0, d1, df0, df1⟩ := res_cells (new_cell1 W _ _ _) hb2
  have rr := two_cells (.slice a' (sortL (xs.filter (fun x => !hasB x p))).length c') (Value.func (.func 127) #[] #[]) d0 d1
  have hff := Lib.hid (fam_fin hS2 (hbw.out.trans (hb2.mono (by omega))) (by omega))
  clear hS2 hb2 hk
  go_wp2_with fail
  exact bodyPost_ret (v := .agg #[.slice a' (sortL (xs.filter (fun x => !hasB x p))).length c', (Value.func (.func 127) #[] #[])]) (by simp [results, Try.results102, go_sem, rr.1, rr.2]) rfl ⟨_, rfl, hff.out⟩

set_option maxHeartbeats 2000000 in
theorem link_fam (n p : Int) (Bn : Nat) (xs : List Int) (w : World) (hB : Bn < w.heap.size) (hc : w.cell? ⟨Bn, 0, none⟩ = some (.int .i64 p)) (p1 : 0 ≤ p) (p2 : p ≤ 7) (hf : famB n xs = true) :
    FamMap 95 #[.pointer (some ⟨Bn, 0, none⟩)] xs (sortL ((sortL (xs.filter (fun x => hasB x p))).map (fun x => lessI x p))) w := fun W lv hb hx => by
  have hBW : Bn < W.heap.size := by have := hb.size; omega
  have hcW : W.cell? ⟨Bn, 0, none⟩ = some (.int .i64 p) := (hb.cell (p := ⟨Bn, 0, none⟩) hB).trans hc
  have hmf := mkfunc
  obtain ⟨a, cap, rfl, _⟩ := id hx
  have hbw := ((Below.refl W.heap.size W).alloc (Nat.le_refl _) (.cells #[.slice a xs.length cap, (Value.func (.func 127) #[] #[])] 46)).alloc (by simp) (.cells #[.slice none 0 0, .nilFunc] 46)
  have hk := Lib.hid (kept_any 97 (enters_of Try.func97 (by kernel_rfl) rfl) #[] #[.pointer (some ⟨Bn, 0, none⟩)] (fun x => hasB x p) _ xs _ _ (hx.below hbw (Nat.le_refl _)) (by simp; omega) (fam_len hf) (famB_lt hf)
    (link_clo n p Bn xs _ (by simp; omega) ((hbw.cell (p := ⟨Bn, 0, none⟩) hBW).trans hcW) p1 p2 hf))
  obtain ⟨ys, hys⟩ : ∃ ys, sortL (xs.filter (fun x => hasB x p)) = ys := ⟨_, rfl⟩
  have hset : ∀ z ∈ ys, setB n z = true := fun z hz => (famB_all hf).2.2 z (List.mem_filter.1 (mem_sortL.1 (hys ▸ hz))).1
  have hlen : ys.length ≤ 256 := asc_len256 (hys ▸ asc_sortL _) (fun z hz => setB_lt (hset z hz))
  rw [hys] at hk ⊢
  replace hcW := Lib.hid hcW
  replace hbw := Lib.hid hbw
  replace hf := Lib.hid hf
  replace hset := Lib.hid hset
  replace hys := Lib.hid hys
  clear hx hc hb
  show Calls Try.prog 95 #[.agg #[.slice a xs.length cap, (Value.func (.func 127) #[] #[])], .pointer (some ⟨Bn, 0, none⟩)] W _
  go_enter Try.func95, Try.ntmps95
  go_wp2_with fail
  refine hk.out.mono ?_
  rintro e w2 ⟨v, rfl, hS2, hb2⟩
  obtain ⟨a', c', rfl⟩ := hS2.form
  rw [World.size_alloc, World.size_alloc] at hS2 hb2
  have hz2 := hb2.size
  simp at hz2
  have hb3 := hb2.alloc hz2 (.cells #[.slice a' ys.length c', (Value.func (.func 127) #[] #[])] 46)
  have hS3 := hS2.alloc (.cells #[.slice a' ys.length c', (Value.func (.func 127) #[] #[])] 46)
  have hbw3 := hbw.out.trans (hb3.mono (show W.heap.size ≤ W.heap.size + 1 + 1 by omega))
  have hk2 := Lib.hid (changed_any 99 (enters_of Try.func99 (by kernel_rfl) rfl) #[] #[.pointer (some ⟨Bn, 0, none⟩)] (fun x => lessI x p) _ ys _ _ hS3.row (Nat.le_refl _) (by omega) (fun z hz => setB_lt (less_set (hset.out z hz) p1 p2))
    (link_clo2 n p Bn ys _ (by simp; omega) ((hbw3.cell (p := ⟨Bn, 0, none⟩) hBW).trans hcW.out) p1 p2 hset.out))
  have hlt0 : W.heap.size + 1 < w2.heap.size := by omega
  replace hb3 := Lib.hid hb3
  replace hbw3 := Lib.hid hbw3
  clear hS2 hb2 hS3 hk
  go_wp2_with fail
  refine hk2.out.mono ?_
  rintro e w4 ⟨v, rfl, hS4, hb4⟩
  obtain ⟨a4, c4, rfl⟩ := hS4.form
  rw [World.size_alloc] at hS4 hb4
  have hb5 := hb3.out.trans (hb4.mono (show W.heap.size + 1 + 1 ≤ w2.heap.size + 1 by omega))
  obtain ⟨d0, d1, df0, df1⟩ := res_cells (new_cell1 W _ _ _) hb5
  have rr := two_cells (.slice a4 (sortL (ys.map (fun x => lessI x p))).length c4) (Value.func (.func 127) #[] #[]) d0 d1
  have hff := Lib.hid (fam_fin (hS4.mono (show W.heap.size + 1 + 1 ≤ w2.heap.size + 1 by omega)) (hbw.out.trans (hb5.mono (by omega))) (by omega))
  clear hS4 hb4 hb5 hk2
  go_wp2_with fail
  exact bodyPost_ret (v := .agg #[.slice a4 (sortL (ys.map (fun x => lessI x p))).length c4, (Value.func (.func 127) #[] #[])]) (by simp [results, Try.results95, go_sem, rr.1, rr.2]) rfl ⟨_, rfl, hff.out⟩
end Go.Proofs.Ytapijjfhdhkakaa
