/- What the program makes of one family with a function of its own. -/
import Derived.Test.YtojfamjgghikoaaGreatDoorFams7
import Derived.Test.YtojfamjgghikoaaGreatDoorLawsB
import Derived.Test.YtojfamjgghikoaaGreatDoorBits
namespace Go.Proofs.YtojfamjgghikoaaGreatDoor
open Go.ChangeShapes Go.WideShapes Go.ChangeAt Go.RowKit Go.Proofs

theorem mkfunc (fn : Fn) (first cap : Array Value) (w : World) : (Instr.makeFunc fn first cap).run Tryz.prog w = .ok (.func fn first cap) w := rfl
theorem fam_len {n : Int} {xs : List Int} (h : famB n xs = true) : xs.length ≤ 100000 := by have := famB_len h; omega

theorem other_clo (n : Int) (Bn : Nat) (xs : List Int) (w : World) (hB : Bn < w.heap.size) (hc : w.cell? ⟨Bn, 0, none⟩ = some (.int .i64 n)) (hf : famB n xs = true) :
    MapV 223 #[] #[.pointer (some ⟨Bn, 0, none⟩)] (otherI n) xs w := fun W x hx hb => by
  have hcW : W.cell? ⟨Bn, 0, none⟩ = some (.int .i64 n) := (hb.cell (p := ⟨Bn, 0, none⟩) hB).trans hc
  have hs := (famB_all hf).2.2 x hx
  obtain ⟨n1, n2, s1, s2⟩ := setB_yes hs
  have ho := other_u64 n1 n2 s1 s2
  have hall := Lib.hid (all_pts n n1 n2)
  obtain ⟨r, hr⟩ : ∃ r, otherI n x = r := ⟨_, rfl⟩
  rw [hr] at ho ⊢
  replace hr := Lib.hid hr
  replace hx := Lib.hid hx
  replace hs := Lib.hid hs
  show Calls Tryz.prog 223 #[.int .u64 x, .pointer (some ⟨Bn, 0, none⟩)] W _
  go_enter Tryz.func223, Tryz.ntmps223
  go_wp2_with (go_at_call 70; refine (hall.out _).mono ?_; rintro e w' ⟨rfl, rfl⟩)
  go_ret
  exact ⟨rfl, Below.refl _ _⟩
theorem new_cell3 (w : World) (cs : Array Value) (t : TypeId) (o o2 : Obj) : (((w.alloc o).alloc o2).alloc (.cells cs t)).heap[w.heap.size + 1 + 1]? = some (.cells cs t (0, 0)) := by
  have := new_cell ((w.alloc o).alloc o2) cs t
  rw [World.size_alloc, World.size_alloc] at this
  exact this
theorem trace_clo (s : Int) (Bn : Nat) (xs : List Int) (w : World) (hB : Bn < w.heap.size) (hc : w.cell? ⟨Bn, 0, none⟩ = some (.int .u64 s)) (s1 : 0 ≤ s) (s2 : s < 256) (hf : ∀ z ∈ xs, 0 ≤ z ∧ z < 256) :
    MapV 354 #[] #[.pointer (some ⟨Bn, 0, none⟩)] (fun x => andI x s) xs w := fun W x hx hb => by
  have hcW : W.cell? ⟨Bn, 0, none⟩ = some (.int .u64 s) := (hb.cell (p := ⟨Bn, 0, none⟩) hB).trans hc
  obtain ⟨x1, x2⟩ := hf x hx
  have ho := u64_andI x1 x2 s1 s2
  obtain ⟨r, hr⟩ : ∃ r, andI x s = r := ⟨_, rfl⟩
  rw [hr] at ho
  replace hr := Lib.hid hr
  replace hx := Lib.hid hx
  replace hf := Lib.hid hf
  show Calls Tryz.prog 354 #[.int .u64 x, .pointer (some ⟨Bn, 0, none⟩)] W fun e w' => e = .returned (.int .u64 (andI x s)) ∧ Below W.heap.size W w'
  rw [hr.out]
  go_enter Tryz.func354, Tryz.ntmps354
  go_wp2
  go_ret
  exact ⟨rfl, Below.refl _ _⟩
set_option maxHeartbeats 1000000 in
theorem im_trace (s : Int) (s1 : 0 ≤ s) (s2 : s < 256) (lv : Value) (xs : List Int) (W : World) (hx : SRow W W.heap.size lv xs) (hl : xs.length ≤ 100000) (hf : ∀ z ∈ xs, 0 ≤ z ∧ z < 256) (hz : ∀ z ∈ xs, 0 ≤ andI z s ∧ andI z s < 256) :
    Calls Tryz.prog 337 #[.agg #[lv, (Value.func (.func 188) #[] #[])], .int .u64 s] W (FamPost W (sortL (xs.map (fun x => andI x s)))) := by
  have hmf := mkfunc
  obtain ⟨a, cap, rfl, _⟩ := id hx
  have hb1 := (Below.refl W.heap.size W).alloc (Nat.le_refl _) (.cells #[.slice a xs.length cap, (Value.func (.func 188) #[] #[])] 64)
  have hb2 := hb1.alloc (by simp) (.cells #[.int .u64 s] 72)
  have hbw := hb2.alloc (by simp; omega) (.cells #[.slice none 0 0, .nilFunc] 64)
  have hc2 : ((W.alloc (.cells #[.slice a xs.length cap, (Value.func (.func 188) #[] #[])] 64)).alloc (.cells #[.int .u64 s] 72)).cell? ⟨W.heap.size + 1, 0, none⟩ = some (.int .u64 s) := by rw [World.cell?_alloc_at _ _ _ _ (by simp)]; rfl
  have hk := Lib.hid (changed_any 354 (enters_of Tryz.func354 (by kernel_rfl) rfl) #[] #[.pointer (some ⟨W.heap.size + 1, 0, none⟩)] (fun x => andI x s) _ xs _ _ (hx.below hbw (Nat.le_refl _)) (by simp; omega) hl hz
    (trace_clo s (W.heap.size + 1) xs _ (by simp) (((Below.refl _ _).alloc (Nat.le_refl _) (.cells #[.slice none 0 0, .nilFunc] 64)).cell (p := ⟨W.heap.size + 1, 0, none⟩) (by rw [World.size_alloc, World.size_alloc]; exact Nat.lt_succ_self _) |>.trans hc2) s1 s2 hf))
  replace hbw := Lib.hid hbw
  replace hf := Lib.hid hf
  replace hz := Lib.hid hz
  clear hx hb1 hb2 hc2
  go_enter Tryz.func337, Tryz.ntmps337
  go_wp2_with fail
  refine hk.out.mono ?_
  rintro e w2 ⟨v, rfl, hS2, hb2⟩
  obtain ⟨a', c', rfl⟩ := hS2.form
  rw [World.size_alloc, World.size_alloc, World.size_alloc] at hS2 hb2
  obtain ⟨d0, d1, df0, df1⟩ := res_cells (new_cell3 W _ _ _ _) hb2
  have rr := two_cells (.slice a' (sortL (xs.map (fun x => andI x s))).length c') (Value.func (.func 188) #[] #[]) d0 d1
  have hff := Lib.hid (fam_fin hS2 (hbw.out.trans (hb2.mono (by omega))) (by omega))
  clear hS2 hb2 hk
  go_wp2_with fail
  exact bodyPost_ret (v := .agg #[.slice a' (sortL (xs.map (fun x => andI x s))).length c', (Value.func (.func 188) #[] #[])]) (by simp [results, Tryz.results337, go_sem, rr.1, rr.2]) rfl ⟨_, rfl, hff.out⟩
set_option maxHeartbeats 1000000 in
theorem other_fam (n  : Int) (Bn : Nat) (xs : List Int) (w : World) (hB : Bn < w.heap.size) (hc : w.cell? ⟨Bn, 0, none⟩ = some (.int .i64 n))  (hf : famB n xs = true) :
    FamMap 221 #[.pointer (some ⟨Bn, 0, none⟩)] xs (sortL (xs.map (otherI n))) w := fun W lv hb hx => by
  have hBW : Bn < W.heap.size := by have := hb.size; omega
  have hcW : W.cell? ⟨Bn, 0, none⟩ = some (.int .i64 n) := (hb.cell (p := ⟨Bn, 0, none⟩) hB).trans hc
  have hmf := mkfunc
  obtain ⟨a, cap, rfl, _⟩ := id hx
  have hbw := ((Below.refl W.heap.size W).alloc (Nat.le_refl _) (.cells #[.slice a xs.length cap, (Value.func (.func 188) #[] #[])] 64)).alloc (by simp) (.cells #[.slice none 0 0, .nilFunc] 64)
  have hk := Lib.hid (changed_any 223 (enters_of Tryz.func223 (by kernel_rfl) rfl) #[] #[.pointer (some ⟨Bn, 0, none⟩)] (otherI n) _ xs _ _ (hx.below hbw (Nat.le_refl _)) (by simp; omega) (fam_len hf) (fun z hz => setB_lt (other_set ((famB_all hf).2.2 z hz)))
    (other_clo n Bn xs _ (by simp; omega) ((hbw.cell (p := ⟨Bn, 0, none⟩) hBW).trans hcW) hf))
  replace hbw := Lib.hid hbw
  replace hf := Lib.hid hf
  clear hx hcW hc hb
  show Calls Tryz.prog 221 #[.agg #[.slice a xs.length cap, (Value.func (.func 188) #[] #[])], .pointer (some ⟨Bn, 0, none⟩)] W _
  go_enter Tryz.func221, Tryz.ntmps221
  go_wp2_with fail
  refine hk.out.mono ?_
  rintro e w2 ⟨v, rfl, hS2, hb2⟩
  obtain ⟨a', c', rfl⟩ := hS2.form
  rw [World.size_alloc, World.size_alloc] at hS2 hb2
  obtain ⟨d0, d1, df0, df1⟩ := res_cells (new_cell1 W _ _ _) hb2
  have rr := two_cells (.slice a' (sortL (xs.map (otherI n))).length c') (Value.func (.func 188) #[] #[]) d0 d1
  have hff := Lib.hid (fam_fin hS2 (hbw.out.trans (hb2.mono (by omega))) (by omega))
  clear hS2 hb2 hk
  go_wp2_with fail
  exact bodyPost_ret (v := .agg #[.slice a' (sortL (xs.map (otherI n))).length c', (Value.func (.func 188) #[] #[])]) (by simp [results, Tryz.results221, go_sem, rr.1, rr.2]) rfl ⟨_, rfl, hff.out⟩

end Go.Proofs.YtojfamjgghikoaaGreatDoor
