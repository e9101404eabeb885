/- What the program makes of one family with a function of its own. -/
import Derived.Test.YthljimmhgpbmbabFams7
import Derived.Test.YthljimmhgpbmbabLawsB
import Derived.Test.YthljimmhgpbmbabBits
namespace Go.Proofs.Ythljimmhgpbmbab
open Go.ChangeShapes Go.WideShapes Go.ChangeAt Go.RowKit Go.Proofs

theorem mkfunc (fn : Fn) (first cap : Array Value) (w : World) : (Instr.makeFunc fn first cap).run Try.prog w = .ok (.func fn first cap) w := rfl
theorem fam_len {n : Int} {xs : List Int} (h : famB n xs = true) : xs.length ≤ 100000 := by have := famB_len h; omega

theorem other_clo (n : Int) (Bn : Nat) (xs : List Int) (w : World) (hB : Bn < w.heap.size) (hc : w.cell? ⟨Bn, 0, none⟩ = some (.int .i64 n)) (hf : famB n xs = true) :
    MapV 59 #[] #[.pointer (some ⟨Bn, 0, none⟩)] (otherI n) xs w := fun W x hx hb => by
  have hcW : W.cell? ⟨Bn, 0, none⟩ = some (.int .i64 n) := (hb.cell (p := ⟨Bn, 0, none⟩) hB).trans hc
  have hs := (famB_all hf).2.2 x hx
  obtain ⟨n1, n2, s1, s2⟩ := setB_yes hs
  have ho := other_u64 n1 n2 s1 s2
  have hall := Lib.hid (all_pts n n1 n2)
  obtain ⟨r, hr⟩ : ∃ r, otherI n x = r := ⟨_, rfl⟩
  rw [hr] at ho ⊢
  replace hr := Lib.hid hr
  replace hx := Lib.hid hx
  replace hs := Lib.hid hs
  show Calls Try.prog 59 #[.int .u64 x, .pointer (some ⟨Bn, 0, none⟩)] W _
  go_enter Try.func59, Try.ntmps59
  go_wp2_with (go_at_call 60; refine (hall.out _).mono ?_; rintro e w' ⟨rfl, rfl⟩)
  go_ret
  exact ⟨rfl, Below.refl _ _⟩
theorem new_cell3 (w : World) (cs : Array Value) (t : TypeId) (o o2 : Obj) : (((w.alloc o).alloc o2).alloc (.cells cs t)).heap[w.heap.size + 1 + 1]? = some (.cells cs t (0, 0)) := by
  have := new_cell ((w.alloc o).alloc o2) cs t
  rw [World.size_alloc, World.size_alloc] at this
  exact this
set_option maxHeartbeats 1000000 in
theorem other_fam (n  : Int) (Bn : Nat) (xs : List Int) (w : World) (hB : Bn < w.heap.size) (hc : w.cell? ⟨Bn, 0, none⟩ = some (.int .i64 n))  (hf : famB n xs = true) :
    FamMap 57 #[.pointer (some ⟨Bn, 0, none⟩)] xs (sortL (xs.map (otherI n))) w := fun W lv hb hx => by
  have hBW : Bn < W.heap.size := by have := hb.size; omega
  have hcW : W.cell? ⟨Bn, 0, none⟩ = some (.int .i64 n) := (hb.cell (p := ⟨Bn, 0, none⟩) hB).trans hc
  have hmf := mkfunc
  obtain ⟨a, cap, rfl, _⟩ := id hx
  have hbw := ((Below.refl W.heap.size W).alloc (Nat.le_refl _) (.cells #[.slice a xs.length cap, (Value.func (.func 134) #[] #[])] 40)).alloc (by simp) (.cells #[.slice none 0 0, .nilFunc] 40)
  have hk := Lib.hid (changed_any 59 (enters_of Try.func59 (by kernel_rfl) rfl) #[] #[.pointer (some ⟨Bn, 0, none⟩)] (otherI n) _ xs _ _ (hx.below hbw (Nat.le_refl _)) (by simp; omega) (fam_len hf) (fun z hz => setB_lt (other_set ((famB_all hf).2.2 z hz)))
    (other_clo n Bn xs _ (by simp; omega) ((hbw.cell (p := ⟨Bn, 0, none⟩) hBW).trans hcW) hf))
  replace hbw := Lib.hid hbw
  replace hf := Lib.hid hf
  clear hx hcW hc hb
  show Calls Try.prog 57 #[.agg #[.slice a xs.length cap, (Value.func (.func 134) #[] #[])], .pointer (some ⟨Bn, 0, none⟩)] W _
  go_enter Try.func57, Try.ntmps57
  go_wp2_with fail
  refine hk.out.mono ?_
  rintro e w2 ⟨v, rfl, hS2, hb2⟩
  obtain ⟨a', c', rfl⟩ := hS2.form
  rw [World.size_alloc, World.size_alloc] at hS2 hb2
  obtain ⟨d0, d1, df0, df1⟩ := res_cells (new_cell1 W _ _ _) hb2
  have rr := two_cells (.slice a' (sortL (xs.map (otherI n))).length c') (Value.func (.func 134) #[] #[]) d0 d1
  have hff := Lib.hid (fam_fin hS2 (hbw.out.trans (hb2.mono (by omega))) (by omega))
  clear hS2 hb2 hk
  go_wp2_with fail
  exact bodyPost_ret (v := .agg #[.slice a' (sortL (xs.map (otherI n))).length c', (Value.func (.func 134) #[] #[])]) (by simp [results, Try.results57, go_sem, rr.1, rr.2]) rfl ⟨_, rfl, hff.out⟩

end Go.Proofs.Ythljimmhgpbmbab
