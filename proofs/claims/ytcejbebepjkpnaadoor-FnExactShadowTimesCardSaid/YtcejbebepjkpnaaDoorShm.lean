/- A map of sets: cleared, put to, made a family: shadow.family. -/
import Derived.Test.YtcejbebepjkpnaaDoorKeys2
import Derived.Test.YtcejbebepjkpnaaDoorFams3
namespace Go.Proofs.YtcejbebepjkpnaaDoor
open Go.ChangeShapes Go.WideShapes Go.ChangeAt Go.RowKit Go.Proofs Go.Shelf Go.Maps
attribute [local go_sem] Oper.semAt_some

theorem MapS.lt {w : World} {b n : Nat} {l : List Int} (h : MapS w b n l) : b < w.heap.size := by obtain ⟨D, hD, _⟩ := h; exact hD.lt
theorem MapS.kept {w w' : World} {b n : Nat} {l : List Int} {row : Option Nat} (h : MapS w b n l) (hg : w.grownBy w' row) (hne : some b ≠ row) : MapS w' b n l := by
  obtain ⟨D, hD, hx⟩ := h; exact ⟨D, hD.kept hg hne, hx⟩
theorem MapS.alloc {w : World} {b n : Nat} {l : List Int} (h : MapS w b n l) (o : Obj) : MapS (w.alloc o) b n l := by
  obtain ⟨D, hD, hx⟩ := h; exact ⟨D, hD.alloc o, hx⟩
theorem MapS.drewN {w : World} {b n : Nat} {l : List Int} (h : MapS w b n l) (k : Nat) : MapS (w.drewN k) b n l := h
theorem MapS.below {w w' : World} {b n B : Nat} {l : List Int} (h : MapS w b n l) (hb : Below B w w') (hB : w.heap.size ≤ B) : MapS w' b n l := by
  obtain ⟨D, hD, hx⟩ := h
  have hbl := hD.lt
  obtain ⟨es, clock, hb', Ft, hs, hD'⟩ := hD
  exact ⟨D, ⟨es, clock, (hb.block b (by omega)).trans hb', Ft, hs, hD'⟩, hx⟩
theorem MapS.made (w : World) : MapS (w.alloc (.map #[] 0)) w.heap.size 0 [] := ⟨_, World.ownsMap_made w _ _ _, fun x => by simp [has_eq]⟩
theorem MapS.congr {w : World} {b n : Nat} {l l' : List Int} (h : MapS w b n l) (hl : ∀ x, x ∈ l ↔ x ∈ l') : MapS w b n l' := by
  obtain ⟨D, hD, hx⟩ := h; exact ⟨D, hD, fun x => by rw [hx x]; simp [hl x]⟩
theorem MapS.clear {w : World} {b n : Nat} {l : List Int} (h : MapS w b n l) (ty : TypeId) : ∃ w', (Builtin.clear_ #[58] ty #[.map (some b)]).run Tryd.prog w = .ok (.tuple #[]) w' ∧ MapS w' b 0 [] ∧ w.grownBy w' (some b) := by
  obtain ⟨D, ⟨es, clock, hb, Ft, hs, hD⟩, hx⟩ := h
  refine ⟨Go.ChangeMaps.setBlock w b (.map #[] clock), ?_, ⟨_, ⟨#[], clock, Go.ChangeMaps.heap_setBlock_same hb _, ⟨by simp, MapKept.stamped_empty clock, by simp⟩, Nat.le_refl _, rfl⟩, fun x => by simp [has_eq]⟩, ⟨rfl, rfl, rfl, by simp [Go.ChangeMaps.setBlock], fun i _ hi => Go.ChangeMaps.heap_setBlock_other hb _ (fun e => hi (by rw [e]))⟩⟩
  simp [Builtin.clear_, run_underlying Tryd.underlying58, MapKept.run_getObj_map hb, MapKept.run_setObj_map _ hb, Result.andThen, Go.ChangeMaps.setBlock]
theorem isMap_own {w : World} {b n : Nat} {D : DataW Unit} (h : w.ownsMap Tryd.prog 52 R0 b n D) : IsMap D := by
  obtain ⟨es, clock, hb, Ft, hs, hD⟩ := h
  subst hD; exact ⟨_, rfl⟩
theorem MapS.put {D : DataW Unit} {w w' : World} {b n : Nat} {l : List Int} (h : w.ownsMap Tryd.prog 52 R0 b n D) (hx : ∀ x, has D (.int .u64 x) = decide (x ∈ l)) (z : Int) (d : DataW Unit)
    (h' : w'.ownsMap Tryd.prog 52 R0 b (n + 1) (D.put (.int .u64 z) d)) : MapS w' b (n + 1) (l ++ [z]) := by
  refine ⟨_, h', fun x => ?_⟩
  by_cases e : x = z
  · subst e; rw [has_put_same (isMap_own h) (show WideAt.IsKeyLit (.int .u64 x) from trivial)]; simp
  · rw [has_put_other (by simpa using e), hx x]; simp [e]
theorem take_in256 {ss l : List Int} (h : ∀ x, x ∈ ss ↔ x ∈ l) (hl : ∀ x ∈ l, 0 ≤ x ∧ x < 256) (k : Nat) : (sortL (ss.take k)).length ≤ 1000 := by
  have := asc_len256 (asc_sortL (ss.take k)) (fun z hz => hl z ((h z).1 (List.mem_of_mem_take (mem_sortL.1 hz))))
  omega
theorem sortL_mem {xs ys : List Int} (h : ∀ z, z ∈ xs ↔ z ∈ ys) : sortL xs = sortL ys := sortL_eq (asc_sortL ys) (fun z => by rw [mem_sortL]; exact h z)
set_option maxHeartbeats 1000000 in
theorem shadow_family (b nn : Nat) (l : List Int) (w : World) (h : MapS w b nn l) (hn : nn ≤ 100000) (hl : ∀ x ∈ l, 0 ≤ x ∧ x < 256) : Calls Tryd.prog 51 #[.map (some b)] w (FamPost w (sortL l)) := by
  have hk := Lib.hid (keys_of b nn l _ (h.alloc (.cells #[.slice none 0 0, .nilFunc] 48)) hn)
  have hlh := Lib.hid hl
  clear h hl
  go_enter Tryd.func51, Tryd.ntmps51
  go_wp2_with fail
  refine hk.out.mono ?_
  rintro e w1 ⟨v, rfl, hG, rfl⟩
  have hs := Lib.hid (sorted_keys _ v l hG hlh.out)
  obtain ⟨_, _, _, _, rfl, _⟩ := hG
  go_wp2_with fail
  refine hs.out.mono ?_
  rintro e w2 ⟨u, ss, rfl, hS, hnd, hmem, hb⟩
  simp only [World.size_alloc] at hS hb
  have hlen := nodup_len hnd (fun x hx => hlh.out x ((hmem x).1 hx))
  have hf := family_of u ss _ _ hS.row (Nat.le_refl _) (fun k _ => take_in256 hmem hlh.out k) (by omega)
  rw [sortL_mem hmem] at hf
  replace hf := Lib.hid hf
  obtain ⟨a, c, rfl⟩ := hS.form
  clear hS
  have hz := hb.size
  go_wp2_with fail
  refine hf.out.mono ?_
  rintro e w3 ⟨v, rfl, hS3, hb3⟩
  obtain ⟨a', c', rfl⟩ := hS3.form
  obtain ⟨d0, d1, df0, df1⟩ := res_cells (W1 := w3) (new_cell w _ _) ((((Below.refl (w.heap.size + 1) _).alloc (by simp) _).trans (hb.mono (by first | omega | simp))).trans (hb3.mono (by first | omega | (simp at hz; omega))))
  have rr := two_cells (.slice a' (sortL l).length c') (Value.func (.func 68) #[] #[]) d0 d1
  have hbb := ((((Below.refl w.heap.size w).alloc (Nat.le_refl _) _).alloc (by simp) _).trans (hb.mono (by first | omega | (simp; omega)))).trans (hb3.mono (by first | omega | (simp at hz; omega)))
  have hff := Lib.hid (fam_fin (hS3.mono (B' := w.heap.size + 1) (by first | omega | (simp at hz; omega))) hbb (Nat.le_refl _))
  clear hS3 hb3 hb hbb
  go_wp2_with fail
  exact bodyPost_ret (v := .agg #[.slice a' (sortL l).length c', (Value.func (.func 68) #[] #[])]) (by simp [results, Tryd.results51, go_sem, rr.1, rr.2]) rfl ⟨_, rfl, hff.out⟩
end Go.Proofs.YtcejbebepjkpnaaDoor
