/- The kernels of all sets in an array. -/
import Derived.Test.YtjhjmbiecihjhaaDoorKe2
import Derived.Test.YtjhjmbiecihjhaaDoorRl
import Derived.StillTactics
import Derived.Test.YtjhjmbiecihjhaaDoorDegB
import Derived.Test.YtjhjmbiecihjhaaDoorFams13
import Derived.Deep.WholeRow
namespace Go.Proofs.YtjhjmbiecihjhaaDoor
open Go.ChangeShapes Go.WideShapes Go.ChangeAt Go.RowKit Go.Shelf
attribute [local go_sem] Oper.semAt_some

/-- the values of an array of sets. -/
def arrV (K : Nat → Int) : Array Value := ((List.range 256).map fun j => Value.int .u64 (K j)).toArray
theorem kern_info : (Tryd.prog.info? 57).map (·.size) = some 256 := by kernel_rfl
theorem kern_zero : Tryd.zeroCells57 = madeCells #[.int .u64 0] 256 := by kernel_rfl
theorem kern_one : (Tryd.zeroCells57).all (·.oneCell') = true := by kernel_rfl
theorem kern_size : (Tryd.zeroCells57).size = 256 := by kernel_rfl
theorem arr_size (K : Nat → Int) : (arrV K).size = 256 := by simp [arrV]
theorem arr_get (K : Nat → Int) {i : Nat} (h : i < 256) : (arrV K)[i]? = some (.int .u64 (K i)) := by
  unfold arrV
  rw [List.getElem?_toArray, List.getElem?_map, List.getElem?_range h]
  rfl
theorem row_arr {W : World} {b : Nat} {K : Nat → Int} (h : W.rowIs b 57 256 (fun j => .int .u64 (K j))) : W.heap[b]? = some (.cells (arrV K) 57 (0, 0)) := by
  obtain ⟨c, h1, h2, h3⟩ := h
  have : c = arrV K := Array.ext_getElem? fun i => by
    by_cases hi : i < 256
    · rw [h3 i hi, arr_get K hi]
    · rw [Array.getElem?_eq_none (by omega), Array.getElem?_eq_none (by rw [arr_size]; omega)]
  rw [h1, this]
theorem load_arr {W : World} {b : Nat} {K : Nat → Int} (h : W.heap[b]? = some (.cells (arrV K) 57 (0, 0))) : (Instr.loadAt 57 (.pointer (some ⟨b, 0, none⟩))).run Tryd.prog W = .ok (.agg (arrV K)) W := by
  simp only [Instr.loadAt, Instr.sureAddr, Sem.run_bind, Sem.run_pure, Result.andThen]
  exact run_loadVar_row W b 57 57 (arrV K) (0, 0) _ h Tryd.underlying57 rfl (by rw [arr_size]; exact kern_info)
theorem one_arr (K : Nat → Int) : ∀ v ∈ (arrV K).toList, v.oneCell' = true := fun v hv => by
  unfold arrV at hv
  rw [List.toList_toArray] at hv
  obtain ⟨j, _, rfl⟩ := List.mem_map.1 hv
  rfl
theorem store_arr {W : World} {b : Nat} {Z : Array Value} {K : Nat → Int} (h : W.heap[b]? = some (.cells Z 57 (0, 0))) (hZ : Z.size = 256) : (storeCells ⟨b, 0, none⟩ (arrV K).toList).run Tryd.prog W = .ok () (W.setRow b (arrV K)) := by
  have h1 := run_storeCells_from (P := Tryd.prog) b 57 (arrV K).toList 0 Z W h (by rw [Array.length_toList, arr_size, hZ]) (one_arr K)
  rw [List.take_zero, List.nil_append, Array.toArray_toList] at h1
  exact h1
theorem setRow_other (W : World) (b k : Nat) (c : Array Value) (h : k ≠ b) : (W.setRow b c).heap[k]? = W.heap[k]? := by
  simp only [World.setRow]
  rw [Array.getElem?_modify, if_neg (fun e => h e.symm)]
theorem setRow_same (W : World) (b : Nat) (t : TypeId) (z c : Array Value) (h : W.heap[b]? = some (.cells z t (0, 0))) : (W.setRow b c).heap[b]? = some (.cells c t (0, 0)) := by
  simp only [World.setRow]
  rw [Array.getElem?_modify, if_pos rfl, h]
  rfl
theorem below_setRow {B b : Nat} {w W : World} (h : Below B w W) (hb : B ≤ b) (c : Array Value) : Below B w (W.setRow b c) := h.trans
  { os := rfl, tape := rfl, output := rfl, size := by simp [World.setRow], block := fun k hk => setRow_other W b k c (by omega) }
theorem load_in {n : Nat} {o : Oper} {a : Act} {w : World} {K : Act → World → Prop} {Q : Exit → Act → World → Prop} (ty : TypeId) (x : Operand) (ho : o.op = .load ty x) (v : Value) (h : (Instr.loadAt ty (a.eval x)).run Tryd.prog w = .ok v w) (hK : K (a.put o.dst v) w) : o.wpIn Fence.wide n Tryd.prog a w K Q := by
  refine ⟨fun _ _ => trivial, ?_⟩
  rw [Oper.semAt_plain _ _ _ (fun c e => by rw [ho] at e; cases e)]
  have he : (execOp a.eval o).run Tryd.prog w = .ok (.value v) w := by
    unfold execOp
    simp only [ho, Sem.run_bind, h, Result.andThen, Sem.run_pure]
  rw [he]
  exact hK
theorem store_in {n : Nat} {o : Oper} {a : Act} {w w' : World} {K : Act → World → Prop} {Q : Exit → Act → World → Prop} (ty : TypeId) (p x : Operand) (ho : o.op = .store ty p x) (h : (Instr.storeAt ty (a.eval p) (a.eval x)).run Tryd.prog w = .ok () w') (hK : K (a.put o.dst undef) w') : o.wpIn Fence.wide n Tryd.prog a w K Q := by
  refine ⟨fun _ _ => trivial, ?_⟩
  rw [Oper.semAt_plain _ _ _ (fun c e => by rw [ho] at e; cases e)]
  have he : (execOp a.eval o).run Tryd.prog w = .ok .skip w' := by
    unfold execOp
    simp only [ho, Sem.run_bind, h, Result.andThen, Sem.run_pure]
  rw [he]
  exact hK
theorem fld_items (x y : Value) (w : World) : (Instr.field 51 (.agg #[x, y]) 0).run Tryd.prog w = .ok x w := by kernel_rfl
theorem pts_makeN (n : Nat) (s : Int) (w : World) : CallsIn Fence.wide n Tryd.prog 36 #[.int .u64 s] w fun e w' =>
    e = .returned (.func (.func 63) #[] #[.pointer (some ⟨w.heap.size, 0, none⟩)]) ∧ w' = w.alloc (.cells #[.int .u64 s] 55) := by
  refine callsIn_of_wp Tryd.func36 rfl trivial ?_ rfl
  simp only [Tryd.ntmps36, List.size_toArray, List.length_cons, List.length_nil, Nat.reduceAdd, Nat.reduceSub, Array.replicate_succ, Array.replicate_zero, List.push_toArray, List.append_toArray, List.nil_append, List.cons_append]
  gi_wp2
  go_ret
  exact ⟨rfl, rfl⟩
theorem back_makeN (n : Nat) (a : Option Addr) (k c : Nat) (w : World) : CallsIn Fence.wide n Tryd.prog 56 #[.slice a k c] w fun e w' =>
    e = .returned (.func (.func 77) #[] #[.pointer (some ⟨w.heap.size, 0, none⟩)]) ∧ w' = w.alloc (.cells #[.slice a k c] 48) := by
  refine callsIn_of_wp Tryd.func56 rfl trivial ?_ rfl
  simp only [Tryd.ntmps56, List.size_toArray, List.length_cons, List.length_nil, Nat.reduceAdd, Nat.reduceSub, Array.replicate_succ, Array.replicate_zero, List.push_toArray, List.append_toArray, List.nil_append, List.cons_append]
  gi_wp2
  go_ret
  exact ⟨rfl, rfl⟩
theorem set_common (x y : Int) (h1 : 0 ≤ x) (h2 : x < 256) (h3 : 0 ≤ y) (h4 : y < 256) (w : World) : Calls Tryd.prog 43 #[.int .u64 x, .int .u64 y] w fun e w' => e = .returned (.int .u64 (andI x y)) ∧ w = w' := by
  have ho := u64_andI h1 h2 h3 h4
  obtain ⟨r, hr⟩ : ∃ r, andI x y = r := ⟨_, rfl⟩
  rw [hr] at ho ⊢
  replace hr := Lib.hid hr
  go_enter Tryd.func43, Tryd.ntmps43
  go_wp2
  go_ret
  exact ⟨rfl, rfl⟩
theorem with_lt8 {t p : Nat} (ht : t < 256) (hp : p ≤ 7) : withI (t : Nat) (p : Nat) < 256 := by
  unfold withI
  simp only [Int.toNat_natCast]
  have : t ||| 2 ^ p < 2 ^ 8 := Nat.or_lt_two_pow (by omega) (Nat.pow_lt_pow_right (by omega) (by omega))
  omega
theorem set_less (x y : Int) (h1 : 0 ≤ x) (h2 : x < 256) (h3 : 0 ≤ y) (h4 : y < 256) (w : World) : Calls Tryd.prog 58 #[.int .u64 x, .int .u64 y] w fun e w' => e = .returned (.int .u64 (difI x y)) ∧ w = w' := by
  have ho := u64_difI h1 h2 h3 h4
  obtain ⟨r, hr⟩ : ∃ r, difI x y = r := ⟨_, rfl⟩
  rw [hr] at ho ⊢
  replace hr := Lib.hid hr
  go_enter Tryd.func58, Tryd.ntmps58
  go_wp2
  go_ret
  exact ⟨rfl, rfl⟩
set_option maxRecDepth 100000 in
set_option maxHeartbeats 8000000 in
theorem kernels_by (n : Int) (lv : Value) (xs : List Int) (S : Nat) (w : World) (hx : SRow w S lv xs) (hS : S ≤ w.heap.size) (hf : famB n xs = true) (hT : Tab w) :
    Calls Tryd.prog 33 #[.int .i64 n, .agg #[lv, (Value.func (.func 87) #[] #[])]] w fun e w' => e = .returned (.agg (arrV (keptK n xs (upI (2 ^ n.toNat)).reverse))) ∧ Below w.heap.size w w' := by
  obtain ⟨n1, n2, hset⟩ := famB_all hf
  obtain ⟨a, cap, rfl, ha⟩ := id hx
  have hal := all_sets n n1 n2
  rw [up_sort] at hal
  obtain ⟨p1, p2, p3⟩ := pow_nat n1 n2
  have hul := upI_len (2 ^ n.toNat)
  have huz : ∀ z ∈ upI (2 ^ n.toNat), 0 ≤ z ∧ z < 256 := fun z hz => by have := mem_upI.1 hz; omega
  obtain ⟨us, hus⟩ : ∃ us, upI (2 ^ n.toNat) = us := ⟨_, rfl⟩
  rw [hus] at hal hul huz ⊢
  have hul9 : us.length ≤ 256 := by omega
  replace hal := Lib.hid hal
  replace hus := Lib.hid hus
  replace hul := Lib.hid hul
  obtain ⟨Z, hZ⟩ : ∃ Z, Tryd.zeroCells57 = Z := ⟨_, rfl⟩
  have hsc := run_storeCells_new (P := Tryd.prog) (((w.alloc (.cells #[.int .i64 n] 3)).alloc (.cells #[.slice a xs.length cap, (Value.func (.func 87) #[] #[])] 51)).alloc (.cells Z 57)) 57 Z Z (by rw [← hZ, kern_size]; exact kern_info) rfl (by rw [← hZ]; exact kern_one)
  simp only [World.size_alloc] at hsc
  have hfi := fld_items
  have hZs : Z.size = 256 := by rw [← hZ]; exact kern_size
  refine (callsIn_wide (n := 14)).1 ?_
  refine callsIn_of_wp_marks Tryd.func33 rfl trivial ?_ rfl
  simp only [Tryd.ntmps33, List.size_toArray, List.length_cons, List.length_nil, Nat.reduceAdd, Nat.reduceSub, Array.replicate_succ, Array.replicate_zero, List.push_toArray, List.append_toArray, List.nil_append, List.cons_append]
  gi_wp2_with fail
  refine ⟨trivial, (callsIn_wide.2 (hal.out _)).mono ?_⟩
  rintro e w5 ⟨v5, rfl, hS5, hb5⟩
  obtain ⟨a5, c5, rfl⟩ := hS5.form
  simp only [World.size_alloc] at hS5 hb5
  have hz5 := hb5.size
  simp only [World.size_alloc] at hz5
  replace hS5 := Lib.hid hS5
  replace hb5 := Lib.hid hb5
  clear hal hsc
  gi_wp2_with (refine ⟨trivial, ?_⟩; gi_at_call 56; refine (back_makeN _ _ _ _ _).mono ?_; rintro e w' ⟨rfl, rfl⟩)
  obtain ⟨W3, hW3⟩ : ∃ W3, ((w.alloc (.cells #[.int .i64 n] 3)).alloc (.cells #[.slice a xs.length cap, (Value.func (.func 87) #[] #[])] 51)).alloc (.cells Z 57) = W3 := ⟨_, rfl⟩
  have hs3 : W3.heap.size = w.heap.size + 1 + 1 + 1 := by rw [← hW3]; simp only [World.size_alloc]
  have h3n : W3.heap[w.heap.size]? = some (.cells #[.int .i64 n] 3 (0, 0)) := by
    rw [← hW3, Below.heap_alloc _ _ _ (by simp only [World.size_alloc]; omega), Below.heap_alloc _ _ _ (by simp only [World.size_alloc]; omega)]
    exact heap_alloc_new w _
  have h3f : W3.heap[w.heap.size + 1]? = some (.cells #[.slice a xs.length cap, (Value.func (.func 87) #[] #[])] 51 (0, 0)) := by
    rw [← hW3, Below.heap_alloc _ _ _ (by simp only [World.size_alloc]; omega)]
    have := heap_alloc_new (w.alloc (.cells #[.int .i64 n] 3)) (.cells #[.slice a xs.length cap, (Value.func (.func 87) #[] #[])] 51)
    simpa only [World.size_alloc] using this
  have h3r : W3.heap[w.heap.size + 1 + 1]? = some (.cells Z 57 (0, 0)) := by
    rw [← hW3]
    have := heap_alloc_new ((w.alloc (.cells #[.int .i64 n] 3)).alloc (.cells #[.slice a xs.length cap, (Value.func (.func 87) #[] #[])] 51)) (.cells Z 57)
    simpa only [World.size_alloc] using this
  have hbw3 : Below w.heap.size w W3 := by
    rw [← hW3]
    exact (((Below.refl _ w).alloc (Nat.le_refl _) _).alloc (by simp) _).alloc (by simp; omega) _
  have hb5' : Below (w.heap.size + 1 + 1 + 1 + 1) (W3.alloc (.cells Z 57)) w5 := by rw [← hW3]; exact hb5.out
  have hb35 : Below (w.heap.size + 1 + 1 + 1) W3 w5 := ((Below.refl _ W3).alloc (by omega) _).trans (hb5'.mono (by omega))
  have hrow5 : w5.rowIs (w.heap.size + 1 + 1 + 1) 57 256 (fun j => .int .u64 (keptK n xs (isets []) j)) := by
    have h1 := World.rowIs_made W3 (.int .u64 0) 256 57
    rw [← kern_zero, hZ, hs3] at h1
    exact (h1.of_block (hb5'.block _ (by omega))).congr (fun j _ => rfl)
  have hS5r := hS5.out.row
  have hbk : ∀ b o, a5 = some ⟨b, o, none⟩ → b ≠ w.heap.size + 1 + 1 + 1 := fun b o e => by
    have := hS5.out.lt b (by rw [e]; rfl)
    omega
  obtain ⟨W6, hW6⟩ : ∃ W6, w5.alloc (.cells #[.slice a5 us.length c5] 48) = W6 := ⟨_, rfl⟩
  have hs6 : W6.heap.size = w5.heap.size + 1 := by rw [← hW6]; simp
  have bN : Boxed W6 w5.heap.size 48 (.slice a5 us.length c5) := by rw [← hW6]; exact Boxed.new w5 _ _
  have hB6 : Below (w.heap.size + 1 + 1 + 1) W3 W6 := by rw [← hW6]; exact hb35.alloc (by omega) _
  have hrow6 : W6.rowIs (w.heap.size + 1 + 1 + 1) 57 256 (fun j => .int .u64 (keptK n xs (isets []) j)) := by rw [← hW6]; exact hrow5.alloc _
  have hS6 : SRow W6 W6.heap.size (.slice a5 us.length c5) us := by
    rw [← hW6]
    exact (hS5r.below ((Below.refl _ w5).alloc (Nat.le_refl _) _) (Nat.le_refl _)).mono (by simp)
  rw [hW6]
  have hz6 : w.heap.size + 1 + 1 + 1 + 1 < W6.heap.size := by omega
  have hTw := Lib.hid hT
  replace hbw3 := Lib.hid hbw3
  replace hW3 := Lib.hid hW3
  replace hW6 := Lib.hid hW6
  replace hZ := Lib.hid hZ
  replace hf := Lib.hid hf
  replace hset := Lib.hid hset
  replace ha := Lib.hid ha
  replace hx := Lib.hid hx
  clear hb5 hb5' hb35 hrow5 hS5 hS5r hT
  refine wpIn_rangeFunc_ownH rfl (by omega) (gf := 77) (lb := #[.pointer (some ⟨w5.heap.size, 0, none⟩)]) rfl trivial (enters_of Tryd.func77 (by kernel_rfl) rfl)
    (back_stopsX _ (by omega) w5.heap.size W6.heap.size (w.heap.size + 1 + 1 + 1) a5 c5 us W6 bN.cell (by omega) hS6 (Nat.le_refl _) (by omega) hbk (by omega) (by omega) huz) kx_t (kx_b (Nat.le_refl _)) (Below.refl _ _) (fun _ => rfl)
    (fun (pre : List IS) W => (W.rowIs (w.heap.size + 1 + 1 + 1) 57 256 (fun j => .int .u64 (keptK n xs (isets pre) j)) ∧ Below (w.heap.size + 1 + 1 + 1) W3 W) ∧ W6.heap.size ≤ W.heap.size)
    (fun _ _ _ => False)
    (OwnFrom.and (OwnFrom.and (_root_.Go.Own.from (row_own _ _ _ (fun (pre : List IS) j => .int .u64 (keptK n xs (isets pre) j))) _) (ownFrom_below (by omega) (by omega))) (fun _ _ _ _ hs hg _ => Nat.le_trans hs hg.size))
    (fun _ _ _ _ _ hs _ _ => hs)
    ⟨⟨hrow6, hB6⟩, Nat.le_refl _⟩
    (fun x a' W => ∃ Bx, w.heap.size + 1 + 1 + 1 < Bx ∧ Boxed W Bx 55 (.int .u64 x.1.2) ∧ a' = { tmps := #[.int .i64 n, .agg #[.slice a xs.length cap, (Value.func (.func 87) #[] #[])], .pointer (some ⟨w.heap.size, 0, none⟩), .pointer (some ⟨w.heap.size + 1, 0, none⟩), .pointer (some ⟨w.heap.size + 1 + 1, 0, none⟩), .pointer (some ⟨w.heap.size + 1 + 1 + 1, 0, none⟩), undef, .pointer (some ⟨Bx, 0, none⟩), undef, .agg Z, .int .i64 n, .agg #[.slice a5 us.length c5, (Value.func (.func 87) #[] #[])], .slice a5 us.length c5, .func (.func 77) #[] #[.pointer (some ⟨w5.heap.size, 0, none⟩)], .int .i64 x.1.1, .int .u64 x.1.2, undef, undef, undef, undef, undef, undef, undef, undef, undef, undef, undef, undef, undef, undef, undef, undef, undef, undef, undef, undef, undef, undef, undef, undef, undef, undef, undef, undef], defers := [] })
    (fun x a' _ X Y row hs hg hr => by obtain ⟨Bx, h1, h2, h3⟩ := hs; exact ⟨Bx, h1, boxed_own Bx 55 (fun (_ : Unit) => Value.int .u64 x.1.2) () X Y row h2 hg (fun r e => (hr r e).2), h3⟩)
    ?assign ?body ?done ?stop
  case assign =>
    rintro l pre x W K ⟨⟨hr1, hB1⟩, hs1⟩ hK
    gi_wp2
    exact hK _ _ ((KeepsOthers.alloc _ _).from _) ((KX.refl _ _ W).alloc hs1 _) ⟨⟨hr1.alloc _, hB1.alloc (by omega) _⟩, by simp; omega⟩ ⟨W.heap.size, by omega, Boxed.new W _ _, rfl⟩
  case body =>
    rintro l pre x a' W hl ⟨r, hr⟩ ⟨⟨hr1, hB1⟩, hs1⟩ ⟨Bx, hBx, bX, rfl⟩ hlt
    obtain ⟨⟨i0, s⟩, s1, s2⟩ := x
    dsimp only at s1 s2 bX ⊢
    obtain ⟨t, rfl⟩ : ∃ t : Nat, s = t := ⟨s.toNat, by omega⟩
    have cn : W.cell? ⟨w.heap.size, 0, none⟩ = some (.int .i64 n) := by rw [cell_of_row W _ 0 _ 3 (0, 0) ((hB1.block w.heap.size (by omega)).trans h3n)]; rfl
    have cX := bX.cell
    have hall := Lib.hid (all_pts n n1 n2)
    have ek := hr1.cell (i := t) (by omega)
    have fk := hr1.frozen t
    gi_wp2_with fail
    rename_i Kb hKb
    have hgo : Kb { tmps := #[.int .i64 n, .agg #[.slice a xs.length cap, (Value.func (.func 87) #[] #[])], .pointer (some ⟨w.heap.size, 0, none⟩), .pointer (some ⟨w.heap.size + 1, 0, none⟩), .pointer (some ⟨w.heap.size + 1 + 1, 0, none⟩), .pointer (some ⟨w.heap.size + 1 + 1 + 1, 0, none⟩), undef, .pointer (some ⟨Bx, 0, none⟩), undef, .agg Z, .int .i64 n, .agg #[.slice a5 us.length c5, (Value.func (.func 87) #[] #[])], .slice a5 us.length c5, .func (.func 77) #[] #[.pointer (some ⟨w5.heap.size, 0, none⟩)], .int .i64 i0, .int .u64 (t : Nat), .int .u64 (t : Nat), .int .i64 n, .int .u64 (2 ^ n.toNat - 1), .pointer (some ⟨w.heap.size + 1 + 1 + 1, t, none⟩), undef, undef, undef, undef, undef, undef, undef, undef, undef, undef, undef, undef, undef, undef, undef, undef, undef, undef, undef, undef, undef, undef, undef, undef], defers := [] } ((W.setCell ⟨w.heap.size + 1 + 1 + 1, t, none⟩ (.int .u64 (2 ^ n.toNat - 1))).drew) := by
      refine hKb _ _ ?_
      clear hKb
      have hr2 := (hr1.set t (.int .u64 (2 ^ n.toNat - 1))).drew
      have hB2 : Below (w.heap.size + 1 + 1 + 1) W3 (W.setCell ⟨w.heap.size + 1 + 1 + 1, t, none⟩ (.int .u64 (2 ^ n.toNat - 1))).drew := (below_setCell hB1 (p := ⟨w.heap.size + 1 + 1 + 1, t, none⟩) (Nat.le_refl _) _).drew
      have hkx2 : KX W6.heap.size (w.heap.size + 1 + 1 + 1) W (W.setCell ⟨w.heap.size + 1 + 1 + 1, t, none⟩ (.int .u64 (2 ^ n.toNat - 1))).drew := (KX.refl _ _ W).store t _
      have hkf2 : KeepsFrom W6.heap.size W (W.setCell ⟨w.heap.size + 1 + 1 + 1, t, none⟩ (.int .u64 (2 ^ n.toNat - 1))).drew := ((KeepsOthers.setCell _ _ _).trans (KeepsOthers.drew _)).from _
      have bX2 : Boxed (W.setCell ⟨w.heap.size + 1 + 1 + 1, t, none⟩ (.int .u64 (2 ^ n.toNat - 1))).drew Bx 55 (.int .u64 (t : Nat)) := (Below.heap_setCell _ _ _ _ (show Bx ≠ w.heap.size + 1 + 1 + 1 by omega)).trans bX
      have hl2 : ∃ r, (W.setCell ⟨w.heap.size + 1 + 1 + 1, t, none⟩ (.int .u64 (2 ^ n.toNat - 1))).drew.heap[l]? = some (.loop r) := ⟨r, (Below.heap_setCell _ _ _ _ (show l ≠ w.heap.size + 1 + 1 + 1 by omega)).trans hr⟩
      have hs2 : W6.heap.size ≤ (W.setCell ⟨w.heap.size + 1 + 1 + 1, t, none⟩ (.int .u64 (2 ^ n.toNat - 1))).drew.heap.size := by simpa [World.setCell] using hs1
      obtain ⟨W2, hW2⟩ : ∃ W2, (W.setCell ⟨w.heap.size + 1 + 1 + 1, t, none⟩ (.int .u64 (2 ^ n.toNat - 1))).drew = W2 := ⟨_, rfl⟩
      rw [hW2] at hr2 hB2 hkx2 hkf2 bX2 hl2 hs2 ⊢
      obtain ⟨r2, hl2⟩ := hl2
      have cn2 : W2.cell? ⟨w.heap.size, 0, none⟩ = some (.int .i64 n) := by rw [cell_of_row W2 _ 0 _ 3 (0, 0) ((hB2.block w.heap.size (by omega)).trans h3n)]; rfl
      have cX2 := bX2.cell
      replace hW2 := Lib.hid hW2
      obtain ⟨D, hD⟩ : ∃ D, difI (2 ^ n.toNat - 1) (t : Nat) = D := ⟨_, rfl⟩
      obtain ⟨q1, q2⟩ := all_pow n1 n2
      have hDb : 0 ≤ D ∧ D < 256 := by rw [← hD]; have := dif_bd (x := 2 ^ n.toNat - 1) (y := (t : Nat)) q1; omega
      have hless := Lib.hid (fun w => set_less (2 ^ n.toNat - 1) (t : Nat) q1 q2 (by omega) (by omega) w)
      rw [hD] at hless
      obtain ⟨d1, d2⟩ := hDb
      replace hD := Lib.hid hD
      gi_wp2_with fail
      rename_i Kc hKc
      have hgo2 : Kc { tmps := #[.int .i64 n, .agg #[.slice a xs.length cap, (Value.func (.func 87) #[] #[])], .pointer (some ⟨w.heap.size, 0, none⟩), .pointer (some ⟨w.heap.size + 1, 0, none⟩), .pointer (some ⟨w.heap.size + 1 + 1, 0, none⟩), .pointer (some ⟨w.heap.size + 1 + 1 + 1, 0, none⟩), undef, .pointer (some ⟨Bx, 0, none⟩), undef, .agg Z, .int .i64 n, .agg #[.slice a5 us.length c5, (Value.func (.func 87) #[] #[])], .slice a5 us.length c5, .func (.func 77) #[] #[.pointer (some ⟨w5.heap.size, 0, none⟩)], .int .i64 i0, .int .u64 (t : Nat), .int .u64 (t : Nat), .int .i64 n, .int .u64 (2 ^ n.toNat - 1), .pointer (some ⟨w.heap.size + 1 + 1 + 1, t, none⟩), .int .i64 n, .int .u64 (2 ^ n.toNat - 1), .int .u64 (t : Nat), .int .u64 D, .func (.func 63) #[] #[.pointer (some ⟨W2.heap.size, 0, none⟩)], undef, undef, undef, undef, undef, undef, undef, undef, undef, undef, undef, undef, undef, undef, undef, undef, undef, undef, undef], defers := [] } ((W2.alloc (.cells #[.int .u64 D] 55)).drew) := by
        refine hKc _ _ ?_
        clear hKc
        have hr7 := (hr2.alloc (.cells #[.int .u64 D] 55)).drew
        have hB7 : Below (w.heap.size + 1 + 1 + 1) W3 ((W2.alloc (.cells #[.int .u64 D] 55)).drew) := (hB2.alloc (by omega) _).drew
        have hkx7 : KX W6.heap.size (w.heap.size + 1 + 1 + 1) W ((W2.alloc (.cells #[.int .u64 D] 55)).drew) := hkx2.alloc hs2 _
        have hkf7 : KeepsFrom W6.heap.size W ((W2.alloc (.cells #[.int .u64 D] 55)).drew) := hkf2.trans (((KeepsOthers.alloc _ _).trans (KeepsOthers.drew _)).from _)
        have bX7 : Boxed ((W2.alloc (.cells #[.int .u64 D] 55)).drew) Bx 55 (.int .u64 (t : Nat)) := bX2.alloc _
        have hl7 : ((W2.alloc (.cells #[.int .u64 D] 55)).drew).heap[l]? = some (.loop r2) := (Below.heap_alloc W2 _ l (Array.getElem?_eq_some_iff.1 hl2).1).trans hl2
        have bP : Boxed ((W2.alloc (.cells #[.int .u64 D] 55)).drew) W2.heap.size 55 (.int .u64 D) := Boxed.new W2 _ _
        have hs7 : W6.heap.size ≤ ((W2.alloc (.cells #[.int .u64 D] 55)).drew).heap.size := Nat.le_trans hs2 (by have : ((W2.alloc (.cells #[.int .u64 D] 55)).drew).heap.size = W2.heap.size + 1 := World.size_alloc _ _; omega)
        have hsW7 : W.heap.size ≤ ((W2.alloc (.cells #[.int .u64 D] 55)).drew).heap.size := hkx7.1
        have hlt7 : W2.heap.size < ((W2.alloc (.cells #[.int .u64 D] 55)).drew).heap.size := bP.lt
        have htl := hTw.out.lt
        have hT7 : Tab ((W2.alloc (.cells #[.int .u64 D] 55)).drew) := hTw.out.below (hbw3.out.trans (hB7.mono (by omega))) htl
        obtain ⟨W7, hW7⟩ : ∃ W7, ((W2.alloc (.cells #[.int .u64 D] 55)).drew) = W7 := ⟨_, rfl⟩
        rw [hW7] at hr7 hB7 hkx7 hkf7 bX7 hl7 bP hs7 hsW7 hlt7 hT7 ⊢
        replace hW7 := Lib.hid hW7
        obtain ⟨K, hK⟩ : ∃ K, keptK n xs (isets pre) = K := ⟨_, rfl⟩
        rw [hK] at hr7
        have hKb : ∀ j, 0 ≤ K j ∧ K j < 256 := by
          rw [← hK]
          exact kept_bd n1 n2 xs (isets pre) (fun s hs => by
            obtain ⟨y, _, rfl⟩ := List.mem_map.1 hs
            exact y.2)
        replace hK := Lib.hid hK
        gi_wp2_with fail
        refine wpIn_rangeFunc_ownN (l₀ := l) (r₀ := r2) rfl hl7 (by omega) (gf := 63) (lb := #[.pointer (some ⟨W2.heap.size, 0, none⟩)]) rfl trivial (enters_of Tryd.func63 (by kernel_rfl) rfl)
          ((pts_stops _ (by omega) W2.heap.size w.heap.size D d1 d2 W7 hlt7 bP.cell hT7 htl).inRound l) belowK_t (belowK_b (by omega)) (Below.refl _ _) (fun _ => rfl)
          (fun (pre2 : List (PtOf D)) W' => ((W'.rowIs (w.heap.size + 1 + 1 + 1) 57 256 (fun j => if j = t then .int .u64 (accK n K (t : Nat) (vals pre2)) else .int .u64 (K j)) ∧ Boxed W' Bx 55 (.int .u64 (t : Nat))) ∧ (Below (w.heap.size + 1 + 1 + 1) W3 W' ∧ KX W6.heap.size (w.heap.size + 1 + 1 + 1) W W')) ∧ (KeepsFrom W6.heap.size W W' ∧ W6.heap.size ≤ W'.heap.size))
          (fun _ _ _ => False)
          (OwnFrom.and (OwnFrom.and (OwnFrom.and (_root_.Go.Own.from (row_own _ _ _ (fun (pre2 : List (PtOf D)) j => if j = t then .int .u64 (accK n K (t : Nat) (vals pre2)) else .int .u64 (K j))) _) (_root_.Go.Own.from (boxed_own _ _ _) _)) (OwnFrom.and (ownFrom_below (by omega) (by omega)) (kx_own (by omega) (by omega)))) (OwnFrom.and (ownFrom_keepsFrom (by omega)) (fun _ _ _ _ hs hg _ => Nat.le_trans hs hg.size)))
          (fun _ _ _ _ _ hs _ _ => hs)
          ⟨⟨⟨hr7.congr (fun j _ => rfl), bX7⟩, hB7, hkx7⟩, hkf7, hs7⟩
          (fun y a'' _ => a'' = { tmps := #[.int .i64 n, .agg #[.slice a xs.length cap, (Value.func (.func 87) #[] #[])], .pointer (some ⟨w.heap.size, 0, none⟩), .pointer (some ⟨w.heap.size + 1, 0, none⟩), .pointer (some ⟨w.heap.size + 1 + 1, 0, none⟩), .pointer (some ⟨w.heap.size + 1 + 1 + 1, 0, none⟩), undef, .pointer (some ⟨Bx, 0, none⟩), .int .i64 y.1, .agg Z, .int .i64 n, .agg #[.slice a5 us.length c5, (Value.func (.func 87) #[] #[])], .slice a5 us.length c5, .func (.func 77) #[] #[.pointer (some ⟨w5.heap.size, 0, none⟩)], .int .i64 i0, .int .u64 (t : Nat), .int .u64 (t : Nat), .int .i64 n, .int .u64 (2 ^ n.toNat - 1), .pointer (some ⟨w.heap.size + 1 + 1 + 1, t, none⟩), .int .i64 n, .int .u64 (2 ^ n.toNat - 1), .int .u64 (t : Nat), .int .u64 D, .func (.func 63) #[] #[.pointer (some ⟨W2.heap.size, 0, none⟩)], .int .i64 y.1, undef, undef, undef, undef, undef, undef, undef, undef, undef, undef, undef, undef, undef, undef, undef, undef, undef, undef], defers := [] })
          (fun _ _ _ _ _ _ hs _ _ => hs)
          ?assign2 ?body2 ?done2 ?stop2
        case assign2 =>
          rintro l2 pre2 y W' K2 hi hK2
          gi_wp2
          exact hK2 _ _ (KeepsFrom.refl _ _) (Below.refl _ _) hi rfl
        case body2 =>
          rintro l2 pre2 ⟨y, y1, y2, y3⟩ a'' W' _ _ ⟨⟨⟨hr8, bX8⟩, hB8, hkx8⟩, hkf8, hs8⟩ rfl _
          obtain ⟨p, rfl⟩ : ∃ p : Nat, y = p := ⟨y.toNat, by omega⟩
          have cX8 := bX8.cell
          have cn8 : W'.cell? ⟨w.heap.size, 0, none⟩ = some (.int .i64 n) := by rw [cell_of_row W' _ 0 _ 3 (0, 0) ((hB8.block w.heap.size (by omega)).trans h3n)]; rfl
          have hab := acc_bd n1 n2 K (t : Nat) (vals pre2)
          have e1 : W'.cell? ⟨w.heap.size + 1 + 1 + 1, t, none⟩ = some (.int .u64 (accK n K (t : Nat) (vals pre2))) := by
            have h9 := hr8.cell (i := t) (by omega)
            rw [if_pos rfl] at h9
            exact h9
          obtain ⟨q, hq⟩ : ∃ q : Nat, withI (t : Nat) (p : Nat) = q := ⟨(withI (t : Nat) (p : Nat)).toNat, (Int.toNat_of_nonneg (with_pos _ _)).symm⟩
          have hq9 := with_lt8 (t := t) (p := p) (by omega) (by omega)
          have hqt : (t : Int) < withI (t : Nat) (p : Nat) := with_up (by omega) (by
            have h9 := y3
            unfold hasB at h9
            rw [← hD.out, dif_bits, Bool.and_eq_true] at h9
            simpa using h9.2)
          have hac := acc_snoc n K (t : Nat) (vals pre2) (p : Nat)
          rw [hq, Int.toNat_natCast] at hac
          have hwi := Lib.hid (fun w => set_with (t : Nat) (p : Nat) (by omega) (by omega) (by omega) (by omega) w)
          rw [hq] at hwi hq9 hqt
          have hq1 : q < 256 := by omega
          have hq2 : q ≠ t := by omega
          have q0 : (0 : Int) ≤ (q : Int) := by omega
          have q3 : (q : Int) < 256 := by omega
          have e2 : W'.cell? ⟨w.heap.size + 1 + 1 + 1, q, none⟩ = some (.int .u64 (K q)) := by
            have h9 := hr8.cell (i := q) hq1
            rw [if_neg hq2] at h9
            exact h9
          obtain ⟨A, hA⟩ : ∃ A, accK n K (t : Nat) (vals pre2) = A := ⟨_, rfl⟩
          rw [hA] at e1 hac hab
          obtain ⟨kq, hkq⟩ : ∃ kq, K q = kq := ⟨_, rfl⟩
          have hkqb := hKb q
          rw [hkq] at e2 hac hkqb
          have hcm := Lib.hid (fun w => set_common A kq hab.1 hab.2 hkqb.1 hkqb.2 w)
          obtain ⟨R, hR⟩ : ∃ R, andI A kq = R := ⟨_, rfl⟩
          rw [hR] at hac hcm
          have f1 := hr8.frozen t
          have hfin : KeepsFrom W7.heap.size W' ((W'.setCell ⟨w.heap.size + 1 + 1 + 1, t, none⟩ (.int .u64 R)).drew) ∧ Below w.heap.size W' ((W'.setCell ⟨w.heap.size + 1 + 1 + 1, t, none⟩ (.int .u64 R)).drew) ∧ (((((W'.setCell ⟨w.heap.size + 1 + 1 + 1, t, none⟩ (.int .u64 R)).drew).rowIs (w.heap.size + 1 + 1 + 1) 57 256 (fun j => if j = t then .int .u64 (accK n K (t : Nat) (vals (pre2 ++ [⟨(p : Int), y1, y2, y3⟩]))) else .int .u64 (K j)) ∧ Boxed ((W'.setCell ⟨w.heap.size + 1 + 1 + 1, t, none⟩ (.int .u64 R)).drew) Bx 55 (.int .u64 (t : Nat))) ∧ (Below (w.heap.size + 1 + 1 + 1) W3 ((W'.setCell ⟨w.heap.size + 1 + 1 + 1, t, none⟩ (.int .u64 R)).drew) ∧ KX W6.heap.size (w.heap.size + 1 + 1 + 1) W ((W'.setCell ⟨w.heap.size + 1 + 1 + 1, t, none⟩ (.int .u64 R)).drew))) ∧ (KeepsFrom W6.heap.size W ((W'.setCell ⟨w.heap.size + 1 + 1 + 1, t, none⟩ (.int .u64 R)).drew) ∧ W6.heap.size ≤ ((W'.setCell ⟨w.heap.size + 1 + 1 + 1, t, none⟩ (.int .u64 R)).drew).heap.size)) := by
            refine ⟨((KeepsOthers.setCell _ _ _).trans (KeepsOthers.drew _)).from _, (below_setCell (Below.refl _ W') (p := ⟨w.heap.size + 1 + 1 + 1, t, none⟩) (show w.heap.size ≤ w.heap.size + 1 + 1 + 1 by omega) _).drew, ⟨⟨?_, (Below.heap_setCell _ _ _ _ (show Bx ≠ w.heap.size + 1 + 1 + 1 by omega)).trans bX8⟩, (below_setCell hB8 (p := ⟨w.heap.size + 1 + 1 + 1, t, none⟩) (Nat.le_refl _) _).drew, hkx8.store t _⟩, hkf8.trans (((KeepsOthers.setCell _ _ _).trans (KeepsOthers.drew _)).from _), by simpa [World.setCell] using hs8⟩
            refine ((hr8.set t (.int .u64 R)).drew).congr (fun j _ => ?_)
            rw [vals_snoc, hac]
            by_cases e : j = t
            · rw [if_pos e, if_pos e]
            · rw [if_neg e, if_neg e, if_neg e]
          replace hac := Lib.hid hac
          replace hA := Lib.hid hA
          replace hkq := Lib.hid hkq
          replace hR := Lib.hid hR
          replace hq := Lib.hid hq
          replace hfin := Lib.hid hfin
          clear hr8 hB8 hkx8 hkf8
          gi_wp2_with fail
          refine region_still_in (l₀ := l2) 11 (by kernel_rfl) (fun ⟨_, _, h⟩ => h) (no_defer (by kernel_rfl)) (by kernel_rfl) ?_
          simp only [List.take_succ_cons, List.take_zero, List.drop_succ_cons, List.drop_zero]
          still_step
          still_step
          still_step
          still_step
          still_step
          still_step
          still_call ((hwi.out _).mono (fun _ _ ⟨h1, h2⟩ => ⟨h1, h2.symm⟩))
          still_step
          still_step
          still_call ((hcm.out _).mono (fun _ _ ⟨h1, h2⟩ => ⟨h1, h2.symm⟩))
          still_step
          refine wpStill_nil ?_
          change wpList _ _ _ _ _ W'.drew
          go_wp2
          exact hfin.out
        case done2 =>
          rintro ys' W' hys ⟨⟨⟨hr8, bX8⟩, hB8, hkx8⟩, hkf8, hs8⟩
          rw [hys] at hr8
          have cX8 := bX8.cell
          have hf1 : W'.heap[w.heap.size + 1]? = some (.cells #[.slice a xs.length cap, (Value.func (.func 87) #[] #[])] 51 (0, 0)) := (hB8.block _ (by omega)).trans h3f
          have cf0 : W'.cell? ⟨w.heap.size + 1, 0, none⟩ = some (.slice a xs.length cap) := by rw [cell_of_row W' _ 0 _ 51 (0, 0) hf1]; rfl
          have cf1 : W'.cell? ⟨w.heap.size + 1, 1, none⟩ = some (Value.func (.func 87) #[] #[]) := by rw [cell_of_row W' _ 1 _ 51 (0, 0) hf1]; rfl
          have hbW : Below w.heap.size w W' := hbw3.out.trans (hB8.mono (by omega))
          have hhas := has_any (.slice a xs.length cap) xs (t : Nat) S W' (hx.out.below hbW hS) (famB_asc hf.out) (by have := famB_len hf.out; omega) (by have := hbW.size; omega)
          have hst : keptK n xs (isets (pre ++ [⟨(i0, (t : Int)), s1, s2⟩])) = stepK n xs K (t : Nat) := by rw [isets_snoc, kept_snoc, hK.out]
          have hrl := hr8.lt
          have hXl := bX8.lt
          have hzW := hB8.size
          rcases (by cases memB (t : Int) xs <;> simp : memB (t : Int) xs = true ∨ memB (t : Int) xs = false) with hm | hm
          · rw [hm] at hhas
            have hrow : ∀ V : World, V.rowIs (w.heap.size + 1 + 1 + 1) 57 256 (fun j => if j = t then .int .u64 (t : Nat) else (if j = t then .int .u64 (accK n K (t : Nat) (ptsI D)) else .int .u64 (K j))) → V.rowIs (w.heap.size + 1 + 1 + 1) 57 256 (fun j => .int .u64 (keptK n xs (isets (pre ++ [⟨(i0, (t : Int)), s1, s2⟩])) j)) := fun V h => h.congr (fun j _ => by
              rw [hst]
              unfold stepK
              by_cases e : j = t
              · subst e; rw [if_pos rfl, if_pos rfl, if_pos hm]
              · rw [if_neg e, if_neg e, if_neg (by omega)])
            replace hhas := Lib.hid hhas
            replace hst := Lib.hid hst
            replace hrow := Lib.hid hrow
            replace hm := Lib.hid hm
            replace hys := Lib.hid hys
            replace hbW := Lib.hid hbW
            replace hf1 := Lib.hid hf1
            gi_wp2_with (refine ⟨trivial, ?_⟩; gi_at_call 60; refine (CallsIn.inRound l (callsIn_wide.2 hhas.out)).mono ?_; rintro e w8 ⟨rfl, hb8⟩; have cX9 := (hb8.cell (p := ⟨Bx, 0, none⟩) hXl).trans cX8; have hr9 := hr8.of_block (hb8.block _ hrl); have f9 := hr9.frozen t; have g9 := hr9.cell (i := t) (by omega))
            have kf8 : KeepsFrom W6.heap.size W' w8 := ⟨hb8.size, fun k o _ hk _ => (hb8.block k (Array.getElem?_eq_some_iff.1 hk).1).trans hk⟩
            have hz8 := hb8.size
            have hB9 : Below (w.heap.size + 1 + 1 + 1) W3 w8 := hB8.trans (hb8.mono (by omega))
            exact ⟨(hkf8.trans kf8).trans ((KeepsOthers.setCell _ _ _).from _), (hkx8.trans (KX.of_below hb8 hs8)).store t _, ⟨hrow.out _ (hr9.set t _), below_setCell hB9 (p := ⟨w.heap.size + 1 + 1 + 1, t, none⟩) (Nat.le_refl _) _⟩, by simp only [World.setCell, Array.size_modify]; omega⟩
          · rw [hm] at hhas
            have hrow : ∀ V : World, V.rowIs (w.heap.size + 1 + 1 + 1) 57 256 (fun j => if j = t then .int .u64 (accK n K (t : Nat) (ptsI D)) else .int .u64 (K j)) → V.rowIs (w.heap.size + 1 + 1 + 1) 57 256 (fun j => .int .u64 (keptK n xs (isets (pre ++ [⟨(i0, (t : Int)), s1, s2⟩])) j)) := fun V h => h.congr (fun j _ => by
              rw [hst]
              unfold stepK
              by_cases e : j = t
              · subst e; rw [if_pos rfl, if_pos rfl, if_neg (by simp [hm]), hD.out]
              · rw [if_neg e, if_neg (by omega)])
            replace hhas := Lib.hid hhas
            replace hst := Lib.hid hst
            replace hrow := Lib.hid hrow
            replace hm := Lib.hid hm
            replace hys := Lib.hid hys
            replace hbW := Lib.hid hbW
            replace hf1 := Lib.hid hf1
            gi_wp2_with (refine ⟨trivial, ?_⟩; gi_at_call 60; refine (CallsIn.inRound l (callsIn_wide.2 hhas.out)).mono ?_; rintro e w8 ⟨rfl, hb8⟩; have cX9 := (hb8.cell (p := ⟨Bx, 0, none⟩) hXl).trans cX8; have hr9 := hr8.of_block (hb8.block _ hrl))
            have kf8 : KeepsFrom W6.heap.size W' w8 := ⟨hb8.size, fun k o _ hk _ => (hb8.block k (Array.getElem?_eq_some_iff.1 hk).1).trans hk⟩
            have hz8 := hb8.size
            have hB9 : Below (w.heap.size + 1 + 1 + 1) W3 w8 := hB8.trans (hb8.mono (by omega))
            exact ⟨hkf8.trans kf8, hkx8.trans (KX.of_below hb8 hs8), ⟨hrow.out _ hr9, hB9⟩, by omega⟩
        case stop2 =>
          rintro c pre' W' _ h
          exact h.elim
      gi_region_with (first
        | (refine ⟨trivial, ?_⟩; gi_at_call 55; refine (CallsIn.inRound l (callsIn_wide.2 (hall.out _))).mono ?_; rintro e w' ⟨rfl, rfl⟩)
        | (refine ⟨trivial, ?_⟩; gi_at_call 58; refine (CallsIn.inRound l (callsIn_wide.2 (hless.out _))).mono ?_; rintro e w' ⟨rfl, rfl⟩)
        | (refine ⟨trivial, ?_⟩; gi_at_call 36; refine (CallsIn.inRound l (pts_makeN _ _ _)).mono ?_; rintro e w' ⟨rfl, rfl⟩))
      all_goals exact hgo2
    gi_region_with (refine ⟨trivial, ?_⟩; gi_at_call 55; refine (CallsIn.inRound l (callsIn_wide.2 (hall.out _))).mono ?_; rintro e w' ⟨rfl, rfl⟩)
    all_goals exact hgo
  case done =>
    rintro D zs W hD hys ⟨⟨hr1, hB1⟩, hs1⟩ hK
    rw [hys] at hr1
    obtain ⟨KF, hKF⟩ : ∃ KF, keptK n xs us.reverse = KF := ⟨_, rfl⟩
    rw [hKF] at hr1
    have hblk := row_arr hr1
    have hres : W.heap[w.heap.size + 1 + 1]? = some (.cells Z 57 (0, 0)) := (hB1.block _ (by omega)).trans h3r
    have hld : (Instr.loadAt 57 (.pointer (some ⟨w.heap.size + 1 + 1 + 1, 0, none⟩))).run Tryd.prog W = .ok (.agg (arrV KF)) W := load_arr hblk
    have hst : (storeCells ⟨w.heap.size + 1 + 1, 0, none⟩ (arrV KF).toList).run Tryd.prog W = .ok () (W.setRow (w.heap.size + 1 + 1) (arrV KF)) := store_arr hres hZs
    have has := arr_size KF
    gi_wp2_with fail
    refine load_in 57 (.tmp 5) rfl _ hld ?_
    gi_wp2_with fail
    have hK2 : (W.setRow (w.heap.size + 1 + 1) (arrV KF)).heap[D]? = some (.deferred (some [])) := (setRow_other W _ D _ (by omega)).trans hK
    have hr3 : ((W.setRow (w.heap.size + 1 + 1) (arrV KF)).putObj D (.deferred none)).heap[w.heap.size + 1 + 1]? = some (.cells (arrV KF) 57 (0, 0)) := (World.putObj_heap_other (by omega)).trans (setRow_same W _ 57 Z _ hres)
    have hbf := below_setRow (hbw3.out.trans (hB1.mono (by omega))) (show w.heap.size ≤ w.heap.size + 1 + 1 by omega) (arrV KF)
    refine ⟨by simp, .inl ⟨_, _, rfl, run_takeDeferred hK2, ?_⟩⟩
    exact ⟨_, results_cell_row rfl _ _ _ 57 (arrV KF) (0, 0) _ rfl hr3 Tryd.underlying57 rfl (by rw [has]; exact kern_info), by rw [hKF], hbf.trans (belowK_b (w := w) (Nat.le_refl _) _ D _ _ (by omega) hK2 rfl rfl)⟩
  case stop =>
    rintro D c pre W _ _ h _
    exact h.elim
end Go.Proofs.YtjhjmbiecihjhaaDoor
