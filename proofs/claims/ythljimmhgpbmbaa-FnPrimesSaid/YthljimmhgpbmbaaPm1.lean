/- The program's UnionPrimes. -/
import Derived.Test.YthljimmhgpbmbaaCo3
namespace Go.Proofs.Ythljimmhgpbmbaa
open Go.ChangeShapes Go.WideShapes Go.ChangeAt Go.RowKit Go.Proofs

/-- the union of the sets of a list that are parts of s and not s. -/
def belI (s : Int) (xs : List Int) : Int := xs.foldl (fun a x => if partO x s then orI a x else a) 0
theorem bel_take {xs : List Int} {k : Nat} {x : Int} (hk : k < xs.length) (hx : xs.getD k 0 = x) (s : Int) : belI s (xs.take (k + 1)) = if partO x s then orI (belI s (xs.take k)) x else belI s (xs.take k) := by
  unfold belI; rw [take_snoc hk, hx, List.foldl_append]; rfl
theorem bel_fold {n s : Int} : ∀ (xs : List Int) (a : Int), setB n a = true → (∀ z ∈ xs, setB n z = true) → setB n (xs.foldl (fun a x => if partO x s then orI a x else a) a) = true
  | [], _, h, _ => h
  | x :: xs, a, h, h2 => by
    rw [List.foldl_cons]
    refine bel_fold xs _ ?_ (fun z hz => h2 z (by simp [hz]))
    cases partO x s
    · exact h
    · exact orI_set h (h2 x (by simp))
theorem set_zero {n : Int} (h1 : 1 ≤ n) (h2 : n ≤ 8) : setB n 0 = true := by
  have h := Nat.two_pow_pos n.toNat
  have e : ((2 ^ n.toNat : Nat) : Int) = 2 ^ n.toNat := by simp
  exact setB_mk ⟨h1, h2, by omega, by omega⟩
theorem bel_set {n : Int} {xs : List Int} (h1 : 1 ≤ n) (h2 : n ≤ 8) (h : ∀ z ∈ xs, setB n z = true) (s : Int) : setB n (belI s xs) = true := bel_fold xs 0 (set_zero h1 h2) h
/-- the sets that are not the union of smaller ones. -/
def primL (xs : List Int) : List Int := xs.filter (fun s => belI s xs != s)
set_option maxHeartbeats 4000000 in
theorem under_at (n s : Int) (lv : Value) (xs : List Int) (S : Nat) (w : World) (hx : SRow w S lv xs) (hS : S ≤ w.heap.size) (hl : xs.length ≤ 100000) (n1 : 1 ≤ n) (n2 : n ≤ 8) (hz : ∀ z ∈ xs, setB n z = true) (s1 : 0 ≤ s) (s2 : s < 256) :
    Calls Try.prog 75 #[.int .u64 s, .agg #[lv, (Value.func (.func 99) #[] #[])]] w fun e w' => e = .returned (.int .u64 (belI s xs)) ∧ Below w.heap.size w w' := by
  obtain ⟨a, cap, rfl, ha⟩ := hx
  have hbs := Lib.hid (fun k => bel_set n1 n2 (set_take hz k) s)
  replace ha := Lib.hid ha
  replace hz := Lib.hid hz
  go_enter Try.func75, Try.ntmps75
  go_wp2_with fail
  go_loopw [5, 11] (fun v q wr => ∃ k : Nat, k ≤ xs.length ∧ q = .int .i64 k ∧ (∃ r, v = .int .u64 r ∧ Hid (belI s (xs.take k) = r)) ∧ Hid (Below w.heap.size w wr)) (fun _ q _ => xs.length - (intOf q).toNat)
  case atStart => exact ⟨0, by omega, rfl, ⟨0, rfl, Lib.hid rfl⟩, Lib.hid ((Below.refl _ w).alloc (Nat.le_refl _) _)⟩
  case round =>
    obtain ⟨k, hk, rfl, ⟨r, rfl, hr⟩, hb⟩ := hrel
    have hzz := hb.out.size
    by_cases hlt : k < xs.length
    · obtain ⟨b1, o1, rfl, t1, c1⟩ := ha.out (by omega)
      have k1 : (0 : Int) ≤ (k : Int) := by omega
      have k2 : (k : Int) < (xs.length : Nat) := by omega
      have e1 : wr.cell? ⟨b1, o1 + k, none⟩ = some (.int .u64 (xs.getD k 0)) := by
        rw [hb.out.cell (p := ⟨b1, o1 + k, none⟩) (show b1 < w.heap.size by omega)]
        exact c1 k hlt
      have hst := fun s => bel_take hlt rfl s
      obtain ⟨x, hx⟩ : ∃ x, xs.getD k 0 = x := ⟨_, rfl⟩
      rw [hx] at e1
      have hst := bel_take hlt hx s
      have hsx : setB n x = true := by rw [← hx]; exact hz.out _ (getD_mem hlt)
      obtain ⟨x1, x2⟩ := setB_lt hsx
      have hsr := hbs.out k
      rw [hr.out] at hsr hst
      obtain ⟨r1, r2⟩ := setB_lt hsr
      have hpo := fun w => set_part_other x s x1 x2 s1 s2 w
      rcases (by cases partO x s <;> simp : partO x s = true ∨ partO x s = false) with hp | hp
      · rw [hp] at hpo
        rw [hp, if_pos rfl] at hst
        have hcall := unionC_op (C := [r]) (s := x) (fun z hz => by rw [List.mem_singleton.1 hz]; exact hsr) hsx
        have hcall2 := fun W : World => hcall W r x (by simp) (by simp)
        obtain ⟨u, hu⟩ : ∃ u, orI r x = u := ⟨_, rfl⟩
        rw [hu] at hst hcall2
        replace hcall2 := Lib.hid hcall2
        replace hpo := Lib.hid hpo
        replace hst := Lib.hid hst
        replace hu := Lib.hid hu
        replace hp := Lib.hid hp
        replace hx := Lib.hid hx
        clear c1 hcall
        go_wp2_with (go_at_call 98; refine (hpo.out _).mono ?_; rintro e w' ⟨rfl, rfl⟩)
        refine (hcall2.out _).mono ?_
        rintro e w2 ⟨rfl, hb2⟩
        replace hb2 := Lib.hid (hb.out.trans (hb2.mono hzz))
        go_wp2_with fail
        go_roundw
        case rel => exact ⟨k + 1, by omega, by go_num, ⟨u, rfl, hst⟩, hb2⟩
        case measure => simp [intOf]; omega
      · rw [hp] at hpo
        rw [hp, if_neg (by simp)] at hst
        replace hpo := Lib.hid hpo
        replace hst := Lib.hid hst
        replace hp := Lib.hid hp
        replace hx := Lib.hid hx
        clear c1
        go_wp2_with (go_at_call 98; refine (hpo.out _).mono ?_; rintro e w' ⟨rfl, rfl⟩)
        go_roundw
        case rel => exact ⟨k + 1, by omega, by go_num, ⟨r, rfl, hst⟩, hb⟩
        case measure => simp [intOf]; omega
    · obtain rfl : k = xs.length := by omega
      have hr2 := hr.out
      rw [List.take_length] at hr2
      replace hr2 := Lib.hid hr2
      go_wp2_with fail
      go_ret
      exact ⟨by rw [hr2.out]; rfl, hb.out⟩
set_option maxHeartbeats 2000000 in
theorem prime_clo (n : Int) (lv : Value) (xs us : List Int) (S Bf : Nat) (w : World) (hB : Bf < w.heap.size) (hF : w.heap[Bf]? = some (.cells #[lv, (Value.func (.func 99) #[] #[])] 43 (0, 0))) (hx : SRow w S lv xs) (hS : S ≤ w.heap.size) (hl : xs.length ≤ 100000) (n1 : 1 ≤ n) (n2 : n ≤ 8)
    (hz : ∀ z ∈ xs, setB n z = true) (hu : ∀ z ∈ us, 0 ≤ z ∧ z < 256) :
    PredV 74 #[] #[.pointer (some ⟨Bf, 0, none⟩)] (fun s => belI s xs != s) us w := fun W s hm hb => by
  obtain ⟨s1, s2⟩ := hu s hm
  obtain ⟨a, cap, rfl, _⟩ := id hx
  obtain ⟨l0, l1⟩ := pair_cells hF hb hB
  have hSW : S ≤ W.heap.size := by have := hb.size; omega
  have hBW : Bf < W.heap.size := by have := hb.size; omega
  have hcon := under_at n s _ xs S W (hx.below hb hS) hSW hl n1 n2 hz s1 s2
  obtain ⟨B, hBB⟩ : ∃ B, belI s xs = B := ⟨_, rfl⟩
  rw [hBB] at hcon
  replace hcon := Lib.hid hcon
  show Calls Try.prog 74 #[.int .u64 s, .pointer (some ⟨Bf, 0, none⟩)] W fun e w' => e = .returned (.bool (belI s xs != s)) ∧ Below W.heap.size W w'
  rw [hBB]
  replace hBB := Lib.hid hBB
  obtain ⟨R, hR⟩ : ∃ R, (B != s) = R := ⟨_, rfl⟩
  rw [hR]
  replace hm := Lib.hid hm
  clear hx hb hz hu hF
  go_enter Try.func74, Try.ntmps74
  go_wp2_with fail
  refine hcon.out.mono ?_
  rintro e w2 ⟨rfl, hb2⟩
  replace hb2 := Lib.hid hb2
  clear hcon
  go_wp2_with fail
  go_ret
  exact ⟨rfl, hb2.out⟩
set_option maxHeartbeats 2000000 in
theorem primes_fam (n : Int) (xs : List Int) (w : World) (hf : famB n xs = true) :
    FamMap 45 #[] xs (sortL (primL xs)) w := fun W lv hb hx => by
  have hmf := mkfunc
  obtain ⟨n1, n2, hset⟩ := famB_all hf
  have hl := fam_len hf
  have hz := famB_lt hf
  obtain ⟨a, cap, rfl, _⟩ := id hx
  have hbw := ((Below.refl W.heap.size W).alloc (Nat.le_refl _) (.cells #[.slice a xs.length cap, (Value.func (.func 99) #[] #[])] 43)).alloc (by simp) (.cells #[.slice none 0 0, .nilFunc] 43)
  have hx2 := hx.below hbw (Nat.le_refl _)
  have hk := Lib.hid (kept_any 74 (enters_of Try.func74 (by kernel_rfl) rfl) #[] #[.pointer (some ⟨W.heap.size, 0, none⟩)] (fun s => belI s xs != s) _ xs _ _ hx2 (by simp; omega) hl hz
    (prime_clo n _ xs xs _ W.heap.size _ (by simp; omega) (new_cell2 W _ _ _) hx2 (by simp; omega) hl n1 n2 hset hz))
  obtain ⟨ys, hys⟩ : ∃ ys, sortL (primL xs) = ys := ⟨_, rfl⟩
  rw [show sortL (xs.filter (fun s => belI s xs != s)) = ys from hys] at hk
  rw [hys]
  replace hys := Lib.hid hys
  replace hbw := Lib.hid hbw
  replace hset := Lib.hid hset
  replace hz := Lib.hid hz
  replace hf := Lib.hid hf
  clear hx hx2 hb
  show Calls Try.prog 45 #[.agg #[.slice a xs.length cap, (Value.func (.func 99) #[] #[])]] W _
  go_enter Try.func45, Try.ntmps45
  go_wp2_with fail
  refine hk.out.mono ?_
  rintro e w2 ⟨v, rfl, hS2, hb2⟩
  obtain ⟨a', c', rfl⟩ := hS2.form
  rw [World.size_alloc, World.size_alloc] at hS2 hb2
  obtain ⟨d0, d1, df0, df1⟩ := res_cells (new_cell1 W _ _ _) hb2
  have rr := two_cells (.slice a' ys.length c') (Value.func (.func 99) #[] #[]) d0 d1
  have hff := Lib.hid (fam_fin hS2 (hbw.out.trans (hb2.mono (by omega))) (by omega))
  clear hS2 hb2 hk
  go_wp2_with fail
  exact bodyPost_ret (v := .agg #[.slice a' ys.length c', (Value.func (.func 99) #[] #[])]) (by simp [results, Try.results45, go_sem, rr.1, rr.2]) rfl ⟨_, rfl, hff.out⟩
theorem prim_len {n : Int} {xs : List Int} (hf : famB n xs = true) : (sortL (primL xs)).length ≤ 256 := asc_len256 (asc_sortL _) (fun z hz => famB_lt hf z (List.mem_filter.1 (mem_sortL.1 hz)).1)
set_option maxHeartbeats 2000000 in
theorem im_UnionPrimes (n : Int) (lv : Value) (xs : List Int) (S : Nat) (w : World) (hx : Row w S lv xs) (hS : S ≤ w.heap.size) (hl : xs.length ≤ 100000000) :
    Calls Try.prog 16 #[.int .i64 n, lv] w (ListPost (ifL (famB n xs && sameB (ucL orI xs) xs) (sortL (primL xs))) (famB n xs && sameB (ucL orI xs) xs) w) := by
  have h1 := im_UnionIn n lv xs S w hx hS hl
  rcases (by cases (famB n xs && sameB (ucL orI xs) xs) <;> simp : (famB n xs && sameB (ucL orI xs) xs) = true ∨ (famB n xs && sameB (ucL orI xs) xs) = false) with hB | hB
  · rw [hB] at h1 ⊢
    have hf : famB n xs = true := (Bool.and_eq_true _ _ ▸ hB).1
    have hm := Lib.hid (fun (W : World) (hx : Row W S lv xs) (hS : S ≤ W.heap.size) => made_one 45 (enters_of Try.func45 (by kernel_rfl) rfl) #[] n lv xs (sortL (primL xs)) S W hx hS hl (fun hf => ⟨primes_fam n xs W hf, fun z hz => famB_lt hf z (List.mem_filter.1 (mem_sortL.1 hz)).1, by have := prim_len hf; omega⟩))
    rw [hf] at hm
    obtain ⟨ys, hys⟩ : ∃ ys, sortL (primL xs) = ys := ⟨_, rfl⟩
    rw [hys] at hm ⊢
    replace hys := Lib.hid hys
    replace h1 := Lib.hid h1
    replace hB := Lib.hid hB
    replace hf := Lib.hid hf
    obtain ⟨la, lc, rfl, _⟩ := id hx
    replace hx := Lib.hid hx
    show Calls Try.prog 16 #[.int .i64 n, .slice la xs.length lc] w (ListPost ys true w)
    go_enter Try.func16, Try.ntmps16
    go_wp2_with fail
    refine h1.out.mono ?_
    rintro e w1 ⟨rfl, hb1⟩
    have hz1 := hb1.size
    have hm1 := Lib.hid (hm.out w1 (hx.out.below hb1 hS) (by omega))
    replace hb1 := Lib.hid hb1
    clear h1 hm
    go_wp2_with fail
    refine hm1.out.mono ?_
    rintro e w2 ⟨v, rfl, hO, hb⟩
    obtain ⟨ua, uc, rfl, _⟩ := id hO
    replace hO := Lib.hid (hO.mono hz1 (Nat.le_refl _))
    replace hb := Lib.hid (hb1.out.trans (hb.mono hz1))
    clear hm1
    go_wp2_with fail
    go_ret2
    exact ⟨_, rfl, hO.out, hb.out⟩
  · rw [hB] at h1 ⊢
    replace h1 := Lib.hid h1
    replace hB := Lib.hid hB
    obtain ⟨la, lc, rfl, _⟩ := id hx
    clear hx
    go_enter Try.func16, Try.ntmps16
    go_wp2_with fail
    refine h1.out.mono ?_
    rintro e w1 ⟨rfl, hb1⟩
    have hz1 := hb1.size
    replace hb1 := Lib.hid hb1
    clear h1
    go_wp2_with fail
    go_ret2
    exact ⟨_, rfl, own_empty _ _ _ _ _, hb1.out.alloc hz1 _⟩
end Go.Proofs.Ythljimmhgpbmbaa
