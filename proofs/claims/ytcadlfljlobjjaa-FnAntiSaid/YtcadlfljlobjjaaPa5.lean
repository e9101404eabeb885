/- Weights: others, rests; families that are often an antichain are drawn. -/
import Derived.Test.YtcadlfljlobjjaaAs2
import Derived.Test.YtcadlfljlobjjaaPf1
import Derived.Test.YtcadlfljlobjjaaCk1
import Derived.Test.YtcadlfljlobjjaaDrawF
namespace Go.Proofs.Ytcadlfljlobjjaa
open Go.ChangeShapes Go.WideShapes Go.ChangeAt Go.RowKit Go.Proofs

set_option maxRecDepth 100000 in
set_option maxHeartbeats 2000000 in
theorem draw_anti (v : Value) (a : Option Addr) (len cap : Nat) (w : World) (hv : v = .slice a len cap) (hc : len ≤ cap) (hcap : cap ≤ 9223372036854775807) (hB : Bytes w w.heap.size a len) :
    Calls Try.prog 16 #[v] w (GivenDraw w) := by
  have h0 := Lib.hid (draw_given v a len cap w hv hc hcap hB)
  subst hv
  clear hB
  have hl0 : (0 : Int) ≤ (len : Nat) := by omega
  have hm : (len : Int).tmod 3 = (len : Int) % 3 := Int.tmod_eq_emod_of_nonneg hl0
  go_enter Try.func16, Try.ntmps16
  go_wp2_with fail
  refine (h0.out).mono ?_
  rintro e w1 ⟨n, u, xs, rfl, hl, hO, hb⟩
  obtain ⟨fa, fc, rfl, _⟩ := id hO
  have hz := hb.size
  have ht := sp_AntichainTop n _ xs _ w1 hO.row (Nat.le_refl _) (by omega)
  replace hO := Lib.hid hO
  replace hb := Lib.hid hb
  rcases (by cases famB n xs <;> simp : famB n xs = true ∨ famB n xs = false) with hf | hf
  · rw [hf] at ht
    have hel : (endL true xs xs).length ≤ 300 := by
      have := List.length_filter_le (fun x => !xs.any (endB true x)) xs
      unfold endL; omega
    obtain ⟨T, hT⟩ : ∃ T, endL true xs xs = T := ⟨_, rfl⟩
    rw [hT] at ht hel
    replace ht := Lib.hid (show Calls _ _ _ _ (ListPost T true w1) from ht)
    replace hf := Lib.hid hf
    replace hT := Lib.hid hT
    go_wp2_with fail
    refine ht.out.mono ?_
    rintro e w2 ⟨v2, rfl, hO2, hb2⟩
    obtain ⟨ga, gc, rfl, _⟩ := id hO2
    have hO3 := Lib.hid ((hO.out.below hb2 (Nat.le_refl _)).mono (Nat.le_refl _) hb2.size)
    replace hO2 := Lib.hid (hO2.mono hz (Nat.le_refl _))
    replace hb2 := Lib.hid (hb.out.trans (hb2.mono hz))
    by_cases h3 : (0 : Int) < (len : Int) % 3
    · have h4 : decide ((0 : Int) < (len : Int) % 3) = true := decide_eq_true h3
      go_wp2_with fail
      go_ret2
      exact ⟨_, _, T, rfl, hel, hO2.out, hb2.out⟩
    · have h4 : decide ((0 : Int) < (len : Int) % 3) = false := decide_eq_false h3
      go_wp2_with fail
      go_ret2
      exact ⟨_, _, xs, rfl, hl, hO3.out, hb2.out⟩
  · rw [hf] at ht
    replace ht := Lib.hid (show Calls _ _ _ _ (ListPost [] false w1) from ht)
    replace hf := Lib.hid hf
    go_wp2_with fail
    refine ht.out.mono ?_
    rintro e w2 ⟨v2, rfl, hO2, hb2⟩
    obtain ⟨ga, gc, rfl, _⟩ := id hO2
    have hO3 := Lib.hid ((hO.out.below hb2 (Nat.le_refl _)).mono (Nat.le_refl _) hb2.size)
    replace hb2 := Lib.hid (hb.out.trans (hb2.mono hz))
    go_wp2_with fail
    go_ret2
    exact ⟨_, _, xs, rfl, hl, hO3.out, hb2.out⟩
theorem ch_sym : ∀ n : Fin 9, ∀ k : Fin 9, k.val ≤ n.val → chN n.val (n.val - k.val) = chN n.val k.val := by decide +kernel
theorem cntoth_dec : ∀ n : Fin 9, ∀ s : Fin 256, s.val < 2 ^ n.val → chN n.val (cntI (otherI n.val s.val)).toNat = chN n.val (cntI s.val).toNat := by decide +kernel
theorem ch_oth {n s : Int} (h : setB n s = true) : chN n.toNat (cntI (otherI n s)).toNat = chN n.toNat (cntI s).toNat := by
  obtain ⟨n1, n2, h1, h2⟩ := setB_yes h
  have p := pow_le256 n1 n2
  have e1 : ((n.toNat : Nat) : Int) = n := Int.toNat_of_nonneg (by omega)
  have e2 : ((s.toNat : Nat) : Int) = s := Int.toNat_of_nonneg h1
  have h := cntoth_dec ⟨n.toNat, by omega⟩ ⟨s.toNat, by omega⟩ (by
    show s.toNat < 2 ^ n.toNat
    have : ((s.toNat : Nat) : Int) < ((2 ^ n.toNat : Nat) : Int) := by rw [e2]; simpa using h2
    exact Int.ofNat_lt.1 this)
  simpa only [e1, e2] using h
theorem wS_cons (N : Nat) (x : Int) (xs : List Int) : wS N (x :: xs) = cbN N / chN N (cntI x).toNat + wS N xs := by simp [wS]
theorem wS_rev (N : Nat) : ∀ xs : List Int, wS N xs.reverse = wS N xs
  | [] => rfl
  | x :: xs => by rw [List.reverse_cons, wS_snoc, wS_rev N xs, wS_cons]; omega
theorem wS_map {n : Int} : ∀ {xs : List Int}, (∀ z ∈ xs, setB n z = true) → wS n.toNat (xs.map (otherI n)) = wS n.toNat xs
  | [], _ => rfl
  | x :: xs, h => by
    rw [List.map_cons, wS_cons, wS_cons, wS_map (fun z hz => h z (List.mem_cons_of_mem _ hz)), ch_oth (h x (List.mem_cons_self ..))]
theorem wS_oth {n : Int} {xs : List Int} (h : famB n xs = true) : wS n.toNat (sortL (xs.map (otherI n))) = wS n.toNat xs := by
  obtain ⟨_, _, hs⟩ := famB_all h
  have hA : Asc (xs.map (otherI n)).reverse := by
    unfold Asc
    rw [List.pairwise_reverse, List.pairwise_map]
    exact (famB_asc h).imp (fun {a b} hab => by unfold otherI; omega)
  have e : sortL (xs.map (otherI n)) = (xs.map (otherI n)).reverse := asc_ext (asc_sortL _) hA fun z => by rw [mem_sortL, List.mem_reverse]
  rw [e, wS_rev, wS_map hs]
theorem wS_split (N : Nat) (p : Int → Bool) : ∀ xs : List Int, wS N (xs.filter p) + wS N (xs.filter (fun x => !p x)) = wS N xs
  | [] => rfl
  | x :: xs => by
    have h := wS_split N p xs
    rw [wS_cons]
    cases hp : p x
    · rw [List.filter_cons_of_neg (by simp [hp]), List.filter_cons_of_pos (by simp [hp]), wS_cons]; omega
    · rw [List.filter_cons_of_pos (by simp [hp]), List.filter_cons_of_neg (by simp [hp]), wS_cons]; omega
set_option maxRecDepth 100000 in
theorem wS_all : ∀ n : Fin 9, n.val ≠ 0 → wS n.val (upI (2 ^ n.val)) = (n.val + 1) * cbN n.val := by decide +kernel
theorem wS_rest {n : Int} {xs : List Int} (h : famB n xs = true) : wS n.toNat ((upI (2 ^ n.toNat)).filter (fun x => !memB x xs)) + wS n.toNat xs = (n.toNat + 1) * cbN n.toNat := by
  obtain ⟨n1, n2, hs⟩ := famB_all h
  have e : (upI (2 ^ n.toNat)).filter (fun x => memB x xs) = xs := asc_ext (asc_filter (asc_upI _) _) (famB_asc h) fun z => by
    rw [List.mem_filter, memB_iff]
    exact ⟨fun h => h.2, fun hz => ⟨(set_up n1 n2).2 (hs z hz), hz⟩⟩
  have h1 := wS_split n.toNat (fun x => memB x xs) (upI (2 ^ n.toNat))
  have h2 := wS_all ⟨n.toNat, by omega⟩ (by dsimp only; omega)
  dsimp only at h2
  rw [e, h2] at h1
  omega
end Go.Proofs.Ytcadlfljlobjjaa
