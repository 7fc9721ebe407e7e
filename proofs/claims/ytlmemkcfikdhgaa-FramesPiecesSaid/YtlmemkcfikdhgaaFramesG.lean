/- slices.Grow of nothing, slices.Concat. -/
import Derived.Test.YtlmemkcfikdhgaaFramesF
import Derived.Lib.AppendZerosOnto
import Derived.Shelf.Bytes.SlSmallAll
namespace Go.Proofs.Ytlmemkcfikdhgaa
open Go.RowKit Go.Lib
set_option linter.unusedVariables false

theorem grow_zero (w : World) : Calls Try.prog 29 #[.slice none 0 0, .int .i64 0] w (Mem w []) := by
  go_enter Try.func29, Try.ntmps29
  go_wp2_with fail
  go_ret
  exact ⟨_, rfl, ON.nil _ _, Below.refl _ _⟩
set_option maxHeartbeats 2000000 in
theorem grow_some (n : Nat) (w : World) (h0 : 0 < n) (h1 : n ≤ 2000000) : Calls Try.prog 29 #[.slice none 0 0, .int .i64 n] w (Mem w []) := by
  obtain ⟨i0, hi, hz0, hz1, hz2⟩ := info_parts info_u8
  have hrz : ∀ ty, (Builtin.append_ #[22, 3] ty #[.slice none 0 0, .int .i64 (n : Int)]).run Try.prog w =
      .ok (.slice (some ⟨w.heap.size, 0, none⟩) n (grownCap w n 0 5)) (w.drew.alloc (.cells (#[] ++ Builtin.zeroCells (Value.int .u8 0).cells n ++ Builtin.zeroCells (Value.int .u8 0).cells (grownCap w n 0 5 - n)) 5)) := fun ty => by
    have h := Lib.run_append_grow_zeros w 22 3 ty 5 i0 (.int .u8 0) .i64 .i64 Try.underlying22 Try.underlying3 hi hz0 none 0 0 [] (run_firstCells_none w.drew i0.size 0 0 0) n h0 (by rw [hz1]; decide) (by omega) (by omega) (by rw [hz2]; omega)
      (growslice_fits (by omega) (by rw [hz2]; omega))
    simpa using h
  have hGn : n ≤ grownCap w n 0 5 := grownCap_ge w _ _ _
  have hGm : grownCap w n 0 5 ≤ maxLen := grownCap_le_maxLen w _ _ _ (by unfold maxLen; omega)
  obtain ⟨G, hG⟩ : ∃ G, grownCap w n 0 5 = G := ⟨_, rfl⟩
  rw [hG] at hrz hGn hGm
  have hon : ON (w.drew.alloc (.cells (#[] ++ Builtin.zeroCells (Value.int .u8 0).cells n ++ Builtin.zeroCells (Value.int .u8 0).cells (G - n)) 5)) w.heap.size (.slice (some ⟨w.heap.size, 0, none⟩) 0 G) [] := by
    refine ⟨rfl, .inr ⟨w.heap.size, G, _, rfl, Nat.le_refl _, heap_alloc_new w.drew _, Nat.zero_le _, hGm, ?_, by simp [yL]⟩⟩
    have e1 : (Value.int .u8 0).cells.size = 1 := rfl
    simp [Builtin.zeroCells, e1]
    omega
  have HO := Lib.hid hon
  have hbl : Below w.heap.size w (w.drew.alloc (.cells (#[] ++ Builtin.zeroCells (Value.int .u8 0).cells n ++ Builtin.zeroCells (Value.int .u8 0).cells (G - n)) 5)) := bl_alloc _ (bl_drewN 1 (Below.refl _ _))
  have HB := Lib.hid hbl
  have hm := hGm
  unfold maxLen at hm
  obtain ⟨W1, hW1⟩ : ∃ W1, w.drew.alloc (.cells (#[] ++ Builtin.zeroCells (Value.int .u8 0).cells n ++ Builtin.zeroCells (Value.int .u8 0).cells (G - n)) 5) = W1 := ⟨_, rfl⟩
  rw [hW1] at hrz HO HB
  clear hon hbl hW1 hG hGm
  go_enter Try.func29, Try.ntmps29
  go_wp2_with (at_builtin; refine Lib.wpList_append_run _ rfl _ _ _ _ rfl _ _ rfl rfl _ _ (hrz _) ?_)
  go_ret
  exact ⟨_, rfl, HO.out, HB.out⟩
theorem grow_any (n : Nat) (w : World) (h1 : n ≤ 2000000) : Calls Try.prog 29 #[.slice none 0 0, .int .i64 n] w (Mem w []) := by
  rcases Nat.eq_zero_or_pos n with rfl | h0
  · exact grow_zero w
  · exact grow_some n w h0 h1

/-- How many bytes there are. -/
def sumL (ps : List (List Nat)) : Nat := (ps.map List.length).sum
theorem sum_le {ps : List (List Nat)} (k : Nat) : sumL (ps.take k) ≤ sumL ps := by
  conv => rhs; rw [← List.take_append_drop k ps]
  unfold sumL
  rw [List.map_append, List.sum_append]
  omega
theorem sum_step {ps : List (List Nat)} {k : Nat} (h : k < ps.length) : sumL (ps.take (k + 1)) = sumL (ps.take k) + (ps.getD k []).length := by
  unfold sumL
  rw [List.take_succ_eq_append_getElem h, List.map_append, List.sum_append, List.getD_eq_getElem?_getD, List.getElem?_eq_getElem h]
  simp
theorem flat_step {ps : List (List Nat)} {k : Nat} (h : k < ps.length) : (ps.take (k + 1)).flatten = (ps.take k).flatten ++ ps.getD k [] := by
  rw [List.take_succ_eq_append_getElem h, List.flatten_append, List.getD_eq_getElem?_getD, List.getElem?_eq_getElem h]
  simp
theorem flat_len (ps : List (List Nat)) : ps.flatten.length = sumL ps := by simp [sumL, List.length_flatten]
def intOf : Value → Int
  | .int _ n => n
  | _ => 0

set_option maxRecDepth 20000 in
set_option maxHeartbeats 2000000 in
theorem concat_some (g off c : Nat) (ps : List (List Nat)) (w : World) (h : PN w (.slice (some ⟨g, off, none⟩) ps.length c) ps) (h0 : 0 < ps.length) (hs : sumL ps ≤ 2000000) : Calls Try.prog 24 #[.slice (some ⟨g, off, none⟩) ps.length c] w (Mem w ps.flatten) := by
  obtain ⟨_, _, e, _, hlc, hcm, hg, hcell⟩ := h.at h0
  cases e
  have hm := h.max
  unfold maxLen at hm
  have HC := Lib.hid hcell
  clear hcell h
  obtain ⟨n, hn⟩ : ∃ n, ps.length = n := ⟨_, rfl⟩
  have HN := Lib.hid hn
  rw [hn] at h0 hlc hm ⊢
  clear hn
  go_enter Try.func24, Try.ntmps24
  go_wp2_with fail
  go_loop [3, 11] (fun s i => ∃ k : Nat, k ≤ n ∧ i = .int .i64 k ∧ s = .int .i64 (sumL (ps.take k) : Nat)) (fun _ i => n - (intOf i).toNat)
  case atStart => exact ⟨0, Nat.zero_le _, rfl, rfl⟩
  case round =>
    obtain ⟨k, hk, rfl, rfl⟩ := hrel
    by_cases hlt : k < n
    · obtain ⟨u, cu, hu, _⟩ := HC.out k (by rw [HN.out]; exact hlt)
      obtain ⟨Au, ccu, rfl⟩ := hu.len
      have hst := sum_step (ps := ps) (k := k) (by rw [HN.out]; exact hlt)
      have hle := sum_le (ps := ps) (k + 1)
      obtain ⟨L, hL⟩ : ∃ L, (ps.getD k []).length = L := ⟨_, rfl⟩
      obtain ⟨S, hS⟩ : ∃ S, sumL (ps.take k) = S := ⟨_, rfl⟩
      rw [hL] at cu hst
      rw [hS] at hst ⊢
      have HST : Hid ((S : Int) + (L : Int) = ((sumL (ps.take (k + 1)) : Nat) : Int)) := Lib.hid (by rw [hst]; omega)
      have hSL : S + L ≤ 2000000 := by omega
      clear hst hle hu hL hS
      go_wp2_with fail
      exact ⟨⟨k + 1, by omega, by go_num, by rw [HST.out]⟩, by simp [intOf]; omega⟩
    · obtain rfl : k = n := by omega
      have HS : Hid (sumL (ps.take k) = sumL ps) := Lib.hid (by rw [List.take_of_length_le (by rw [HN.out]; exact Nat.le_refl _)])
      rw [HS.out]
      obtain ⟨S, hS⟩ : ∃ S, sumL ps = S := ⟨_, rfl⟩
      have HSS := Lib.hid hS
      rw [hS] at hs ⊢
      clear hS
      go_wp2_with (go_at_call 29; (with_reducible refine (grow_any S _ hs).mono ?_); rintro e w1 ⟨v1, rfl, ho1, hb1⟩; have HO1 := Lib.hid ho1; have HB1 := Lib.hid hb1; clear ho1 hb1)
      go_loopw [6, 27] (fun v i wr => ∃ j : Nat, j ≤ k ∧ i = .int .i64 j ∧ Hid (ON wr w.heap.size v (ps.take j).flatten) ∧ Hid (Below w.heap.size w wr)) (fun _ i _ => k - (intOf i).toNat)
      case atStart => exact ⟨0, Nat.zero_le _, rfl, HO1, HB1⟩
      case round =>
        obtain ⟨j, hj, rfl, HO, HB⟩ := hrel
        by_cases hlt : j < k
        · obtain ⟨u, cu, hu, _⟩ := HC.out j (by rw [HN.out]; exact hlt)
          obtain ⟨Au, ccu, rfl⟩ := hu.len
          have cw := (HB.out.cell (p := ⟨g, off + j, none⟩) hg).trans cu
          have HF := Lib.hid (flat_step (ps := ps) (k := j) (by rw [HN.out]; exact hlt))
          have hle := sum_le (ps := ps) (j + 1)
          have hst := sum_step (ps := ps) (k := j) (by rw [HN.out]; exact hlt)
          have HU := Lib.hid (hu.later HB.out)
          have HLE : Hid ((ps.take j).flatten.length + (ps.getD j []).length ≤ 10000000) := Lib.hid (by rw [flat_len]; have := HSS.out; omega)
          have hBw := HB.out.size
          clear hu hle hst
          go_wp2_with (at_builtin; refine wpList_append_on _ rfl _ _ rfl w.heap.size _ _ (ps.take j).flatten (ps.getD j []) rfl HO.out rfl HU.out hBw HLE.out ?_; intro v2 w2 hown hgrow; have hbw := HB.out.grown hgrow hBw (fun q e => (World.ownsRow.lt HO.out q e).1); have HB2 := Lib.hid hbw; have HO2 := Lib.hid hown; clear hbw hown hgrow)
          exact ⟨⟨j + 1, by omega, by go_num, Lib.hid (by rw [HF.out]; exact HO2.out), HB2⟩, by simp [intOf]; omega⟩
        · obtain rfl : j = k := by omega
          go_wp2_with fail
          go_ret
          exact ⟨_, rfl, by have := HO.out; rw [List.take_of_length_le (by rw [HN.out]; exact Nat.le_refl _)] at this; exact this, HB.out⟩
theorem concat_none (A : Option Addr) (c : Nat) (w : World) : Calls Try.prog 24 #[.slice A 0 c] w (Mem w []) := by
  go_enter Try.func24, Try.ntmps24
  go_wp2_with fail
  refine wp_loop_rounds 1 ?_
  rw [rounds_succ]
  go_wp2_with (go_at_call 29; (with_reducible refine (grow_zero _).mono ?_); rintro e w1 ⟨v1, rfl, ho1, hb1⟩; have HO1 := Lib.hid ho1; have HB1 := Lib.hid hb1; clear ho1 hb1)
  refine wp_loop_rounds 1 ?_
  rw [rounds_succ]
  go_wp2_with fail
  go_ret
  exact ⟨_, rfl, HO1.out, HB1.out⟩
theorem concat_any (v : Value) (ps : List (List Nat)) (w : World) (h : PN w v ps) (hs : sumL ps ≤ 2000000) : Calls Try.prog 24 #[v] w (Mem w ps.flatten) := by
  obtain ⟨A, c, rfl⟩ := h.len
  rcases Nat.eq_zero_or_pos ps.length with h0 | h0
  · obtain rfl := List.eq_nil_of_length_eq_zero h0
    exact concat_none A c w
  · obtain ⟨g, off, rfl, _⟩ := h.at h0
    exact concat_some g off c ps w h h0 hs
end Go.Proofs.Ytlmemkcfikdhgaa
