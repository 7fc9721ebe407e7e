/- The law WordsLines: the walk. -/
import Derived.Test.YtkafcbiiponacaaDoorLinesB
import Derived.Test.YtkafcbiiponacaaDoorWordsY
import Derived.Test.YtkafcbiiponacaaDoorLaidL
namespace Go.Proofs.YtkafcbiiponacaaDoor
open Go.RowKit Go.Shelf
set_option linter.unusedVariables false

theorem SSl_zero {W : World} {v : Value} {ps : List (List UInt8)} (h : SSl W v ps) (h0 : ps.length = 0) : ∃ a c, v = .slice a 0 c := by
  rcases h with ⟨rfl, _⟩ | ⟨g, off, cap, rfl, _⟩
  · exact ⟨_, _, rfl⟩
  · rw [h0]; exact ⟨_, _, rfl⟩
theorem SSl_pos {W : World} {v : Value} {ps : List (List UInt8)} (h : SSl W v ps) (h0 : 0 < ps.length) : ∃ g off c, v = .slice (some ⟨g, off, none⟩) ps.length c ∧ g < W.heap.size ∧ ∀ i (h : i < ps.length), W.cell? ⟨g, off + i, none⟩ = some (.string ⟨ps[i].toArray⟩) := by
  rcases h with ⟨rfl, rfl⟩ | ⟨g, off, cap, rfl, h1, _, h2⟩
  · simp at h0
  · exact ⟨g, off, cap, rfl, h1, h2⟩

set_option maxRecDepth 20000 in
set_option maxHeartbeats 1000000 in
theorem both_lines (s : ByteArray) (w : World) (hs : s.size ≤ maxLen) (hm : MaxAt w) :
    Calls Tryd.prog 29 #[.string s] w fun e w' => e = .returned (.bool true) ∧ Below w.heap.size w w' := by
  have HSM := Lib.hid hs
  have HM := Lib.hid hm; clear hm
  have HB := Lib.hid (Below.refl w.heap.size w)
  obtain ⟨ps, hps⟩ : ∃ ps, (linesL s.data.toList).1 = ps := ⟨_, rfl⟩
  obtain ⟨ec, hec⟩ : ∃ x, (linesL s.data.toList).2 = x := ⟨_, rfl⟩
  have hpl : ps.length ≤ 9223372036854775806 := by
    rw [← hps]; unfold linesL
    split
    · simp
    · split
      · simp
      · split
        · simp
        · split
          · simp
          · have := cutAt_count 10 (s.data.toList.take (s.data.toList.length - 1))
            rw [List.length_take] at this; simp only; omega
  have HL1 : Hid (∀ W, MaxAt W → Calls Tryd.prog 52 #[.string s] W fun e w' => ∃ v, e = .returned (.tuple #[v, .int .i64 ec]) ∧ SSl w' v ps ∧ Below W.heap.size W w') := Lib.hid (fun W h =>
    (lines_any s W hs h).mono fun e w' ⟨v, h1, h2, h3⟩ => ⟨v, by rw [h1, hec], by rw [← hps]; exact h2, h3⟩)
  have HL2 : Hid (∀ W, Calls Tryd.prog 53 #[.string s] W fun e w' => ∃ v, e = .returned (.tuple #[v, .int .i64 ec]) ∧ SSl w' v ps ∧ Below W.heap.size W w') := Lib.hid (fun W =>
    (rlines_any s W hs).mono fun e w' ⟨v, h1, h2, h3⟩ => ⟨v, by rw [h1, hec], by rw [← hps]; exact h2, h3⟩)
  clear hps hec hs
  by_cases h0 : 0 < ps.length
  case neg =>
    have H0 : Hid (ps.length = 0) := Lib.hid (by omega)
    go_enter Tryd.func29, Tryd.ntmps29
    go_wp2_with (first
      | (go_at_call 52; refine (HL1.out _ HM.out).mono ?_; rintro e w1 ⟨v1, rfl, h1, hb⟩; obtain ⟨a1, c1, rfl⟩ := SSl_zero h1 H0.out; replace HB := Lib.hid (bl_call HB.out hb); clear h1 hb)
      | (go_at_call 53; refine (HL2.out _).mono ?_; rintro e w2 ⟨v2, rfl, h2, hb⟩; obtain ⟨a2, c2, rfl⟩ := SSl_zero h2 H0.out; replace HB := Lib.hid (bl_call HB.out hb); clear h2 hb))
    refine wp_loop_rounds 1 ?_
    rw [rounds_succ]
    go_wp2_with fail
    go_ret
    exact ⟨rfl, HB.out⟩
  case pos =>
    go_enter Tryd.func29, Tryd.ntmps29
    go_wp2_with (first
      | (go_at_call 52; refine (HL1.out _ HM.out).mono ?_; rintro e w1 ⟨v1, rfl, h1, hb⟩; obtain ⟨g1, o1, c1, rfl, hg1, hc1⟩ := SSl_pos h1 h0; have HG1 := Lib.hid hg1; have HC1 := Lib.hid hc1; replace HB := Lib.hid (bl_call HB.out hb); clear h1 hb hg1 hc1)
      | (go_at_call 53; refine (HL2.out _).mono ?_; rintro e w2 ⟨v2, rfl, h2, hb⟩; obtain ⟨g2, o2, c2, rfl, hg2, hc2⟩ := SSl_pos h2 h0; have HC2 := Lib.hid hc2; have HC1' : Hid (∀ i (h : i < ps.length), w2.cell? ⟨g1, o1 + i, none⟩ = some (.string ⟨ps[i].toArray⟩)) := Lib.hid (fun i h => (hb.cell (p := ⟨g1, o1 + i, none⟩) HG1.out).trans (HC1.out i h)); replace HB := Lib.hid (bl_call HB.out hb); clear h2 hb hg2 hc2))
    go_loopw [7] (fun i wr => ∃ k : Nat, k ≤ ps.length ∧ i = .int .i64 k ∧ Hid (∃ n, wr = w2.drewN n)) (fun i _ => ps.length - (intOf i).toNat)
    case atStart => exact ⟨0, by omega, rfl, Lib.hid ⟨0, rfl⟩⟩
    case round =>
      obtain ⟨k, hk, rfl, HW⟩ := hrel
      by_cases hlt : k < ps.length
      · obtain ⟨x, hx⟩ : ∃ x : ByteArray, (⟨ps[k].toArray⟩ : ByteArray) = x := ⟨_, rfl⟩
        have a0 : wr.cell? ⟨g1, o1 + k, none⟩ = some (.string x) := by obtain ⟨n, e⟩ := HW.out; rw [e, ← hx]; exact HC1'.out k hlt
        have b0 : wr.cell? ⟨g2, o2 + k, none⟩ = some (.string x) := by obtain ⟨n, e⟩ := HW.out; rw [e, ← hx]; exact HC2.out k hlt
        clear hx
        have j1 : (k : Int) < (ps.length : Int) := by omega
        have j2 : (x.toList == x.toList) = true := beq_self_eq_true _
        have j3 : (x.toList != x.toList) = false := by simp
        go_wp2_with fail
        go_quiet (fail)
        go_wp2_with fail
        go_roundw
        case rel => exact ⟨k + 1, by omega, by go_num, Lib.hid (by obtain ⟨n, e⟩ := HW.out; rw [e]; exact ⟨n + nq, by simp [World.drewN, Nat.add_assoc]⟩)⟩
        case measure => simp [intOf]; omega
      · go_wp2_with fail
        go_ret
        exact ⟨rfl, by obtain ⟨n, e⟩ := HW.out; rw [e]; exact bl_drewN _ HB.out⟩

theorem made_zero (n : Nat) : (madeCells (Value.int .u8 0).cells (n * 1)).toList = (List.replicate n (0 : UInt8)).map bv := by
  apply List.ext_getElem
  · simp [size_madeCells]
  · intro i h1 h2
    simp [madeCells, Value.cells, Nat.mod_one, bv]
theorem bv_set (l : List UInt8) (k : Nat) (c : UInt8) : (l.map bv).set k (bv c) = (l.set k c).map bv := by rw [List.map_set]

set_option maxRecDepth 20000 in
set_option maxHeartbeats 2000000 in
theorem lineslaw_any (s tail : ByteArray) (long : Bool) (w : World) (hG : G1 w) (hm : MaxAt w) (hs : s.size ≤ maxLen) (ht : tail.size ≤ maxLen) :
    Calls Tryd.prog 7 #[.string s, .string tail, .bool long] w fun e w' => e = .returned (.bool true) ∧ Below w.heap.size w w' := by
  obtain ⟨i0, hi, hz0, hz1, hz2⟩ := info_parts info_u8
  have HSM := Lib.hid hs
  unfold maxLen at hs ht
  have HG := Lib.hid hG; have HM := Lib.hid hm; have HG0 := Lib.hid hG; have HM0 := Lib.hid hm; clear hG hm
  have HB := Lib.hid (Below.refl w.heap.size w)
  by_cases h1 : 12000 < s.size
  · go_enter Tryd.func7, Tryd.ntmps7
    go_wp2_with (go_at_call 12; refine (shown_any _ HG.out).mono ?_; rintro e w2 ⟨rfl, hb⟩; replace HB := Lib.hid hb; clear hb)
    go_ret
    exact ⟨rfl, HB.out⟩
  by_cases h2 : 100 < tail.size
  · go_enter Tryd.func7, Tryd.ntmps7
    go_wp2_with (go_at_call 12; refine (shown_any _ HG.out).mono ?_; rintro e w2 ⟨rfl, hb⟩; replace HB := Lib.hid hb; clear hb)
    go_ret
    exact ⟨rfl, HB.out⟩
  cases long
  case false =>
    go_enter Tryd.func7, Tryd.ntmps7
    go_wp2_with (refine wpList_make_full _ rfl (.const (.int .i64 5000)) (.const (.int .i64 5000)) 38 rfl w.heap.size 5 i0 (.int .u8 0) 1 Tryd.underlying38 hi hz0 hz1 .i64 .i64 5000 5000 5000 rfl rfl rfl rfl (by rw [hz2]; omega) (by unfold maxLen; omega) HB.out.size ?_; intro w2 hown hgrow; rw [made_zero] at hown; have HOWN := Lib.hid hown; replace HB := Lib.hid (HB.out.grown hgrow HB.out.size (fun k e => by cases e)); clear hown hgrow)
    have HGE : Hid (w.heap.size ≤ w.heap.size) := Lib.hid (Nat.le_refl _)
    obtain ⟨N, hN⟩ : ∃ N : Nat, 5000 = N := ⟨_, rfl⟩
    have hNN : N ≤ 1048556 := by omega
    rw [hN] at HOWN ⊢
    clear hN
    go_loopw [8] (fun i wr => ∃ (k : Nat) (l : List UInt8), k ≤ N ∧ l.length = N ∧ i = .int .i64 k ∧ Hid (Below w.heap.size w wr) ∧ Hid (wr.ownsRow w.heap.size 5 1 (.slice (some ⟨w.heap.size, 0, none⟩) N N) N (l.map bv))) (fun i _ => N - (intOf i).toNat)
    case atStart => exact ⟨0, List.replicate N 0, by omega, List.length_replicate, rfl, HB, HOWN⟩
    case round =>
      clear HB HOWN
      obtain ⟨k, l, hk, hl, rfl, HB, HR⟩ := hrel
      have HL := Lib.hid hl; clear hl
      by_cases hlt : k < N
      · have cs : wr.cell? ⟨w.heap.size, k, none⟩ = some (bv (l.getD k 0)) := by
          rw [HR.out.cellAt k (by omega), List.getElem?_map, List.getElem?_eq_getElem (by rw [HL.out]; exact hlt), List.getD_eq_getElem?_getD, List.getElem?_eq_getElem (by rw [HL.out]; exact hlt)]; rfl
        unfold bv at cs
        have fz := HR.out.frozenAt k
        have HS1 := Lib.hid ((HR.out.stored k (bv 10)).1)
        go_wp2_with fail
        go_roundw
        case rel => exact ⟨k + 1, l.set k 10, by omega, by rw [List.length_set]; exact HL.out, by go_num, Lib.hid (HB.out.setCell (p := ⟨w.heap.size, k, none⟩) HGE.out _), Lib.hid (by rw [← bv_set]; exact HS1.out)⟩
        case measure => simp [intOf]; omega
      · obtain ⟨SB, hSB⟩ : ∃ SB : ByteArray, (⟨l.toArray⟩ : ByteArray) = SB := ⟨_, rfl⟩
        have hcv := conv_row (B := w.heap.size) (W := wr) (v := .slice (some ⟨w.heap.size, 0, none⟩) N N) (l := l) (by unfold Row; rw [HL.out]; exact HR.out)
        rw [hSB] at hcv
        have hsz : SB.size = N := by rw [← hSB]; show l.toArray.size = _; rw [List.size_toArray, HL.out]
        have hsz2 : SB.size ≤ N := by omega
        have HSZ := Lib.hid hsz; have HSB := Lib.hid hSB; clear hsz hSB
        have hcat : (SB ++ tail).size ≤ maxLen := by rw [ByteArray.size_append, HSZ.out]; unfold maxLen; omega
        have HCAT := Lib.hid hcat; clear hcat
        replace HG := Lib.hid (HG0.out.below HB.out); replace HM := Lib.hid (HM0.out.below HB.out)
        clear hcv
        have tok : True := trivial
        go_wp2_with (first
          | (go_at_call 29; have _t := tok; refine (both_lines s _ HSM.out HM.out).mono ?_; rintro e w3 ⟨rfl, hb⟩; have hcv2 := conv_row (B := w.heap.size) (W := w3) (v := .slice (some ⟨w.heap.size, 0, none⟩) N N) (l := l) (by unfold Row; rw [HL.out]; exact row_below HR.out hb); rw [HSB.out] at hcv2; replace HB := Lib.hid (bl_call HB.out hb); replace HG := Lib.hid (HG.out.below hb); replace HM := Lib.hid (HM.out.below hb); clear hb tok _t)
          | (go_at_call 29; refine (both_lines _ _ HCAT.out HM.out).mono ?_; rintro e w3 ⟨rfl, hb⟩; replace HB := Lib.hid (bl_call HB.out hb); replace HG := Lib.hid (HG.out.below hb); clear hb)
          | (go_at_call 12; refine (shown_any _ HG.out).mono ?_; rintro e w4 ⟨rfl, hb⟩; replace HB := Lib.hid (bl_call HB.out hb); clear hb))
        go_ret
        exact ⟨rfl, HB.out⟩
  case true =>
    go_enter Tryd.func7, Tryd.ntmps7
    go_wp2_with (first
      | (refine wpList_make_full _ rfl (.const (.int .i64 5000)) (.const (.int .i64 5000)) 38 rfl w.heap.size 5 i0 (.int .u8 0) 1 Tryd.underlying38 hi hz0 hz1 .i64 .i64 5000 5000 5000 rfl rfl rfl rfl (by rw [hz2]; omega) (by unfold maxLen; omega) HB.out.size ?_; intro w1 hown hgrow; replace HB := Lib.hid (HB.out.grown hgrow HB.out.size (fun k e => by cases e)); clear hown hgrow)
      | (refine wpList_make_full _ rfl (.const (.int .i64 1048556)) (.const (.int .i64 1048556)) 38 rfl w.heap.size 5 i0 (.int .u8 0) 1 Tryd.underlying38 hi hz0 hz1 .i64 .i64 1048556 1048556 1048556 rfl rfl rfl rfl (by rw [hz2]; omega) (by unfold maxLen; omega) HB.out.size ?_; intro w2 hown hgrow; rw [made_zero] at hown; have HOWN := Lib.hid hown; have HGE0 : Hid (w.heap.size ≤ w1.heap.size) := Lib.hid HB.out.size; replace HB := Lib.hid (HB.out.grown hgrow HB.out.size (fun k e => by cases e)); clear hown hgrow))
    have HGE : Hid (w.heap.size ≤ w1.heap.size) := Lib.hid HGE0.out
    obtain ⟨N, hN⟩ : ∃ N : Nat, 1048556 = N := ⟨_, rfl⟩
    have hNN : N ≤ 1048556 := by omega
    rw [hN] at HOWN ⊢
    clear hN
    go_loopw [8] (fun i wr => ∃ (k : Nat) (l : List UInt8), k ≤ N ∧ l.length = N ∧ i = .int .i64 k ∧ Hid (Below w.heap.size w wr) ∧ Hid (wr.ownsRow w.heap.size 5 1 (.slice (some ⟨w1.heap.size, 0, none⟩) N N) N (l.map bv))) (fun i _ => N - (intOf i).toNat)
    case atStart => exact ⟨0, List.replicate N 0, by omega, List.length_replicate, rfl, HB, HOWN⟩
    case round =>
      clear HB HOWN
      obtain ⟨k, l, hk, hl, rfl, HB, HR⟩ := hrel
      have HL := Lib.hid hl; clear hl
      by_cases hlt : k < N
      · have cs : wr.cell? ⟨w1.heap.size, k, none⟩ = some (bv (l.getD k 0)) := by
          rw [HR.out.cellAt k (by omega), List.getElem?_map, List.getElem?_eq_getElem (by rw [HL.out]; exact hlt), List.getD_eq_getElem?_getD, List.getElem?_eq_getElem (by rw [HL.out]; exact hlt)]; rfl
        unfold bv at cs
        have fz := HR.out.frozenAt k
        have HS1 := Lib.hid ((HR.out.stored k (bv 10)).1)
        have HS2 := Lib.hid ((HS1.out.stored k (bv 120)).1)
        cases hr : ((k : Int) % 1000 != 0)
        · go_wp2_with fail
          go_roundw
          case rel => exact ⟨k + 1, l.set k 10, by omega, by rw [List.length_set]; exact HL.out, by go_num, Lib.hid (HB.out.setCell (p := ⟨w1.heap.size, k, none⟩) HGE.out _), Lib.hid (by rw [← bv_set]; exact HS1.out)⟩
          case measure => simp [intOf]; omega
        · go_wp2_with fail
          go_roundw
          case rel => exact ⟨k + 1, (l.set k 10).set k 120, by omega, by rw [List.length_set, List.length_set]; exact HL.out, by go_num, Lib.hid ((HB.out.setCell (p := ⟨w1.heap.size, k, none⟩) HGE.out _).setCell (p := ⟨w1.heap.size, k, none⟩) HGE.out _), Lib.hid (by rw [← bv_set, ← bv_set]; exact HS2.out)⟩
          case measure => simp [intOf]; omega
      · obtain ⟨SB, hSB⟩ : ∃ SB : ByteArray, (⟨l.toArray⟩ : ByteArray) = SB := ⟨_, rfl⟩
        have hcv := conv_row (B := w.heap.size) (W := wr) (v := .slice (some ⟨w1.heap.size, 0, none⟩) N N) (l := l) (by unfold Row; rw [HL.out]; exact HR.out)
        rw [hSB] at hcv
        have hsz : SB.size = N := by rw [← hSB]; show l.toArray.size = _; rw [List.size_toArray, HL.out]
        have hsz2 : SB.size ≤ N := by omega
        have HSZ := Lib.hid hsz; have HSB := Lib.hid hSB; clear hsz hSB
        have hcat : (SB ++ tail).size ≤ maxLen := by rw [ByteArray.size_append, HSZ.out]; unfold maxLen; omega
        have HCAT := Lib.hid hcat; clear hcat
        replace HG := Lib.hid (HG0.out.below HB.out); replace HM := Lib.hid (HM0.out.below HB.out)
        clear hcv
        have tok : True := trivial
        go_wp2_with (first
          | (go_at_call 29; have _t := tok; refine (both_lines s _ HSM.out HM.out).mono ?_; rintro e w3 ⟨rfl, hb⟩; have hcv2 := conv_row (B := w.heap.size) (W := w3) (v := .slice (some ⟨w1.heap.size, 0, none⟩) N N) (l := l) (by unfold Row; rw [HL.out]; exact row_below HR.out hb); rw [HSB.out] at hcv2; replace HB := Lib.hid (bl_call HB.out hb); replace HG := Lib.hid (HG.out.below hb); replace HM := Lib.hid (HM.out.below hb); clear hb tok _t)
          | (go_at_call 29; refine (both_lines _ _ HCAT.out HM.out).mono ?_; rintro e w3 ⟨rfl, hb⟩; replace HB := Lib.hid (bl_call HB.out hb); replace HG := Lib.hid (HG.out.below hb); clear hb)
          | (go_at_call 12; refine (shown_any _ HG.out).mono ?_; rintro e w4 ⟨rfl, hb⟩; replace HB := Lib.hid (bl_call HB.out hb); clear hb))
        go_ret
        exact ⟨rfl, HB.out⟩
end Go.Proofs.YtkafcbiiponacaaDoor
