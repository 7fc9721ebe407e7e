/- FramesRound, walked. -/
import Derived.Test.YtlmemkcfikdhgaaFramesBrokenWalk
namespace Go.Proofs.Ytlmemkcfikdhgaa
open Go.RowKit Go.Lib
set_option linter.unusedVariables false

theorem bb_head (n : Nat) : BB (headL n) := fun x hx => by
  simp only [headL, List.mem_cons, List.not_mem_nil, or_false] at hx
  omega
theorem bb_join : ∀ ps : List (List Nat), (∀ p ∈ ps, BB p) → BB (joinL ps)
  | [], _ => BB.nil
  | p :: ps, h => by
    have e : joinL (p :: ps) = (headL p.length ++ p) ++ joinL ps := rfl
    rw [e]
    exact ((bb_head _).app (h p (List.mem_cons_self ..))).app (bb_join ps (fun q hq => h q (List.mem_cons_of_mem _ hq)))
theorem PN.bb {w : World} {v : Value} {ps : List (List Nat)} (h : PN w v ps) : ∀ p ∈ ps, BB p := by
  intro p hp
  rcases h with ⟨A, c, rfl, rfl⟩ | ⟨g, off, c, rfl, h1, h0, h2, h3, h4⟩
  · cases hp
  · obtain ⟨i, hi, rfl⟩ := List.getElem_of_mem hp
    obtain ⟨u, _, _, hb⟩ := h4 i hi
    rw [List.getD_eq_getElem?_getD, List.getElem?_eq_getElem hi] at hb
    exact hb
/-- What is asked of Join's bytes. -/
theorem join_facts {ps : List (List Nat)} (h : errJ ps = 0) (hb : ∀ p ∈ ps, BB p) : joinO ps = joinL ps ∧ BB (joinL ps) ∧ (joinL ps).length ≤ 2000000 ∧ bufL (joinL ps) = [] ∧ badL (joinL ps) = false ∧ paysL (joinL ps) = ps := by
  unfold errJ at h
  split at h
  · omega
  · rename_i hl
    obtain ⟨h1, h2⟩ := split_join ps h
    have h3 := join_len ps h
    refine ⟨by unfold joinO errJ; rw [if_neg hl, if_pos h], bb_join ps hb, by omega, ?_, ?_, h1⟩
    · unfold bufL; rw [h2]; split <;> rfl
    · unfold badL; rw [h2]; decide
theorem frame_okq (v : Value) (p : List Nat) (w : World) (hv : RN w v p) (h : errP p = 0) : Calls Try.prog 10 #[v] w fun e w' => ∃ A n c, e = .returned (.tuple #[.slice A n c, .int .i64 0]) ∧ n = (frameL p).length ∧ RN w' (.slice A n c) (frameL p) ∧ Below w.heap.size w w' := by
  refine Calls.mono (frame_any v p w hv) ?_
  rintro e w' ⟨u, rfl, h1, h2⟩
  rw [h]
  have h3 := h1.rn
  unfold frameO at h3
  rw [if_pos h] at h3
  obtain ⟨A, c, rfl⟩ := h3.len
  exact ⟨A, _, c, rfl, rfl, h3, h2⟩
set_option maxRecDepth 100000 in
set_option maxHeartbeats 4000000 in
theorem round_law (v0 v1 : Value) (ps : List (List Nat)) (xs : List Nat) (w : World) (h0 : PN w v0 ps) (h1 : RN w v1 xs) (b1 : BB xs) : Calls Try.prog 5 #[v0, v1] w (Gives w (.bool true)) := by
  obtain ⟨B, d, rfl⟩ := h0.len
  obtain ⟨A, c, rfl⟩ := h1.len
  have hm1 := h1.max
  unfold maxLen at hm1
  have H0 := Lib.hid h0; have H1 := Lib.hid h1; have HB1 := Lib.hid b1; have HBP := Lib.hid h0.bb
  clear h0 h1 b1
  by_cases hl : 4000 < xs.length
  · go_enter Try.func5, Try.ntmps5
    go_wp2_with (first
      | (go_at_call 8; (with_reducible refine (far_any _ ps _ H0.out).mono ?_); rintro e w1 ⟨b, rfl, rfl⟩; cases b)
      | (go_at_call 9; (with_reducible refine (shown_any _).mono ?_); rintro e w1 ⟨rfl, hb⟩; have HB := Lib.hid hb; clear hb))
    all_goals (go_ret; exact ⟨rfl, HB.out⟩)
  obtain ⟨qs, hqs⟩ : ∃ qs, paysL xs = qs := ⟨_, rfl⟩
  have HQS := Lib.hid hqs
  have HSM : Hid (xs.length ≤ 2000000) := Lib.hid (by omega)
  obtain ⟨bad, hbad⟩ : ∃ bad, badL xs = bad := ⟨_, rfl⟩
  have HBAD := Lib.hid hbad
  obtain ⟨lf, hlf⟩ : ∃ lf, bufL xs = lf := ⟨_, rfl⟩
  have HLF := Lib.hid hlf
  have HBN : Hid (bad = true → lf = []) := Lib.hid (fun h => by rw [← hlf]; unfold bufL; rw [hbad, h]; rfl)
  have HCAT : Hid (bad = false → strB (joinL qs) ++ strB lf = strB xs) := Lib.hid (fun h => by
    have h2 := join_split xs HB1.out
    rw [strB_app, ← hqs, ← hlf]
    unfold bufL
    rw [hbad, h]
    simp only [Bool.false_eq_true, if_false]
    rw [h2])
  have HJX : Hid (∀ j, (strB (joinL (qs.take j))).size ≤ 4000) := Lib.hid (fun j => by
    have h2 := congrArg List.length (join_split xs HB1.out)
    rw [hqs, List.length_append] at h2
    have h3 : joinL qs = joinL (qs.take j) ++ joinL (qs.drop j) := by unfold joinL; rw [← List.flatMap_append, List.take_append_drop]
    rw [h3, List.length_append] at h2
    rw [strB_size]
    omega)
  have HQ : Hid (∀ p ∈ qs, errP p = 0) := Lib.hid (fun p hp => by
    have := pays_ok xs HB1.out p (by rw [hqs]; exact hp)
    exact err_of this.1 this.2)
  obtain ⟨F, hF⟩ : ∃ F, errJ ps = F := ⟨_, rfl⟩
  have HF := Lib.hid hF
  obtain ⟨J, hJ⟩ : ∃ J, joinO ps = J := ⟨_, rfl⟩
  have HJ := Lib.hid hJ
  have HJF : Hid (F = 0 → BB J ∧ J.length ≤ 2000000 ∧ bufL J = [] ∧ badL J = false ∧ paysL J = ps) := Lib.hid (fun h => by
    obtain ⟨k1, k2⟩ := join_facts (hF.trans h) HBP.out
    rw [← hJ, k1]
    exact k2)
  clear hqs hbad hlf hF hJ
  have HJN : Hid (∀ w : World, ∀ v : Value, PN w v ps → Calls Try.prog 12 #[v] w fun e w' => ∃ A n c, e = .returned (.tuple #[.slice A n c, .int .i64 F]) ∧ n = J.length ∧ RN w' (.slice A n c) J ∧ Below w.heap.size w w') := Lib.hid (fun w v h => by
    refine Calls.mono (join_any v ps w h) ?_
    rintro e w' ⟨u, rfl, h1, h2⟩
    rw [HF.out]
    have h3 := h1.rn
    rw [HJ.out] at h3
    obtain ⟨A, c, rfl⟩ := h3.len
    exact ⟨A, _, c, rfl, rfl, h3, h2⟩)
  by_cases hF0 : F = 0
  · obtain ⟨j1, j2, j3, j4, j5⟩ := HJF.out hF0
    have J1 := Lib.hid j1; have J2 := Lib.hid j2; have J3 := Lib.hid j3; have J4 := Lib.hid j4; have J5 := Lib.hid j5
    clear j1 j2 j3 j4 j5 HJF
    subst hF0
    cases bad
    · have hcat := HCAT.out rfl
      clear HBN HCAT
      go_enter Try.func5, Try.ntmps5
      go_wp2_with (first
        | (go_at_call 8; (with_reducible refine (far_any _ ps _ H0.out).mono ?_); rintro e w1 ⟨b, rfl, rfl⟩; cases b)
        | (go_at_call 9; (with_reducible refine (shown_any _).mono ?_); rintro e w9 ⟨rfl, hb⟩; have HB := Lib.hid hb; clear hb)
        | (go_at_call 12; (with_reducible refine (HJN.out _ _ H0.out).mono ?_); rintro e w1 ⟨A1, n1, c1, rfl, rfl, r1, b1⟩; have R1 := Lib.hid r1; have B1 := Lib.hid b1; clear r1 b1)
        | (go_at_call 14; (with_reducible refine (split_q _ J _ [] false ps R1.out J1.out J2.out J3.out J4.out J5.out).mono ?_); rintro e w2 ⟨A2, n2, c2, rfl, rfl, p2, b2⟩; rw [strB_nil]; have P2 := Lib.hid p2; have B2 := Lib.hid (bl_call B1.out b2); clear p2 b2)
        | (go_at_call 16; (with_reducible refine (same_any _ _ ps ps _ (P2.out.later (bl_alloc _ (Below.refl _ _))) (H0.out.later (bl_alloc _ B2.out))).mono ?_); rintro e w3 ⟨rfl, b3⟩; rw [decide_eq_true rfl]; obtain ⟨s0, s1, _, _⟩ := cell_of2 ((b3.block _ (by simp)).trans (World.alloc_heap_new w2 (.cells #[.string ⟨#[]⟩, .bool false] 32))); have B3 := Lib.hid (bl_call (bl_alloc (.cells #[.string ⟨#[]⟩, .bool false] 32) B2.out) b3); clear b3)
        | (go_at_call 14; (with_reducible refine (split_q _ xs _ lf false qs (H1.out.later B3.out) HB1.out HSM.out HLF.out HBAD.out HQS.out).mono ?_); rintro e w4 ⟨A4, n4, c4, rfl, rfl, p4, b4⟩; have P4 := Lib.hid p4; have B4 := Lib.hid (bl_call B3.out b4); clear p4 b4))
      · go_loopw [11, 12] (fun s i wr => ∃ k : Nat, k ≤ qs.length ∧ i = .int .i64 k ∧ s = .string (strB (joinL (qs.take k))) ∧ Hid (Below (w4.heap.size + 1) (w4.alloc (.cells #[.string (strB lf), .bool false] 32)) wr)) (fun _ i _ => qs.length - (intOf i).toNat)
        case atStart => exact ⟨0, Nat.zero_le _, rfl, rfl, Lib.hid (show Below (w4.heap.size + 1) _ _ from ⟨rfl, rfl, rfl, Nat.le_refl _, fun _ _ => rfl⟩)⟩
        case round =>
          obtain ⟨k, hk, rfl, rfl, HB⟩ := hrel
          obtain ⟨hw4, hS, hle⟩ := bl_lit HB.out
          obtain ⟨s0, s1, _, _⟩ := cell_of2 hS
          have hqm := P4.out.max
          unfold maxLen at hqm
          by_cases hlt : k < qs.length
          · obtain ⟨g, off, rfl, _, _, _, hg, hcell⟩ := P4.out.at (by omega)
            obtain ⟨u, cu, hu, _⟩ := hcell k hlt
            have cw := (hw4.cell (p := ⟨g, off + k, none⟩) hg).trans cu
            have HU0 := hu.later hw4
            obtain ⟨q, hq⟩ : ∃ q, qs.getD k [] = q := ⟨_, rfl⟩
            have heq : errP q = 0 := HQ.out q (by rw [← hq, List.getD_eq_getElem?_getD, List.getElem?_eq_getElem hlt]; exact List.getElem_mem hlt)
            have hst : strB (joinL (qs.take k)) ++ strB (frameL q) = strB (joinL (qs.take (k + 1))) := by rw [strB_app, join_step hlt, hq]
            rw [hq] at HU0
            obtain ⟨Au, cau, rfl⟩ := HU0.len
            have HU := Lib.hid HU0
            have HE := Lib.hid heq
            have HST := Lib.hid hst
            obtain ⟨X, hX⟩ : ∃ X, strB (joinL (qs.take k)) = X := ⟨_, rfl⟩
            obtain ⟨Y, hY⟩ : ∃ Y, strB (frameL q) = Y := ⟨_, rfl⟩
            rw [hX]
            have HXY : Hid (X ++ Y = strB (joinL (qs.take (k + 1)))) := Lib.hid (by rw [← hX, ← hY]; exact HST.out)
            have HYY := Lib.hid hY
            have hsz : ¬ 9223372036854775807 < X.size + Y.size := by have h9 := HJX.out (k + 1); rw [← HXY.out, ByteArray.size_append] at h9; omega
            clear hcell hq heq hst HU0 hX hY cu hu hS
            go_wp2_with (go_at_call 10; (with_reducible refine (frame_okq _ q _ HU.out HE.out).mono ?_); rintro e w5 ⟨A5, n5, c5, rfl, rfl, r5, b5⟩; have k5 := kc_at r5 (Below.refl _ w5); rw [HYY.out] at k5; have HB5 := Lib.hid b5; clear r5 b5)
            exact ⟨⟨k + 1, by omega, by go_num, by rw [HXY.out], Lib.hid (HB.out.trans (HB5.out.mono hle))⟩, by simp [intOf]; omega⟩
          · obtain rfl : k = qs.length := by omega
            rw [List.take_length]
            have hsz : ¬ 9223372036854775807 < (strB (joinL qs)).size + (strB lf).size := by have h9 := congrArg ByteArray.size hcat; rw [ByteArray.size_append, strB_size xs] at h9; omega
            have kx := kc_at H1.out ((Go.RowKit.Below.refl w.heap.size w).trans (bl_call B4.out hw4))
            go_wp2_with (go_at_call 9; (with_reducible refine (shown_any _).mono ?_); rintro e w9 ⟨rfl, hb⟩; have HB9 := Lib.hid hb; clear hb)
            go_ret
            exact ⟨rfl, bl_call (bl_call B4.out hw4) HB9.out⟩
      · go_ret
        exact ⟨rfl, HB.out⟩
    · obtain rfl := HBN.out rfl
      clear HBN HCAT
      go_enter Try.func5, Try.ntmps5
      go_wp2_with (first
        | (go_at_call 8; (with_reducible refine (far_any _ ps _ H0.out).mono ?_); rintro e w1 ⟨b, rfl, rfl⟩; cases b)
        | (go_at_call 9; (with_reducible refine (shown_any _).mono ?_); rintro e w9 ⟨rfl, hb⟩; have HB := Lib.hid hb; clear hb)
        | (go_at_call 12; (with_reducible refine (HJN.out _ _ H0.out).mono ?_); rintro e w1 ⟨A1, n1, c1, rfl, rfl, r1, b1⟩; have R1 := Lib.hid r1; have B1 := Lib.hid b1; clear r1 b1)
        | (go_at_call 14; (with_reducible refine (split_q _ J _ [] false ps R1.out J1.out J2.out J3.out J4.out J5.out).mono ?_); rintro e w2 ⟨A2, n2, c2, rfl, rfl, p2, b2⟩; rw [strB_nil]; have P2 := Lib.hid p2; have B2 := Lib.hid (bl_call B1.out b2); clear p2 b2)
        | (go_at_call 16; (with_reducible refine (same_any _ _ ps ps _ (P2.out.later (bl_alloc _ (Below.refl _ _))) (H0.out.later (bl_alloc _ B2.out))).mono ?_); rintro e w3 ⟨rfl, b3⟩; rw [decide_eq_true rfl]; obtain ⟨s0, s1, _, _⟩ := cell_of2 ((b3.block _ (by simp)).trans (World.alloc_heap_new w2 (.cells #[.string ⟨#[]⟩, .bool false] 32))); have B3 := Lib.hid (bl_call (bl_alloc (.cells #[.string ⟨#[]⟩, .bool false] 32) B2.out) b3); clear b3)
        | (go_at_call 14; (with_reducible refine (split_q _ xs _ [] true qs (H1.out.later B3.out) HB1.out HSM.out HLF.out HBAD.out HQS.out).mono ?_); rintro e w4 ⟨A4, n4, c4, rfl, rfl, p4, b4⟩; rw [strB_nil]; have B4 := Lib.hid (bl_call B3.out b4); clear p4 b4))
      · go_ret
        exact ⟨rfl, bl_call (bl_alloc _ B4.out) HB.out⟩
      · go_ret
        exact ⟨rfl, HB.out⟩
  · have e0 : (F == 0) = false := beq_eq_false_iff_ne.2 hF0
    clear HJF
    cases bad
    · have hcat := HCAT.out rfl
      clear HBN HCAT
      go_enter Try.func5, Try.ntmps5
      go_wp2_with (first
        | (go_at_call 8; (with_reducible refine (far_any _ ps _ H0.out).mono ?_); rintro e w1 ⟨b, rfl, rfl⟩; cases b)
        | (go_at_call 9; (with_reducible refine (shown_any _).mono ?_); rintro e w9 ⟨rfl, hb⟩; have HB := Lib.hid hb; clear hb)
        | (go_at_call 12; (with_reducible refine (HJN.out _ _ H0.out).mono ?_); rintro e w1 ⟨A1, n1, c1, rfl, rfl, r1, b1⟩; have R1 := Lib.hid r1; have B1 := Lib.hid b1; clear r1 b1)
        | (go_at_call 14; (with_reducible refine (split_q _ xs _ lf false qs (H1.out.later B1.out) HB1.out HSM.out HLF.out HBAD.out HQS.out).mono ?_); rintro e w4 ⟨A4, n4, c4, rfl, rfl, p4, b4⟩; have P4 := Lib.hid p4; have B4 := Lib.hid (bl_call B1.out b4); clear p4 b4))
      · go_loopw [11, 12] (fun s i wr => ∃ k : Nat, k ≤ qs.length ∧ i = .int .i64 k ∧ s = .string (strB (joinL (qs.take k))) ∧ Hid (Below (w4.heap.size + 1) (w4.alloc (.cells #[.string (strB lf), .bool false] 32)) wr)) (fun _ i _ => qs.length - (intOf i).toNat)
        case atStart => exact ⟨0, Nat.zero_le _, rfl, rfl, Lib.hid (show Below (w4.heap.size + 1) _ _ from ⟨rfl, rfl, rfl, Nat.le_refl _, fun _ _ => rfl⟩)⟩
        case round =>
          obtain ⟨k, hk, rfl, rfl, HB⟩ := hrel
          obtain ⟨hw4, hS, hle⟩ := bl_lit HB.out
          obtain ⟨s0, s1, _, _⟩ := cell_of2 hS
          have hqm := P4.out.max
          unfold maxLen at hqm
          by_cases hlt : k < qs.length
          · obtain ⟨g, off, rfl, _, _, _, hg, hcell⟩ := P4.out.at (by omega)
            obtain ⟨u, cu, hu, _⟩ := hcell k hlt
            have cw := (hw4.cell (p := ⟨g, off + k, none⟩) hg).trans cu
            have HU0 := hu.later hw4
            obtain ⟨q, hq⟩ : ∃ q, qs.getD k [] = q := ⟨_, rfl⟩
            have heq : errP q = 0 := HQ.out q (by rw [← hq, List.getD_eq_getElem?_getD, List.getElem?_eq_getElem hlt]; exact List.getElem_mem hlt)
            have hst : strB (joinL (qs.take k)) ++ strB (frameL q) = strB (joinL (qs.take (k + 1))) := by rw [strB_app, join_step hlt, hq]
            rw [hq] at HU0
            obtain ⟨Au, cau, rfl⟩ := HU0.len
            have HU := Lib.hid HU0
            have HE := Lib.hid heq
            have HST := Lib.hid hst
            obtain ⟨X, hX⟩ : ∃ X, strB (joinL (qs.take k)) = X := ⟨_, rfl⟩
            obtain ⟨Y, hY⟩ : ∃ Y, strB (frameL q) = Y := ⟨_, rfl⟩
            rw [hX]
            have HXY : Hid (X ++ Y = strB (joinL (qs.take (k + 1)))) := Lib.hid (by rw [← hX, ← hY]; exact HST.out)
            have HYY := Lib.hid hY
            have hsz : ¬ 9223372036854775807 < X.size + Y.size := by have h9 := HJX.out (k + 1); rw [← HXY.out, ByteArray.size_append] at h9; omega
            clear hcell hq heq hst HU0 hX hY cu hu hS
            go_wp2_with (go_at_call 10; (with_reducible refine (frame_okq _ q _ HU.out HE.out).mono ?_); rintro e w5 ⟨A5, n5, c5, rfl, rfl, r5, b5⟩; have k5 := kc_at r5 (Below.refl _ w5); rw [HYY.out] at k5; have HB5 := Lib.hid b5; clear r5 b5)
            exact ⟨⟨k + 1, by omega, by go_num, by rw [HXY.out], Lib.hid (HB.out.trans (HB5.out.mono hle))⟩, by simp [intOf]; omega⟩
          · obtain rfl : k = qs.length := by omega
            rw [List.take_length]
            have hsz : ¬ 9223372036854775807 < (strB (joinL qs)).size + (strB lf).size := by have h9 := congrArg ByteArray.size hcat; rw [ByteArray.size_append, strB_size xs] at h9; omega
            have kx := kc_at H1.out ((Go.RowKit.Below.refl w.heap.size w).trans (bl_call B4.out hw4))
            go_wp2_with (go_at_call 9; (with_reducible refine (shown_any _).mono ?_); rintro e w9 ⟨rfl, hb⟩; have HB9 := Lib.hid hb; clear hb)
            go_ret
            exact ⟨rfl, bl_call (bl_call B4.out hw4) HB9.out⟩
      · go_ret
        exact ⟨rfl, HB.out⟩
    · obtain rfl := HBN.out rfl
      clear HBN HCAT
      go_enter Try.func5, Try.ntmps5
      go_wp2_with (first
        | (go_at_call 8; (with_reducible refine (far_any _ ps _ H0.out).mono ?_); rintro e w1 ⟨b, rfl, rfl⟩; cases b)
        | (go_at_call 9; (with_reducible refine (shown_any _).mono ?_); rintro e w9 ⟨rfl, hb⟩; have HB := Lib.hid hb; clear hb)
        | (go_at_call 12; (with_reducible refine (HJN.out _ _ H0.out).mono ?_); rintro e w1 ⟨A1, n1, c1, rfl, rfl, r1, b1⟩; have R1 := Lib.hid r1; have B1 := Lib.hid b1; clear r1 b1)
        | (go_at_call 14; (with_reducible refine (split_q _ xs _ [] true qs (H1.out.later B1.out) HB1.out HSM.out HLF.out HBAD.out HQS.out).mono ?_); rintro e w4 ⟨A4, n4, c4, rfl, rfl, p4, b4⟩; rw [strB_nil]; have B4 := Lib.hid (bl_call B1.out b4); clear p4 b4))
      · go_ret
        exact ⟨rfl, bl_call (bl_alloc _ B4.out) HB.out⟩
      · go_ret
        exact ⟨rfl, HB.out⟩
end Go.Proofs.Ytlmemkcfikdhgaa
