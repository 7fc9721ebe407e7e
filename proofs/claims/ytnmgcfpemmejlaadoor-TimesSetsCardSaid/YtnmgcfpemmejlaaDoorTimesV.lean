/- The reference's Minus, Union and Total. -/
import Derived.Test.YtnmgcfpemmejlaaDoorTimesU
namespace Go.Proofs.YtnmgcfpemmejlaaDoor
open Go.RowKit Go.Lib
set_option linter.unusedVariables false

theorem wrap_sub {a b c : Int} (h1 : -9223372036854775808 ≤ a + b - c) (h2 : a + b - c ≤ 9223372036854775807) : wrap64 (wrap64 (a + b) - c) = a + b - c := by
  unfold wrap64; omega
theorem errS_long {a b : List Span} (h : 200 < a.length ∨ 200 < b.length) : errS a b = 3 := by unfold errS; rw [if_pos h]
theorem errS_first {a b : List Span} (h : ¬ (200 < a.length ∨ 200 < b.length)) (h1 : lstS a ≠ 0) : errS a b = lstS a := by unfold errS; rw [if_neg h, if_neg h1]
theorem errS_second {a b : List Span} (h : ¬ (200 < a.length ∨ 200 < b.length)) (h1 : lstS a = 0) : errS a b = lstS b := by unfold errS; rw [if_neg h, if_pos h1]
set_option maxRecDepth 20000 in
set_option maxHeartbeats 4000000 in
theorem rminus_any (v1 v2 : Value) (a b : List Span) (w : World) (hv1 : RS w v1 a) (hv2 : RS w v2 b) (h64 : ∀ s ∈ a, S64 s) (k64 : ∀ s ∈ b, S64 s) : Calls Tryd.prog 27 #[v1, v2] w (SetR w a b) := by
  obtain ⟨A1, c1', rfl⟩ := hv1.len
  obtain ⟨n1, hn1⟩ : ∃ n0, a.length = n0 := ⟨_, rfl⟩
  have hm1 := hv1.max
  have hm2 := hv2.max
  unfold maxLen at hm1 hm2
  rw [hn1] at hv1 hm1 ⊢
  obtain ⟨A2, c2', rfl⟩ := hv2.len
  obtain ⟨n2, hn2⟩ : ∃ n0, b.length = n0 := ⟨_, rfl⟩
  rw [hn2] at hv2 hm2 ⊢
  have HV1 := Lib.hid hv1; have HV2 := Lib.hid hv2; have H64 := Lib.hid h64; have K64 := Lib.hid k64; have HN1 := Lib.hid hn1; have HN2 := Lib.hid hn2
  clear hv1 hv2 h64 k64 hn1 hn2
  by_cases hlong : 200 < n1 ∨ 200 < n2
  · have HE : Hid (errS a b = 3) := Lib.hid (errS_long (by rw [HN1.out, HN2.out]; exact hlong))
    by_cases h1 : 200 < n1
    · clear hlong
      go_enter Tryd.func27, Tryd.ntmps27
      go_wp2_with fail
      go_ret2
      exact ⟨_, [], ret_vn HE.out.symm, fun h => absurd (HE.out.symm.trans h) (by decide), fun _ => rfl, RS.nil _, Below.refl _ _⟩
    · have h2 : 200 < n2 := by omega
      have d1 : decide ((200 : Int) < (n1 : Int)) = false := by simp; omega
      have d3 : decide (200 < n1) = false := by simp; omega
      clear hlong
      go_enter Tryd.func27, Tryd.ntmps27
      go_wp2_with fail
      go_ret2
      exact ⟨_, [], ret_vn HE.out.symm, fun h => absurd (HE.out.symm.trans h) (by decide), fun _ => rfl, RS.nil _, Below.refl _ _⟩
  · have h1 : ¬ 200 < n1 := by omega
    have h2 : ¬ 200 < n2 := by omega
    have d1 : decide ((200 : Int) < (n1 : Int)) = false := by simp; omega
    have d3 : decide (200 < n1) = false := by simp; omega
    have d2 : decide ((200 : Int) < (n2 : Int)) = false := by simp; omega
    have d4 : decide (200 < n2) = false := by simp; omega
    have hnl : ¬ (200 < a.length ∨ 200 < b.length) := by rw [HN1.out, HN2.out]; exact hlong
    obtain ⟨r1, hr1⟩ : ∃ r, lstS a = r := ⟨_, rfl⟩
    obtain ⟨r2, hr2⟩ : ∃ r, lstS b = r := ⟨_, rfl⟩
    have HR1 := Lib.hid hr1; have HR2 := Lib.hid hr2
    have HLA : Hid (a.length ≤ 1000) := Lib.hid (by rw [HN1.out]; omega)
    have HLB : Hid (b.length ≤ 1000) := Lib.hid (by rw [HN2.out]; omega)
    have tk1 : True := trivial
    by_cases h0 : r1 = 0
    · have HE0 : Hid (errS a b = r2) := Lib.hid (by rw [errS_second hnl (by rw [hr1, h0]), hr2])
      subst h0
      by_cases h00 : r2 = 0
      · subst h00
        clear hlong hr1 hr2 hnl
        go_enter Tryd.func27, Tryd.ntmps27
        go_wp2_with (first
          | (go_at_call 42; have _t := tk1; (with_reducible refine (rlist_any _ a _ HV1.out H64.out).mono ?_); rintro e w1 ⟨rfl, hb⟩; rw [HR1.out]; have B1 := Lib.hid hb; clear hb tk1)
          | (go_at_call 42; (with_reducible refine (rlist_any _ b _ (HV2.out.later B1.out) K64.out).mono ?_); rintro e w2 ⟨rfl, hb⟩; rw [HR2.out]; have B2 := Lib.hid (bl_call B1.out hb); clear hb)
          | (go_at_call 43; (with_reducible refine (set_any _ _ a b _ (HV1.out.later B2.out) (HV2.out.later B2.out) HLA.out HLB.out).mono ?_); rintro e w3 ⟨v3, u, rfl, hs, ho, hb⟩; have B3 := Lib.hid (bl_call B2.out hb); have HS := Lib.hid hs; have HO := Lib.hid ho; clear hs ho hb))
        go_ret2
        exact ⟨_, u, ret_vn HE0.out.symm, fun _ => HS.out, fun h => absurd HE0.out h, HO.out.rs, B3.out⟩
      · have e1 : (r2 == 0) = false := by simpa using h00
        have e2 : (r2 != 0) = true := by simpa using h00
        have H00 := Lib.hid h00
        clear hlong hr1 hr2 hnl h00
        go_enter Tryd.func27, Tryd.ntmps27
        go_wp2_with (first
          | (go_at_call 42; have _t := tk1; (with_reducible refine (rlist_any _ a _ HV1.out H64.out).mono ?_); rintro e w1 ⟨rfl, hb⟩; rw [HR1.out]; have B1 := Lib.hid hb; clear hb tk1)
          | (go_at_call 42; (with_reducible refine (rlist_any _ b _ (HV2.out.later B1.out) K64.out).mono ?_); rintro e w2 ⟨rfl, hb⟩; rw [HR2.out]; have B2 := Lib.hid (bl_call B1.out hb); clear hb))
        go_ret2
        exact ⟨_, [], ret_vn HE0.out.symm, fun h => absurd (HE0.out.symm.trans h) H00.out, fun _ => rfl, RS.nil _, B2.out⟩
    · have HE0 : Hid (errS a b = r1) := Lib.hid (by rw [errS_first hnl (by rw [hr1]; exact h0), hr1])
      have e1 : (r1 == 0) = false := by simpa using h0
      have e2 : (r1 != 0) = true := by simpa using h0
      have H00 := Lib.hid h0
      clear hlong hr1 hr2 hnl h0
      go_enter Tryd.func27, Tryd.ntmps27
      go_wp2_with (go_at_call 42; (with_reducible refine (rlist_any _ a _ HV1.out H64.out).mono ?_); rintro e w1 ⟨rfl, hb⟩; rw [HR1.out]; have B1 := Lib.hid hb; clear hb)
      go_ret2
      exact ⟨_, [], ret_vn HE0.out.symm, fun h => absurd (HE0.out.symm.trans h) H00.out, fun _ => rfl, RS.nil _, B1.out⟩
theorem runion_any (v : Value) (a : List Span) (w : World) (hv : RS w v a) (h64 : ∀ s ∈ a, S64 s) : Calls Tryd.prog 25 #[v] w (SetR w a []) := by
  have HV := Lib.hid hv; have H64 := Lib.hid h64
  clear hv h64
  go_enter Tryd.func25, Tryd.ntmps25
  go_wp2_with (go_at_call 27; (with_reducible refine (rminus_any v _ a [] _ HV.out (RS.nil _) H64.out (by simp)).mono ?_); rintro e w1 ⟨v1, u, rfl, h1, h2, h3, hb⟩; have H1 := Lib.hid h1; have H2 := Lib.hid h2; have H3 := Lib.hid h3; have B1 := Lib.hid hb; clear h1 h2 h3 hb)
  go_ret2
  exact ⟨_, u, rfl, H1.out, H2.out, H3.out, B1.out⟩
set_option maxRecDepth 20000 in
set_option maxHeartbeats 4000000 in
theorem rtotal_any (v : Value) (a : List Span) (w : World) (hv : RS w v a) (h64 : ∀ s ∈ a, S64 s) : Calls Tryd.prog 29 #[v] w (TotR w a) := by
  have HV := Lib.hid hv; have H64 := Lib.hid h64
  clear hv h64
  obtain ⟨r, hr⟩ : ∃ r, errS a [] = r := ⟨_, rfl⟩
  have HR := Lib.hid hr
  clear hr
  go_enter Tryd.func29, Tryd.ntmps29
  go_wp2_with (go_at_call 25; (with_reducible refine (runion_any v a _ HV.out H64.out).mono ?_); rintro e w1 ⟨v1, u, rfl, h1, h2, h3, hb⟩; rw [HR.out] at h1 h2 ⊢; have H1 := Lib.hid h1; have H2 := Lib.hid h2; have H3 := Lib.hid h3; have B1 := Lib.hid hb; clear h1 h2 h3 hb; obtain ⟨A, c, rfl⟩ := H3.out.len; obtain ⟨n, hn⟩ : ∃ n, u.length = n := ⟨_, rfl⟩; have hmx := H3.out.max; unfold maxLen at hmx; rw [hn] at H3 hmx ⊢; have HN := Lib.hid hn; clear hn)
  have HBD : Hid (Canon u ∧ ∀ s ∈ u, 0 ≤ s.1 ∧ s.1 < s.2 ∧ s.2 ≤ 9223372036854775807) := Lib.hid (by
    by_cases h0 : r = 0
    · exact ⟨(H1.out h0).can, set_bound (H1.out h0) (HR.out.trans h0) H64.out⟩
    · rw [H2.out h0]; exact ⟨Canon.nil, by simp⟩)
  go_loopw [6, 7] (fun t i wr => ∃ (k : Nat) (t' : Int), k ≤ n ∧ i = .int .i64 k ∧ t = .int .i64 t' ∧ Hid (t' = totalS (u.take k)) ∧ Hid (∃ q, wr = w1.drewN q)) (fun _ i _ => n - (intOf i).toNat)
  case atStart => exact ⟨0, 0, by omega, rfl, rfl, Lib.hid rfl, Lib.hid ⟨0, rfl⟩⟩
  case round =>
    obtain ⟨k, t, hk, rfl, rfl, HT, HW⟩ := hrel
    by_cases hlt : k < n
    · obtain ⟨s, hs⟩ := getS HN.out hlt
      obtain ⟨g, off, rfl, hg, c0, c1⟩ := (show RS wr _ u by obtain ⟨q, e⟩ := HW.out; rw [e]; exact H3.out.drawn q).at hs
      obtain ⟨q0, q1, q2⟩ := HBD.out.2 s (List.mem_of_getElem? hs)
      have HT2 := Lib.hid (totalS_snoc hs)
      obtain ⟨t1, t2⟩ := total_take HBD.out.1 (fun s hs => ⟨(HBD.out.2 s hs).1, (HBD.out.2 s hs).2.2⟩) (k + 1)
      obtain ⟨x, y⟩ := s
      simp only at c0 c1 q0 q1 q2
      rw [HT2.out, ← HT.out] at t1 t2
      simp only at t1 t2
      have HT3 : Hid (t + y - x = totalS (u.take (k + 1))) := Lib.hid (by rw [HT2.out, ← HT.out]; simp only; omega)
      have HWR := Lib.hid (wrap_sub (a := t) (b := y) (c := x) (by omega) (by omega))
      have j0 : (0 : Int) ≤ (k : Int) := by omega
      have j1 : (k : Int) < (n : Int) := by omega
      clear hs t1 t2
      go_wp2_with fail
      go_quiet (fail)
      go_wp2_with fail
      go_roundw
      case rel => exact ⟨k + 1, _, by omega, by go_num, rfl, Lib.hid (by rw [HWR.out]; exact HT3.out), Lib.hid (by obtain ⟨q, e⟩ := HW.out; rw [e]; exact ⟨q + nq, by simp [World.drewN, Nat.add_assoc]⟩)⟩
      case measure => simp [intOf]; omega
    · have HTE : Hid (t = totalS u) := Lib.hid (by rw [HT.out, List.take_of_length_le (by rw [HN.out]; omega)])
      go_wp2_with fail
      go_ret2
      refine ⟨t, ret_nn1 HR.out.symm, fun h => ⟨u, H1.out (HR.out.symm.trans h), HTE.out⟩, fun h => ?_, ?_⟩
      · rw [HTE.out, H2.out (fun e => h (HR.out.trans e))]; rfl
      · obtain ⟨q, e⟩ := HW.out; rw [e]; exact bl_drewN q B1.out
end Go.Proofs.YtnmgcfpemmejlaaDoor
