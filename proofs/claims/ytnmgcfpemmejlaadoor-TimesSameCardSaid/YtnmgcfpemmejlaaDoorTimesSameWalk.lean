/- The law TimesSame: the walk. -/
import Derived.Test.YtnmgcfpemmejlaaDoorTimesLe
namespace Go.Proofs.YtnmgcfpemmejlaaDoor
open Go.RowKit Go.Lib
set_option linter.unusedVariables false

set_option maxRecDepth 100000 in
set_option maxHeartbeats 8000000 in
theorem tsame_any (v1 v2 : Value) (a b : List Span) (w : World) (h1 : RS w v1 a) (h2 : RS w v2 b) (ha : ∀ s ∈ a, S64 s) (hb : ∀ s ∈ b, S64 s) (hT : TV w) : Calls Tryd.prog 9 #[v1, v2] w (GivesD w (.bool true)) := by
  have HT := Lib.hid hT
  clear hT
  have B0 := Lib.hid (Below.refl w.heap.size w)
  have M1 := Lib.hid h1.max; have M2 := Lib.hid h2.max
  obtain ⟨A1, c1, rfl⟩ := h1.len
  obtain ⟨A2, c2, rfl⟩ := h2.len
  obtain ⟨n1, hn1⟩ : ∃ n, a.length = n := ⟨_, rfl⟩
  obtain ⟨n2, hn2⟩ : ∃ n, b.length = n := ⟨_, rfl⟩
  rw [hn1] at h1 M1 ⊢
  rw [hn2] at h2 M2 ⊢
  obtain ⟨f1, hf1⟩ : ∃ f, farB n1 = f := ⟨_, rfl⟩
  obtain ⟨f2, hf2⟩ : ∃ f, farB n2 = f := ⟨_, rfl⟩
  obtain ⟨r1, hr1⟩ : ∃ r, errS a [] = r := ⟨_, rfl⟩
  obtain ⟨r2, hr2⟩ : ∃ r, errS a b = r := ⟨_, rfl⟩
  have V1 := Lib.hid h1; have V2 := Lib.hid h2; have N1 := Lib.hid hn1; have N2 := Lib.hid hn2; have F1 := Lib.hid hf1; have F2 := Lib.hid hf2; have R1 := Lib.hid hr1; have R2 := Lib.hid hr2; have HA := Lib.hid ha; have HB := Lib.hid hb
  clear h1 h2 hn1 hn2 hf1 hf2 hr1 hr2 ha hb
  cases f1 with
  | true =>
    go_enter Tryd.func9, Tryd.ntmps9
    go_wp2_with (first
        | (go_at_call 19; (with_reducible refine (far_r A1 n1 c1 true _ M1.out F1.out).mono ?_); rintro e w' ⟨rfl, rfl⟩)
        | (go_at_call 18; (with_reducible refine (awake_any _ (HT.out.below B0.out)).mono ?_); rintro e w9 ⟨rfl, hb⟩; replace B0 := Lib.hid (bl_call B0.out hb); clear hb))
    go_ret
    exact ⟨rfl, B0.out⟩
  | false => cases f2 with
    | true =>
      go_enter Tryd.func9, Tryd.ntmps9
      go_wp2_with (first
          | (go_at_call 19; (with_reducible refine (far_r A1 n1 c1 false _ M1.out F1.out).mono ?_); rintro e w' ⟨rfl, rfl⟩)
          | (go_at_call 19; (with_reducible refine (far_r A2 n2 c2 true _ M2.out F2.out).mono ?_); rintro e w' ⟨rfl, rfl⟩)
          | (go_at_call 18; (with_reducible refine (awake_any _ (HT.out.below B0.out)).mono ?_); rintro e w9 ⟨rfl, hb⟩; replace B0 := Lib.hid (bl_call B0.out hb); clear hb))
      go_ret
      exact ⟨rfl, B0.out⟩
    | false =>
      by_cases h1 : r1 = 0
      · by_cases h2 : r2 = 0
        · subst h1 h2
          have SA : Hid (Small a 60) := Lib.hid (small_of (by rw [N1.out]; exact farB_no F1.out) (err_left R2.out) HA.out)
          have SB : Hid (Small b 60) := Lib.hid (small_of (by rw [N2.out]; exact farB_no F2.out) (err_right R2.out) HB.out)
          have hn60 : n1 ≤ 60 := by rw [← N1.out]; exact SA.out.len
          go_enter Tryd.func9, Tryd.ntmps9
          go_wp2_with (first
              | (go_at_call 19; (with_reducible refine (far_r A1 n1 c1 false _ M1.out F1.out).mono ?_); rintro e w' ⟨rfl, rfl⟩)
              | (go_at_call 19; (with_reducible refine (far_r A2 n2 c2 false _ M2.out F2.out).mono ?_); rintro e w' ⟨rfl, rfl⟩)
              | (go_at_call 24; (with_reducible refine (union_r _ _ (V1.out.later B0.out) HA.out R1.out).mono ?_); rintro e w1 ⟨v1, u1, rfl, s1, rs1, hb⟩; have U1 := Lib.hid s1; have L1 := Lib.hid rs1; clear s1 rs1; replace B0 := Lib.hid (bl_call B0.out hb); clear hb)
              | (go_at_call 26; (with_reducible refine (minus_r _ _ _ (V1.out.later B0.out) HA.out (V2.out.later B0.out) HB.out R2.out).mono ?_); rintro e w2 ⟨v2, u2, rfl, s2, rs2, hb⟩; have U2 := Lib.hid s2; have L2 := Lib.hid rs2; clear s2 rs2; replace L1 := Lib.hid (L1.out.later hb); replace B0 := Lib.hid (bl_call B0.out hb); clear hb))
          have HU1 : Hid (IsSet a [] u1) := Lib.hid (U1.out.yes rfl)
          have HU2 : Hid (IsSet a b u2) := Lib.hid (U2.out.yes rfl)
          have SU : Hid (Small u1 60) := Lib.hid (SA.out.set HU1.out Small.nil (by omega))
          have SM : Hid (Small u2 120) := Lib.hid (SA.out.set HU2.out SB.out (by omega))
          clear U1 U2
          go_loopw [9, 10] (fun t i wr => ∃ (x : Int) (k : Nat), i = .int .i64 x ∧ Hid (x = (k : Int) - 1) ∧ -1 ≤ x ∧ x ≤ 59 ∧ k ≤ n1 ∧ Hid (TM w2 wr t (a.drop k).reverse)) (fun _ i _ => (intOf i + 1).toNat)
          case atStart => exact ⟨_, n1, rfl, Lib.hid rfl, by omega, by omega, Nat.le_refl _, Lib.hid (by rw [List.drop_eq_nil_of_le (by rw [N1.out]; exact Nat.le_refl _)]; exact ⟨OS.nil _ _, Below.refl _ _⟩)⟩
          case round =>
            obtain ⟨x, k, rfl, HX, hx1, hx2, hk, HJ⟩ := hrel
            by_cases hlt : x < 0
            · have hk0 : k = 0 := by have := HX.out; omega
              subst hk0
              have d1 : decide (0 ≤ x) = false := by simp; omega
              have LT : Hid (RS wr _ a.reverse) := Lib.hid (by have := HJ.out.own.rs; rw [List.drop_zero] at this; exact this)
              have hb := HJ.out.bel
              replace L1 := Lib.hid (L1.out.later hb); replace L2 := Lib.hid (L2.out.later hb); replace B0 := Lib.hid (bl_call B0.out hb)
              clear hb HJ
              have ST : Hid (Small a.reverse 60) := Lib.hid SA.out.rev
              go_wp2_with (first
                  | (go_at_call 24; (with_reducible refine (union_r _ _ L1.out SU.out.s64 SU.out.err1).mono ?_); rintro e w5 ⟨v5, u5, rfl, s5, rs5, hb⟩; obtain rfl := HU1.out.again (s5.yes rfl); have L5 := Lib.hid rs5; clear s5 rs5; replace L1 := Lib.hid (L1.out.later hb); replace L2 := Lib.hid (L2.out.later hb); replace LT := Lib.hid (LT.out.later hb); replace B0 := Lib.hid (bl_call B0.out hb); clear hb)
                  | (go_at_call 24; (with_reducible refine (union_r _ _ LT.out ST.out.s64 ST.out.err1).mono ?_); rintro e w6 ⟨v6, u6, rfl, s6, rs6, hb⟩; obtain rfl := HU1.out.turned (s6.yes rfl); have L6 := Lib.hid rs6; clear s6 rs6; replace L1 := Lib.hid (L1.out.later hb); replace L2 := Lib.hid (L2.out.later hb); replace L5 := Lib.hid (L5.out.later hb); replace B0 := Lib.hid (bl_call B0.out hb); clear hb)
                  | (go_at_call 30; (with_reducible refine (same_eq _ _ u1 _ L1.out L5.out).mono ?_); rintro e w7 ⟨rfl, hq⟩; have hb := drewn_bel hq; clear hq; replace L1 := Lib.hid (L1.out.later hb); replace L2 := Lib.hid (L2.out.later hb); replace L6 := Lib.hid (L6.out.later hb); replace B0 := Lib.hid (bl_call B0.out hb); clear hb L5)
                  | (go_at_call 30; (with_reducible refine (same_eq _ _ u1 _ L1.out L6.out).mono ?_); rintro e w8 ⟨rfl, hq⟩; have hb := drewn_bel hq; clear hq; replace L1 := Lib.hid (L1.out.later hb); replace L2 := Lib.hid (L2.out.later hb); replace B0 := Lib.hid (bl_call B0.out hb); clear hb L6)
                  | (go_at_call 26; (with_reducible refine (minus_r _ _ _ (V1.out.later B0.out) SA.out.s64 L2.out SM.out.s64 (SA.out.err2 SM.out)).mono ?_); rintro e w10 ⟨v7, u7, rfl, s7, rs7, hb⟩; have L7 := Lib.hid rs7; have HU7 := Lib.hid (s7.yes rfl); clear s7 rs7; have SG : Hid (Small u7 180) := Lib.hid (SA.out.set HU7.out SM.out (by omega)); obtain ⟨tu, tm, tg, k1, k2, k3, k4, k5⟩ := totals SA.out HU1.out HU2.out HU7.out; have TU := Lib.hid k3; have TMM := Lib.hid k4; have TG := Lib.hid k5; clear k3 k4 k5; have tq1 : (tu == tu) = true := beq_self_eq_true _; have tq2 : (tu == tm + tg) = true := beq_iff_eq.2 k2; have HK2 := Lib.hid k2; clear k2; obtain ⟨k6, k7, k8⟩ := k1; replace L1 := Lib.hid (L1.out.later hb); replace L2 := Lib.hid (L2.out.later hb); replace B0 := Lib.hid (bl_call B0.out hb); clear hb)
                  | (go_at_call 28; (with_reducible refine (total_r _ _ (V1.out.later B0.out) SA.out.s64 SA.out.err1).mono ?_); rintro e w11 ⟨t1, rfl, s8, hb⟩; obtain rfl : tu = t1 := TU.out.1 _ s8; clear s8; replace L1 := Lib.hid (L1.out.later hb); replace L2 := Lib.hid (L2.out.later hb); replace L7 := Lib.hid (L7.out.later hb); replace B0 := Lib.hid (bl_call B0.out hb); clear hb)
                  | (go_at_call 28; (with_reducible refine (total_r _ _ L1.out SU.out.s64 SU.out.err1).mono ?_); rintro e w12 ⟨t2, rfl, s8, hb⟩; obtain rfl : tu = t2 := TU.out.2 _ s8; clear s8; replace L2 := Lib.hid (L2.out.later hb); replace L7 := Lib.hid (L7.out.later hb); replace B0 := Lib.hid (bl_call B0.out hb); clear hb)
                  | (go_at_call 28; (with_reducible refine (total_r _ _ L2.out SM.out.s64 SM.out.err1).mono ?_); rintro e w13 ⟨t3, rfl, s8, hb⟩; obtain rfl : tm = t3 := TMM.out _ s8; clear s8; replace L7 := Lib.hid (L7.out.later hb); replace B0 := Lib.hid (bl_call B0.out hb); clear hb)
                  | (go_at_call 28; (with_reducible refine (total_r _ _ L7.out SG.out.s64 SG.out.err1).mono ?_); rintro e w14 ⟨t4, rfl, s8, hb⟩; obtain rfl : tg = t4 := TG.out _ s8; clear s8; replace B0 := Lib.hid (bl_call B0.out hb); clear hb)
                  | (go_at_call 18; (with_reducible refine (awake_any _ (HT.out.below B0.out)).mono ?_); rintro e w9 ⟨rfl, hb⟩; replace B0 := Lib.hid (bl_call B0.out hb); clear hb))
              go_ret
              exact ⟨rfl, B0.out⟩
            · obtain ⟨j, rfl⟩ : ∃ j : Nat, x = j := ⟨x.toNat, by omega⟩
              obtain rfl : k = j + 1 := by have := HX.out; omega
              obtain ⟨s, hs⟩ := getS N1.out (show j < n1 by omega)
              obtain ⟨g, off, rfl, hg, c0, c1⟩ := (V1.out.later (bl_call B0.out HJ.out.bel)).at hs
              have HO : Hid ((a.drop (j + 1)).reverse ++ [s] = (a.drop j).reverse) := Lib.hid (drop_rev hs)
              have HL : Hid ((a.drop (j + 1)).reverse.length ≤ 100000) := Lib.hid (by have := SA.out.len; simp; omega)
              obtain ⟨p, q⟩ := s
              clear hs
              simp only at c0 c1
              have hj1 : j < n1 := by omega
              have hj0 : (0 : Int) ≤ (j : Int) := by omega
              have HS3 : Hid (TM w2 (wr.alloc (.cells #[.int .i64 p, .int .i64 q] 32)) _ (a.drop (j + 1)).reverse) := Lib.hid (HJ.out.step (bl_alloc _ (Below.refl _ _)))
              go_wp2_with (at_builtin; refine wpList_append_span _ rfl _ _ rfl w2.heap.size _ _ (a.drop (j + 1)).reverse p q _ _ rfl HS3.out.own rfl rfl (by simp) HS3.out.bel.size HL.out ?_; intro v3 w3 hn hg; have HN3 := Lib.hid hn; have HG3 := Lib.hid hg; clear hn hg)
              go_roundw
              case rel => exact ⟨(j : Int) - 1, j, rfl, Lib.hid rfl, by omega, by omega, by omega, Lib.hid (HS3.out.more HO.out HN3.out HG3.out)⟩
              case measure => simp [intOf]
        · subst h1
          have b1 : (r2 == 0) = false := by simpa using h2
          have b2 : (r2 != 0) = true := by simpa using h2
          clear h2
          go_enter Tryd.func9, Tryd.ntmps9
          go_wp2_with (first
              | (go_at_call 19; (with_reducible refine (far_r A1 n1 c1 false _ M1.out F1.out).mono ?_); rintro e w' ⟨rfl, rfl⟩)
              | (go_at_call 19; (with_reducible refine (far_r A2 n2 c2 false _ M2.out F2.out).mono ?_); rintro e w' ⟨rfl, rfl⟩)
              | (go_at_call 24; (with_reducible refine (union_r _ _ (V1.out.later B0.out) HA.out R1.out).mono ?_); rintro e w1 ⟨v1, u1, rfl, s1, rs1, hb⟩; have U1 := Lib.hid s1; have L1 := Lib.hid rs1; clear s1 rs1; replace B0 := Lib.hid (bl_call B0.out hb); clear hb)
              | (go_at_call 26; (with_reducible refine (minus_r _ _ _ (V1.out.later B0.out) HA.out (V2.out.later B0.out) HB.out R2.out).mono ?_); rintro e w2 ⟨v2, u2, rfl, s2, rs2, hb⟩; have U2 := Lib.hid s2; have L2 := Lib.hid rs2; clear s2 rs2; replace L1 := Lib.hid (L1.out.later hb); replace B0 := Lib.hid (bl_call B0.out hb); clear hb)
              | (go_at_call 18; (with_reducible refine (awake_any _ (HT.out.below B0.out)).mono ?_); rintro e w9 ⟨rfl, hb⟩; replace B0 := Lib.hid (bl_call B0.out hb); clear hb))
          go_ret
          exact ⟨rfl, B0.out⟩
      · have b1 : (r1 == 0) = false := by simpa using h1
        have b2 : (r1 != 0) = true := by simpa using h1
        clear h1
        go_enter Tryd.func9, Tryd.ntmps9
        go_wp2_with (first
            | (go_at_call 19; (with_reducible refine (far_r A1 n1 c1 false _ M1.out F1.out).mono ?_); rintro e w' ⟨rfl, rfl⟩)
            | (go_at_call 19; (with_reducible refine (far_r A2 n2 c2 false _ M2.out F2.out).mono ?_); rintro e w' ⟨rfl, rfl⟩)
            | (go_at_call 24; (with_reducible refine (union_r _ _ (V1.out.later B0.out) HA.out R1.out).mono ?_); rintro e w1 ⟨v1, u1, rfl, s1, rs1, hb⟩; have U1 := Lib.hid s1; have L1 := Lib.hid rs1; clear s1 rs1; replace B0 := Lib.hid (bl_call B0.out hb); clear hb)
            | (go_at_call 26; (with_reducible refine (minus_r _ _ _ (V1.out.later B0.out) HA.out (V2.out.later B0.out) HB.out R2.out).mono ?_); rintro e w2 ⟨v2, u2, rfl, s2, rs2, hb⟩; have U2 := Lib.hid s2; have L2 := Lib.hid rs2; clear s2 rs2; replace L1 := Lib.hid (L1.out.later hb); replace B0 := Lib.hid (bl_call B0.out hb); clear hb)
            | (go_at_call 18; (with_reducible refine (awake_any _ (HT.out.below B0.out)).mono ?_); rintro e w9 ⟨rfl, hb⟩; replace B0 := Lib.hid (bl_call B0.out hb); clear hb))
        go_ret
        exact ⟨rfl, B0.out⟩
end Go.Proofs.YtnmgcfpemmejlaaDoor
