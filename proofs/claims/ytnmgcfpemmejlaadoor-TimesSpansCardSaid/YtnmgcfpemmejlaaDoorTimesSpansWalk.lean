/- The law TimesSpans: the walk. -/
import Derived.Test.YtnmgcfpemmejlaaDoorTimesLd
namespace Go.Proofs.YtnmgcfpemmejlaaDoor
open Go.RowKit Go.Lib
set_option linter.unusedVariables false

set_option maxRecDepth 100000 in
set_option maxHeartbeats 8000000 in
theorem tspans_any (v1 v2 : Value) (a b : List Span) (w : World) (h1 : RS w v1 a) (h2 : RS w v2 b) (ha : ∀ s ∈ a, S64 s) (hb : ∀ s ∈ b, S64 s) (hT : TV w) : Calls Tryd.prog 4 #[v1, v2] w (GivesD w (.bool true)) := by
  have HT := Lib.hid hT
  clear hT
  have B0 := Lib.hid (Below.refl w.heap.size w)
  have M1 := Lib.hid h1.max; have M2 := Lib.hid h2.max
  obtain ⟨A1, c1, rfl⟩ := h1.len
  obtain ⟨A2, c2, rfl⟩ := h2.len
  obtain ⟨n1, hn1⟩ : ∃ n, a.length = n := ⟨_, rfl⟩
  obtain ⟨n2, hn2⟩ : ∃ n, b.length = n := ⟨_, rfl⟩
  rw [hn1] at h1 M1 ⊢
  rw [hn2] at h2 M2 ⊢
  obtain ⟨f1, hf1⟩ : ∃ f, farB n1 = f := ⟨_, rfl⟩
  obtain ⟨f2, hf2⟩ : ∃ f, farB n2 = f := ⟨_, rfl⟩
  obtain ⟨r1, hr1⟩ : ∃ r, errS a [] = r := ⟨_, rfl⟩
  obtain ⟨r2, hr2⟩ : ∃ r, errS a b = r := ⟨_, rfl⟩
  have V1 := Lib.hid h1; have V2 := Lib.hid h2; have N1 := Lib.hid hn1; have N2 := Lib.hid hn2; have F1 := Lib.hid hf1; have F2 := Lib.hid hf2; have R1 := Lib.hid hr1; have R2 := Lib.hid hr2; have HA := Lib.hid ha; have HB := Lib.hid hb
  clear h1 h2 hn1 hn2 hf1 hf2 hr1 hr2 ha hb
  cases f1 with
  | true =>
    go_enter Tryd.func4, Tryd.ntmps4
    go_wp2_with (first
      | (go_at_call 19; (with_reducible refine (far_r A1 n1 c1 true _ M1.out F1.out).mono ?_); rintro e w' ⟨rfl, rfl⟩)
      | (go_at_call 18; (with_reducible refine (awake_any _ (HT.out.below B0.out)).mono ?_); rintro e w9 ⟨rfl, hb⟩; replace B0 := Lib.hid (bl_call B0.out hb); clear hb))
    go_ret
    exact ⟨rfl, B0.out⟩
  | false => cases f2 with
    | true =>
      go_enter Tryd.func4, Tryd.ntmps4
      go_wp2_with (first
        | (go_at_call 19; (with_reducible refine (far_r A1 n1 c1 false _ M1.out F1.out).mono ?_); rintro e w' ⟨rfl, rfl⟩)
        | (go_at_call 19; (with_reducible refine (far_r A2 n2 c2 true _ M2.out F2.out).mono ?_); rintro e w' ⟨rfl, rfl⟩)
        | (go_at_call 18; (with_reducible refine (awake_any _ (HT.out.below B0.out)).mono ?_); rintro e w9 ⟨rfl, hb⟩; replace B0 := Lib.hid (bl_call B0.out hb); clear hb))
      go_ret
      exact ⟨rfl, B0.out⟩
    | false =>
      go_enter Tryd.func4, Tryd.ntmps4
      obtain ⟨z, hz⟩ : ∃ z, decide (0 < n1 ∧ 0 < n2) = z := ⟨_, rfl⟩
      go_upto_region 3 with (first
        | (go_at_call 19; (with_reducible refine (far_r A1 n1 c1 false _ M1.out F1.out).mono ?_); rintro e w' ⟨rfl, rfl⟩)
        | (go_at_call 19; (with_reducible refine (far_r A2 n2 c2 false _ M2.out F2.out).mono ?_); rintro e w' ⟨rfl, rfl⟩))
      go_cut [37] (fun s37 wc => s37 = .bool z ∧ w = wc)
      case first => as_aux_lemma =>
        by_cases g1 : 0 < n1
        · by_cases g2 : 0 < n2
          · go_wp2_with fail
            go_meet
            exact ⟨by rw [← hz]; simp; omega, rfl⟩
          · go_wp2_with fail
            go_meet
            exact ⟨by rw [← hz]; simp; omega, rfl⟩
        · go_wp2_with fail
          go_meet
          exact ⟨by rw [← hz]; simp; omega, rfl⟩
      case rest => as_aux_lemma =>
        obtain ⟨rfl, rfl⟩ := hcut
        have HZ := Lib.hid hz
        clear hz
        go_upto_if 37 with fail
        go_cut [] (fun wc => Hid (Below w.heap.size w wc))
        case first => as_aux_lemma =>
          cases z with
          | false =>
            go_wp2_with fail
            go_meet
            exact B0
          | true =>
            have hz2 : 0 < n1 ∧ 0 < n2 := of_decide_eq_true HZ.out
            obtain ⟨x0, y0, la, ea, g1, o1, rfl, hg1, p0, p1⟩ := V1.out.first N1.out hz2.1
            obtain ⟨x1, y1, lb, eb, g2, o2, rfl, hg2, q0, q1⟩ := V2.out.first N2.out hz2.2
            have HS1 : Hid (S64 (x0, y0)) := Lib.hid (HA.out _ (by rw [ea]; simp))
            have HS2 : Hid (S64 (x1, y1)) := Lib.hid (HB.out _ (by rw [eb]; simp))
            obtain ⟨h1, h2⟩ := hz2
            clear ea eb
            obtain ⟨mf, mt, mx, mr, hm⟩ : ∃ f t x r, MeetOf (x0, y0) (x1, y1) f t x r := ⟨_, _, _, _, rfl, rfl, rfl, rfl⟩
            have HM := Lib.hid hm
            clear hm
            have HP : Hid (∀ W, Below w.heap.size w W → W.cell? ⟨g1, o1, none⟩ = some (.int .i64 x0) ∧ W.cell? ⟨g1, o1 + 1, none⟩ = some (.int .i64 y0) ∧ W.cell? ⟨g2, o2, none⟩ = some (.int .i64 x1) ∧ W.cell? ⟨g2, o2 + 1, none⟩ = some (.int .i64 y1)) :=
              Lib.hid (fun W h => ⟨(h.cell (p := ⟨g1, _, none⟩) hg1).trans p0, (h.cell (p := ⟨g1, _, none⟩) hg1).trans p1, (h.cell (p := ⟨g2, _, none⟩) hg2).trans q0, (h.cell (p := ⟨g2, _, none⟩) hg2).trans q1⟩)
            go_upto_region 4 with fail
            go_cut [5, 6, 7] (fun s5 s6 s7 wc => ∃ g, s5 = .pointer (some ⟨g, 0, none⟩) ∧ s6 = .bool mx ∧ s7 = .int .i64 mr ∧ Hid (Box w wc g mf mt))
            case first => as_aux_lemma =>
              have k0 : ∀ o, (w.alloc o).cell? ⟨g1, o1, none⟩ = some (.int .i64 x0) := fun o => (HP.out _ (ok_new B0.out o)).1
              have k1 : ∀ o, (w.alloc o).cell? ⟨g1, o1 + 1, none⟩ = some (.int .i64 y0) := fun o => (HP.out _ (ok_new B0.out o)).2.1
              have k2 : ∀ o, (w.alloc o).cell? ⟨g2, o2, none⟩ = some (.int .i64 x1) := fun o => (HP.out _ (ok_new B0.out o)).2.2.1
              have k3 : ∀ o, (w.alloc o).cell? ⟨g2, o2 + 1, none⟩ = some (.int .i64 y1) := fun o => (HP.out _ (ok_new B0.out o)).2.2.2
              go_region_with (go_at_call 20; (with_reducible refine (meet_r x0 y0 x1 y1 _ HS1.out HS2.out HM.out).mono ?_); rintro e w' ⟨rfl, hb⟩; obtain ⟨hc, hf⟩ := bcell hb; have HBM := Lib.hid hb; clear hb)
              all_goals go_wp2_with fail
              all_goals go_meet
              all_goals refine ⟨_, rfl, rfl, rfl, ?_⟩
              all_goals first
                | (with_reducible exact Lib.hid (box_a mf mt _ HBM.out))
                | (with_reducible exact Lib.hid (box_b (u := .int .i64 0) (v := .int .i64 0) mf mt _ HBM.out (by simp [hc, go_sem]) (by simp [hc, go_sem])))
            case rest => as_aux_lemma =>
              rename World => w4
              obtain ⟨b4, rfl, rfl, rfl, HX4⟩ := hcut
              clear p0 p1 q0 q1
              obtain ⟨p0, p1, q0, q1⟩ := HP.out _ HX4.out.bel
              go_upto_region 5 with fail
              go_cut [8, 9, 10] (fun s8 s9 s10 wd => ∃ g, s8 = .pointer (some ⟨g, 0, none⟩) ∧ s9 = .bool mx ∧ s10 = .int .i64 mr ∧ Hid (Box w4 wd g mf mt))
              case first => as_aux_lemma =>
                have k0 : ∀ o, (w4.alloc o).cell? ⟨g1, o1, none⟩ = some (.int .i64 x0) := fun o => (HP.out _ (ok_new HX4.out.bel o)).1
                have k1 : ∀ o, (w4.alloc o).cell? ⟨g1, o1 + 1, none⟩ = some (.int .i64 y0) := fun o => (HP.out _ (ok_new HX4.out.bel o)).2.1
                have k2 : ∀ o, (w4.alloc o).cell? ⟨g2, o2, none⟩ = some (.int .i64 x1) := fun o => (HP.out _ (ok_new HX4.out.bel o)).2.2.1
                have k3 : ∀ o, (w4.alloc o).cell? ⟨g2, o2 + 1, none⟩ = some (.int .i64 y1) := fun o => (HP.out _ (ok_new HX4.out.bel o)).2.2.2
                go_region_with (go_at_call 21; (with_reducible refine (rmeet_r x0 y0 x1 y1 _ HS1.out HS2.out HM.out).mono ?_); rintro e w' ⟨rfl, hb⟩; obtain ⟨hc, hf⟩ := bcell hb; have HBM := Lib.hid hb; clear hb)
                all_goals go_wp2_with fail
                all_goals go_meet
                all_goals refine ⟨_, rfl, rfl, rfl, ?_⟩
                all_goals first
                  | (with_reducible exact Lib.hid (box_a mf mt _ HBM.out))
                  | (with_reducible exact Lib.hid (box_b (u := .int .i64 0) (v := .int .i64 0) mf mt _ HBM.out (by simp [hc, go_sem]) (by simp [hc, go_sem])))
              case rest => as_aux_lemma =>
                rename World => w5
                obtain ⟨b5, rfl, rfl, rfl, HX5⟩ := hcut
                clear p0 p1 q0 q1 hg1 hg2
                obtain ⟨cr, hcr⟩ : ∃ r, chkS (x0, y0) = r := ⟨_, rfl⟩
                have HCR := Lib.hid hcr
                clear hcr
                have HK := Lib.hid (HX4.out.later HX5.out.bel)
                have HQ : ∀ W, Hid (Below w5.heap.size w5 W) → (W.cell? ⟨b4, 0, none⟩ = some (.int .i64 mf) ∧ W.cell? ⟨b4, 1, none⟩ = some (.int .i64 mt) ∧ W.cell? ⟨b5, 0, none⟩ = some (.int .i64 mf) ∧ W.cell? ⟨b5, 1, none⟩ = some (.int .i64 mt) ∧ W.cell? ⟨g1, o1, none⟩ = some (.int .i64 x0) ∧ W.cell? ⟨g1, o1 + 1, none⟩ = some (.int .i64 y0)) ∧ Hid (Below w5.heap.size w5 W) := fun W h =>
                  ⟨⟨(HK.out.later h.out).c0, (HK.out.later h.out).c1, (HX5.out.later h.out).c0, (HX5.out.later h.out).c1, (HP.out _ (HK.out.later h.out).bel).1, (HP.out _ (HK.out.later h.out).bel).2.1⟩, h⟩
                have HQQ := Lib.hid HQ
                clear HQ
                have hnf := neq_span
                have hx1 : (mx != mx) = false := by simp
                have hx2 : (mr != mr) = false := by simp
                have hx3 : (cr != cr) = false := by simp
                have HBD : Hid (Below w5.heap.size w5 w5.drew) := Lib.hid (bl_drewN 1 (Below.refl _ _))
                go_upto_region 6 with fail
                go_cut [83] (fun s83 we => s83 = .bool false ∧ Hid (Below w.heap.size w we))
                case first => as_aux_lemma =>
                  go_region_held3 (fun W => (W.cell? ⟨b4, 0, none⟩ = some (.int .i64 mf) ∧ W.cell? ⟨b4, 1, none⟩ = some (.int .i64 mt) ∧ W.cell? ⟨b5, 0, none⟩ = some (.int .i64 mf) ∧ W.cell? ⟨b5, 1, none⟩ = some (.int .i64 mt) ∧ W.cell? ⟨g1, o1, none⟩ = some (.int .i64 x0) ∧ W.cell? ⟨g1, o1 + 1, none⟩ = some (.int .i64 y0)) ∧ Hid (Below w5.heap.size w5 W)) (exact HQQ.out _ (by assumption))
                    (first
                      | (go_at_call 22; (with_reducible refine (check_r x0 y0 cr _ HS1.out HCR.out).mono ?_); rintro e w' ⟨rfl, hb⟩; have HN := Lib.hid (bl_call (by assumption : Hid (Below w5.heap.size w5 _)).out hb); clear hb)
                      | (go_at_call 23; (with_reducible refine (rcheck_r x0 y0 cr _ HS1.out HCR.out).mono ?_); rintro e w' ⟨rfl, hb⟩; have HN := Lib.hid (bl_call (by assumption : Hid (Below w5.heap.size w5 _)).out hb); clear hb))
                  all_goals go_wp2_with fail
                  all_goals go_meet
                  all_goals exact ⟨rfl, Lib.hid (bl_call HK.out.bel (by assumption : Hid (Below w5.heap.size w5 _)).out)⟩
                case rest => as_aux_lemma =>
                  obtain ⟨rfl, HE⟩ := hcut
                  go_wp2_with fail
                  go_meet
                  exact HE
        case rest => as_aux_lemma =>
          clear B0
          have B0 := hcut
          have e1 : (r1 == r1) = true := beq_self_eq_true _
          have e2 : (r2 == r2) = true := beq_self_eq_true _
          go_wp2_with (first
            | (go_at_call 24; (with_reducible refine (union_r _ _ (V1.out.later B0.out) HA.out R1.out).mono ?_); rintro e w1 ⟨v1, u1, rfl, s1, rs1, hb⟩; have U1 := Lib.hid s1; have L1 := Lib.hid rs1; have D1 := Lib.hid hb; replace B0 := Lib.hid (bl_call B0.out hb); clear hb s1 rs1)
            | (go_at_call 25; (with_reducible refine (runion_r _ _ (V1.out.later B0.out) HA.out R1.out).mono ?_); rintro e w2 ⟨v2, u2, rfl, s2, rs2, hb⟩; obtain rfl := SetOf.one U1.out s2; have L2 := Lib.hid rs2; replace L1 := Lib.hid (L1.out.later hb); replace B0 := Lib.hid (bl_call B0.out hb); clear hb s2 rs2)
            | (go_at_call 26; (with_reducible refine (minus_r _ _ _ (V1.out.later B0.out) HA.out (V2.out.later B0.out) HB.out R2.out).mono ?_); rintro e w3 ⟨v3, u3, rfl, s3, rs3, hb⟩; have U3 := Lib.hid s3; have L3 := Lib.hid rs3; replace L1 := Lib.hid (L1.out.later hb); replace L2 := Lib.hid (L2.out.later hb); replace B0 := Lib.hid (bl_call B0.out hb); clear hb s3 rs3)
            | (go_at_call 27; (with_reducible refine (rminus_r _ _ _ (V1.out.later B0.out) HA.out (V2.out.later B0.out) HB.out R2.out).mono ?_); rintro e w4 ⟨v4, u4, rfl, s4, rs4, hb⟩; obtain rfl := SetOf.one U3.out s4; have L4 := Lib.hid rs4; replace L3 := Lib.hid (L3.out.later hb); replace L1 := Lib.hid (L1.out.later hb); replace L2 := Lib.hid (L2.out.later hb); replace B0 := Lib.hid (bl_call B0.out hb); clear hb s4 rs4)
            | (go_at_call 28; (with_reducible refine (total_r _ _ (V1.out.later B0.out) HA.out R1.out).mono ?_); rintro e w5 ⟨t5, rfl, s5, hb⟩; have T5 := Lib.hid s5; replace L4 := Lib.hid (L4.out.later hb); replace L3 := Lib.hid (L3.out.later hb); replace L1 := Lib.hid (L1.out.later hb); replace L2 := Lib.hid (L2.out.later hb); replace B0 := Lib.hid (bl_call B0.out hb); clear hb s5)
            | (go_at_call 29; (with_reducible refine (rtotal_r _ _ (V1.out.later B0.out) HA.out R1.out).mono ?_); rintro e w6 ⟨t6, rfl, s6, hb⟩; obtain rfl := TotOf.one T5.out s6; have e3 : (t5 == t5) = true := beq_self_eq_true _; replace L4 := Lib.hid (L4.out.later hb); replace L3 := Lib.hid (L3.out.later hb); replace L1 := Lib.hid (L1.out.later hb); replace L2 := Lib.hid (L2.out.later hb); replace B0 := Lib.hid (bl_call B0.out hb); clear hb s6)
            | (go_at_call 30; (with_reducible refine (same_eq _ _ u1 _ L1.out L2.out).mono ?_); rintro e w7 ⟨rfl, hq⟩; have hb := drewn_bel hq; clear hq; replace L4 := Lib.hid (L4.out.later hb); replace L3 := Lib.hid (L3.out.later hb); replace B0 := Lib.hid (bl_call B0.out hb); clear hb L1 L2)
            | (go_at_call 30; (with_reducible refine (same_eq _ _ u3 _ L3.out L4.out).mono ?_); rintro e w8 ⟨rfl, hq⟩; have hb := drewn_bel hq; clear hq; replace B0 := Lib.hid (bl_call B0.out hb); clear hb)
            | (go_at_call 18; (with_reducible refine (awake_any _ (HT.out.below B0.out)).mono ?_); rintro e w9 ⟨rfl, hb⟩; replace B0 := Lib.hid (bl_call B0.out hb); clear hb))
          go_ret
          exact ⟨rfl, B0.out⟩
end Go.Proofs.YtnmgcfpemmejlaaDoor
