/- slices' siftDown by a method value. -/
import Derived.Test.YtcppgefnocjdiaaHeapsSe
namespace Go.Proofs.Ytcppgefnocjdiaa
open Go.RowKit Go.Lib Go.Sort Go.Shelf
set_option linter.unusedVariables false

set_option hygiene false in
/-- From the greater child cc on, at the place pcc. -/
local macro "sift_tail" cc:ident pcc:ident : tactic => `(tactic| (
  obtain ⟨xh, xv, yh, yv, t, HT, g0, g1, g2, g3, kc⟩ := HE.out.test HM2.out (i := pr) (j := $pcc) (by have := HN.out; omega) (by omega)
  have j5 : (pr : Int) < (n : Int) := by have := HN.out; omega
  by_cases ht : t < 0
  · have HST := Lib.hid (show SiftI lt f lo m $cc (swapL dr d0 pr $pcc) from by
      have := HR.out.2.1.step (by rw [HL.out]; exact hf) hlr HB.out (by rw [HPC.out, HN.out.2.2.2.2.2]; exact HT.out.1 ht)
      rw [HPC.out, HN.out.2.2.2.2.2] at this
      exact this)
    have HPR := Lib.hid (show PR f (f + m) d (swapL dr d0 pr $pcc) from HR.out.1.trans (PR.swap dr ⟨by have := HN.out; omega, by have := HN.out; omega⟩ ⟨by have := HN.out; have := HPC.out; omega, by have := HN.out; have := HPC.out; have := HB.out.1; omega⟩ (by rw [HL.out]; exact hf)))
    have HCC : Hid (r < $cc ∧ $cc < m) := Lib.hid ⟨by have h1 := HB.out.2.1; have h2 := HB.out.2.2.1; omega, HB.out.1⟩
    have hne : ¬ pr = $pcc := by have := HN.out; have := HCC.out; have := HPC.out; omega
    go_wp2_with fail
    go_quiet_grown (first | (go_at_fn 60; exact kc _ _))
    have HM3 := Lib.hid (HM2.out.grew (Grew.of (w := wq) nq osq))
    clear g0 g1 g2 g3 kc
    generalize grow (wq.drewN nq) osq = wp at HM3 ⊢
    obtain ⟨ah, av, bh, bv, g0, g1, g2, g3, f0, f1, f2, f3, HX⟩ := HM3.out.exch (i := pr) (j := $pcc) (by have := HN.out; omega) (by omega)
    go_wp2_with fail
    go_big_region_o
    all_goals
      go_wp2_with fail
      go_roundw
      case rel => exact ⟨$cc, swapL dr d0 pr $pcc, rfl, by have := HCC.out; omega, by have := HCC.out; omega, Lib.hid ⟨HPR.out, HST.out, HX.out⟩⟩
      case measure => have := HCC.out; simp [intOf]; omega
  · have ht' : decide (t < 0) = false := decide_eq_false ht
    have HST := Lib.hid (show HF lt f lo m dr from HR.out.2.1.stop HE.out.wk HDR.out (by rw [HL.out]; exact hf) HB.out (by rw [HPC.out, HN.out.2.2.2.2.2]; exact fun hb => ht (HT.out.2 hb)))
    go_wp2_with fail
    go_quiet_grown (first | (go_at_fn 60; exact kc _ _))
    have HM3 := Lib.hid (HM2.out.grew (Grew.of (w := wq) nq osq))
    clear g0 g1 g2 g3 kc
    generalize grow (wq.drewN nq) osq = wp at HM3 ⊢
    go_wp2_with fail
    refine bodyPost_ret (results_none rfl _ _ _) rfl ?_
    exact ⟨rfl, Lib.hid ⟨dr, HR.out.1, HST.out, HM3.out⟩⟩))
set_option maxRecDepth 100000 in
set_option maxHeartbeats 8000000 in
theorem sift_any (B g n c qb : Nat) (F : Value) (lt : Int → Int → Bool) (d : List HItem) (f lo m : Nat) (W0 W : World) (h : SE W0 qb g F lt) (hm : SM W0 B g n c d W) (hd : DH d) (hf : f + m ≤ n) (hn : n ≤ 100000) (hlo : lo ≤ 100000) (hH : HF lt f (lo + 1) m d) :
    Calls Try.prog 86 #[.slice (some ⟨g, 0, none⟩) n c, .int .i64 lo, .int .i64 m, .int .i64 f, cmpF qb] W fun e w' => e = .returned (.tuple #[]) ∧ Hid (∃ d', PR f (f + m) d d' ∧ HF lt f lo m d' ∧ SM W0 B g n c d' w') := by
  have mixed : Try.prog.follows .mixedOrders = true := by kernel_rfl
  have HE := Lib.hid h; have HM := Lib.hid hm; have HD := Lib.hid hd; have HS := Lib.hid (SiftI.start hH)
  have ec := enters_cmp
  unfold cmpF
  clear h hm hd hH
  go_enter Try.func86, Try.ntmps86
  go_wp2_with fail
  go_loopw [10] (fun vr wr => ∃ (r : Nat) (dr : List HItem), vr = .int .i64 r ∧ lo ≤ r ∧ r ≤ 200001 ∧ Hid (PR f (f + m) d dr ∧ SiftI lt f lo m r dr ∧ SM W0 B g n c dr wr)) (fun vr _ => 200001 - (intOf vr).toNat)
  case atStart => exact ⟨lo, d, rfl, Nat.le_refl _, by omega, Lib.hid ⟨PR.refl _ _ _, HS.out, HM.out⟩⟩
  case round =>
    obtain ⟨r, dr, rfl, hlr, hrb, HR⟩ := hrel
    obtain ⟨m2, hm2⟩ : ∃ m2, 2 * r = m2 := ⟨_, rfl⟩
    obtain ⟨ch, hch⟩ : ∃ ch, m2 + 1 = ch := ⟨_, rfl⟩
    obtain ⟨ch1, hch1⟩ : ∃ ch1, ch + 1 = ch1 := ⟨_, rfl⟩
    obtain ⟨pc, hpc⟩ : ∃ pc, f + ch = pc := ⟨_, rfl⟩
    obtain ⟨pc1, hpc1⟩ : ∃ pc1, pc + 1 = pc1 := ⟨_, rfl⟩
    obtain ⟨pr, hpr⟩ : ∃ pr, f + r = pr := ⟨_, rfl⟩
    have i1 : IntKind.i64.wrap (2 * (r : Int)) = (m2 : Int) := w64 (by omega) (by omega)
    have i2 : IntKind.i64.wrap ((m2 : Int) + 1) = (ch : Int) := w64 (by omega) (by omega)
    have i3 : IntKind.i64.wrap ((ch : Int) + 1) = (ch1 : Int) := w64 (by omega) (by omega)
    have i4 : IntKind.i64.wrap ((f : Int) + (ch : Int)) = (pc : Int) := w64 (by omega) (by omega)
    have i5 : IntKind.i64.wrap ((pc : Int) + 1) = (pc1 : Int) := w64 (by omega) (by omega)
    have i6 : IntKind.i64.wrap ((f : Int) + (r : Int)) = (pr : Int) := w64 (by omega) (by omega)
    have i7 : IntKind.i64.wrap ((f : Int) + (ch1 : Int)) = (pc1 : Int) := w64 (by omega) (by omega)
    have HN : Hid (2 * r = m2 ∧ m2 + 1 = ch ∧ ch + 1 = ch1 ∧ f + ch = pc ∧ pc + 1 = pc1 ∧ f + r = pr) := Lib.hid ⟨hm2, hch, hch1, hpc, hpc1, hpr⟩
    have HDR := Lib.hid (HD.out.perm HR.out.1.perm)
    have HL := Lib.hid HR.out.2.2.len
    by_cases hA : ch < m
    · have j1 : ¬ (ch : Int) ≥ (m : Int) := by omega
      by_cases hB : ch1 < m
      · have j2 : (ch1 : Int) < (m : Int) := by omega
        have j3 : (pc : Int) < (n : Int) := by omega
        have j4 : (pc1 : Int) < (n : Int) := by omega
        obtain ⟨xh, xv, yh, yv, t, HT, g0, g1, g2, g3, kc⟩ := HE.out.test HR.out.2.2 (i := pc) (j := pc1) (by omega) (by omega)
        clear hm2 hch hch1 hpc hpc1 hpr
        by_cases ht : t < 0
        · have HB := Lib.hid (show BigC lt f m r ch1 dr from by
            have := HN.out
            rw [show ch1 = 2 * r + 2 by omega]
            refine BigC.right (by omega) ?_
            rw [show f + (2 * r + 1) = pc by omega, show f + (2 * r + 2) = pc1 by omega]
            exact HT.out.1 ht)
          have HPC : Hid (f + ch1 = pc1) := Lib.hid (by have := HN.out; omega)
          go_wp2_with fail
          go_quiet_grown (first | (go_at_fn 60; exact kc _ _))
          have HM2 := Lib.hid (HR.out.2.2.grew (Grew.of (w := wr) nq osq))
          clear g0 g1 g2 g3 kc ht HT
          generalize grow (wr.drewN nq) osq = wq at HM2 ⊢
          sift_tail ch1 pc1
        · have ht' : decide (t < 0) = false := decide_eq_false ht
          have HB := Lib.hid (show BigC lt f m r ch dr from by
            have := HN.out
            rw [show ch = 2 * r + 1 by omega]
            refine BigC.left HE.out.wk HDR.out (by rw [HL.out]; exact hf) (by omega) ?_
            rw [show f + (2 * r + 1) = pc by omega, show f + (2 * r + 2) = pc1 by omega]
            exact fun hb => ht (HT.out.2 hb))
          have HPC : Hid (f + ch = pc) := Lib.hid (by have := HN.out; omega)
          go_wp2_with fail
          go_quiet_grown (first | (go_at_fn 60; exact kc _ _))
          have HM2 := Lib.hid (HR.out.2.2.grew (Grew.of (w := wr) nq osq))
          clear g0 g1 g2 g3 kc ht HT ht'
          generalize grow (wr.drewN nq) osq = wq at HM2 ⊢
          sift_tail ch pc
      · have j2 : decide ((ch1 : Int) < (m : Int)) = false := decide_eq_false (by omega)
        have j2' : ¬ (ch1 : Int) < (m : Int) := by omega
        have j3 : (pc : Int) < (n : Int) := by omega
        have HB := Lib.hid (show BigC lt f m r ch dr from by
            have := HN.out
            rw [show ch = 2 * r + 1 by omega]
            exact BigC.one (by omega) (by omega))
        have HPC : Hid (f + ch = pc) := Lib.hid hpc
        have HM2 := Lib.hid HR.out.2.2.drew
        clear hm2 hch hch1 hpc hpc1 hpr
        go_wp2_with fail
        go_big_region_o
        all_goals
          generalize wr.drew = wq at HM2 ⊢
          sift_tail ch pc
    · have j1 : (ch : Int) ≥ (m : Int) := by omega
      have HST := Lib.hid (HR.out.2.1.leaf (by omega))
      clear hm2 hch hch1 hpc hpc1 hpr
      go_wp2_with fail
      go_end0
      exact ⟨rfl, Lib.hid ⟨dr, HR.out.1, HST.out, HR.out.2.2⟩⟩
end Go.Proofs.Ytcppgefnocjdiaa
