/- slices' heapSort by a method value. -/
import Derived.Test.YtcppgefnocjdiaaHeapsSf
namespace Go.Proofs.Ytcppgefnocjdiaa
open Go.RowKit Go.Lib Go.Sort Go.Shelf
set_option linter.unusedVariables false

/-- The exchange of an item with itself. -/
theorem SM.self {W0 : World} {B g n c : Nat} {d : List HItem} {wr : World} (m : SM W0 B g n c d wr) {i : Nat} (hi : i < n) :
    ∃ xh xv, wr.cell? ⟨g, i * 2, none⟩ = some (.int .i64 xh) ∧ wr.cell? ⟨g, i * 2 + 1, none⟩ = some (.int .i64 xv) ∧
      wr.frozen? ⟨g, i * 2, none⟩ = false ∧ wr.frozen? ⟨g, i * 2 + 1, none⟩ = false ∧
      Hid (SM W0 B g n c (swapL d d0 i i) ((((wr.setCell ⟨g, i * 2, none⟩ (.int .i64 xh)).setCell ⟨g, i * 2 + 1, none⟩ (.int .i64 xv)).setCell ⟨g, i * 2, none⟩ (.int .i64 xh)).setCell ⟨g, i * 2 + 1, none⟩ (.int .i64 xv)).drew) := by
  obtain ⟨c0, c1, hz⟩ := m.cells hi
  exact ⟨_, _, c0, c1, hz _, hz _, Lib.hid (m.swapped hi hi rfl rfl).drew⟩
theorem HF.top {lt : Int → Int → Bool} (hw : WeakB lt) {f m : Nat} {d : List HItem} (h : HF lt f 0 m d) : ∀ k, 1 ≤ k → k < m → befI lt (d.getD (f + k) d0) (d.getD f d0) := by
  intro k
  induction k using Nat.strongRecOn with
  | ind k ih =>
    intro h1 h2
    have a := h k h1 h2 (by omega)
    by_cases e : (k - 1) / 2 = 0
    · rw [e] at a; exact a
    · exact (befI_weak hw).trans _ _ _ a (ih _ (by omega) (by omega) (by omega))
structure ExI (lt : Int → Int → Bool) (f m b : Nat) (d : List HItem) : Prop where
  heap : HF lt f 0 m d
  srt : Srt lt (f + m) b d
  low : ∀ p q, f ≤ p → p < f + m → f + m ≤ q → q < b → befI lt (d.getD p d0) (d.getD q d0)
theorem ExI.cut {lt : Int → Int → Bool} {f i b : Nat} {d : List HItem} (h : ExI lt f (i + 1) b d) (hl : f + i + 1 ≤ d.length) : HF lt f 1 i (swapL d d0 f (f + i)) := by
  intro k h1 h2 h3
  have e := swapL_getD (d := d) (i := f) (j := f + i) (by omega) (by omega)
  rw [e (f + k), e (f + (k - 1) / 2), if_neg (by omega), if_neg (by omega), if_neg (by omega), if_neg (by omega)]
  exact h.heap k h1 (by omega) (by omega)
theorem ExI.next {lt : Int → Int → Bool} (hw : WeakB lt) {f i b : Nat} {d d' : List HItem} (h : ExI lt f (i + 1) b d) (hl : f + i + 1 ≤ d.length) (hp : PR f (f + i) (swapL d d0 f (f + i)) d') (hh : HF lt f 0 i d') : ExI lt f i b d' := by
  have e := swapL_getD (d := d) (i := f) (j := f + i) (by omega) (by omega)
  have ht := h.heap.top hw
  have hll : f + i ≤ (swapL d d0 f (f + i)).length := by rw [swapL_len]; omega
  have etop : d'.getD (f + i) d0 = d.getD f d0 := by
    rw [hp.out _ (.inr (Nat.le_refl _)), e]
    by_cases h0 : f + i = f
    · rw [if_pos h0, h0]
    · rw [if_neg h0, if_pos rfl]
  have eout : ∀ q, f + i < q → d'.getD q d0 = d.getD q d0 := fun q hq => by rw [hp.out _ (.inr (by omega)), e, if_neg (by omega), if_neg (by omega)]
  have low1 : ∀ p, f ≤ p → p < f + i → befI lt (d'.getD p d0) (d.getD f d0) := hp.any hll (P := fun x => befI lt x (d.getD f d0)) (Nat.le_refl _) (Nat.le_refl _) fun p h1 h2 => by
    rw [e p]
    by_cases h0 : p = f
    · rw [if_pos h0]; exact ht i (by omega) (by omega)
    · rw [if_neg h0, if_neg (by omega)]
      have := ht (p - f) (by omega) (by omega)
      rw [show f + (p - f) = p by omega] at this
      exact this
  have low2 : ∀ q, f + i < q → q < b → ∀ p, f ≤ p → p < f + i → befI lt (d'.getD p d0) (d.getD q d0) := fun q h1 h2 => hp.any hll (P := fun x => befI lt x (d.getD q d0)) (Nat.le_refl _) (Nat.le_refl _) fun p h3 h4 => by
    rw [e p]
    by_cases h0 : p = f
    · rw [if_pos h0]; exact h.low _ _ (by omega) (by omega) (by omega) h2
    · rw [if_neg h0, if_neg (by omega)]; exact h.low _ _ (by omega) (by omega) (by omega) h2
  refine ⟨hh, fun p q h1 h2 h3 => ?_, fun p q h1 h2 h3 h4 => ?_⟩
  · by_cases ep : p = f + i
    · rw [ep, etop, eout q (by omega)]; exact h.low _ _ (by omega) (by omega) (by omega) h3
    · rw [eout p (by omega), eout q (by omega)]; exact h.srt p q (by omega) h2 h3
  · by_cases eq : q = f + i
    · rw [eq, etop]; exact low1 p h1 h2
    · rw [eout q (by omega)]; exact low2 q (by omega) h4 p h1 h2

set_option maxRecDepth 100000 in
set_option maxHeartbeats 8000000 in
theorem heap_any (B g n c qb : Nat) (F : Value) (lt : Int → Int → Bool) (d : List HItem) (a b : Nat) (W0 W : World) (h : SE W0 qb g F lt) (hm : SM W0 B g n c d W) (hd : DH d) (hab : a < b) (hb : b ≤ n) (hn : n ≤ 100000) :
    Calls Try.prog 77 #[.slice (some ⟨g, 0, none⟩) n c, .int .i64 a, .int .i64 b, cmpF qb] W fun e w' => e = .returned (.tuple #[]) ∧ Hid (∃ d', PR a b d d' ∧ Srt lt a b d' ∧ SM W0 B g n c d' w') := by
  have mixed : Try.prog.follows .mixedOrders = true := by kernel_rfl
  obtain ⟨m, hma⟩ : ∃ m, b - a = m := ⟨_, rfl⟩
  obtain ⟨k1, hk1⟩ : ∃ k1, (m - 1) / 2 = k1 := ⟨_, rfl⟩
  obtain ⟨m1, hm1⟩ : ∃ m1, m - 1 = m1 := ⟨_, rfl⟩
  have HE := Lib.hid h; have HM := Lib.hid hm; have HD := Lib.hid hd
  have HN : Hid (a + m = b ∧ 1 ≤ m ∧ (m - 1) / 2 = k1 ∧ m1 + 1 = m) := Lib.hid ⟨by omega, by omega, hk1, by omega⟩
  have i1 : IntKind.i64.wrap ((b : Int) - (a : Int)) = (m : Int) := w64 (by omega) (by omega)
  have i2 : IntKind.i64.wrap ((m : Int) - 1) = (m1 : Int) := w64 (by omega) (by omega)
  have i3 : IntKind.i64.wrap ((m1 : Int).tdiv 2) = (k1 : Int) := w64 (by rw [Int.tdiv_eq_ediv_of_nonneg (by omega)]; omega) (by omega)
  have i3' : (m1 : Int).tdiv 2 = (k1 : Int) := by rw [Int.tdiv_eq_ediv_of_nonneg (by omega)]; omega
  have ks := fun (lo m' : Nat) (dd : List HItem) (w : World) (H : Hid (SM W0 B g n c dd w ∧ DH dd ∧ a + m' ≤ n ∧ lo ≤ 100000 ∧ HF lt a (lo + 1) m' dd)) => sift_any B g n c qb F lt dd a lo m' W0 w HE.out H.out.1 H.out.2.1 H.out.2.2.1 hn H.out.2.2.2.1 H.out.2.2.2.2
  unfold cmpF at *
  clear h hm hd hma hk1 hm1
  go_enter Try.func77, Try.ntmps77
  go_wp2_with fail
  go_loopw [11] (fun vi wr => ∃ (z : Int) (k : Nat) (dr : List HItem), vi = .int .i64 z ∧ Hid (z = (k : Int) - 1 ∧ k ≤ k1 + 1 ∧ PR a b d dr ∧ HF lt a k m dr ∧ SM W0 B g n c dr wr)) (fun vi _ => (intOf vi + 1).toNat)
  case atStart => exact ⟨k1, k1 + 1, d, (by rw [IntWalk.wrap64_in _ (by have := HN.out; omega)]), Lib.hid ⟨by omega, by omega, PR.refl _ _ _, fun k h1 h2 h3 => by have := HN.out; omega, HM.out⟩⟩
  case round =>
    obtain ⟨z, k, dr, rfl, HR⟩ := hrel
    by_cases hz : 0 ≤ z
    · obtain ⟨i, rfl⟩ : ∃ i : Nat, z = (i : Int) := ⟨z.toNat, by omega⟩
      obtain ⟨z', hz'⟩ : ∃ z', IntKind.i64.wrap ((i : Int) - 1) = z' := ⟨_, rfl⟩
      have HZ : Hid (z' = (i : Int) - 1 ∧ k = i + 1) := Lib.hid ⟨by rw [← hz', IntWalk.i64_in _ (by have := HR.out; have := HN.out; omega)], by have := HR.out.1; omega⟩
      have HP : Hid (SM W0 B g n c dr wr ∧ DH dr ∧ a + m ≤ n ∧ i ≤ 100000 ∧ HF lt a (i + 1) m dr) := Lib.hid ⟨HR.out.2.2.2.2, HD.out.perm HR.out.2.2.1.perm, by have := HN.out; omega, by have := HZ.out; have := HR.out.2.1; have := HN.out; omega, by have := HR.out.2.2.2.1; rw [HZ.out.2] at this; exact this⟩
      have k3 := ks i m dr wr HP
      have j1 : (i : Int) ≥ 0 := by omega
      go_wp2_with (first | (go_at_call 86; refine k3.mono ?_; rintro e w1 ⟨rfl, HQ⟩))
      go_roundw
      case rel =>
        obtain ⟨d1, q1, q2, q3⟩ := HQ.out
        exact ⟨z', i, d1, rfl, Lib.hid ⟨HZ.out.1, by have := HZ.out; have := HR.out.2.1; omega, HR.out.2.2.1.trans (q1.wide (Nat.le_refl _) (by have := HN.out; omega)), q2, q3⟩⟩
      case measure => have := HZ.out; simp [intOf]; omega
    · have HX : Hid (ExI lt a m b dr ∧ PR a b d dr ∧ SM W0 B g n c dr wr) := Lib.hid ⟨⟨by
          have := HR.out.2.2.2.1
          rw [show k = 0 by have := HR.out.1; omega] at this; exact this, fun p q h1 h2 h3 => by have := HN.out; omega, fun p q h1 h2 h3 h4 => by have := HN.out; omega⟩, HR.out.2.2.1, HR.out.2.2.2.2⟩
      have j1 : ¬ z ≥ 0 := by omega
      have j2 : decide (z ≥ 0) = false := decide_eq_false (by omega)
      clear HR
      go_wp2_with fail
      go_loopw [12] (fun vi wr => ∃ (z : Int) (k : Nat) (dr : List HItem), vi = .int .i64 z ∧ Hid (z = (k : Int) - 1 ∧ k ≤ m ∧ PR a b d dr ∧ ExI lt a k b dr ∧ SM W0 B g n c dr wr)) (fun vi _ => (intOf vi + 1).toNat)
      case atStart => exact ⟨m1, m, dr, rfl, Lib.hid ⟨by have := HN.out; omega, Nat.le_refl _, HX.out.2.1, HX.out.1, HX.out.2.2⟩⟩
      case round =>
        clear HX
        clear dr
        obtain ⟨z, k, dr, rfl, HR⟩ := hrel
        by_cases hz : 0 ≤ z
        · obtain ⟨i, rfl⟩ : ∃ i : Nat, z = (i : Int) := ⟨z.toNat, by omega⟩
          obtain ⟨z', hz'⟩ : ∃ z', IntKind.i64.wrap ((i : Int) - 1) = z' := ⟨_, rfl⟩
          have HZ : Hid (z' = (i : Int) - 1 ∧ k = i + 1) := Lib.hid ⟨by rw [← hz', IntWalk.i64_in _ (by have := HR.out; have := HN.out; omega)], by have := HR.out.1; omega⟩
          have HX : Hid (ExI lt a (i + 1) b dr) := Lib.hid (by have := HR.out.2.2.2.1; rw [HZ.out.2] at this; exact this)
          have HL := Lib.hid HR.out.2.2.2.2.len
          have hin : Hid (a + i + 1 ≤ b ∧ i ≤ 100000) := Lib.hid ⟨by have := HN.out; have := HZ.out; have := HR.out.2.1; omega, by have := HN.out; have := HZ.out; have := HR.out.2.1; omega⟩
          have HP : ∀ w1, Hid (SM W0 B g n c (swapL dr d0 a (a + i)) w1) → Hid (SM W0 B g n c (swapL dr d0 a (a + i)) w1 ∧ DH (swapL dr d0 a (a + i)) ∧ a + i ≤ n ∧ 0 ≤ 100000 ∧ HF lt a (0 + 1) i (swapL dr d0 a (a + i))) := fun w1 H =>
            Lib.hid ⟨H.out, (HD.out.perm HR.out.2.2.1.perm).perm (swapL_perm _ _ (by rw [HL.out]; have := hin.out; omega) (by rw [HL.out]; have := hin.out; omega)), by have := hin.out; omega, by omega, HX.out.cut (by rw [HL.out]; have := hin.out; omega)⟩
          have k3 := fun w1 H => ks 0 i (swapL dr d0 a (a + i)) w1 (HP w1 H)
          have fin : ∀ w1, Hid (∃ d', PR a (a + i) (swapL dr d0 a (a + i)) d' ∧ HF lt a 0 i d' ∧ SM W0 B g n c d' w1) → ∃ d', Hid (z' = (i : Int) - 1 ∧ i ≤ m ∧ PR a b d d' ∧ ExI lt a i b d' ∧ SM W0 B g n c d' w1) := fun w1 H => by
            obtain ⟨d1, q1, q2, q3⟩ := H.out
            have := hin.out
            have hlen := HL.out
            have hsw : PR a b dr (swapL dr d0 a (a + i)) := PR.swap dr ⟨by omega, by omega⟩ ⟨by omega, by omega⟩ (by omega)
            exact ⟨d1, Lib.hid ⟨HZ.out.1, by have := HN.out; omega, HR.out.2.2.1.trans (hsw.trans (q1.wide (Nat.le_refl _) (by omega))), HX.out.next HE.out.wk (by omega) q1 q2, q3⟩⟩
          have FIN := Lib.hid fin
          clear fin HP
          have j1 : (i : Int) ≥ 0 := by omega
          have j3 : (a : Int) < (n : Int) := by omega
          by_cases h0 : i = 0
          · subst h0
            have i4 : IntKind.i64.wrap ((a : Int) + ((0 : Nat) : Int)) = (a : Int) := w64 (by omega) (by omega)
            have i4' : IntKind.i64.wrap ((a : Int) + 0) = (a : Int) := w64 (by omega) (by omega)
            have i4'' : IntKind.i64.wrap (a : Int) = (a : Int) := w64 (by omega) (by omega)
            simp only [Nat.add_zero] at k3
            obtain ⟨ah, av, g0, g1, f0, f1, HS⟩ := HR.out.2.2.2.2.self (i := a) (by omega)
            go_wp2_with fail
            go_big_region_o
            all_goals
              have k4 := k3 _ HS
              clear k3
              go_wp2_with (first | (go_at_call 86; refine k4.mono ?_; rintro e w1 ⟨rfl, HQ⟩))
              go_roundw
              case rel =>
                obtain ⟨d1, H1⟩ := FIN.out w1 (by simp only [Nat.add_zero]; exact HQ)
                exact ⟨-1, 0, d1, rfl, by rw [show z' = -1 from by have := HZ.out.1; omega] at H1; exact H1⟩
              case measure => simp [intOf]
          · obtain ⟨p, hp⟩ : ∃ p, a + i = p := ⟨_, rfl⟩
            have i4 : IntKind.i64.wrap ((a : Int) + (i : Int)) = (p : Int) := w64 (by omega) (by have := hin.out; omega)
            have j4 : (p : Int) < (n : Int) := by have := hin.out; omega
            have hne : ¬ a = p := by omega
            rw [hp] at k3
            have HPP := Lib.hid hp
            obtain ⟨ah, av, bh, bv, g0, g1, g2, g3, f0, f1, f2, f3, HS⟩ := HR.out.2.2.2.2.exch (i := a) (j := p) (by omega) (by omega)
            clear hp h0
            go_wp2_with fail
            go_big_region_o
            all_goals
              have k4 := k3 _ HS
              clear k3
              go_wp2_with (first | (go_at_call 86; refine k4.mono ?_; rintro e w1 ⟨rfl, HQ⟩))
              go_roundw
              case rel =>
                obtain ⟨d1, H1⟩ := FIN.out w1 (by rw [HPP.out]; exact HQ)
                exact ⟨z', i, d1, rfl, H1⟩
              case measure => have := HZ.out; simp [intOf]; omega
        · have j1 : ¬ z ≥ 0 := by omega
          have j2 : decide (z ≥ 0) = false := decide_eq_false (by omega)
          have HX : Hid (Srt lt a b dr) := Lib.hid (by
            have := HR.out.2.2.2.1.srt
            rw [show k = 0 by have := HR.out.1; omega] at this; exact this)
          go_wp2_with fail
          go_end0
          exact ⟨rfl, Lib.hid ⟨dr, HR.out.2.2.1, HX.out, HR.out.2.2.2.2⟩⟩
end Go.Proofs.Ytcppgefnocjdiaa
