/- slices' pdqsort by a method value; slices.SortFunc. -/
import Derived.Test.YtcppgefnocjdiaaHeapsSi
import Derived.Test.YtcppgefnocjdiaaHeapsSj
import Derived.Test.YtcppgefnocjdiaaHeapsSk
namespace Go.Proofs.Ytcppgefnocjdiaa
open Go.RowKit Go.Lib Go.Sort Go.Shelf
set_option linter.unusedVariables false

/-- All pairs that do not lie both from a to b are in order. -/
def Fin (lt : Int → Int → Bool) (a0 b0 a b : Nat) (d : List HItem) : Prop := ∀ p q, p < q → q < b0 → a0 ≤ q → ¬ (a ≤ p ∧ q < b) → befI lt (d.getD p d0) (d.getD q d0)
theorem Fin.start {lt : Int → Int → Bool} {a b : Nat} {d : List HItem} (h : LowR lt a b d) : Fin lt a b a b d := fun p q h1 h2 h3 h4 => h p q (by omega) h3 h2
theorem Fin.perm {lt : Int → Int → Bool} {a0 b0 a b : Nat} {d d' : List HItem} (h : Fin lt a0 b0 a b d) (hp : PR a b d d') (ha : a0 ≤ a) (hb : b ≤ b0) (hl : b ≤ d.length) : Fin lt a0 b0 a b d' := fun p q h1 h2 h3 h4 => by
  by_cases cp : a ≤ p ∧ p < b
  · obtain ⟨p', p1, p2, e⟩ := hp.src hl cp.1 cp.2
    rw [e, hp.out q (by omega)]
    exact h p' q (by omega) h2 h3 (by omega)
  · by_cases cq : a ≤ q ∧ q < b
    · obtain ⟨q', q1, q2, e⟩ := hp.src hl cq.1 cq.2
      rw [e, hp.out p (by omega)]
      exact h p q' (by omega) (by omega) (by omega) (by omega)
    · rw [hp.out p (by omega), hp.out q (by omega)]
      exact h p q h1 h2 h3 h4
theorem Fin.done {lt : Int → Int → Bool} {a0 b0 a b : Nat} {d : List HItem} (h : Fin lt a0 b0 a b d) (hs : Srt lt a b d) : Srt lt a0 b0 d := fun p q h1 h2 h3 => by
  by_cases e : a ≤ p ∧ q < b
  · exact hs p q e.1 h2 e.2
  · exact h p q h2 h3 (by omega) e
theorem Fin.low {lt : Int → Int → Bool} {a0 b0 a b : Nat} {d : List HItem} (h : Fin lt a0 b0 a b d) (ha : a0 ≤ a) (hb : b ≤ b0) : LowR lt a b d := fun p q h1 h2 h3 => h p q (by omega) (by omega) (by omega) (by omega)
theorem ParR.low {lt : Int → Int → Bool} (hw : WeakB lt) {a m b : Nat} {d : List HItem} (h : ParR lt a m b d) (hl : LowR lt a b d) : LowR lt (m + 1) b d := fun p q h1 h2 h3 => by
  have := h.le
  by_cases e : p < a
  · exact hl p q e (by omega) h3
  · by_cases e2 : p = m
    · rw [e2]; exact h.right q (by omega) h3
    · exact (befI_weak hw).trans _ _ _ (h.left p (by omega) (by omega)) (h.right q (by omega) h3)
theorem ParR.permL {lt : Int → Int → Bool} {a m b : Nat} {d d' : List HItem} (h : ParR lt a m b d) (hp : PR a m d d') (hl : m ≤ d.length) : ParR lt a m b d' := by
  refine ⟨h.le, h.lb, fun k h1 h2 => ?_, fun k h1 h2 => ?_⟩
  · rw [hp.out m (.inr (Nat.le_refl _))]
    exact hp.any hl (P := fun x => befI lt x (d.getD m d0)) (Nat.le_refl _) (Nat.le_refl _) h.left k h1 h2
  · rw [hp.out m (.inr (Nat.le_refl _)), hp.out k (.inr (by omega))]; exact h.right k h1 h2
theorem ParR.permR {lt : Int → Int → Bool} {a m b : Nat} {d d' : List HItem} (h : ParR lt a m b d) (hp : PR (m + 1) b d d') (hl : b ≤ d.length) : ParR lt a m b d' := by
  refine ⟨h.le, h.lb, fun k h1 h2 => ?_, fun k h1 h2 => ?_⟩
  · rw [hp.out m (.inl (by omega)), hp.out k (.inl (by omega))]; exact h.left k h1 h2
  · rw [hp.out m (.inl (by omega))]
    exact hp.any hl (P := fun x => befI lt (d.getD m d0) x) (Nat.le_refl _) (Nat.le_refl _) (fun q h1 h2 => h.right q (by omega) h2) k (by omega) h2
theorem ParR.pair {lt : Int → Int → Bool} (hw : WeakB lt) {a m b : Nat} {d : List HItem} (h : ParR lt a m b d) {p q : Nat} (h1 : a ≤ p) (h2 : p ≤ m) (h3 : m ≤ q) (h4 : q < b) (h5 : p < q) : befI lt (d.getD p d0) (d.getD q d0) := by
  by_cases e : p = m
  · rw [e]; exact h.right q (by omega) h4
  · by_cases e2 : q = m
    · rw [e2]; exact h.left p h1 (by omega)
    · exact (befI_weak hw).trans _ _ _ (h.left p h1 (by omega)) (h.right q (by omega) h4)
theorem Fin.goL {lt : Int → Int → Bool} (hw : WeakB lt) {a0 b0 a m b : Nat} {d : List HItem} (h : Fin lt a0 b0 a b d) (hp : ParR lt a m b d) (hs : Srt lt a m d) : Fin lt a0 b0 (m + 1) b d := fun p q h1 h2 h3 h4 => by
  by_cases e : a ≤ p ∧ q < b
  · by_cases e2 : q < m
    · exact hs p q e.1 h1 e2
    · exact hp.pair hw e.1 (by omega) (by omega) e.2 h1
  · exact h p q h1 h2 h3 e
theorem Fin.goR {lt : Int → Int → Bool} (hw : WeakB lt) {a0 b0 a m b : Nat} {d : List HItem} (h : Fin lt a0 b0 a b d) (hp : ParR lt a m b d) (hs : Srt lt (m + 1) b d) : Fin lt a0 b0 a m d := fun p q h1 h2 h3 h4 => by
  by_cases e : a ≤ p ∧ q < b
  · by_cases e2 : m < p
    · exact hs p q (by omega) h1 e.2
    · exact hp.pair hw e.1 (by omega) (by omega) e.2 h1
  · exact h p q h1 h2 h3 e
structure PdS (W0 : World) (B g n c : Nat) (lt : Int → Int → Bool) (a0 b0 : Nat) (d : List HItem) (a b : Nat) (dr : List HItem) (w : World) : Prop where
  pr : PR a0 b0 d dr
  sm : SM W0 B g n c dr w
  dh : DH dr
  fin : Fin lt a0 b0 a b dr
  b1 : a0 ≤ a
  b2 : a ≤ b
  b3 : b ≤ b0
  b4 : b0 ≤ n
theorem PdS.turn {W0 : World} {B g n c : Nat} {lt : Int → Int → Bool} {a0 b0 : Nat} {d : List HItem} {a b : Nat} {dr d' : List HItem} {w w' : World} (h : PdS W0 B g n c lt a0 b0 d a b dr w) (hp : PR a b dr d') (hs : SM W0 B g n c d' w') : PdS W0 B g n c lt a0 b0 d a b d' w' :=
  ⟨h.pr.trans (hp.wide h.b1 h.b3), hs, h.dh.perm hp.perm, h.fin.perm hp h.b1 h.b3 (by have := h.sm.len; have := h.b3; have := h.b4; omega), h.b1, h.b2, h.b3, h.b4⟩
/-- What the sort of a range leaves. -/
def PdR (W0 : World) (B g n c : Nat) (lt : Int → Int → Bool) (a b : Nat) (d : List HItem) (w' : World) : Prop := ∃ d', PR a b d d' ∧ Srt lt a b d' ∧ SM W0 B g n c d' w'
theorem PdS.done {W0 : World} {B g n c : Nat} {lt : Int → Int → Bool} {a0 b0 : Nat} {d : List HItem} {a b : Nat} {dr : List HItem} {w w' : World} (h : PdS W0 B g n c lt a0 b0 d a b dr w) (hr : PdR W0 B g n c lt a b dr w') : PdR W0 B g n c lt a0 b0 d w' := by
  obtain ⟨d', h1, h2, h3⟩ := hr
  have k := h.turn h1 h3
  exact ⟨d', k.pr, k.fin.done h2, h3⟩
theorem PdS.left {W0 : World} {B g n c : Nat} {lt : Int → Int → Bool} (hw : WeakB lt) {a0 b0 : Nat} {d : List HItem} {a b m : Nat} {dr : List HItem} {w w' : World} (h : PdS W0 B g n c lt a0 b0 d a b dr w) (hm : ParR lt a m b dr) (hr : PdR W0 B g n c lt a m dr w') : ∃ d', PdS W0 B g n c lt a0 b0 d (m + 1) b d' w' := by
  obtain ⟨d', h1, h2, h3⟩ := hr
  have hl := h.sm.len; have c3 := h.b3; have c4 := h.b4; have m1 := hm.le; have m2 := hm.lb; have c1 := h.b1
  have k := h.turn (h1.wide (Nat.le_refl _) (by omega)) h3
  exact ⟨d', k.pr, h3, k.dh, k.fin.goL hw (hm.permL h1 (by omega)) h2, by omega, by omega, c3, c4⟩
theorem PdS.right {W0 : World} {B g n c : Nat} {lt : Int → Int → Bool} (hw : WeakB lt) {a0 b0 : Nat} {d : List HItem} {a b m : Nat} {dr : List HItem} {w w' : World} (h : PdS W0 B g n c lt a0 b0 d a b dr w) (hm : ParR lt a m b dr) (hr : PdR W0 B g n c lt (m + 1) b dr w') : ∃ d', PdS W0 B g n c lt a0 b0 d a m d' w' := by
  obtain ⟨d', h1, h2, h3⟩ := hr
  have hl := h.sm.len; have c3 := h.b3; have c4 := h.b4; have m1 := hm.le; have m2 := hm.lb; have c1 := h.b1
  have k := h.turn (h1.wide (by omega) (Nat.le_refl _)) h3
  exact ⟨d', k.pr, h3, k.dh, k.fin.goR hw (hm.permR h1 (by omega)) h2, c1, m1, by omega, c4⟩

theorem insertion_from (B g n c qb : Nat) (F : Value) (lt : Int → Int → Bool) (d : List HItem) (a b : Nat) (W0 W : World) (h : SE W0 qb g F lt) (hm : SM W0 B g n c d W) (hd : DH d) (ha : a ≤ b) (hb : b ≤ n) (hn : n ≤ 100000) :
    Calls Try.prog 76 #[.slice (some ⟨g, 0, none⟩) n c, .int .i64 a, .int .i64 b, cmpF qb] W fun e w' => e = .returned (.tuple #[]) ∧ Hid (PdR W0 B g n c lt a b d w') :=
  (insertion_any B g n c qb F lt d a b W ⟨hm.gb.cell h.cell (fun e => h.ne (Option.some.inj e)), h.ne, h.ls, h.wk⟩ ⟨hm.row, hm.len, ⟨rfl, rfl, rfl, Nat.le_refl _, fun _ _ _ => rfl⟩⟩ hd ha hb hn).mono fun e w' ⟨he, d', p1, p2, p3⟩ => ⟨he, Lib.hid ⟨d', p1, p2, p3.row, p3.len, hm.gb.trans p3.gb⟩⟩
/-- The sort of ranges of less than N items. -/
def PdC (W0 : World) (B g n c qb : Nat) (lt : Int → Int → Bool) (N : Nat) : Prop := ∀ (a b : Nat) (d : List HItem) (lim : Int) (W : World), b - a < N → SM W0 B g n c d W → DH d → a ≤ b → b ≤ n → LowR lt a b d →
  Calls Try.prog 72 #[.slice (some ⟨g, 0, none⟩) n c, .int .i64 a, .int .i64 b, .int .i64 lim, cmpF qb] W fun e w' => e = .returned (.tuple #[]) ∧ Hid (PdR W0 B g n c lt a b d w')
set_option maxRecDepth 100000 in
set_option maxHeartbeats 16000000 in
theorem pdq_step (B g n c qb : Nat) (F : Value) (lt : Int → Int → Bool) (W0 : World) (h : SE W0 qb g F lt) (hn : n ≤ 100000) (N : Nat) (ih : PdC W0 B g n c qb lt N) : PdC W0 B g n c qb lt (N + 1) := by
  intro a b d lim W hN hm hd hab hb hlow
  have mixed : Try.prog.follows .mixedOrders = true := by kernel_rfl
  have HE := Lib.hid h
  have ec := enters_cmp
  have HP : Hid (PdS W0 B g n c lt a b d a b d W) := Lib.hid ⟨PR.refl _ _ _, hm, hd, Fin.start hlow, Nat.le_refl _, hab, Nat.le_refl _, hb⟩
  have kins := fun (a b : Nat) (d : List HItem) (w : World) (H : Hid (SM W0 B g n c d w ∧ DH d ∧ a ≤ b ∧ b ≤ n)) => insertion_from B g n c qb F lt d a b W0 w HE.out H.out.1 H.out.2.1 H.out.2.2.1 H.out.2.2.2 hn
  have khp := fun (a b : Nat) (d : List HItem) (w : World) (H : Hid (SM W0 B g n c d w ∧ DH d ∧ a < b ∧ b ≤ n)) => heap_any B g n c qb F lt d a b W0 w HE.out H.out.1 H.out.2.1 H.out.2.2.1 H.out.2.2.2 hn
  have kbr := fun (a b : Nat) (d : List HItem) (w : World) (H : Hid (SM W0 B g n c d w ∧ a + 12 < b ∧ b ≤ n)) => break_any B g n c (cmpF qb) d a b W0 w H.out.1 H.out.2.1 H.out.2.2 hn
  have kch := fun (a b : Nat) (d : List HItem) (w : World) (H : Hid (SM W0 B g n c d w ∧ a + 12 < b ∧ b ≤ n)) => choose_any B g n c qb F lt d a b W0 w HE.out H.out.1 H.out.2.1 H.out.2.2 hn
  have krv := fun (a b : Nat) (d : List HItem) (w : World) (H : Hid (SM W0 B g n c d w ∧ a < b ∧ b ≤ n)) => rev_any B g n c (cmpF qb) d a b W0 w H.out.1 H.out.2.1 H.out.2.2 hn
  have kpi := fun (a b : Nat) (d : List HItem) (w : World) (H : Hid (SM W0 B g n c d w ∧ DH d ∧ a < b ∧ b ≤ n ∧ LowR lt a b d)) => partial_any B g n c qb F lt d a b W0 w HE.out H.out.1 H.out.2.1 H.out.2.2.1 H.out.2.2.2.1 hn H.out.2.2.2.2
  have kpa := fun (a b p : Nat) (d : List HItem) (w : World) (H : Hid (SM W0 B g n c d w ∧ DH d ∧ a + 1 < b ∧ a ≤ p ∧ p < b ∧ b ≤ n)) => part_any B g n c qb F lt d a b p W0 w HE.out H.out.1 H.out.2.1 H.out.2.2.1 H.out.2.2.2.1 H.out.2.2.2.2.1 H.out.2.2.2.2.2 hn
  have IH := fun (a b : Nat) (d : List HItem) (lim : Int) (w : World) (H : Hid (b - a < N ∧ SM W0 B g n c d w ∧ DH d ∧ a ≤ b ∧ b ≤ n ∧ LowR lt a b d)) => ih a b d lim w H.out.1 H.out.2.1 H.out.2.2.1 H.out.2.2.2.1 H.out.2.2.2.2.1 H.out.2.2.2.2.2
  have HN : Hid (b - a ≤ N ∧ n ≤ 100000) := Lib.hid ⟨by omega, hn⟩
  unfold cmpF at *
  clear h ih hm hd hab hb hlow hN
  go_enter Try.func72, Try.ntmps72
  go_wp2_with fail
  go_loopg [1, 2, 3, 10, 11] (b - a + 1) (fun k va vb vl v10 v11 wr => ∃ (a' b' : Nat) (lim : Int) (t1 t2 : Bool) (dr : List HItem), va = .int .i64 a' ∧ vb = .int .i64 b' ∧ vl = .int .i64 lim ∧ v10 = .bool t1 ∧ v11 = .bool t2 ∧ k = b' - a' + 1 ∧ Hid (PdS W0 B g n c lt a b d a' b' dr wr))
  case atStart => exact ⟨a, b, lim, true, true, d, rfl, rfl, rfl, rfl, rfl, rfl, HP.out⟩
  case round =>
    clear HP
    obtain ⟨a', b', lim, t1, t2, dr, rfl, rfl, rfl, rfl, rfl, hk, HP⟩ := hrel
    have HK := Lib.hid hk
    clear hk
    have b1 := HP.out.b1; have b2 := HP.out.b2; have b3 := HP.out.b3; have b4 := HP.out.b4
    obtain ⟨l, hl⟩ : ∃ l, b' - a' = l := ⟨_, rfl⟩
    have e1 : IntKind.i64.wrap ((b' : Int) - (a' : Int)) = (l : Int) := w64 (by omega) (by omega)
    by_cases h12 : l ≤ 12
    · have e2 : (l : Int) ≤ 12 := by omega
      have k1 := kins a' b' dr wr (Lib.hid ⟨HP.out.sm, HP.out.dh, b2, by omega⟩)
      clear kins khp kbr kch krv kpi kpa IH b1 b2 b3 b4 hl
      go_wp2_with (first | (go_at_call 76; refine k1.mono ?_; rintro e w1 ⟨rfl, H1⟩))
      refine bodyPost_ret (results_none rfl _ _ _) rfl ?_
      exact ⟨rfl, Lib.hid (HP.out.done H1.out)⟩
    · have e2 : decide ((l : Int) ≤ 12) = false := decide_eq_false (by omega)
      have e2' : ¬ (l : Int) ≤ 12 := by omega
      have HL : Hid (b' - a' = l ∧ a' + 12 < b' ∧ b' ≤ n) := Lib.hid ⟨hl, by omega, by omega⟩
      clear kins b1 b2 b3 b4 hl
      by_cases h0 : lim = 0
      · have k1 := khp a' b' dr wr (Lib.hid ⟨HP.out.sm, HP.out.dh, by have := HL.out; omega, HL.out.2.2⟩)
        subst h0
        clear khp kbr kch krv kpi kpa IH
        go_wp2_with (first | (go_at_call 77; refine k1.mono ?_; rintro e w1 ⟨rfl, H1⟩))
        refine bodyPost_ret (results_none rfl _ _ _) rfl ?_
        exact ⟨rfl, Lib.hid (HP.out.done H1.out)⟩
      · have h0' : (lim == 0) = false := by simp [h0]
        clear khp
        go_upto_if 39 with fail
        go_cut [3] (fun s3 wc => ∃ lim : Int, s3 = .int .i64 lim ∧ Hid (∃ dr, PdS W0 B g n c lt a b d a' b' dr wc))
        case first =>
          cases t1 with
          | true =>
            go_wp2_with fail
            go_meet
            exact ⟨lim, rfl, Lib.hid ⟨dr, HP.out⟩⟩
          | false =>
            have k1 := kbr a' b' dr wr (Lib.hid ⟨HP.out.sm, HL.out.2.1, HL.out.2.2⟩)
            obtain ⟨lim1, hlim1⟩ : ∃ lim1, IntKind.i64.wrap (lim - 1) = lim1 := ⟨_, rfl⟩
            clear kbr kch krv kpi kpa IH
            go_wp2_with (first | (go_at_call 78; refine k1.mono ?_; rintro e w1 ⟨rfl, H1⟩))
            go_meet
            obtain ⟨d1, p1, p2⟩ := H1.out
            exact ⟨_, rfl, Lib.hid ⟨d1, HP.out.turn p1 p2⟩⟩
        case rest =>
          clear HP kbr h0 h0'
          obtain ⟨lim, rfl, HC⟩ := hcut
          obtain ⟨dr, hdr⟩ := HC.out
          have HP := Lib.hid hdr
          clear hdr HC
          have k1 := kch a' b' dr wc (Lib.hid ⟨HP.out.sm, HL.out.2.1, HL.out.2.2⟩)
          clear kch
          go_upto_region 11 with (first | (go_at_call 79; refine k1.mono ?_; rintro e w1 ⟨p, hint, rfl, H1⟩))
          have HP1 : Hid (InR a' b' p ∧ PdS W0 B g n c lt a b d a' b' dr w1) := Lib.hid ⟨H1.out.1, HP.out.turn (PR.refl _ _ _) H1.out.2⟩
          clear k1 H1 HP
          go_upto_if 56 with fail
          go_cut [13, 14] (fun s13 s14 wc => ∃ (p : Nat) (hint : Int), s13 = .int .i64 p ∧ s14 = .int .i64 hint ∧ Hid (InR a' b' p ∧ ∃ dr, PdS W0 B g n c lt a b d a' b' dr wc))
          case first =>
            by_cases hh : hint = 2
            · subst hh
              have k1 := krv a' b' dr w1 (Lib.hid ⟨HP1.out.2.sm, by have := HL.out; omega, HL.out.2.2⟩)
              have hp := HP1.out.1
              unfold InR at hp
              obtain ⟨x1, hx1⟩ : ∃ x1, b' - 1 = x1 := ⟨_, rfl⟩
              obtain ⟨x2, hx2⟩ : ∃ x2, p - a' = x2 := ⟨_, rfl⟩
              obtain ⟨p', hp'⟩ : ∃ p', x1 - x2 = p' := ⟨_, rfl⟩
              have f1 : IntKind.i64.wrap ((b' : Int) - 1) = (x1 : Int) := w64 (by omega) (by have := HL.out; omega)
              have f2 : IntKind.i64.wrap ((p : Int) - (a' : Int)) = (x2 : Int) := w64 (by omega) (by have := HL.out; omega)
              have f3 : IntKind.i64.wrap ((x1 : Int) - (x2 : Int)) = (p' : Int) := w64 (by omega) (by have := HL.out; omega)
              have HR : Hid (InR a' b' p') := Lib.hid ⟨by omega, by omega⟩
              clear hp hx1 hx2 hp' krv kpi kpa IH
              go_wp2_with (first | (go_at_call 80; refine k1.mono ?_; rintro e w2 ⟨rfl, H1⟩))
              go_meet
              obtain ⟨d1, p1, p2⟩ := H1.out
              exact ⟨p', _, rfl, rfl, Lib.hid ⟨HR.out, d1, HP1.out.2.turn p1 p2⟩⟩
            · have hh' : (hint == 2) = false := by simp [hh]
              clear krv kpi kpa IH
              go_wp2_with fail
              go_meet
              exact ⟨p, _, rfl, rfl, Lib.hid ⟨HP1.out.1, dr, HP1.out.2⟩⟩
          case rest =>
            clear HP1 krv
            obtain ⟨p, hint, rfl, rfl, HC⟩ := hcut
            obtain ⟨hp, dr, hdr⟩ := HC.out
            have HP := Lib.hid hdr
            have HIP := Lib.hid hp
            clear hdr hp HC
            go_upto_region 15 with fail
            go_cut [75] (fun s75 wd => ∃ t : Bool, s75 = .bool t ∧ Hid (PdS W0 B g n c lt a b d a' b' dr wd))
            case first =>
              clear kpi kpa IH
              cases t1 with
              | false =>
                go_wp2_with fail
                go_meet
                exact ⟨_, rfl, HP⟩
              | true =>
                cases t2 with
                | false =>
                  go_wp2_with fail
                  go_meet
                  exact ⟨_, rfl, HP⟩
                | true =>
                  go_wp2_with fail
                  go_meet
                  exact ⟨_, rfl, HP⟩
            case rest =>
              clear HP
              obtain ⟨t, rfl, HP⟩ := hcut
              go_upto_if 75 with fail
              go_cut [] (fun we => Hid (∃ dr, PdS W0 B g n c lt a b d a' b' dr we))
              case first =>
                cases t with
                | false =>
                  clear kpi kpa IH
                  go_wp2_with fail
                  go_meet
                  exact Lib.hid ⟨dr, HP.out⟩
                | true =>
                  have k1 := kpi a' b' dr _ (Lib.hid ⟨HP.out.sm, HP.out.dh, by have := HL.out; omega, HL.out.2.2, HP.out.fin.low HP.out.b1 HP.out.b3⟩)
                  clear kpi kpa IH
                  go_upto_if 80 with (first | (go_at_call 81; refine k1.mono ?_; rintro e w2 ⟨r, rfl, H1⟩))
                  cases r with
                  | true =>
                    go_wp2_with fail
                    refine bodyPost_ret (results_none rfl _ _ _) rfl ?_
                    obtain ⟨d1, p1, p2, p3⟩ := H1.out
                    exact ⟨rfl, Lib.hid (HP.out.done ⟨d1, p1, p2 (by simp), p3⟩)⟩
                  | false =>
                    go_wp2_with fail
                    go_meet
                    obtain ⟨d1, p1, p2, p3⟩ := H1.out
                    exact Lib.hid ⟨d1, HP.out.turn p1 p3⟩
              case rest =>
                clear HP kpi
                obtain ⟨dr, hdr⟩ := hcut.out
                have HP := Lib.hid hdr
                clear hdr hcut
                go_upto_region 17 with fail
                go_cut [97] (fun s97 wf => s97 = .bool false ∧ Hid (PdS W0 B g n c lt a b d a' b' dr wf))
                case first =>
                  clear kpa IH
                  by_cases ha : a' = 0
                  · have f1 : decide ((a' : Int) > 0) = false := decide_eq_false (by omega)
                    have f0 : decide (0 < a') = false := decide_eq_false (by omega)
                    have HM3 := Lib.hid (HP.out.turn (PR.refl _ _ _) HP.out.sm.drew)
                    clear ha
                    go_big_region_o
                    all_goals
                      go_wp2_with fail
                      go_meet
                      exact ⟨rfl, HM3⟩
                  · have f1' : decide ((a' : Int) > 0) = true := decide_eq_true (by omega)
                    have f0 : decide (0 < a') = true := decide_eq_true (by omega)
                    obtain ⟨ap, hap⟩ : ∃ ap, a' - 1 = ap := ⟨_, rfl⟩
                    have hp := HIP.out
                    unfold InR at hp
                    have f2 : IntKind.i64.wrap ((a' : Int) - 1) = (ap : Int) := w64 (by omega) (by have := HL.out; omega)
                    have f3 : (ap : Int) < (n : Int) := by have := HL.out; omega
                    have f4 : (p : Int) < (n : Int) := by have := HL.out; omega
                    obtain ⟨xh, xv, yh, yv, t, HT, g0, g1, g2, g3, kc⟩ := HE.out.test HP.out.sm (i := ap) (j := p) (by omega) (by omega)
                    have ht : t < 0 := HT.out.2 (HP.out.fin.low HP.out.b1 HP.out.b3 ap p (by omega) hp.1 hp.2)
                    clear hap hp HT ha
                    go_quiet_grown (first | (go_at_fn 60; exact kc _ _))
                    have HM3 := Lib.hid (HP.out.turn (PR.refl _ _ _) (HP.out.sm.grew (Grew.of nq osq)))
                    clear g0 g1 g2 g3 kc
                    go_wp2_with fail
                    go_meet
                    exact ⟨rfl, HM3⟩
                case rest =>
                  clear HP
                  obtain ⟨rfl, HP⟩ := hcut
                  have k1 := kpa a' b' p dr _ (Lib.hid ⟨HP.out.sm, HP.out.dh, by have := HL.out; omega, HIP.out.1, HIP.out.2, HL.out.2.2⟩)
                  clear kpa
                  go_upto_region 21 with (first | (go_at_call 83; refine k1.mono ?_; rintro e w2 ⟨m, al, rfl, H1⟩))
                  clear k1
                  obtain ⟨d1, p1, p2, p3⟩ := H1.out
                  have HQ := Lib.hid (HP.out.turn p2 p3)
                  have HM := Lib.hid p1
                  have m1 := p1.le
                  have m2 := p1.lb
                  obtain ⟨ll, hll⟩ : ∃ ll, m - a' = ll := ⟨_, rfl⟩
                  obtain ⟨rl, hrl⟩ : ∃ rl, b' - m = rl := ⟨_, rfl⟩
                  obtain ⟨q, hq⟩ : ∃ q, l / 8 = q := ⟨_, rfl⟩
                  obtain ⟨mp, hmp⟩ : ∃ mp, m + 1 = mp := ⟨_, rfl⟩
                  have f1 : IntKind.i64.wrap ((m : Int) - (a' : Int)) = (ll : Int) := w64 (by omega) (by have := HL.out; omega)
                  have f2 : IntKind.i64.wrap ((b' : Int) - (m : Int)) = (rl : Int) := w64 (by omega) (by have := HL.out; omega)
                  have f3 : (l : Int).tdiv 8 = (q : Int) := by rw [Int.tdiv_eq_ediv_of_nonneg (by omega)]; omega
                  have f4 : IntKind.i64.wrap (q : Int) = (q : Int) := w64 rfl (by have := HL.out; omega)
                  have f5 : IntKind.i64.wrap ((m : Int) + 1) = (mp : Int) := w64 (by omega) (by have := HL.out; omega)
                  have HMP : Hid (m + 1 = mp ∧ a' ≤ m ∧ m < b') := Lib.hid ⟨hmp, m1, m2⟩
                  clear H1 p1 p2 p3 HP hll hrl hq hmp m1 m2
                  have QB : Hid (b' - a' ≤ N) := Lib.hid (by have h1 := HN.out; have h2 := HQ.out.b1; have h3 := HQ.out.b3; omega)
                  by_cases hlr : ll < rl
                  · have f6 : (ll : Int) < (rl : Int) := by omega
                    have k2 := fun lim => IH a' m d1 lim w2 (Lib.hid ⟨by have := HMP.out; have := QB.out; omega, HQ.out.sm, HQ.out.dh, HMP.out.2.1, by have := HMP.out; have := HL.out; omega, fun p q h1 h2 h3 => HQ.out.fin.low HQ.out.b1 HQ.out.b3 p q h1 h2 (by have := HMP.out; omega)⟩)
                    clear IH hlr
                    go_wp2_with (first | (go_at_call 72; refine (k2 _).mono ?_; rintro e w3 ⟨rfl, H3⟩))
                    obtain ⟨d3, h3⟩ := HQ.out.left HE.out.wk HM.out H3.out
                    rw [HMP.out.1] at h3
                    have H4 := Lib.hid h3
                    go_roundg (b' - mp + 1)
                    case measure => rw [HK.out]; have := HMP.out; omega
                    case rel => exact ⟨mp, b', _, _, _, d3, rfl, rfl, rfl, rfl, rfl, rfl, H4.out⟩
                  · have f6 : decide ((ll : Int) < (rl : Int)) = false := decide_eq_false (by omega)
                    have f6' : ¬ (ll : Int) < (rl : Int) := by omega
                    have k2 := fun lim => IH mp b' d1 lim w2 (Lib.hid ⟨by have := HMP.out; have := QB.out; omega, HQ.out.sm, HQ.out.dh, by have := HMP.out; omega, HL.out.2.2, by rw [← HMP.out.1]; exact HM.out.low HE.out.wk (HQ.out.fin.low HQ.out.b1 HQ.out.b3)⟩)
                    clear IH hlr
                    go_wp2_with (first | (go_at_call 72; refine (k2 _).mono ?_; rintro e w3 ⟨rfl, H3⟩))
                    obtain ⟨d3, h3⟩ := HQ.out.right HE.out.wk HM.out (by have := H3.out; rw [← HMP.out.1] at this; exact this)
                    have H4 := Lib.hid h3
                    go_roundg (m - a' + 1)
                    case measure => rw [HK.out]; have := HMP.out; omega
                    case rel => exact ⟨a', m, _, _, _, d3, rfl, rfl, rfl, rfl, rfl, rfl, H4.out⟩
theorem pdq_all (B g n c qb : Nat) (F : Value) (lt : Int → Int → Bool) (W0 : World) (h : SE W0 qb g F lt) (hn : n ≤ 100000) : ∀ N, PdC W0 B g n c qb lt N
  | 0 => fun a b d lim W hN => absurd hN (Nat.not_lt_zero _)
  | N + 1 => pdq_step B g n c qb F lt W0 h hn N (pdq_all B g n c qb F lt W0 h hn N)
set_option maxRecDepth 100000 in
set_option maxHeartbeats 2000000 in
theorem sortC_all {n : Nat} (hn : n ≤ 100000) : SortC n := fun B g c qb F lt d W h hm hd => by
  have kp := fun lim => pdq_all B g n c qb F lt W h hn (n + 1) 0 n d lim W (by omega) hm hd (Nat.zero_le _) (Nat.le_refl _) (fun p q h1 => absurd h1 (Nat.not_lt_zero _))
  have kb := fun W => Try.bits_Len (n : Int) W (by omega) (by omega)
  have i1 : IntKind.u64.wrap (n : Int) = (n : Int) := by simp [IntKind.wrap, IntKind.bits, IntKind.signed]; omega
  unfold cmpF at *
  clear h hm hd
  go_enter Try.func66, Try.ntmps66
  go_wp2_with (first | (go_at_call 73; refine (kb _).mono ?_; rintro e w' ⟨rfl, hw⟩; subst hw) | (go_at_call 72; refine (kp _).mono ?_; rintro e w' ⟨rfl, hP⟩))
  go_end0
  exact ⟨rfl, hP⟩
end Go.Proofs.Ytcppgefnocjdiaa
