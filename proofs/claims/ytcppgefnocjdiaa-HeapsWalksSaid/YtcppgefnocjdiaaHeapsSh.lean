/- slices' reverseRange, order2, median, choosePivot by a method value. -/
import Derived.Test.YtcppgefnocjdiaaHeapsSg
import Derived.Deep.CutBlock
import Derived.Deep.LoopGhost
namespace Go.Proofs.Ytcppgefnocjdiaa
open Go.RowKit Go.Lib Go.Sort Go.Shelf
set_option linter.unusedVariables false

set_option maxRecDepth 100000 in
set_option maxHeartbeats 8000000 in
theorem rev_any (B g n c : Nat) (fv : Value) (d : List HItem) (a b : Nat) (W0 W : World) (hm : SM W0 B g n c d W) (hab : a < b) (hb : b ≤ n) (hn : n ≤ 100000) :
    Calls Try.prog 80 #[.slice (some ⟨g, 0, none⟩) n c, .int .i64 a, .int .i64 b, fv] W fun e w' => e = .returned (.tuple #[]) ∧ Hid (∃ d', PR a b d d' ∧ SM W0 B g n c d' w') := by
  have mixed : Try.prog.follows .mixedOrders = true := by kernel_rfl
  have HM := Lib.hid hm
  obtain ⟨b1, hb1⟩ : ∃ b1, b - 1 = b1 := ⟨_, rfl⟩
  have i1 : IntKind.i64.wrap ((b : Int) - 1) = (b1 : Int) := w64 (by omega) (by omega)
  have HB := Lib.hid hb1
  clear hm hb1
  go_enter Try.func80, Try.ntmps80
  go_wp2_with fail
  go_loopg [8, 9] (b1 + 1) (fun k vi vj wr => ∃ (i j : Nat) (dr : List HItem), vi = .int .i64 i ∧ vj = .int .i64 j ∧ k = j + 1 ∧ Hid (a ≤ i ∧ j < b ∧ i ≤ b ∧ PR a b d dr ∧ SM W0 B g n c dr wr))
  case atStart => exact ⟨a, b1, d, rfl, rfl, rfl, Lib.hid ⟨Nat.le_refl _, by have := HB.out; omega, by omega, PR.refl _ _ _, HM.out⟩⟩
  case round =>
    obtain ⟨i, j, dr, rfl, rfl, hk, HR⟩ := hrel
    have HK := Lib.hid hk
    clear hk
    have h1 := HR.out.1
    have h2 := HR.out.2.1
    by_cases hij : i < j
    · have e1 : (i : Int) < (j : Int) := by omega
      have e2 : (i : Int) < (n : Int) := by omega
      have e3 : (j : Int) < (n : Int) := by omega
      have hne : ¬ i = j := by omega
      obtain ⟨i1, hi1⟩ : ∃ i1, i + 1 = i1 := ⟨_, rfl⟩
      obtain ⟨j1, hj1⟩ : ∃ j1, j - 1 = j1 := ⟨_, rfl⟩
      have e4 : IntKind.i64.wrap ((i : Int) + 1) = (i1 : Int) := w64 (by omega) (by omega)
      have e5 : IntKind.i64.wrap ((j : Int) - 1) = (j1 : Int) := w64 (by omega) (by omega)
      obtain ⟨ah, av, bh, bv, g0, g1, g2, g3, f0, f1, f2, f3, HX⟩ := HR.out.2.2.2.2.exch (i := i) (j := j) (by omega) (by omega)
      have HF : Hid (a ≤ i1 ∧ j1 < b ∧ i1 ≤ b ∧ PR a b d (swapL dr d0 i j) ∧ j1 < j) := Lib.hid ⟨by omega, by omega, by omega, HR.out.2.2.2.1.trans (PR.swap dr ⟨by omega, by omega⟩ ⟨by omega, by omega⟩ (by have := HR.out.2.2.2.2.len; omega)), by omega⟩
      clear hi1 hj1 h1 h2
      go_wp2_with fail
      go_big_region_o
      all_goals
        clear g0 g1 g2 g3 f0 f1 f2 f3
        go_wp2_with fail
        go_roundg (j1 + 1)
        case measure => rw [HK.out]; have := HF.out; omega
        case rel => exact ⟨i1, j1, _, rfl, rfl, rfl, Lib.hid ⟨HF.out.1, HF.out.2.1, HF.out.2.2.1, HF.out.2.2.2.1, HX.out⟩⟩
    · have e1 : decide ((i : Int) < (j : Int)) = false := decide_eq_false (by omega)
      have e1' : ¬ (i : Int) < (j : Int) := by omega
      go_wp2_with fail
      go_end0
      exact ⟨rfl, Lib.hid ⟨dr, HR.out.2.2.2.1, HR.out.2.2.2.2⟩⟩

/-- A world of the search for a pivot: the row as it was, the count of exchanges in a block of its own. -/
structure CM (W0 : World) (B g n c : Nat) (d : List HItem) (cb : Nat) (s : Int) (w : World) : Prop where
  sm : SM W0 B g n c d w
  cell : w.cell? ⟨cb, 0, none⟩ = some (.int .i64 s)
  thaw : w.frozen? ⟨cb, 0, none⟩ = false
  ne : cb ≠ g
  own : W0.heap.size ≤ cb
theorem CM.lt {W0 : World} {B g n c : Nat} {d : List HItem} {cb : Nat} {s : Int} {w : World} (h : CM W0 B g n c d cb s w) : cb < w.heap.size := World.block_lt_of_cell? w _ h.cell
theorem CM.grew {W0 : World} {B g n c : Nat} {d : List HItem} {cb : Nat} {s : Int} {w w' : World} (h : CM W0 B g n c d cb s w) (hg : Grew w w') : CM W0 B g n c d cb s w' :=
  ⟨h.sm.grew hg, (World.cell?_of_block (a := ⟨cb, 0, none⟩) (hg.below.block cb h.lt)).trans h.cell, (World.frozen?_of_block (a := ⟨cb, 0, none⟩) (hg.below.block cb h.lt)).trans h.thaw, h.ne, h.own⟩
theorem CM.set {W0 : World} {B g n c : Nat} {d : List HItem} {cb : Nat} {s : Int} {w : World} (h : CM W0 B g n c d cb s w) (s' : Int) : CM W0 B g n c d cb s' (w.setCell ⟨cb, 0, none⟩ (.int .i64 s')) := by
  refine ⟨⟨h.sm.row.same fun k e => ?_, h.sm.len, ?_⟩, World.cell?_setCell_same _ _ _ h.cell, by rw [World.frozen?_setCell]; exact h.thaw, h.ne, h.own⟩
  · have : k = g := by simpa [Value.ownBlock, eq_comm] using e
    exact Below.heap_setCell _ _ _ _ (by rw [this]; exact Ne.symm h.ne)
  · have k := grownBy_setCell' w cb (.int .i64 s')
    exact ⟨k.os.trans h.sm.gb.os, k.tape.trans h.sm.gb.tape, k.output.trans h.sm.gb.output, Nat.le_trans h.sm.gb.size k.size, fun q hq hne => (k.block q (Nat.lt_of_lt_of_le hq h.sm.gb.size) (fun e => by have := Option.some.inj e; have := h.own; omega)).trans (h.sm.gb.block q hq hne)⟩
/-- A place in the range. -/
def InR (lo hi i : Nat) : Prop := lo ≤ i ∧ i < hi
set_option maxRecDepth 100000 in
set_option maxHeartbeats 4000000 in
theorem order2_any (B g n c qb cb : Nat) (F : Value) (lt : Int → Int → Bool) (d : List HItem) (lo hi i j : Nat) (s : Int) (W0 W : World) (h : SE W0 qb g F lt) (hm : CM W0 B g n c d cb s W) (hi' : InR lo hi i) (hj' : InR lo hi j) (hn : hi ≤ n) :
    Calls Try.prog 91 #[.slice (some ⟨g, 0, none⟩) n c, .int .i64 i, .int .i64 j, .pointer (some ⟨cb, 0, none⟩), cmpF qb] W fun e w' => ∃ i' j' : Nat, e = .returned (.tuple #[.int .i64 i', .int .i64 j']) ∧ Hid (InR lo hi i' ∧ InR lo hi j' ∧ ∃ s', CM W0 B g n c d cb s' w') := by
  have mixed : Try.prog.follows .mixedOrders = true := by kernel_rfl
  have ec := enters_cmp
  unfold cmpF
  have HI : Hid (InR lo hi i ∧ InR lo hi j) := Lib.hid ⟨hi', hj'⟩
  have hin : i < n := by have := hi'.2; omega
  have hjn : j < n := by have := hj'.2; omega
  have e1 : (i : Int) < (n : Int) := by omega
  have e2 : (j : Int) < (n : Int) := by omega
  have HM := Lib.hid hm
  obtain ⟨xh, xv, yh, yv, t, HT, g0, g1, g2, g3, kc⟩ := h.test hm.sm (i := j) (j := i) hjn hin
  clear h hm hi' hj' HT hin hjn
  go_enter Try.func91, Try.ntmps91
  by_cases ht : t < 0
  · go_wp2_with fail
    go_quiet_grown (first | (go_at_fn 60; exact kc _ _))
    have HM3 := Lib.hid (HM.out.grew (Grew.of (w := W) nq osq))
    clear g0 g1 g2 g3 kc
    generalize grow (W.drewN nq) osq = wq at HM3 ⊢
    have c1 := HM3.out.cell
    have c2 := HM3.out.thaw
    have HS := Lib.hid (HM3.out.set (IntKind.i64.wrap (s + 1)))
    obtain ⟨s', hs'⟩ : ∃ s', IntKind.i64.wrap (s + 1) = s' := ⟨_, rfl⟩
    rw [hs'] at HS
    go_wp2_with fail
    go_ret2
    exact ⟨j, i, rfl, Lib.hid ⟨HI.out.2, HI.out.1, _, HS.out⟩⟩
  · have ht' : decide (t < 0) = false := decide_eq_false ht
    go_wp2_with fail
    go_quiet_grown (first | (go_at_fn 60; exact kc _ _))
    have HM3 := Lib.hid (HM.out.grew (Grew.of (w := W) nq osq))
    clear g0 g1 g2 g3 kc
    generalize grow (W.drewN nq) osq = wq at HM3 ⊢
    go_wp2_with fail
    go_ret2
    exact ⟨i, j, rfl, Lib.hid ⟨HI.out.1, HI.out.2, _, HM3.out⟩⟩
set_option maxRecDepth 100000 in
set_option maxHeartbeats 4000000 in
theorem median_any (B g n c qb cb : Nat) (F : Value) (lt : Int → Int → Bool) (d : List HItem) (lo hi i j k : Nat) (W0 W : World) (h : SE W0 qb g F lt) (hm : ∃ s, CM W0 B g n c d cb s W) (hi' : InR lo hi i) (hj' : InR lo hi j) (hk' : InR lo hi k) (hn : hi ≤ n) :
    Calls Try.prog 90 #[.slice (some ⟨g, 0, none⟩) n c, .int .i64 i, .int .i64 j, .int .i64 k, .pointer (some ⟨cb, 0, none⟩), cmpF qb] W fun e w' => ∃ r : Nat, e = .returned (.int .i64 r) ∧ Hid (InR lo hi r ∧ ∃ s', CM W0 B g n c d cb s' w') := by
  have ko := fun (i j : Nat) (w : World) (H : Hid (InR lo hi i ∧ InR lo hi j ∧ ∃ s', CM W0 B g n c d cb s' w)) => order2_any B g n c qb cb F lt d lo hi i j H.out.2.2.choose W0 w h H.out.2.2.choose_spec H.out.1 H.out.2.1 hn
  have H0 : Hid (InR lo hi i ∧ InR lo hi j ∧ ∃ s', CM W0 B g n c d cb s' W) := Lib.hid ⟨hi', hj', hm⟩
  have HKK := Lib.hid hk'
  unfold cmpF at *
  have k1 := ko i j W H0
  clear h hm hi' hj' hk'
  go_enter Try.func90, Try.ntmps90
  go_upto_region 2 with (first | (go_at_call 91; refine k1.mono ?_; rintro e w1 ⟨i1, j1, rfl, H1⟩))
  have k2 := ko j1 k w1 (Lib.hid ⟨H1.out.2.1, HKK.out, H1.out.2.2⟩)
  clear k1
  go_upto_region 3 with (first | (go_at_call 91; refine k2.mono ?_; rintro e w2 ⟨j2, k3, rfl, H2⟩))
  have k4 := ko i1 j2 w2 (Lib.hid ⟨H1.out.1, H2.out.1, H2.out.2.2⟩)
  clear k2 ko
  go_wp2_with (first | (go_at_call 91; refine k4.mono ?_; rintro e w3 ⟨i4, j4, rfl, H3⟩))
  go_ret
  exact ⟨j4, rfl, Lib.hid ⟨H3.out.2.1, H3.out.2.2⟩⟩
set_option maxRecDepth 100000 in
set_option maxHeartbeats 4000000 in
theorem adjacent_any (B g n c qb cb : Nat) (F : Value) (lt : Int → Int → Bool) (d : List HItem) (lo hi i : Nat) (W0 W : World) (h : SE W0 qb g F lt) (hm : ∃ s, CM W0 B g n c d cb s W) (h1 : lo < i) (h2 : i + 1 < hi) (hn : hi ≤ n) (hn1 : n ≤ 100000) :
    Calls Try.prog 89 #[.slice (some ⟨g, 0, none⟩) n c, .int .i64 i, .pointer (some ⟨cb, 0, none⟩), cmpF qb] W fun e w' => ∃ r : Nat, e = .returned (.int .i64 r) ∧ Hid (InR lo hi r ∧ ∃ s', CM W0 B g n c d cb s' w') := by
  obtain ⟨a, ha⟩ : ∃ a, i - 1 = a := ⟨_, rfl⟩
  obtain ⟨b, hb⟩ : ∃ b, i + 1 = b := ⟨_, rfl⟩
  have k1 := median_any B g n c qb cb F lt d lo hi a i b W0 W h hm ⟨by omega, by omega⟩ ⟨by omega, by omega⟩ ⟨by omega, by omega⟩ hn
  have e1 : IntKind.i64.wrap ((i : Int) - 1) = (a : Int) := w64 (by omega) (by omega)
  have e2 : IntKind.i64.wrap ((i : Int) + 1) = (b : Int) := w64 (by omega) (by omega)
  unfold cmpF at *
  clear h hm ha hb
  go_enter Try.func89, Try.ntmps89
  go_wp2_with (first | (go_at_call 90; refine k1.mono ?_; rintro e w1 ⟨r, rfl, H1⟩))
  go_ret
  exact ⟨r, rfl, H1⟩
set_option maxRecDepth 100000 in
set_option maxHeartbeats 8000000 in
theorem choose_any (B g n c qb : Nat) (F : Value) (lt : Int → Int → Bool) (d : List HItem) (a b : Nat) (W0 W : World) (h : SE W0 qb g F lt) (hm : SM W0 B g n c d W) (hab : a + 12 < b) (hb : b ≤ n) (hn : n ≤ 100000) :
    Calls Try.prog 79 #[.slice (some ⟨g, 0, none⟩) n c, .int .i64 a, .int .i64 b, cmpF qb] W fun e w' => ∃ (p : Nat) (hint : Int), e = .returned (.tuple #[.int .i64 p, .int .i64 hint]) ∧ Hid (InR a b p ∧ SM W0 B g n c d w') := by
  obtain ⟨l, hl⟩ : ∃ l, b - a = l := ⟨_, rfl⟩
  obtain ⟨q, hq⟩ : ∃ q, l / 4 = q := ⟨_, rfl⟩
  obtain ⟨q2, hq2⟩ : ∃ q2, q * 2 = q2 := ⟨_, rfl⟩
  obtain ⟨q3, hq3⟩ : ∃ q3, q * 3 = q3 := ⟨_, rfl⟩
  obtain ⟨i, hi⟩ : ∃ i, a + q = i := ⟨_, rfl⟩
  obtain ⟨j, hj⟩ : ∃ j, a + q2 = j := ⟨_, rfl⟩
  obtain ⟨k, hk⟩ : ∃ k, a + q3 = k := ⟨_, rfl⟩
  have e1 : IntKind.i64.wrap ((b : Int) - (a : Int)) = (l : Int) := w64 (by omega) (by omega)
  have e2 : (l : Int).tdiv 4 = (q : Int) := by rw [Int.tdiv_eq_ediv_of_nonneg (by omega)]; omega
  have e3 : IntKind.i64.wrap (q : Int) = (q : Int) := w64 rfl (by omega)
  have e4 : IntKind.i64.wrap ((q : Int) * 1) = (q : Int) := w64 (by omega) (by omega)
  have e5 : IntKind.i64.wrap ((q : Int) * 2) = (q2 : Int) := w64 (by omega) (by omega)
  have e6 : IntKind.i64.wrap ((q : Int) * 3) = (q3 : Int) := w64 (by omega) (by omega)
  have e7 : IntKind.i64.wrap ((a : Int) + (q : Int)) = (i : Int) := w64 (by omega) (by omega)
  have e8 : IntKind.i64.wrap ((a : Int) + (q2 : Int)) = (j : Int) := w64 (by omega) (by omega)
  have e9 : IntKind.i64.wrap ((a : Int) + (q3 : Int)) = (k : Int) := w64 (by omega) (by omega)
  have j1 : (l : Int) ≥ 8 := by omega
  have HR : Hid (InR a b i ∧ InR a b j ∧ InR a b k ∧ (50 ≤ l → a < i ∧ i + 1 < b ∧ a < j ∧ j + 1 < b ∧ a < k ∧ k + 1 < b)) := Lib.hid ⟨⟨by omega, by omega⟩, ⟨by omega, by omega⟩, ⟨by omega, by omega⟩, fun _ => by omega⟩
  have H0 : Hid (∃ s, CM W0 B g n c d W.heap.size s (W.alloc (.cells #[.int .i64 0] 3))) := Lib.hid ⟨0, hm.grew ((Grew.refl W).alloc _), by simp [go_sem], by simp [go_sem], by
      have := (hm.row.lt g rfl).2; omega, hm.gb.size⟩
  have km := fun (i j k : Nat) (w : World) (H : Hid (InR a b i ∧ InR a b j ∧ InR a b k ∧ ∃ s, CM W0 B g n c d W.heap.size s w)) => median_any B g n c qb W.heap.size F lt d a b i j k W0 w h H.out.2.2.2 H.out.1 H.out.2.1 H.out.2.2.1 hb
  have ka := fun (i : Nat) (w : World) (H : Hid ((a < i ∧ i + 1 < b) ∧ ∃ s, CM W0 B g n c d W.heap.size s w)) => adjacent_any B g n c qb W.heap.size F lt d a b i W0 w h H.out.2 H.out.1.1 H.out.1.2 hb hn
  unfold cmpF at *
  clear h hm hl hq hq2 hq3 hi hj hk
  go_enter Try.func79, Try.ntmps79
  go_upto_if 36 with fail
  generalize W.alloc (.cells #[.int .i64 0] 3) = w0 at H0 ⊢
  generalize W.heap.size = cb at H0 km ka ⊢
  go_cut [12, 13, 14] (fun s12 s13 s14 wc => ∃ i j k : Nat, s12 = .int .i64 i ∧ s13 = .int .i64 j ∧ s14 = .int .i64 k ∧ Hid (InR a b i ∧ InR a b j ∧ InR a b k ∧ ∃ s, CM W0 B g n c d cb s wc))
  case first =>
    by_cases h50 : 50 ≤ l
    · have j2 : decide ((l : Int) ≥ 50) = true := decide_eq_true (by omega)
      have j2' : (l : Int) ≥ 50 := by omega
      have R := HR.out.2.2.2 h50
      have k1 := ka i w0 (Lib.hid ⟨⟨R.1, R.2.1⟩, H0.out⟩)
      have HR2 := Lib.hid R
      clear R
      go_upto_region 9 with (first | (go_at_call 89; refine k1.mono ?_; rintro e w1 ⟨r1, rfl, H1⟩))
      have k2 := ka j w1 (Lib.hid ⟨⟨HR2.out.2.2.1, HR2.out.2.2.2.1⟩, H1.out.2⟩)
      clear k1
      go_upto_region 10 with (first | (go_at_call 89; refine k2.mono ?_; rintro e w2 ⟨r2, rfl, H2⟩))
      have k3 := ka k w2 (Lib.hid ⟨⟨HR2.out.2.2.2.2.1, HR2.out.2.2.2.2.2⟩, H2.out.2⟩)
      clear k2
      go_wp2_with (first | (go_at_call 89; refine k3.mono ?_; rintro e w3 ⟨r3, rfl, H3⟩))
      go_meet
      exact ⟨r1, r2, r3, rfl, rfl, rfl, Lib.hid ⟨H1.out.1, H2.out.1, H3.out.1, H3.out.2⟩⟩
    · have j2 : decide ((l : Int) ≥ 50) = false := decide_eq_false (by omega)
      have j2' : ¬ (l : Int) ≥ 50 := by omega
      go_wp2_with fail
      go_meet
      exact ⟨i, j, k, rfl, rfl, rfl, Lib.hid ⟨HR.out.1, HR.out.2.1, HR.out.2.2.1, H0.out⟩⟩
  case rest =>
    obtain ⟨i, j, k, rfl, rfl, rfl, HC⟩ := hcut
    have k1 := km i j k wc HC
    clear km ka e1 e2 e3 e4 e5 e6 e7 e8 e9 HR H0
    go_upto_region 12 with (first | (go_at_call 90; refine k1.mono ?_; rintro e w1 ⟨r, rfl, H1⟩))
    obtain ⟨hr, s, hs⟩ := H1.out
    have c1 := hs.cell
    have HS : Hid (InR a b r ∧ SM W0 B g n c d w1) := Lib.hid ⟨hr, hs.sm⟩
    clear hr hs k1 H1 HC
    go_wp2_with fail
    all_goals
      go_ret2
      exact ⟨r, _, rfl, HS⟩
end Go.Proofs.Ytcppgefnocjdiaa
