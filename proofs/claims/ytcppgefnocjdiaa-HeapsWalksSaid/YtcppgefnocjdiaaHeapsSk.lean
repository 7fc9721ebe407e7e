/- slices' breakPatterns by a method value. -/
import Derived.Test.YtcppgefnocjdiaaHeapsSh
import Derived.Test.YtcppgefnocjdiaaShelf2
namespace Go.Proofs.Ytcppgefnocjdiaa
open Go.RowKit Go.Lib Go.Sort Go.Shelf
set_option linter.unusedVariables false

/-- A world of it: the row, the random number in a block of its own. -/
structure RM (W0 : World) (B g n c : Nat) (d : List HItem) (rb : Nat) (X : Nat) (w : World) : Prop where
  sm : SM W0 B g n c d w
  cell : w.cell? ⟨rb, 0, none⟩ = some (.int .u64 X)
  thaw : w.frozen? ⟨rb, 0, none⟩ = false
  ne : rb ≠ g
  own : W0.heap.size ≤ rb
  lt : X < 18446744073709551616
theorem SM.aside {W0 : World} {B g n c : Nat} {d : List HItem} {w : World} (h : SM W0 B g n c d w) {rb : Nat} (hne : rb ≠ g) (how : W0.heap.size ≤ rb) (v : Value) : SM W0 B g n c d (w.setCell ⟨rb, 0, none⟩ v) := by
  refine ⟨h.row.same fun k e => ?_, h.len, ?_⟩
  · have : k = g := by simpa [Value.ownBlock, eq_comm] using e
    exact Below.heap_setCell _ _ _ _ (by rw [this]; exact Ne.symm hne)
  · have k := grownBy_setCell' w rb v
    exact ⟨k.os.trans h.gb.os, k.tape.trans h.gb.tape, k.output.trans h.gb.output, Nat.le_trans h.gb.size k.size, fun q hq hne => (k.block q (Nat.lt_of_lt_of_le hq h.gb.size) (fun e => by have := Option.some.inj e; omega)).trans (h.gb.block q hq hne)⟩
theorem RM.next {W0 : World} {B g n c : Nat} {d : List HItem} {rb X : Nat} {w : World} (h : RM W0 B g n c d rb X w) :
    ∃ Y : Nat, Y < 18446744073709551616 ∧ ∀ w0, w0 = w → Calls Try.prog 88 #[.pointer (some ⟨rb, 0, none⟩)] w0 fun e w' => e = .returned (.int .u64 (Y : Int)) ∧ Hid (RM W0 B g n c d rb Y w') := by
  refine ⟨xorNextN X, xorNextN_lt X h.lt, fun w0 hw => ?_⟩
  rw [hw]
  refine (AnyF.xorshift_Next Try.nextSp rb 0 X h.lt w h.cell h.thaw).mono ?_
  rintro e w' ⟨he, rfl⟩
  have hs := World.cell?_setCell_same (w := w) (a := ⟨rb, 0, none⟩) (v := .int .u64 (xorNextN X : Nat)) h.cell
  exact ⟨he, Lib.hid ⟨(h.sm.aside h.ne h.own _).grew ⟨3, #[], by rw [grow_empty]⟩, hs, (World.frozen?_setCell ..).trans h.thaw, h.ne, h.own, xorNextN_lt X h.lt⟩⟩
theorem RM.swapped {W0 : World} {B g n c : Nat} {d d' : List HItem} {rb X : Nat} {w w' : World} (h : RM W0 B g n c d rb X w) (hs : SM W0 B g n c d' w') (hb : w'.heap[rb]? = w.heap[rb]?) : RM W0 B g n c d' rb X w' :=
  ⟨hs, (World.cell?_of_block (a := ⟨rb, 0, none⟩) hb).trans h.cell, (World.frozen?_of_block (a := ⟨rb, 0, none⟩) hb).trans h.thaw, h.ne, h.own, h.lt⟩
theorem four_other (w : World) (g rb i j k l : Nat) (a b c d : Value) (hne : rb ≠ g) : ((((w.setCell ⟨g, i, none⟩ a).setCell ⟨g, j, none⟩ b).setCell ⟨g, k, none⟩ c).setCell ⟨g, l, none⟩ d).drew.heap[rb]? = w.heap[rb]? := by
  show ((((w.setCell ⟨g, i, none⟩ a).setCell ⟨g, j, none⟩ b).setCell ⟨g, k, none⟩ c).setCell ⟨g, l, none⟩ d).heap[rb]? = _
  rw [Below.heap_setCell _ _ _ _ hne, Below.heap_setCell _ _ _ _ hne, Below.heap_setCell _ _ _ _ hne, Below.heap_setCell _ _ _ _ hne]

set_option hygiene false in
/-- The exchange with the item at a + o. -/
local macro "brk_tail" o:ident ho:ident : tactic => `(tactic| (
  obtain ⟨p, hp⟩ : ∃ p, a + $o = p := ⟨_, rfl⟩
  have f5 : IntKind.i64.wrap ((a : Int) + ($o : Int)) = (p : Int) := w64 (by omega) (by have := HN.out; omega)
  have f6 : (p : Int) < (n : Int) := by have := HN.out; omega
  have f7 : (i : Int) < (n : Int) := by have := HN.out; omega
  have HPR : Hid (a ≤ p ∧ p < b ∧ a ≤ i ∧ i < b ∧ b ≤ dr.length) := Lib.hid ⟨by omega, by have := HN.out; omega, by have := HN.out; have := HR.out.1; omega, by have := HN.out; omega, by have := HR.out.2.2.sm.len; omega⟩
  clear hp
  by_cases hpi : i = p
  · subst hpi
    obtain ⟨ah, av, g0, g1, f0, f1, HX⟩ := HQ.out.sm.self (i := i) (by have := HN.out; omega)
    have HF := Lib.hid (HQ.out.swapped HX.out (four_other _ _ _ _ _ _ _ _ _ _ _ HQ.out.ne))
    clear HX
    go_wp2_with fail
    go_big_region_o
    all_goals
      clear g0 g1 f0 f1
      go_wp2_with fail
      go_roundg (h1 + 1 - i1)
      case measure => have := HK.out; have := HI1.out; omega
      case rel => exact ⟨i1, _, Y, rfl, rfl, Lib.hid ⟨by have := HR.out.1; have := HI1.out; omega, HR.out.2.1.trans (PR.swap dr ⟨HPR.out.2.2.1, HPR.out.2.2.2.1⟩ ⟨HPR.out.1, HPR.out.2.1⟩ HPR.out.2.2.2.2), HF.out⟩⟩
  · obtain ⟨ah, av, bh, bv, g0, g1, g2, g3, f0, f1, f2, f3, HX⟩ := HQ.out.sm.exch (i := i) (j := p) (by have := HN.out; omega) (by have := HN.out; omega)
    have HF := Lib.hid (HQ.out.swapped HX.out (four_other _ _ _ _ _ _ _ _ _ _ _ HQ.out.ne))
    clear HX
    go_wp2_with fail
    go_big_region_o
    all_goals
      clear g0 g1 g2 g3 f0 f1 f2 f3
      go_wp2_with fail
      go_roundg (h1 + 1 - i1)
      case measure => have := HK.out; have := HI1.out; omega
      case rel => exact ⟨i1, _, Y, rfl, rfl, Lib.hid ⟨by have := HR.out.1; have := HI1.out; omega, HR.out.2.1.trans (PR.swap dr ⟨HPR.out.2.2.1, HPR.out.2.2.2.1⟩ ⟨HPR.out.1, HPR.out.2.1⟩ HPR.out.2.2.2.2), HF.out⟩⟩))
set_option maxRecDepth 100000 in
set_option maxHeartbeats 8000000 in
theorem break_any (B g n c : Nat) (fv : Value) (d : List HItem) (a b : Nat) (W0 W : World) (hm : SM W0 B g n c d W) (hab : a + 12 < b) (hb : b ≤ n) (hn : n ≤ 100000) :
    Calls Try.prog 78 #[.slice (some ⟨g, 0, none⟩) n c, .int .i64 a, .int .i64 b, fv] W fun e w' => e = .returned (.tuple #[]) ∧ Hid (∃ d', PR a b d d' ∧ SM W0 B g n c d' w') := by
  have mixed : Try.prog.follows .mixedOrders = true := by kernel_rfl
  obtain ⟨l, hl⟩ : ∃ l, b - a = l := ⟨_, rfl⟩
  obtain ⟨q, hq⟩ : ∃ q, l / 4 = q := ⟨_, rfl⟩
  obtain ⟨q2, hq2⟩ : ∃ q2, q * 2 = q2 := ⟨_, rfl⟩
  obtain ⟨h, hh⟩ : ∃ h, a + q2 = h := ⟨_, rfl⟩
  obtain ⟨h0, hh0⟩ : ∃ h0, h - 1 = h0 := ⟨_, rfl⟩
  obtain ⟨h1, hh1⟩ : ∃ h1, h + 1 = h1 := ⟨_, rfl⟩
  obtain ⟨M, hM⟩ : ∃ M : Nat, M = 1 <<< bitsLen l := ⟨_, rfl⟩
  have hM1 : 1 ≤ M := by rw [hM, Nat.one_shiftLeft]; exact Nat.two_pow_pos _
  have hM2 : M ≤ 2 * l := by rw [hM, Nat.one_shiftLeft]; exact two_pow_bitsLen_le (by omega)
  have kp : ∀ w, Calls Try.prog 87 #[.int .i64 (l : Int)] w fun e w' => e = .returned (.int .u64 (M : Int)) ∧ w' = w := by rw [hM]; exact fun w => AnyF.nextPowerOfTwo Try.powSp l (by omega) w
  obtain ⟨M0, hM0⟩ : ∃ M0, M - 1 = M0 := ⟨_, rfl⟩
  have e1 : IntKind.i64.wrap ((b : Int) - (a : Int)) = (l : Int) := w64 (by omega) (by omega)
  have e2 : (l : Int).tdiv 4 = (q : Int) := by rw [Int.tdiv_eq_ediv_of_nonneg (by omega)]; omega
  have e3 : IntKind.i64.wrap (q : Int) = (q : Int) := w64 rfl (by omega)
  have e5 : IntKind.i64.wrap ((q : Int) * 2) = (q2 : Int) := w64 (by omega) (by omega)
  have e6 : IntKind.i64.wrap ((a : Int) + (q2 : Int)) = (h : Int) := w64 (by omega) (by omega)
  have e7 : IntKind.i64.wrap ((h : Int) - 1) = (h0 : Int) := w64 (by omega) (by omega)
  have e8 : IntKind.i64.wrap ((h : Int) + 1) = (h1 : Int) := w64 (by omega) (by omega)
  have e9 : IntKind.u64.wrap (l : Int) = (l : Int) := by simp [IntKind.wrap, IntKind.bits, IntKind.signed]; omega
  have e10 : IntKind.u64.wrap ((M : Int) - 1) = (M0 : Int) := by simp [IntKind.wrap, IntKind.bits, IntKind.signed]; omega
  have j1 : (l : Int) ≥ 8 := by omega
  have HN : Hid (a + l = b ∧ 12 < l ∧ a ≤ h0 ∧ h0 + 2 = h1 ∧ h1 < b ∧ M0 < 2 * l) := Lib.hid ⟨by omega, by omega, by omega, by omega, by omega, by omega⟩
  have H0 : Hid (RM W0 B g n c d W.heap.size l (W.alloc (.cells #[.int .u64 l] 141))) := Lib.hid ⟨hm.grew ((Grew.refl W).alloc _), by simp [go_sem], by simp [go_sem], by
      have := (hm.row.lt g rfl).2; omega, hm.gb.size, by omega⟩
  clear hm hl hq hq2 hh hh0 hh1 hM hM1 hM2 hM0
  go_enter Try.func78, Try.ntmps78
  go_wp2_with (first | (go_at_call 87; refine (kp _).mono ?_; rintro e w' ⟨rfl, hw0⟩; subst hw0))
  generalize W.alloc (.cells #[.int .u64 l] 141) = w0 at H0 ⊢
  generalize W.heap.size = rb at H0 ⊢
  go_loopg [11] (h1 + 1 - h0) (fun k vi wr => ∃ (i : Nat) (dr : List HItem) (X : Nat), vi = .int .i64 i ∧ k = h1 + 1 - i ∧ Hid (h0 ≤ i ∧ PR a b d dr ∧ RM W0 B g n c dr rb X wr))
  case atStart => exact ⟨h0, d, l, rfl, rfl, Lib.hid ⟨Nat.le_refl _, PR.refl _ _ _, H0.out⟩⟩
  case round =>
    clear H0
    obtain ⟨i, dr, X, rfl, hk, HR⟩ := hrel
    have HK := Lib.hid hk
    clear hk
    by_cases hi : i ≤ h1
    · have f1 : (i : Int) ≤ (h1 : Int) := by omega
      obtain ⟨Y, hY, kn⟩ := HR.out.2.2.next
      have kn' := kn wr rfl
      obtain ⟨O, hO⟩ : ∃ O : Nat, O = Y &&& M0 := ⟨_, rfl⟩
      have hOM : O ≤ M0 := by rw [hO]; exact Nat.and_le_right
      have f2 : bits .and .u64 (Y : Int) (M0 : Int) = (O : Int) := by rw [bits_and_u64_nat _ _ hY (by have := HN.out; omega), hO]
      have f3 : IntKind.i64.wrap (O : Int) = (O : Int) := w64 rfl (by have := HN.out; omega)
      obtain ⟨i1, hi1⟩ : ∃ i1, i + 1 = i1 := ⟨_, rfl⟩
      have f4 : IntKind.i64.wrap ((i : Int) + 1) = (i1 : Int) := w64 (by omega) (by have := HN.out; omega)
      have HI1 : Hid (i + 1 = i1 ∧ i ≤ h1) := Lib.hid ⟨hi1, hi⟩
      have HO := Lib.hid hOM
      clear kn hY hO hOM hi1
      by_cases hOl : l ≤ O
      · obtain ⟨o, ho⟩ : ∃ o, O - l = o := ⟨_, rfl⟩
        have f8 : IntKind.i64.wrap ((O : Int) - (l : Int)) = (o : Int) := w64 (by omega) (by have := HN.out; have := HO.out; omega)
        have f9 : (O : Int) ≥ (l : Int) := by omega
        have hol : o < l := by have := HN.out; have := HO.out; omega
        clear ho hOl
        go_upto_region 10 with (first | (go_at_call 88; refine kn'.mono ?_; rintro e wq ⟨rfl, HQ⟩))
        clear kn'
        brk_tail o hol
      · have f9 : decide ((O : Int) ≥ (l : Int)) = false := decide_eq_false (by omega)
        have f9' : ¬ (O : Int) ≥ (l : Int) := by omega
        have hol : O < l := by omega
        clear hOl
        go_upto_region 10 with (first | (go_at_call 88; refine kn'.mono ?_; rintro e wq ⟨rfl, HQ⟩))
        clear kn'
        brk_tail O hol
    · have f1 : decide ((i : Int) ≤ (h1 : Int)) = false := decide_eq_false (by omega)
      have f1' : ¬ (i : Int) ≤ (h1 : Int) := by omega
      go_wp2_with fail
      go_end0
      exact ⟨rfl, Lib.hid ⟨dr, HR.out.2.1, HR.out.2.2.sm⟩⟩
end Go.Proofs.Ytcppgefnocjdiaa
