/- The contracts of the reference's Pad. -/
import Derived.Test.YtaeicjgkoofmpaaDoorShaK
namespace Go.Proofs.YtaeicjgkoofmpaaDoor
open Go.RowKit Go.Lib
set_option linter.unusedVariables false

theorem rpad_no (n : Int) (w : World) (hn : n < 0 ∨ 1152921504606846976 < n) : Calls Tryd.prog 44 #[.int .i64 n] w (PadNo w) := by
  by_cases h0 : n < 0
  · go_enter Tryd.func44, Tryd.ntmps44
    go_wp2_with fail
    go_ret2
    exact ⟨rfl, rfl⟩
  · have h1 : 1152921504606846976 < n := by omega
    go_enter Tryd.func44, Tryd.ntmps44
    go_wp2_with fail
    go_ret2
    exact ⟨rfl, rfl⟩
set_option maxRecDepth 20000 in
set_option maxHeartbeats 4000000 in
theorem rpad_yes (n : Nat) (w : World) (hn : n ≤ 1152921504606846976) : Calls Tryd.prog 44 #[.int .i64 n] w (PadYes w (padL n)) := by
  have hn2 : decide (1152921504606846976 < (n : Int)) = false := by simp; omega
  obtain ⟨i0, hi, hz0, hz1, hz2⟩ := info_parts info_u8
  have hz := zeros_lt n
  go_enter Tryd.func44, Tryd.ntmps44
  go_wp2_with fail
  go_loopw [4] (fun v wr => ∃ (k : Nat) (A : Option Addr) (c : Nat), k ≤ zeros n ∧ v = .slice A (k + 1) c ∧ Hid (OL wr w.heap.size (.slice A (k + 1) c) (k + 1) (128 :: List.replicate k 0)) ∧ Hid (Below w.heap.size w wr)) (fun v _ => zeros n + 1 - lenOf v)
  case atStart => exact ⟨0, _, _, by omega, rfl, Lib.hid (OL.of (on_new w [128] 1 rfl (by omega)) rfl), Lib.hid (bl_alloc _ (Below.refl _ _))⟩
  case round =>
    obtain ⟨k, A, c, hk, rfl, HO, HB⟩ := hrel
    have e3 : IntKind.u64.wrap (n : Int) = (n : Int) := by rw [IntKind.wrap_u64]; omega
    by_cases hlt : k < zeros n
    · have hb : (((n : Int) + ((k : Int) + 1) + 8) % 64 != 0) = true := by
        have := zeros_step (n := n) (k := k) (by omega)
        simp; omega
      go_wp2_with (at_builtin; refine wpList_append_own _ rfl _ _ 27 rfl w.heap.size 5 i0 (.int .u8 0) 1 1 Tryd.underlying27 hi hz0 hz1 hz2 rfl (by decide) _ (k + 1) (yL (128 :: List.replicate k 0)) rfl (World.ownsRow.alloc HO.out _) ⟨wr.heap.size, 0, none⟩ 1 1 [.int .u8 0] rfl rfl (cells_new _ _ [_]) (by simp [Value.oneCell']) (by unfold maxLen; omega) (by omega) (by have := HB.out.size; simp; omega) ?_; intro v2 w2 hown hgrow _; have hbw := (bl_alloc _ HB.out).grown hgrow (by have := HB.out.size; simp; omega) (fun k e => (World.ownsRow.lt HO.out k e).1); have HB2 := Lib.hid hbw; have HO2 : Hid (OL w2 w.heap.size v2 (k + 1 + 1) (128 :: List.replicate (k + 1) 0)) := Lib.hid (OL.put (x := 0) hown (by rw [List.replicate_succ']; rfl)); clear hbw hown hgrow; obtain ⟨A2, c2, rfl⟩ := HO2.out.len)
      go_roundw
      case rel => exact ⟨k + 1, A2, c2, by omega, rfl, HO2, HB2⟩
      case measure => show zeros n + 1 - (k + 1 + 1) < zeros n + 1 - (k + 1); omega
    · obtain ⟨z, hzz⟩ : ∃ z, zeros n = z := ⟨_, rfl⟩
      have hkz : k = z := by omega
      have hb : (((n : Int) + ((k : Int) + 1) + 8) % 64 != 0) = false := by
        have := (zeros_step (n := n) (k := k) (by omega)).2 (by omega)
        simp; omega
      have HS : Hid (OL wr w.heap.size (.slice A (k + 1) c) (k + 1) (padI n 0)) := Lib.hid (by have := HO.out; unfold padI; rw [hzz, ← hkz, List.take_zero, List.append_nil]; exact this)
      have HKZ := Lib.hid hkz; have HZZ := Lib.hid hzz
      rw [hzz] at hz
      have hk64 : k < 64 := by omega
      have e8 : IntKind.u64.wrap ((n : Int) * 8) = (n : Int) * 8 := by rw [IntKind.wrap_u64]; omega
      clear hkz hzz HO hk hlt
      go_wp2_with fail
      go_loopw [4, 6] (fun v sh wr => ∃ (i : Nat) (A : Option Addr) (c : Nat) (q : Int), i ≤ 8 ∧ sh = .int .i64 q ∧ q = 7 - (i : Int) ∧ v = .slice A (k + 1 + i) c ∧ Hid (OL wr w.heap.size (.slice A (k + 1 + i) c) (k + 1 + i) (padI n i)) ∧ Hid (Below w.heap.size w wr)) (fun v _ _ => 100 - lenOf v)
      case atStart => exact ⟨0, A, c, 7, by omega, rfl, by omega, rfl, HS, HB⟩
      case round =>
        obtain ⟨i, A, c, q, hi8, rfl, hq, rfl, HO, HB⟩ := hrel
        by_cases hlt : i < 8
        · obtain ⟨t, ht⟩ : ∃ t : Nat, q = t := ⟨(7 - i), by omega⟩
          subst ht
          obtain ⟨u, hu⟩ : ∃ u : Nat, 8 * (t : Int) = u := ⟨8 * t, by omega⟩
          have eu : IntKind.u64.wrap (u : Int) = (u : Int) := by rw [IntKind.wrap_u64]; omega
          have HQ : Hid (u = 56 - 8 * i) := Lib.hid (by omega)
          have HX : Hid ((n : Int) * 8 / 2 ^ u % 256 = ((8 * n / 2 ^ u % 256 : Nat) : Int)) := Lib.hid (by rw [Int.mul_comm]; push_cast; rfl)
          have hu56 : u ≤ 56 := by omega
          have ht7 : t ≤ 7 := by omega
          have hs1 : (t : Int) - 1 = (7 - ((i + 1 : Nat) : Int)) := by omega
          have HS1 := Lib.hid hs1
          clear hq hs1
          go_wp2_with (at_builtin; refine wpList_append_own _ rfl _ _ 27 rfl w.heap.size 5 i0 (.int .u8 0) 1 1 Tryd.underlying27 hi hz0 hz1 hz2 rfl (by decide) _ (k + 1 + i) (yL (padI n i)) rfl (World.ownsRow.alloc HO.out _) ⟨wr.heap.size, 0, none⟩ 1 1 [_] rfl rfl (cells_new _ _ [_]) (by simp [Value.oneCell']) (by unfold maxLen; omega) (by omega) (by have := HB.out.size; simp; omega) ?_; intro v2 w2 hown hgrow _; have hbw := (bl_alloc _ HB.out).grown hgrow (by have := HB.out.size; simp; omega) (fun k e => (World.ownsRow.lt HO.out k e).1); have HB2 := Lib.hid hbw; have HO2 : Hid (OL w2 w.heap.size v2 (k + 1 + i + 1) (padI n (i + 1))) := Lib.hid (OL.puti hown HX.out (by rw [padI_step n hlt, HQ.out])); clear hbw hown hgrow; obtain ⟨A2, c2, rfl⟩ := HO2.out.len)
          go_roundw
          case rel => exact ⟨i + 1, A2, c2, (t : Int) - 1, by omega, rfl, HS1.out, rfl, HO2, HB2⟩
          case measure => show 100 - (k + 1 + i + 1) < 100 - (k + 1 + i); omega
        · have HI : Hid (i = 8) := Lib.hid (by omega)
          have HF : Hid (ON wr w.heap.size (.slice A (k + 1 + i) c) (padL n)) := Lib.hid (by rw [← padI_full]; have := HO.out.on; rw [HI.out] at this; rw [HI.out]; exact this)
          have hq0 : ¬ (0 ≤ q) := by omega
          go_wp2_with fail
          go_ret2
          exact ⟨_, rfl, HF.out.rn, HB.out⟩
end Go.Proofs.YtaeicjgkoofmpaaDoor
