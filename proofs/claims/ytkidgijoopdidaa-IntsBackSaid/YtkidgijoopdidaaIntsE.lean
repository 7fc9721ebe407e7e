/- Numbers in a number of bits: Fit of the program; Widen and Fit of the reference. -/
import Derived.Test.YtkidgijoopdidaaIntsD
namespace Go.Proofs.Ytkidgijoopdidaa
open Go.RowKit Go.Lib
set_option linter.unusedVariables false

theorem ones_step {x j : Nat} (h : x = 2 ^ j - 1) : 2 * x + 1 = 2 ^ (j + 1) - 1 := by have := pw_pos j; rw [Nat.pow_succ]; omega
theorem ones_bd {x j : Nat} (h : x = 2 ^ j - 1) (hj : j < 64) : x ≤ 9223372036854775807 := by have := pw_le63 (k := j) (by omega); omega
theorem sub_ones {n k : Nat} (h1 : 1 ≤ k) (hk : k ≤ 64) (hn : n < 2 ^ k) (hb : fitB n (k - 1) = false) : -(((2 ^ k - 1 : Nat) : Int) - n) - 1 = wV n k true ∧ ((2 ^ k - 1 : Nat) : Int) - n ≤ 9223372036854775807 ∧ 0 ≤ ((2 ^ k - 1 : Nat) : Int) - n := by
  have hH : 2 ^ k = 2 * 2 ^ (k - 1) := by rw [show k = (k - 1) + 1 by omega, Nat.pow_succ, Nat.mul_comm]; rfl
  have h63 := pw_le63 (k := k - 1) (by omega)
  unfold wV
  rw [Int.toNat_natCast, hb]
  simp only [Bool.true_and, Bool.not_false, if_true]
  unfold fitB at hb
  rw [decide_eq_false_iff_not] at hb
  omega

theorem below2 (n k : Nat) (b : Int) (w : World) (hn : n < 18446744073709551616) (hk : k ≤ 64) (hb : b = k) : Calls Try.prog 44 #[.int .u64 n, .int .i64 b] w fun e w' => e = .returned (.bool (fitB n k)) ∧ w = w' := by
  subst hb; exact below_any n k w hn hk
set_option maxRecDepth 20000 in
set_option maxHeartbeats 2000000 in
theorem rwiden_any (n : Nat) (b : Int) (s : Bool) (w : World) (hn : n < 18446744073709551616) (b0 : -9223372036854775808 ≤ b) (b1 : b ≤ 9223372036854775807) :
    Calls Try.prog 28 #[.int .u64 n, .int .i64 b, .bool s] w fun e w' => e = .returned (.tuple #[.int .i64 (wVal n b s), .int .i64 (wErr n b s)]) ∧ w = w' := by
  by_cases hb : 1 ≤ b ∧ b ≤ 64
  case neg =>
    have hz : wOk n b s = false := by unfold wOk inB; simp; omega
    have HZ := Lib.hid (wErr_no hz); clear hz
    by_cases hb1 : b < 1
    all_goals
      go_enter Try.func28, Try.ntmps28
      go_wp2_with fail
      go_ret2
      exact ⟨ret_two HZ.out.1 HZ.out.2, rfl⟩
  case pos =>
    obtain ⟨h1, h2⟩ := hb
    obtain ⟨k, rfl⟩ : ∃ k : Nat, b = k := ⟨b.toNat, by omega⟩
    have hk : k ≤ 64 := by omega
    have hk1 : 1 ≤ k := by omega
    have hin : inB (k : Int) = true := by unfold inB; simp; omega
    by_cases hf : n < 2 ^ k
    case neg =>
      have hz : wOk n k s = false := by unfold wOk; rw [Int.toNat_natCast, fitB_no hf]; simp
      have HZ := Lib.hid (wErr_no hz); clear hz hin
      have HF := Lib.hid (fitB_no hf); clear hf
      go_enter Try.func28, Try.ntmps28
      go_wp2_with (go_at_call 44; (with_reducible refine (below2 n k _ _ hn hk (by omega)).mono ?_); rintro e w' ⟨rfl, rfl⟩; rw [HF.out])
      go_ret2
      exact ⟨ret_two HZ.out.1 HZ.out.2, rfl⟩
    case pos =>
      have HF := Lib.hid (fitB_yes hf)
      cases hhb : fitB n (k - 1)
      case true =>
        have h63 : n < 9223372036854775808 := by have := pw_le63 (k := k - 1) (by omega); unfold fitB at hhb; rw [decide_eq_true_eq] at hhb; omega
        have hz : wOk n k s = true := by unfold wOk; rw [Int.toNat_natCast, fitB_yes hf, hin]; simp; omega
        have HZ := Lib.hid (wErr_yes (v := n) hz (by unfold wV; rw [Int.toNat_natCast, hhb]; simp)); clear hz hin hf
        have HH := Lib.hid hhb; clear hhb
        go_enter Try.func28, Try.ntmps28
        go_wp2_with (first
          | (go_at_call 44; (with_reducible refine (below2 n k _ _ hn hk (by omega)).mono ?_); rintro e w' ⟨rfl, rfl⟩; rw [HF.out])
          | (go_at_call 44; (with_reducible refine (below2 n (k - 1) _ _ hn (by omega) (by omega)).mono ?_); rintro e w' ⟨rfl, rfl⟩; rw [HH.out]))
        go_ret2
        exact ⟨ret_two HZ.out.1 HZ.out.2, rfl⟩
      case false =>
        cases s
        · by_cases h63 : n < 9223372036854775808
          · have hz : wOk n k false = true := by unfold wOk; rw [Int.toNat_natCast, fitB_yes hf, hin]; simpa using h63
            have HZ := Lib.hid (wErr_yes (v := n) hz (by unfold wV; simp)); clear hz hin hf
            have HH := Lib.hid hhb; clear hhb
            go_enter Try.func28, Try.ntmps28
            go_wp2_with (first
              | (go_at_call 44; (with_reducible refine (below2 n k _ _ hn hk (by omega)).mono ?_); rintro e w' ⟨rfl, rfl⟩; rw [HF.out])
              | (go_at_call 44; (with_reducible refine (below2 n (k - 1) _ _ hn (by omega) (by omega)).mono ?_); rintro e w' ⟨rfl, rfl⟩; rw [HH.out]))
            go_ret2
            exact ⟨ret_two HZ.out.1 HZ.out.2, rfl⟩
          · have hz : wOk n k false = false := by unfold wOk; simp; intro _ _; omega
            have HZ := Lib.hid (wErr_no hz); clear hz hin hf
            have HH := Lib.hid hhb; clear hhb
            go_enter Try.func28, Try.ntmps28
            go_wp2_with (first
              | (go_at_call 44; (with_reducible refine (below2 n k _ _ hn hk (by omega)).mono ?_); rintro e w' ⟨rfl, rfl⟩; rw [HF.out])
              | (go_at_call 44; (with_reducible refine (below2 n (k - 1) _ _ hn (by omega) (by omega)).mono ?_); rintro e w' ⟨rfl, rfl⟩; rw [HH.out]))
            go_ret2
            exact ⟨ret_two HZ.out.1 HZ.out.2, rfl⟩
        · have hz : wOk n k true = true := by unfold wOk; rw [Int.toNat_natCast, fitB_yes hf, hin]; rfl
          have hs := sub_ones hk1 hk hf hhb
          have HZ := Lib.hid (wErr_yes hz hs.1); clear hz hin
          have HH := Lib.hid hhb; clear hhb
          have hs1 := hs.2.1; have hs2 := hs.2.2; clear hs
          have HS := Lib.hid hs1; have HS2 := Lib.hid hs2; clear hs1 hs2 hf
          go_enter Try.func28, Try.ntmps28
          go_wp2_with (first
            | (go_at_call 44; (with_reducible refine (below2 n k _ _ hn hk (by omega)).mono ?_); rintro e w' ⟨rfl, rfl⟩; rw [HF.out])
            | (go_at_call 44; (with_reducible refine (below2 n (k - 1) _ _ hn (by omega) (by omega)).mono ?_); rintro e w' ⟨rfl, rfl⟩; rw [HH.out]))
          go_loop [8, 9] (fun v i => ∃ (x j : Nat), v = .int .u64 x ∧ i = .int .i64 j ∧ j ≤ k ∧ Hid (x = 2 ^ j - 1)) (fun _ i => k - (intOf i).toNat)
          case atStart => exact ⟨0, 0, rfl, rfl, by omega, Lib.hid (by simp)⟩
          case round =>
            obtain ⟨x, j, rfl, rfl, hj, HX⟩ := hrel
            by_cases hlt : j < k
            · have hbd := ones_bd HX.out (by omega)
              go_wp2_with fail
              go_round
              case rel => exact ⟨2 * x + 1, j + 1, by go_num, by go_num, by omega, Lib.hid (ones_step HX.out)⟩
              case measure => simp [intOf]; omega
            · obtain rfl : j = k := by omega
              have g1 : (x : Int) - n ≤ 9223372036854775807 := by have := HS.out; rw [← HX.out] at this; exact this
              have g2 : 0 ≤ (x : Int) - n := by have := HS2.out; rw [← HX.out] at this; exact this
              have HZ1 : Hid (-((x : Int) - n) - 1 = wVal n j true) := Lib.hid (by rw [HX.out]; exact HZ.out.1)
              have HZ2 := Lib.hid HZ.out.2
              clear HZ HX HS HS2
              go_wp2_with fail
              go_ret2
              exact ⟨ret_two HZ1.out HZ2.out, rfl⟩
end Go.Proofs.Ytkidgijoopdidaa
