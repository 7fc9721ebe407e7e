/- Numbers in a number of bits: Widen and Fit, of the program and of its reference. -/
import Derived.Test.YtkidgijoopdidaaIntsA
namespace Go.Proofs.Ytkidgijoopdidaa
open Go.RowKit Go.Lib
set_option linter.unusedVariables false

theorem half_pow (n k : Nat) : n / 2 ^ k / 2 = n / 2 ^ (k + 1) := by rw [Nat.pow_succ, Nat.div_div_eq_div_mul]
theorem fitB_div (n k : Nat) : ((((n / 2 ^ k : Nat) : Int)) == 0) = fitB n k := by
  rw [Bool.eq_iff_iff, beq_iff_eq, fitB, decide_eq_true_eq]
  have hp := pw_pos k
  rw [show (((n / 2 ^ k : Nat) : Int) = 0) ↔ n / 2 ^ k = 0 by omega, Nat.div_eq_zero_iff]
  omega
set_option maxHeartbeats 400000 in
theorem below_any (n k : Nat) (w : World) (hn : n < 18446744073709551616) (hk : k ≤ 64) : Calls Try.prog 44 #[.int .u64 n, .int .i64 k] w fun e w' => e = .returned (.bool (fitB n k)) ∧ w = w' := by
  go_enter Try.func44, Try.ntmps44
  go_wp2
  go_loop [0, 5] (fun v i => ∃ (x j : Nat), v = .int .u64 x ∧ i = .int .i64 j ∧ j ≤ k ∧ x < 18446744073709551616 ∧ Hid (x = n / 2 ^ j)) (fun _ i => k - (intOf i).toNat)
  case atStart => exact ⟨n, 0, rfl, rfl, by omega, hn, Lib.hid (by simp)⟩
  case round =>
    obtain ⟨x, j, rfl, rfl, hj, hx, HX⟩ := hrel
    by_cases hlt : j < k
    · go_wp2_with fail
      go_round
      case rel => exact ⟨x / 2, j + 1, by go_num, by go_num, by omega, by omega, Lib.hid (by rw [HX.out, half_pow])⟩
      case measure => simp [intOf]; omega
    · obtain rfl : j = k := by omega
      have HB : Hid (((x : Int) == 0) = fitB n j) := Lib.hid (by rw [HX.out]; exact fitB_div n j)
      clear HX
      go_wp2_with fail
      go_ret
      exact ⟨ret_bool HB.out, rfl⟩

/-! ### what is returned -/
def inB (b : Int) : Bool := decide (1 ≤ b) && decide (b ≤ 64)
def wOk (n : Nat) (b : Int) (s : Bool) : Bool := inB b && fitB n b.toNat && (s || decide (n < 9223372036854775808))
def wV (n : Nat) (b : Int) (s : Bool) : Int := if (s && !fitB n (b.toNat - 1)) = true then (n : Int) - ((2 ^ b.toNat : Nat) : Int) else n
def wVal (n : Nat) (b : Int) (s : Bool) : Int := if wOk n b s = true then wV n b s else 0
def wErr (n : Nat) (b : Int) (s : Bool) : Int := if wOk n b s = true then 0 else 7
theorem ret_two {v v' : Int} {k : IntKind} {e e' : Int} (h : v = v') (h' : e = e') : Ending.returned (.tuple #[.int k v, .int .i64 e]) = .returned (.tuple #[.int k v', .int .i64 e']) := by rw [h, h']
theorem wErr_no {n : Nat} {b : Int} {s : Bool} (h : wOk n b s = false) : (0 : Int) = wVal n b s ∧ (7 : Int) = wErr n b s := by unfold wVal wErr; rw [h]; exact ⟨rfl, rfl⟩
theorem wErr_yes {n : Nat} {b : Int} {s : Bool} {v : Int} (h : wOk n b s = true) (hv : v = wV n b s) : v = wVal n b s ∧ (0 : Int) = wErr n b s := by unfold wVal wErr; rw [h]; exact ⟨hv, rfl⟩

theorem up_down {n k : Nat} (h1 : 1 ≤ k) (hk : k ≤ 64) (hn : n < 2 ^ k) : wrap64 (IntKind.u64.wrap ((n : Int) * 2 ^ (64 - k))) / 2 ^ (64 - k) = wV n k true := by
  have hq := pw64 hk
  have hH : 2 ^ k = 2 * 2 ^ (k - 1) := by rw [show k = (k - 1) + 1 by omega, Nat.pow_succ, Nat.mul_comm]; rfl
  unfold wV
  rw [cast_pw, Int.toNat_natCast, Bool.true_and]
  have hp := pw_pos (64 - k)
  have hf : fitB n (k - 1) = decide (n < 2 ^ (k - 1)) := rfl
  rw [hf]
  generalize 2 ^ (k - 1) = H at *
  generalize 2 ^ (64 - k) = A at *
  rw [hH] at hq hn ⊢
  have hHA : H * A = 9223372036854775808 := by have : 2 * H * A = 2 * (H * A) := Nat.mul_assoc 2 H A; omega
  have hHA' : (H : Int) * A = 9223372036854775808 := by rw [← Int.natCast_mul, hHA]; rfl
  have hna : (n : Int) * A < 18446744073709551616 := by
    have : n * A < 2 * H * A := Nat.mul_lt_mul_of_pos_right hn (by omega)
    rw [hq] at this
    have e : ((n * A : Nat) : Int) = (n : Int) * A := Int.natCast_mul n A
    omega
  have hna0 : 0 ≤ (n : Int) * A := Int.mul_nonneg (by omega) (by omega)
  rw [IntKind.wrap_u64, Int.emod_eq_of_lt hna0 hna]
  by_cases h : n < H
  · have : (n : Int) * A < H * A := Int.mul_lt_mul_of_pos_right (by omega) (by omega)
    rw [if_neg (by simp [h])]
    have e : wrap64 ((n : Int) * A) = n * A := by unfold wrap64; omega
    rw [e, Int.mul_ediv_cancel _ (by omega)]
  · have : (H : Int) * A ≤ n * A := Int.mul_le_mul_of_nonneg_right (by omega) (by omega)
    rw [if_pos (by simp [h])]
    have e : wrap64 ((n : Int) * A) = (n - ((2 * H : Nat) : Int)) * A := by
      rw [Int.sub_mul, Int.natCast_mul, Int.mul_assoc, hHA']; unfold wrap64; omega
    rw [e, Int.mul_ediv_cancel _ (by omega)]

set_option maxHeartbeats 1000000 in
theorem widen_any (n : Nat) (b : Int) (s : Bool) (w : World) (hn : n < 18446744073709551616) (b0 : -9223372036854775808 ≤ b) (b1 : b ≤ 9223372036854775807) :
    Calls Try.prog 27 #[.int .u64 n, .int .i64 b, .bool s] w fun e w' => e = .returned (.tuple #[.int .i64 (wVal n b s), .int .i64 (wErr n b s)]) ∧ w = w' := by
  by_cases hb : 1 ≤ b ∧ b ≤ 64
  case neg =>
    have hz : wOk n b s = false := by unfold wOk inB; simp; omega
    have HZ := Lib.hid (wErr_no hz); clear hz
    go_enter Try.func27, Try.ntmps27
    go_wp2_with (go_at_call 45; (with_reducible refine (counts_no b _ (by omega)).mono ?_); rintro e w' ⟨rfl, rfl⟩)
    go_ret2
    exact ⟨ret_two HZ.out.1 HZ.out.2, rfl⟩
  case pos =>
    obtain ⟨h1, h2⟩ := hb
    obtain ⟨k, rfl⟩ : ∃ k : Nat, b = k := ⟨b.toNat, by omega⟩
    have hk : k ≤ 64 := by omega
    have hin : inB (k : Int) = true := by unfold inB; simp; omega
    by_cases hf : n < 2 ^ k
    case neg =>
      have hz : wOk n k s = false := by unfold wOk; rw [Int.toNat_natCast, fitB_no hf]; simp
      have HZ := Lib.hid (wErr_no hz); clear hz hin
      have HF := Lib.hid (fitB_no hf); clear hf
      go_enter Try.func27, Try.ntmps27
      go_wp2_with (first
        | (go_at_call 45; (with_reducible refine (counts_yes _ _ (by omega) (by omega)).mono ?_); rintro e w' ⟨rfl, rfl⟩)
        | (go_at_call 41; (with_reducible refine (fits_any n k _ hn hk).mono ?_); rintro e w' ⟨rfl, rfl⟩; rw [HF.out]))
      go_ret2
      exact ⟨ret_two HZ.out.1 HZ.out.2, rfl⟩
    case pos =>
      have HF := Lib.hid (fitB_yes hf)
      cases s
      · by_cases h63 : n < 9223372036854775808
        · have hz : wOk n k false = true := by unfold wOk; rw [Int.toNat_natCast, fitB_yes hf, hin]; simpa using h63
          have HZ := Lib.hid (wErr_yes (v := n) hz (by unfold wV; simp)); clear hz hin hf
          go_enter Try.func27, Try.ntmps27
          go_wp2_with (first
            | (go_at_call 45; (with_reducible refine (counts_yes _ _ (by omega) (by omega)).mono ?_); rintro e w' ⟨rfl, rfl⟩)
            | (go_at_call 41; (with_reducible refine (fits_any n k _ hn hk).mono ?_); rintro e w' ⟨rfl, rfl⟩; rw [HF.out]))
          go_ret2
          exact ⟨ret_two HZ.out.1 HZ.out.2, rfl⟩
        · have hz : wOk n k false = false := by unfold wOk; simp; intro _ _; omega
          have HZ := Lib.hid (wErr_no hz); clear hz hin hf
          go_enter Try.func27, Try.ntmps27
          go_wp2_with (first
            | (go_at_call 45; (with_reducible refine (counts_yes _ _ (by omega) (by omega)).mono ?_); rintro e w' ⟨rfl, rfl⟩)
            | (go_at_call 41; (with_reducible refine (fits_any n k _ hn hk).mono ?_); rintro e w' ⟨rfl, rfl⟩; rw [HF.out]))
          go_ret2
          exact ⟨ret_two HZ.out.1 HZ.out.2, rfl⟩
      · have hz : wOk n k true = true := by unfold wOk; rw [Int.toNat_natCast, fitB_yes hf, hin]; rfl
        have HZ := Lib.hid (wErr_yes hz (up_down (by omega) hk hf)); clear hz hin hf
        go_enter Try.func27, Try.ntmps27
        go_wp2_with (first
          | (go_at_call 45; (with_reducible refine (counts_yes _ _ (by omega) (by omega)).mono ?_); rintro e w' ⟨rfl, rfl⟩)
          | (go_at_call 41; (with_reducible refine (fits_any n k _ hn hk).mono ?_); rintro e w' ⟨rfl, rfl⟩; rw [HF.out]))
        go_ret2
        go_goals
        exact ⟨ret_two HZ.out.1 HZ.out.2, rfl⟩
end Go.Proofs.Ytkidgijoopdidaa
