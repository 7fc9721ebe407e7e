/- The contracts of the small functions over numbers in package ints and in its reference. -/
import Derived.Test.YtkidgijoopdidaaChecked
import Derived.Test.YtkidgijoopdidaaShelf
import Derived.Test.YtkidgijoopdidaaIntsM
import Derived.WalkKit
import Derived.WalkSpells
import Derived.WalkLawsBesides
import Derived.Outline
import Derived.Lib.Hide
namespace Go.Proofs.Ytkidgijoopdidaa
open Go.RowKit Go.Lib
set_option linter.unusedVariables false

theorem ret_bool {a b : Bool} (h : a = b) : Ending.returned (.bool a) = .returned (.bool b) := by rw [h]
theorem ret_int {k : IntKind} {a b : Int} (h : a = b) : Ending.returned (.int k a) = .returned (.int k b) := by rw [h]

def fitB (n k : Nat) : Bool := decide (n < 2 ^ k)
theorem fitB_yes {n k : Nat} (h : n < 2 ^ k) : fitB n k = true := decide_eq_true h
theorem fitB_no {n k : Nat} (h : ¬ n < 2 ^ k) : fitB n k = false := decide_eq_false h
theorem fits_any (n k : Nat) (w : World) (hn : n < 18446744073709551616) (hk : k ≤ 64) : Calls Try.prog 41 #[.int .u64 n, .int .i64 k] w fun e w' => e = .returned (.bool (fitB n k)) ∧ w = w' := by
  go_enter Try.func41, Try.ntmps41
  go_wp2
  go_ret
  refine ⟨ret_bool ?_, rfl⟩
  have h : ((n : Int) / 2 ^ k) = ((n / 2 ^ k : Nat) : Int) := by rw [cast_pw, Int.natCast_ediv]
  rw [h, Bool.eq_iff_iff, beq_iff_eq, fitB, decide_eq_true_eq]
  have hp := pw_pos k
  rw [show (((n / 2 ^ k : Nat) : Int) = 0) ↔ n / 2 ^ k = 0 by omega, Nat.div_eq_zero_iff]
  omega

theorem lowest_any (k : Nat) (w : World) (hk : k ≤ 64) : Calls Try.prog 46 #[.int .i64 k] w fun e w' => e = .returned (.int .u64 ((2 ^ k - 1 : Nat) : Int)) ∧ w = w' := by
  go_enter Try.func46, Try.ntmps46
  go_wp2
  go_ret
  refine ⟨ret_int ?_, rfl⟩
  rw [cast_pw, IntKind.wrap_u64, IntKind.wrap_u64]
  have hp := pw_pos k
  have hq := pw_le64 hk
  omega

theorem counts_yes (k : Int) (w : World) (h0 : 1 ≤ k) (h1 : k ≤ 64) : Calls Try.prog 45 #[.int .i64 k] w fun e w' => e = .returned (.bool true) ∧ w = w' := by
  go_enter Try.func45, Try.ntmps45
  go_wp2
  go_ret
  exact ⟨ret_bool (by simp <;> omega), rfl⟩
theorem counts_no (k : Int) (w : World) (h : k < 1 ∨ 64 < k) : Calls Try.prog 45 #[.int .i64 k] w fun e w' => e = .returned (.bool false) ∧ w = w' := by
  rcases h with h | h
  all_goals
    go_enter Try.func45, Try.ntmps45
    go_wp2
    go_ret
    exact ⟨ret_bool (by simp <;> omega), rfl⟩
theorem field_yes (a m : Int) (w : World) (h0 : 0 ≤ a) (h1 : a < 64) (h2 : 1 ≤ m) (h3 : m ≤ 64 - a) : Calls Try.prog 47 #[.int .i64 a, .int .i64 m] w fun e w' => e = .returned (.bool true) ∧ w = w' := by
  have d1 : decide (1 ≤ m) = true := by simpa using h2
  have d2 : decide (m ≤ 64 - a) = true := by simpa using h3
  have d3 : decide (a < 64) = true := by simpa using h1
  have d4 : decide (0 ≤ a) = true := by simpa using h0
  go_enter Try.func47, Try.ntmps47
  go_wp2
  go_ret
  exact ⟨ret_bool (by simp <;> omega), rfl⟩
theorem field_no (a m : Int) (w : World) (ha : -9223372036854775808 ≤ a) (ha1 : a ≤ 9223372036854775807) (h : a < 0 ∨ 63 < a ∨ m < 1 ∨ 64 - a < m) : Calls Try.prog 47 #[.int .i64 a, .int .i64 m] w fun e w' => e = .returned (.bool false) ∧ w = w' := by
  by_cases c1 : a < 0
  · go_enter Try.func47, Try.ntmps47
    go_wp2
    go_ret
    exact ⟨ret_bool (by simp <;> omega), rfl⟩
  · by_cases c2 : 63 < a
    · have d3 : decide (a < 64) = false := by simp; omega
      go_enter Try.func47, Try.ntmps47
      go_wp2
      go_ret
      exact ⟨ret_bool (by simp <;> omega), rfl⟩
    · by_cases c3 : m < 1
      · have d3 : decide (a < 64) = true := by simp; omega
        have d1 : decide (1 ≤ m) = false := by simp; omega
        go_enter Try.func47, Try.ntmps47
        go_wp2
        go_ret
        exact ⟨ret_bool (by simp <;> omega), rfl⟩
      · have c4 : 64 - a < m := by omega
        have d3 : decide (a < 64) = true := by simp; omega
        have d1 : decide (1 ≤ m) = true := by simp; omega
        have d2 : decide (m ≤ 64 - a) = false := by simp; omega
        go_enter Try.func47, Try.ntmps47
        go_wp2
        go_ret
        exact ⟨ret_bool (by simp <;> omega), rfl⟩

theorem zig_any (n : Int) (w : World) (h0 : -9223372036854775808 ≤ n) (h1 : n ≤ 9223372036854775807) : Calls Try.prog 21 #[.int .i64 n] w fun e w' => e = .returned (.int .u64 (zigI n)) ∧ w = w' := by
  go_enter Try.func21, Try.ntmps21
  go_wp2
  go_ret
  exact ⟨ret_int (zig_bits h0 h1), rfl⟩
theorem zag_any (n : Int) (w : World) (h0 : 0 ≤ n) (h1 : n ≤ 18446744073709551615) : Calls Try.prog 23 #[.int .u64 n] w fun e w' => e = .returned (.int .i64 (zagI n)) ∧ w = w' := by
  go_enter Try.func23, Try.ntmps23
  go_wp2
  go_ret
  exact ⟨ret_int (zag_bits h0 h1), rfl⟩
theorem rzig_any (n : Int) (w : World) (h0 : -9223372036854775808 ≤ n) (h1 : n ≤ 9223372036854775807) : Calls Try.prog 22 #[.int .i64 n] w fun e w' => e = .returned (.int .u64 (zigI n)) ∧ w = w' := by
  by_cases h : n < 0
  all_goals
    go_enter Try.func22, Try.ntmps22
    go_wp2
    go_ret
    exact ⟨ret_int (by unfold zigI; split <;> omega), rfl⟩
theorem rzag_any (n : Int) (w : World) (h0 : 0 ≤ n) (h1 : n ≤ 18446744073709551615) : Calls Try.prog 24 #[.int .u64 n] w fun e w' => e = .returned (.int .i64 (zagI n)) ∧ w = w' := by
  by_cases h : n % 2 = 1
  all_goals
    go_enter Try.func24, Try.ntmps24
    go_wp2
    go_ret
    exact ⟨ret_int (by unfold zagI; split <;> omega), rfl⟩
end Go.Proofs.Ytkidgijoopdidaa
