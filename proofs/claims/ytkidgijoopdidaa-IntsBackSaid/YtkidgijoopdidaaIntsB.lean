/- Saturating sums, products and shifts, of the program and of its reference. -/
import Derived.Test.YtkidgijoopdidaaIntsA
namespace Go.Proofs.Ytkidgijoopdidaa
open Go.RowKit Go.Lib
set_option linter.unusedVariables false

theorem sum_any (a b : Int) (w : World) (a0 : -9223372036854775808 ≤ a) (a1 : a ≤ 9223372036854775807) (b0 : -9223372036854775808 ≤ b) (b1 : b ≤ 9223372036854775807) :
    Calls Try.prog 48 #[.int .i64 a, .int .i64 b, .int .i64 (-9223372036854775808), .int .i64 9223372036854775807] w fun e w' => e = .returned (.int .i64 (sat (a + b))) ∧ w = w' := by
  by_cases hb : 0 < b
  · by_cases h : 9223372036854775807 - b < a
    all_goals
      go_enter Try.func48, Try.ntmps48
      go_wp2
      go_ret
      exact ⟨ret_int (by unfold sat; split <;> (try split) <;> omega), rfl⟩
  · by_cases hc : b < 0
    · by_cases h : a < -9223372036854775808 - b
      all_goals
        go_enter Try.func48, Try.ntmps48
        go_wp2
        go_ret
        exact ⟨ret_int (by unfold sat; split <;> (try split) <;> omega), rfl⟩
    · obtain rfl : b = 0 := by omega
      go_enter Try.func48, Try.ntmps48
      go_wp2
      go_ret
      exact ⟨ret_int (by unfold sat; split <;> (try split) <;> omega), rfl⟩
theorem add_any (a b : Int) (w : World) (a0 : -9223372036854775808 ≤ a) (a1 : a ≤ 9223372036854775807) (b0 : -9223372036854775808 ≤ b) (b1 : b ≤ 9223372036854775807) :
    Calls Try.prog 35 #[.int .i64 a, .int .i64 b] w fun e w' => e = .returned (.int .i64 (sat (a + b))) ∧ w = w' := by
  go_enter Try.func35, Try.ntmps35
  go_wp2_with (go_at_call 48; (with_reducible refine (sum_any a b _ a0 a1 b0 b1).mono ?_); rintro e w' ⟨rfl, rfl⟩)
  go_ret
  exact ⟨rfl, rfl⟩
theorem radd_any (a b : Int) (w : World) (a0 : -9223372036854775808 ≤ a) (a1 : a ≤ 9223372036854775807) (b0 : -9223372036854775808 ≤ b) (b1 : b ≤ 9223372036854775807) :
    Calls Try.prog 36 #[.int .i64 a, .int .i64 b] w fun e w' => e = .returned (.int .i64 (sat (a + b))) ∧ w = w' := by
  by_cases hb : 0 < b
  · by_cases h : 9223372036854775807 - b < a
    all_goals
      go_enter Try.func36, Try.ntmps36
      go_wp2
      go_ret
      exact ⟨ret_int (by unfold sat; split <;> (try split) <;> omega), rfl⟩
  · by_cases hc : b < 0
    · by_cases h : a < -9223372036854775808 - b
      all_goals
        go_enter Try.func36, Try.ntmps36
        go_wp2
        go_ret
        exact ⟨ret_int (by unfold sat; split <;> (try split) <;> omega), rfl⟩
    · obtain rfl : b = 0 := by omega
      go_enter Try.func36, Try.ntmps36
      go_wp2
      go_ret
      exact ⟨ret_int (by unfold sat; split <;> (try split) <;> omega), rfl⟩

/-- The size of a number. -/
def mag (a : Int) : Int := if a < 0 then -a else a
theorem mag_bd {a : Int} (a0 : -9223372036854775808 ≤ a) (a1 : a ≤ 9223372036854775807) : 0 ≤ mag a ∧ mag a ≤ 9223372036854775808 := by unfold mag; split <;> omega
theorem mag_any (a : Int) (w : World) (a0 : -9223372036854775808 ≤ a) (a1 : a ≤ 9223372036854775807) : Calls Try.prog 50 #[.int .i64 a] w fun e w' => e = .returned (.int .u64 (mag a)) ∧ w = w' := by
  by_cases h : a < 0
  all_goals
    go_enter Try.func50, Try.ntmps50
    go_wp2
    go_ret
    exact ⟨ret_int (by unfold mag; first | (rw [IntKind.wrap_u64]; unfold wrap64; split <;> omega) | (split <;> omega)), rfl⟩
theorem size_any (a : Int) (w : World) (a0 : -9223372036854775808 ≤ a) (a1 : a ≤ 9223372036854775807) : Calls Try.prog 52 #[.int .i64 a] w fun e w' => e = .returned (.int .u64 (mag a)) ∧ w = w' := by
  by_cases h : a < 0
  all_goals
    go_enter Try.func52, Try.ntmps52
    go_wp2
    go_ret
    exact ⟨ret_int (by unfold mag; split <;> omega), rfl⟩
theorem sign_any (n : Int) (b : Bool) (w : World) (n0 : 0 ≤ n) (n1 : n ≤ 18446744073709551615) : Calls Try.prog 51 #[.int .u64 n, .bool b] w fun e w' => e = .returned (.int .i64 (sat (if b then -n else n))) ∧ w = w' := by
  by_cases h : 9223372036854775807 < n
  all_goals
    cases b
    all_goals
      go_enter Try.func51, Try.ntmps51
      go_wp2
      go_ret
      exact ⟨ret_int (by first | exact (sat_in (by omega) (by omega)).symm | exact (sat_hi (by omega)).symm | exact (sat_lo (by omega)).symm | (simp; first | exact (sat_in (by omega) (by omega)).symm | exact (sat_hi (by omega)).symm | exact (sat_lo (by omega)).symm)), rfl⟩

theorem mul_mag (a b : Int) : a * b = if (decide (a < 0) != decide (b < 0)) = true then -(mag a * mag b) else mag a * mag b := by
  unfold mag
  by_cases ha : a < 0 <;> by_cases hb : b < 0 <;> simp [ha, hb, Int.neg_mul, Int.mul_neg]
theorem mul64_any (x y P : Int) (w : World) (h0 : 0 ≤ x) (h1 : x < 18446744073709551616) (h2 : 0 ≤ y) (h3 : y < 18446744073709551616) (hP : x * y = P) :
    Calls Try.prog 49 #[.int .u64 x, .int .u64 y] w fun e w' => e = .returned (.tuple #[.int .u64 (P / 18446744073709551616), .int .u64 (P % 18446744073709551616)]) ∧ w = w' := by
  obtain ⟨X, rfl⟩ := Int.eq_ofNat_of_zero_le h0
  obtain ⟨Y, rfl⟩ := Int.eq_ofNat_of_zero_le h2
  refine (Try.bits_Mul64 X Y (by omega) (by omega) w).mono fun e w' ⟨he, hw⟩ => ⟨?_, hw.symm⟩
  rw [he, ← hP, ← Int.natCast_mul, Int.natCast_ediv, Int.natCast_emod]; rfl

set_option maxHeartbeats 1600000 in
theorem mul_any (a b : Int) (w : World) (a0 : -9223372036854775808 ≤ a) (a1 : a ≤ 9223372036854775807) (b0 : -9223372036854775808 ≤ b) (b1 : b ≤ 9223372036854775807) :
    Calls Try.prog 37 #[.int .i64 a, .int .i64 b] w fun e w' => e = .returned (.int .i64 (sat (a * b))) ∧ w = w' := by
  obtain ⟨ma0, ma1⟩ := mag_bd a0 a1
  obtain ⟨mb0, mb1⟩ := mag_bd b0 b1
  have hp0 : 0 ≤ mag a * mag b := Int.mul_nonneg ma0 mb0
  have hm := mul_mag a b
  obtain ⟨P, hP⟩ : ∃ P, mag a * mag b = P := ⟨_, rfl⟩
  rw [hP] at hp0 hm
  obtain ⟨R, hR⟩ : ∃ R, a * b = R := ⟨_, rfl⟩
  rw [hR] at hm ⊢
  have HP := Lib.hid hP; have HR := Lib.hid hm; clear hP hR hm
  by_cases hb : P < 18446744073709551616
  · have q0 : P / 18446744073709551616 = 0 := by omega
    have q1 : P % 18446744073709551616 = P := by omega
    have Q0 := Lib.hid q0; have Q1 := Lib.hid q1; clear q0 q1
    by_cases c1 : a < 0 <;> by_cases c2 : b < 0
    all_goals
      go_enter Try.func37, Try.ntmps37
      go_wp2_with (first
        | (go_at_call 50; (with_reducible refine (mag_any a _ a0 a1).mono ?_); rintro e w' ⟨rfl, rfl⟩)
        | (go_at_call 50; (with_reducible refine (mag_any b _ b0 b1).mono ?_); rintro e w' ⟨rfl, rfl⟩)
        | (go_at_call 49; (with_reducible refine (mul64_any _ _ P _ (by omega) (by omega) (by omega) (by omega) HP.out).mono ?_); rintro e w' ⟨rfl, rfl⟩; rw [Q0.out, Q1.out])
        | (go_at_call 51; (with_reducible refine (sign_any P _ _ (by omega) (by omega)).mono ?_); rintro e w' ⟨rfl, rfl⟩))
      go_ret
      exact ⟨ret_int (by rw [HR.out]; by_cases x : a < 0 <;> by_cases y : b < 0 <;> first | (exfalso; omega) | simp [x, y]), rfl⟩
  · have q0 : 1 ≤ P / 18446744073709551616 := by omega
    have q2 : P / 18446744073709551616 < 18446744073709551616 := by
      have : mag a * mag b ≤ 9223372036854775808 * 9223372036854775808 := Int.mul_le_mul ma1 mb1 mb0 (by omega)
      rw [HP.out] at this; omega
    have q3 : 0 ≤ P % 18446744073709551616 := by omega
    have q4 : P % 18446744073709551616 < 18446744073709551616 := by omega
    obtain ⟨H, hH⟩ : ∃ H, P / 18446744073709551616 = H := ⟨_, rfl⟩
    obtain ⟨L, hL⟩ : ∃ L, P % 18446744073709551616 = L := ⟨_, rfl⟩
    rw [hH] at q0 q2; rw [hL] at q3 q4
    have Q0 := Lib.hid hH; have Q1 := Lib.hid hL; clear hH hL
    by_cases c1 : a < 0 <;> by_cases c2 : b < 0
    all_goals
      go_enter Try.func37, Try.ntmps37
      go_wp2_with (first
        | (go_at_call 50; (with_reducible refine (mag_any a _ a0 a1).mono ?_); rintro e w' ⟨rfl, rfl⟩)
        | (go_at_call 50; (with_reducible refine (mag_any b _ b0 b1).mono ?_); rintro e w' ⟨rfl, rfl⟩)
        | (go_at_call 49; (with_reducible refine (mul64_any _ _ P _ (by omega) (by omega) (by omega) (by omega) HP.out).mono ?_); rintro e w' ⟨rfl, rfl⟩; rw [Q0.out, Q1.out])
        | (go_at_call 51; (with_reducible refine (sign_any 18446744073709551615 _ _ (by omega) (by omega)).mono ?_); rintro e w' ⟨rfl, rfl⟩))
      go_ret
      exact ⟨ret_int (by rw [HR.out]; by_cases x : a < 0 <;> by_cases y : b < 0 <;> first | (exfalso; omega) | (simp [x, y]; first | (rw [sat_lo (by omega), sat_lo (by omega)]) | (rw [sat_hi (by omega), sat_hi (by omega)]))), rfl⟩

set_option maxHeartbeats 1600000 in
theorem rmul_any (a b : Int) (w : World) (a0 : -9223372036854775808 ≤ a) (a1 : a ≤ 9223372036854775807) (b0 : -9223372036854775808 ≤ b) (b1 : b ≤ 9223372036854775807) :
    Calls Try.prog 38 #[.int .i64 a, .int .i64 b] w fun e w' => e = .returned (.int .i64 (sat (a * b))) ∧ w = w' := by
  by_cases hz : a = 0
  · obtain rfl := hz
    go_enter Try.func38, Try.ntmps38
    go_wp2
    go_ret
    exact ⟨ret_int (by rw [Int.zero_mul]; rfl), rfl⟩
  by_cases hz2 : b = 0
  · obtain rfl := hz2
    go_enter Try.func38, Try.ntmps38
    go_wp2
    go_ret
    exact ⟨ret_int (by rw [Int.mul_zero]; rfl), rfl⟩
  obtain ⟨ma0, ma1⟩ := mag_bd a0 a1
  obtain ⟨mb0, mb1⟩ := mag_bd b0 b1
  have mb2 : 1 ≤ mag b := by unfold mag; split <;> omega
  have hp0 : 0 ≤ mag a * mag b := Int.mul_nonneg ma0 mb0
  have hm := mul_mag a b
  have l1 : 9223372036854775807 / mag b < mag a ↔ 9223372036854775807 < mag a * mag b := Int.ediv_lt_iff_lt_mul (by omega)
  have l2 : 9223372036854775808 / mag b < mag a ↔ 9223372036854775808 < mag a * mag b := Int.ediv_lt_iff_lt_mul (by omega)
  obtain ⟨P, hP⟩ : ∃ P, mag a * mag b = P := ⟨_, rfl⟩
  rw [hP] at hp0 hm l1 l2
  have HM := Lib.hid hm; clear hm
  have HP := Lib.hid hP; clear hP
  have e1 : (a == 0) = false := by simpa using hz
  have e2 : (b == 0) = false := by simpa using hz2
  by_cases c1 : a < 0 <;> by_cases c2 : b < 0
  all_goals
    by_cases hb : -9223372036854775808 ≤ a * b ∧ a * b ≤ 9223372036854775807
    · obtain ⟨g1, g2⟩ := hb
      have n1 : ((decide (a < 0) != decide (b < 0)) = true → ¬ 9223372036854775808 / mag b < mag a) := by
        intro h; rw [l2]; have := HM.out; rw [if_pos h] at this; omega
      have n2 : ((decide (a < 0) != decide (b < 0)) = false → ¬ 9223372036854775807 / mag b < mag a) := by
        intro h; rw [l1]; have := HM.out; rw [if_neg (by simp [h])] at this; omega
      simp [c1, c2] at n1 n2
      clear l1 l2 hz hz2
      go_enter Try.func38, Try.ntmps38
      go_wp2_with (first
        | (go_at_call 52; (with_reducible refine (size_any a _ a0 a1).mono ?_); rintro e w' ⟨rfl, rfl⟩)
        | (go_at_call 52; (with_reducible refine (size_any b _ b0 b1).mono ?_); rintro e w' ⟨rfl, rfl⟩))
      go_ret
      exact ⟨ret_int (sat_in g1 g2).symm, rfl⟩
    · have n1 : ((decide (a < 0) != decide (b < 0)) = true → 9223372036854775808 / mag b < mag a ∧ sat (a * b) = -9223372036854775808) := by
        intro h; rw [l2]; have := HM.out; rw [if_pos h] at this; exact ⟨by omega, sat_lo (by omega)⟩
      have n2 : ((decide (a < 0) != decide (b < 0)) = false → 9223372036854775807 / mag b < mag a ∧ sat (a * b) = 9223372036854775807) := by
        intro h; rw [l1]; have := HM.out; rw [if_neg (by simp [h])] at this; exact ⟨by omega, sat_hi (by omega)⟩
      simp only [c1, c2, decide_true, decide_false, bne_self_eq_false, Bool.false_eq_true, false_implies, forall_const, reduceCtorEq, Bool.bne_false, Bool.bne_true, Bool.not_false] at n1 n2
      clear l1 l2 hz hz2 hb
      first
        | (obtain ⟨n3, n4⟩ := n1; have N4 := Lib.hid n4; clear n4)
        | (obtain ⟨n3, n4⟩ := n2; have N4 := Lib.hid n4; clear n4)
      go_enter Try.func38, Try.ntmps38
      go_wp2_with (first
        | (go_at_call 52; (with_reducible refine (size_any a _ a0 a1).mono ?_); rintro e w' ⟨rfl, rfl⟩)
        | (go_at_call 52; (with_reducible refine (size_any b _ b0 b1).mono ?_); rintro e w' ⟨rfl, rfl⟩))
      go_ret
      exact ⟨ret_int N4.out.symm, rfl⟩
end Go.Proofs.Ytkidgijoopdidaa
