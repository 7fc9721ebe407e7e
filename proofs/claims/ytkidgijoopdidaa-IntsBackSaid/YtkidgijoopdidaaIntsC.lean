/- Shifts, saturating, of the program and of its reference. -/
import Derived.Test.YtkidgijoopdidaaIntsB
namespace Go.Proofs.Ytkidgijoopdidaa
open Go.RowKit Go.Lib
set_option linter.unusedVariables false

theorem shr_big {a : Int} {m : Nat} (h0 : -9223372036854775808 ≤ a) (h1 : a ≤ 9223372036854775807) (hm : 63 ≤ m) (m' : Nat) (hm' : 63 ≤ m') : a / ((2 ^ m : Nat) : Int) = a / ((2 ^ m' : Nat) : Int) := by
  rw [div_pow_big h0 h1 hm, div_pow_big h0 h1 hm']
theorem satShift_neg {a : Int} {m : Nat} (h : 0 < m) : satShift a (-(m : Int)) = a / 2 ^ m := by
  unfold satShift; rw [if_pos (by omega), show (-(-(m : Int))).toNat = m by omega, cast_pw]
theorem satShift_far {a k : Int} (h0 : -9223372036854775808 ≤ a) (h1 : a ≤ 9223372036854775807) (k0 : -9223372036854775808 ≤ k) (hk : k ≤ -64) :
    satShift a k = a / 2 ^ min (IntKind.u64.wrap (wrap64 (-k))).toNat 64 := by
  unfold satShift; rw [if_pos (by omega), cast_pw, IntKind.wrap_u64]
  exact shr_big h0 h1 (by omega) _ (by unfold wrap64; omega)
theorem satShift_64 {a : Int} {k : Int} (h0 : -9223372036854775808 ≤ a) (h1 : a ≤ 9223372036854775807) (hk : 64 ≤ k) : satShift a k = satShift a (64 : Nat) := by
  rw [satShift_up]
  unfold satShift; rw [if_neg (by omega)]
  have hp : 2 ^ 64 ≤ 2 ^ k.toNat := pw_le (by omega)
  generalize 2 ^ k.toNat = P at *
  have e : (((2 ^ 64 : Nat) : Int)) = 18446744073709551616 := rfl
  rw [e]
  rcases Int.lt_trichotomy a 0 with h | h | h
  · have : a * (P : Int) ≤ a * 18446744073709551616 := Int.mul_le_mul_of_nonpos_left (by omega) (by omega)
    rw [sat_lo (by omega), sat_lo (by omega)]
  · subst h; simp
  · have : a * 18446744073709551616 ≤ a * (P : Int) := Int.mul_le_mul_of_nonneg_left (by omega) (by omega)
    rw [sat_hi (by omega), sat_hi (by omega)]
theorem shift_yes {a : Int} {m : Nat} (hm : m ≤ 64) (h0 : -9223372036854775808 ≤ a) (h1 : a ≤ 9223372036854775807) (h : (wrap64 (a * 2 ^ m) / 2 ^ m == a) = true) : wrap64 (a * 2 ^ m) = satShift a m := by
  rw [beq_iff_eq, cast_pw, up_back hm h0 h1] at h
  rw [cast_pw, satShift_up, sat_in h.1 h.2]
  unfold wrap64; omega
theorem shift_no {a : Int} {m : Nat} (hm : m ≤ 64) (h0 : -9223372036854775808 ≤ a) (h1 : a ≤ 9223372036854775807) (h : (wrap64 (a * 2 ^ m) / 2 ^ m == a) = false) : satShift a m = if a < 0 then -9223372036854775808 else 9223372036854775807 := by
  rw [beq_eq_false_iff_ne, ne_eq, cast_pw, up_back hm h0 h1] at h
  rw [satShift_up]
  have hp := pw_pos m
  generalize 2 ^ m = P at *
  split
  · have : a * (P : Int) ≤ a * 1 := Int.mul_le_mul_of_nonpos_left (by omega) (by omega)
    rw [sat_lo (by omega)]
  · have : a * 1 ≤ a * (P : Int) := Int.mul_le_mul_of_nonneg_left (by omega) (by omega)
    rw [sat_hi (by omega)]

set_option maxHeartbeats 1600000 in
theorem shift_any (a k : Int) (w : World) (a0 : -9223372036854775808 ≤ a) (a1 : a ≤ 9223372036854775807) (k0 : -9223372036854775808 ≤ k) (k1 : k ≤ 9223372036854775807) :
    Calls Try.prog 39 #[.int .i64 a, .int .i64 k] w fun e w' => e = .returned (.int .i64 (satShift a k)) ∧ w = w' := by
  by_cases hk : k < 0
  · by_cases hm : -64 < k
    · obtain ⟨m, hm⟩ : ∃ m : Nat, -k = m := ⟨(-k).toNat, by omega⟩
      obtain rfl : k = -(m : Int) := by omega
      go_enter Try.func39, Try.ntmps39
      go_wp2
      go_ret
      exact ⟨ret_int (satShift_neg (by omega)).symm, rfl⟩
    · go_enter Try.func39, Try.ntmps39
      go_wp2
      go_ret
      exact ⟨ret_int (satShift_far a0 a1 k0 (by omega)).symm, rfl⟩
  · by_cases hm : k ≤ 64
    · obtain ⟨m, rfl⟩ : ∃ m : Nat, k = m := ⟨k.toNat, by omega⟩
      have hm' : m ≤ 64 := by omega
      go_enter Try.func39, Try.ntmps39
      go_wp2_with (go_at_call 51; (with_reducible refine (sign_any _ _ _ (by omega) (by omega)).mono ?_); rintro e w' ⟨rfl, rfl⟩)
      all_goals go_ret
      · exact ⟨ret_int (shift_yes hm' a0 a1 (by assumption)), rfl⟩
      · exact ⟨ret_int (by rw [shift_no hm' a0 a1 (by assumption), if_pos (by assumption)]; rfl), rfl⟩
      · exact ⟨ret_int (by rw [shift_no hm' a0 a1 (by assumption), if_neg (by omega)]; rfl), rfl⟩
    · have hm' : min k.toNat 64 = 64 := by omega
      have H64 := Lib.hid hm'; clear hm'
      go_enter Try.func39, Try.ntmps39
      go_wp2_with (go_at_call 51; (with_reducible refine (sign_any _ _ _ (by omega) (by omega)).mono ?_); rintro e w' ⟨rfl, rfl⟩)
      all_goals go_ret
      · have h : (wrap64 (a * 2 ^ min k.toNat 64) / 2 ^ min k.toNat 64 == a) = true := by assumption
        rw [H64.out] at h ⊢
        exact ⟨ret_int (by rw [satShift_64 a0 a1 (by omega)]; exact shift_yes (Nat.le_refl _) a0 a1 h), rfl⟩
      · have h : (wrap64 (a * 2 ^ min k.toNat 64) / 2 ^ min k.toNat 64 == a) = false := by assumption
        rw [H64.out] at h
        exact ⟨ret_int (by rw [satShift_64 a0 a1 (by omega), shift_no (Nat.le_refl _) a0 a1 h, if_pos (by assumption)]; rfl), rfl⟩
      · have h : (wrap64 (a * 2 ^ min k.toNat 64) / 2 ^ min k.toNat 64 == a) = false := by assumption
        rw [H64.out] at h
        exact ⟨ret_int (by rw [satShift_64 a0 a1 (by omega), shift_no (Nat.le_refl _) a0 a1 h, if_neg (by omega)]; rfl), rfl⟩

theorem up_step {a x : Int} {m j : Nat} (hj : 0 < j) (h : sat (x * ((2 ^ j : Nat) : Int)) = satShift a m) : sat (sat (x * 2) * ((2 ^ (j - 1) : Nat) : Int)) = satShift a m := by
  rw [sat_mul_nat _ _ (pw_pos _), ← h, Int.mul_assoc]
  have : 2 ^ j = 2 * 2 ^ (j - 1) := by rw [show j = (j - 1) + 1 by omega, Nat.pow_succ, Nat.mul_comm]; rfl
  rw [this, Int.natCast_mul]; rfl
theorem up_end {a x : Int} {m j : Nat} (x0 : -9223372036854775808 ≤ x) (x1 : x ≤ 9223372036854775807) (he : ¬ 0 < j ∨ x = 0 ∨ x = 9223372036854775807 ∨ x = -9223372036854775808) (h : sat (x * ((2 ^ j : Nat) : Int)) = satShift a m) : x = satShift a m := by
  rw [← h]
  have hp := pw_pos j
  rcases he with he | he | he | he
  · obtain rfl : j = 0 := by omega
    simp [sat_in x0 x1]
  · subst he; simp; rfl
  · generalize 2 ^ j = P at *
    subst he
    have : (9223372036854775807 : Int) * 1 ≤ 9223372036854775807 * P := Int.mul_le_mul_of_nonneg_left (by omega) (by omega)
    rw [sat_hi (by omega)]
  · generalize 2 ^ j = P at *
    subst he
    have : (-9223372036854775808 : Int) * P ≤ -9223372036854775808 * 1 := Int.mul_le_mul_of_nonpos_left (by omega) (by omega)
    rw [sat_lo (by omega)]
theorem down_step {a x : Int} {m j : Nat} (hj : 0 < j) (h : x / ((2 ^ j : Nat) : Int) = satShift a (-(m : Int))) : x / 2 / ((2 ^ (j - 1) : Nat) : Int) = satShift a (-(m : Int)) := by
  rw [← h]
  have : 2 ^ j = 2 * 2 ^ (j - 1) := by rw [show j = (j - 1) + 1 by omega, Nat.pow_succ, Nat.mul_comm]; rfl
  rw [this, Int.natCast_mul]
  exact (Int.ediv_ediv_of_nonneg (by decide))
theorem down_end {a x : Int} {m j : Nat} (he : ¬ 0 < j ∨ x = 0 ∨ x = -1) (h : x / ((2 ^ j : Nat) : Int) = satShift a (-(m : Int))) : x = satShift a (-(m : Int)) := by
  rw [← h]
  have hp := pw_pos j
  rcases he with he | he | he
  · obtain rfl : j = 0 := by omega
    simp
  · subst he; simp
  · subst he
    generalize 2 ^ j = P at *
    rw [Int.neg_one_ediv]
    have : (P : Int).sign = 1 := Int.sign_eq_one_of_pos (by omega)
    rw [this]

set_option maxHeartbeats 1600000 in
theorem rshift_up (a : Int) (m : Nat) (w : World) (a0 : -9223372036854775808 ≤ a) (a1 : a ≤ 9223372036854775807) (m1 : (m : Int) ≤ 9223372036854775807) :
    Calls Try.prog 40 #[.int .i64 a, .int .i64 m] w fun e w' => e = .returned (.int .i64 (satShift a m)) ∧ w = w' := by
  go_enter Try.func40, Try.ntmps40
  go_wp2
  go_loop [0, 1] (fun v u => ∃ (x : Int) (j : Nat), v = .int .i64 x ∧ u = .int .i64 j ∧ j ≤ m ∧ -9223372036854775808 ≤ x ∧ x ≤ 9223372036854775807 ∧ Hid (sat (x * ((2 ^ j : Nat) : Int)) = satShift a m)) (fun _ u => (intOf u).toNat)
  case atStart => exact ⟨a, m, rfl, rfl, Nat.le_refl _, a0, a1, Lib.hid satShift_up.symm⟩
  case round =>
    obtain ⟨x, j, rfl, rfl, hj, x0, x1, HX⟩ := hrel
    by_cases hc : 0 < j ∧ x ≠ 0 ∧ x ≠ 9223372036854775807 ∧ x ≠ -9223372036854775808
    · obtain ⟨c1, c2, c3, c4⟩ := hc
      have b0 := sat_bd (x * 2)
      have HN := up_step c1 HX.out
      have HN2 := Lib.hid HN; clear HN HX
      have e2 : (x != 0) = true := by simpa using c2
      have e3 : (x != 9223372036854775807) = true := by simpa using c3
      have e4 : (x != -9223372036854775808) = true := by simpa using c4
      go_wp2_with (go_at_call 38; (with_reducible refine (rmul_any x 2 _ x0 x1 (by omega) (by omega)).mono ?_); rintro e w' ⟨rfl, rfl⟩)
      go_round
      case rel => exact ⟨_, j - 1, rfl, by go_num, by omega, b0.1, b0.2, HN2⟩
      case measure => simp [intOf]; omega
    · have he : ¬ 0 < j ∨ x = 0 ∨ x = 9223372036854775807 ∨ x = -9223372036854775808 := by omega
      have HE := Lib.hid (up_end x0 x1 he HX.out); clear HX
      clear hc
      by_cases hj0 : 0 < j
      · rcases he with he | he | he | he
        · exact absurd hj0 he
        all_goals
          subst he
          go_wp2_with fail
          refine wp_loop_rounds 1 ?_
          rw [rounds_succ]
          go_wp2_with fail
          go_ret
          exact ⟨ret_int HE.out, rfl⟩
      · clear he
        go_wp2_with fail
        refine wp_loop_rounds 1 ?_
        rw [rounds_succ]
        go_wp2_with fail
        go_ret
        exact ⟨ret_int HE.out, rfl⟩

theorem half_down {x : Int} (h : x < 0) : (x + 1).tdiv 2 = -((-(x + 1)) / 2) := by
  rw [← Int.tdiv_eq_ediv_of_nonneg (by omega), Int.neg_tdiv]; omega
set_option maxHeartbeats 1600000 in
theorem rshift_down (a : Int) (m : Nat) (w : World) (a0 : -9223372036854775808 ≤ a) (a1 : a ≤ 9223372036854775807) (m0 : 0 < m) (m1 : (m : Int) ≤ 9223372036854775808) :
    Calls Try.prog 40 #[.int .i64 a, .int .i64 (-(m : Int))] w fun e w' => e = .returned (.int .i64 (satShift a (-(m : Int)))) ∧ w = w' := by
  go_enter Try.func40, Try.ntmps40
  go_wp2
  refine wp_loop_rounds 1 ?_
  rw [rounds_succ]
  go_wp2_with fail
  go_loop [0, 1] (fun v u => ∃ (x : Int) (j : Nat), v = .int .i64 x ∧ u = .int .i64 (-(j : Int)) ∧ j ≤ m ∧ -9223372036854775808 ≤ x ∧ x ≤ 9223372036854775807 ∧ Hid (x / ((2 ^ j : Nat) : Int) = satShift a (-(m : Int)))) (fun _ u => (-(intOf u)).toNat)
  case atStart => exact ⟨a, m, rfl, rfl, Nat.le_refl _, a0, a1, Lib.hid (by rw [satShift_neg m0, cast_pw])⟩
  case round =>
    obtain ⟨x, j, rfl, rfl, hj, x0, x1, HX⟩ := hrel
    by_cases hc : 0 < j ∧ x ≠ 0 ∧ x ≠ -1
    · obtain ⟨c1, c2, c3⟩ := hc
      have HN2 := Lib.hid (down_step c1 HX.out); clear HX
      have e2 : (x != 0) = true := by simpa using c2
      have e3 : (x != -1) = true := by simpa using c3
      by_cases hx : x < 0
      all_goals
        go_wp2_with fail
        go_round
        case rel => exact ⟨x / 2, j - 1, by first | go_num | (have t := half_down hx; rw [show wrap64 (-wrap64 (wrap64 (-(x + 1).tdiv 2) + 1)) = x / 2 by rw [t]; unfold wrap64; omega]), by go_num, by omega, by omega, by omega, HN2⟩
        case measure => simp [intOf]; omega
    · have he : ¬ 0 < j ∨ x = 0 ∨ x = -1 := by omega
      have HE := Lib.hid (down_end he HX.out); clear HX
      clear hc
      by_cases hj0 : 0 < j
      · rcases he with he | he | he
        · exact absurd hj0 he
        all_goals
          subst he
          go_wp2_with fail
          go_ret
          exact ⟨ret_int HE.out, rfl⟩
      · obtain rfl : j = 0 := by omega
        clear he
        go_wp2_with fail
        go_ret
        exact ⟨ret_int HE.out, rfl⟩
theorem rshift_any (a k : Int) (w : World) (a0 : -9223372036854775808 ≤ a) (a1 : a ≤ 9223372036854775807) (k0 : -9223372036854775808 ≤ k) (k1 : k ≤ 9223372036854775807) :
    Calls Try.prog 40 #[.int .i64 a, .int .i64 k] w fun e w' => e = .returned (.int .i64 (satShift a k)) ∧ w = w' := by
  by_cases hk : k < 0
  · obtain ⟨m, hm⟩ : ∃ m : Nat, -k = m := ⟨(-k).toNat, by omega⟩
    obtain rfl : k = -(m : Int) := by omega
    exact rshift_down a m w a0 a1 (by omega) (by omega)
  · obtain ⟨m, rfl⟩ : ∃ m : Nat, k = m := ⟨k.toNat, by omega⟩
    exact rshift_up a m w a0 a1 k1
end Go.Proofs.Ytkidgijoopdidaa
