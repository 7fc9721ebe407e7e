/- Plain mathematics: bits that are turned round, read and put. -/
import Derived.Test.YtkidgijoopdidaaIntsM
namespace Go.Proofs.Ytkidgijoopdidaa
open Go.RowKit
set_option linter.unusedVariables false

theorem testBit_mod2 (n i : Nat) : n.testBit i = decide (n / 2 ^ i % 2 = 1) := Nat.testBit_eq_decide_div_mod_eq
theorem mod2_of {n m i j : Nat} (h : n.testBit i = m.testBit j) : n / 2 ^ i % 2 = m / 2 ^ j % 2 := by
  rw [testBit_mod2, testBit_mod2, decide_eq_decide] at h
  omega

/-! ### bits that are read -/
def fieldN (n a m : Nat) : Nat := n / 2 ^ a % 2 ^ m
theorem fieldN_lt (n a m : Nat) : fieldN n a m < 2 ^ m := Nat.mod_lt _ (pw_pos m)
theorem fieldN_zero (n a : Nat) : fieldN n a 0 = 0 := by unfold fieldN; simp [Nat.mod_one]
/-- One bit more at the low end. -/
theorem fieldN_step (n e c : Nat) : 2 * fieldN n (e + 1) c + n / 2 ^ e % 2 = fieldN n e (c + 1) := by
  unfold fieldN
  rw [Nat.pow_succ, ← Nat.div_div_eq_div_mul, Nat.pow_succ, Nat.mul_comm (2 ^ c) 2, Nat.mod_mul]
  omega

/-! ### bits that are put -/
def withN (n a m v : Nat) : Nat := n % 2 ^ a + v * 2 ^ a + n / 2 ^ (a + m) * 2 ^ (a + m)
theorem withN_mod (n a m v : Nat) : withN n a m v % 2 ^ a = n % 2 ^ a := by
  unfold withN
  rw [Nat.pow_add, show n % 2 ^ a + v * 2 ^ a + n / (2 ^ a * 2 ^ m) * (2 ^ a * 2 ^ m) = n % 2 ^ a + 2 ^ a * (v + n / (2 ^ a * 2 ^ m) * 2 ^ m) by
    rw [Nat.mul_add, Nat.mul_comm (2 ^ a) v, Nat.add_assoc, ← Nat.mul_assoc, ← Nat.mul_assoc, Nat.mul_right_comm, Nat.mul_comm (2 ^ a) (n / _)]; simp [Nat.mul_comm, Nat.mul_left_comm]]
  rw [Nat.add_mul_mod_self_left, Nat.mod_mod]
theorem withN_div (n a m v : Nat) : withN n a m v / 2 ^ a = v + n / 2 ^ (a + m) * 2 ^ m := by
  unfold withN
  have hp := pw_pos a
  have hl := Nat.mod_lt n hp
  rw [show n % 2 ^ a + v * 2 ^ a + n / 2 ^ (a + m) * 2 ^ (a + m) = n % 2 ^ a + (v + n / 2 ^ (a + m) * 2 ^ m) * 2 ^ a by
    rw [Nat.add_mul, Nat.pow_add 2 a m, Nat.mul_assoc (n / _) (2 ^ m) (2 ^ a), Nat.mul_comm (2 ^ m) (2 ^ a), Nat.add_assoc]]
  rw [Nat.add_mul_div_right _ _ hp, Nat.div_eq_of_lt hl, Nat.zero_add]
theorem withN_top {n a m v : Nat} (hv : v < 2 ^ m) : withN n a m v / 2 ^ (a + m) = n / 2 ^ (a + m) := by
  rw [Nat.pow_add, ← Nat.div_div_eq_div_mul, withN_div, Nat.add_mul_div_right _ _ (pw_pos m), Nat.div_eq_of_lt hv, Nat.zero_add, Nat.pow_add]
theorem withN_lo {n a m v i : Nat} (h : i < a) : (withN n a m v).testBit i = n.testBit i := by
  have h1 := Nat.testBit_mod_two_pow (withN n a m v) a i
  have h2 := Nat.testBit_mod_two_pow n a i
  rw [withN_mod] at h1
  rw [h1] at h2
  simpa [h] using h2
theorem withN_mid {n a m v i : Nat} (hv : v < 2 ^ m) (h : a ≤ i) (h2 : i < a + m) : (withN n a m v).testBit i = v.testBit (i - a) := by
  have e : (withN n a m v).testBit i = (withN n a m v / 2 ^ a).testBit (i - a) := by rw [Nat.testBit_div_two_pow]; congr 1; omega
  rw [e, withN_div]
  have h1 := Nat.testBit_mod_two_pow (v + n / 2 ^ (a + m) * 2 ^ m) m (i - a)
  rw [Nat.add_mul_mod_self_right, Nat.mod_eq_of_lt hv] at h1
  rw [h1]; simp; omega
theorem withN_hi {n a m v i : Nat} (hv : v < 2 ^ m) (h : a + m ≤ i) : (withN n a m v).testBit i = n.testBit i := by
  have e : ∀ x : Nat, x.testBit i = (x / 2 ^ (a + m)).testBit (i - (a + m)) := fun x => by rw [Nat.testBit_div_two_pow]; congr 1; omega
  rw [e, e n, withN_top hv]
theorem withN_lt {n a m v : Nat} (hn : n < 18446744073709551616) (hv : v < 2 ^ m) (h : a + m ≤ 64) : withN n a m v < 18446744073709551616 := by
  have : withN n a m v < 2 ^ 64 := by
    apply Nat.lt_pow_two_of_testBit
    intro i hi
    rw [withN_hi hv (by omega)]
    exact Nat.testBit_lt_two_pow (Nat.lt_of_lt_of_le hn (pw_le (a := 64) hi))
  exact this
theorem field_with {n a m v : Nat} (hv : v < 2 ^ m) : fieldN (withN n a m v) a m = v := by
  unfold fieldN; rw [withN_div, Nat.add_mul_mod_self_right, Nat.mod_eq_of_lt hv]
theorem field_other {n a m v i : Nat} (hv : v < 2 ^ m) (h : i < a ∨ a + m ≤ i) : fieldN (withN n a m v) i 1 = fieldN n i 1 := by
  unfold fieldN
  rcases h with h | h
  · exact mod2_of (withN_lo h)
  · exact mod2_of (withN_hi hv h)
/-- The program's way to put them. -/
theorem with_bits {n a m v : Nat} (hn : n < 18446744073709551616) (hv : v < 2 ^ m) (h : a + m ≤ 64) :
    (n &&& (18446744073709551615 - (2 ^ m - 1) * 2 ^ a)) ||| v * 2 ^ a = withN n a m v := by
  have hM : (2 ^ m - 1) * 2 ^ a < 2 ^ 64 := by
    have h1 : 2 ^ m * 2 ^ a ≤ 2 ^ 64 := by rw [← Nat.pow_add]; exact pw_le (by omega)
    have h2 := pw_pos m; have h3 := pw_pos a
    have h4 : (2 ^ m - 1) * 2 ^ a < 2 ^ m * 2 ^ a := Nat.mul_lt_mul_of_pos_right (by omega) h3
    omega
  have e : 18446744073709551615 - (2 ^ m - 1) * 2 ^ a = 2 ^ 64 - ((2 ^ m - 1) * 2 ^ a + 1) := by omega
  apply Nat.eq_of_testBit_eq
  intro i
  rw [Nat.testBit_or, Nat.testBit_and, e, Nat.testBit_two_pow_sub_succ hM, Nat.testBit_mul_two_pow, Nat.testBit_mul_two_pow, Nat.testBit_two_pow_sub_one]
  by_cases h1 : i < a
  · rw [withN_lo h1]; have : ¬ a ≤ i := by omega
    have h64 : i < 64 := by omega
    simp [this, h64]
  · by_cases h2 : i < a + m
    · rw [withN_mid hv (by omega) h2]
      have h3 : a ≤ i := by omega
      have h4 : i - a < m := by omega
      simp [h3, h4]
    · rw [withN_hi hv (by omega)]
      have h3 : a ≤ i := by omega
      have h4 : ¬ i - a < m := by omega
      have h5 : v.testBit (i - a) = false := Nat.testBit_lt_two_pow (Nat.lt_of_lt_of_le hv (pw_le (by omega)))
      by_cases h6 : i < 64
      · simp [h3, h4, h5, h6]
      · have h7 : n.testBit i = false := Nat.testBit_lt_two_pow (Nat.lt_of_lt_of_le hn (pw_le (a := 64) (by omega)))
        simp [h5, h7]

/-! ### bits that are turned round -/
def turnN (n k u : Nat) : Nat := n % 2 ^ (k - u) * 2 ^ u + n / 2 ^ (k - u)
theorem turn_pieces {n k u : Nat} (hu : u ≤ k) (hn : n < 2 ^ k) : n % 2 ^ (k - u) * 2 ^ u + 2 ^ u ≤ 2 ^ k ∧ n / 2 ^ (k - u) < 2 ^ u := by
  have e : 2 ^ k = 2 ^ (k - u) * 2 ^ u := by rw [← Nat.pow_add]; congr 1; omega
  have h1 := Nat.mod_lt n (pw_pos (k - u))
  constructor
  · rw [e]
    have : (n % 2 ^ (k - u) + 1) * 2 ^ u ≤ 2 ^ (k - u) * 2 ^ u := Nat.mul_le_mul_right _ h1
    rw [Nat.add_mul] at this; omega
  · rw [e, Nat.mul_comm] at hn
    rw [Nat.div_lt_iff_lt_mul (pw_pos _)]; exact hn
theorem turnN_lt {n k u : Nat} (hu : u ≤ k) (hn : n < 2 ^ k) : turnN n k u < 2 ^ k := by
  have := turn_pieces hu hn; unfold turnN; omega
theorem turn_bits {n k u : Nat} (hu : u ≤ k) (hk : k ≤ 64) (hn : n < 2 ^ k) :
    ((n * 2 ^ u % 18446744073709551616) ||| (n / 2 ^ (k - u))) % 2 ^ k = turnN n k u := by
  have hp := turn_pieces hu hn
  have e64 : (18446744073709551616 : Nat) = 2 ^ (64 - u) * 2 ^ u := by rw [← Nat.pow_add, show 64 - u + u = 64 by omega]
  have e : 2 ^ k = 2 ^ (k - u) * 2 ^ u := by rw [← Nat.pow_add]; congr 1; omega
  have d64 : 2 ^ k ∣ 18446744073709551616 := ⟨2 ^ (64 - k), (pw64 hk).symm⟩
  rw [nat_join u _ _ (by rw [e64, Nat.mul_mod_mul_right]; exact Nat.mul_mod_left _ _) hp.2]
  rw [Nat.add_mod, Nat.mod_mod_of_dvd _ d64]
  have e2 : n * 2 ^ u % 2 ^ k = n % 2 ^ (k - u) * 2 ^ u := by rw [e, Nat.mul_mod_mul_right]
  rw [e2, Nat.mod_eq_of_lt (a := n / 2 ^ (k - u)) (by omega)]
  unfold turnN
  exact Nat.mod_eq_of_lt (by omega)
/-- What the reference has after i rounds. -/
def turnR (n k u i : Nat) : Nat := if i ≤ k - u then n % 2 ^ i * 2 ^ u else n % 2 ^ (k - u) * 2 ^ u + n % 2 ^ i / 2 ^ (k - u)
theorem turnR_zero (n k u : Nat) : turnR n k u 0 = 0 := by unfold turnR; simp [Nat.mod_one]
theorem turnR_end {n k u : Nat} (hu : u < k) (hn : n < 2 ^ k) : turnR n k u k = turnN n k u := by
  unfold turnR turnN
  rw [Nat.mod_eq_of_lt hn]
  by_cases h : k ≤ k - u
  · obtain rfl : u = 0 := by omega
    rw [if_pos h]; simp; rw [Nat.mod_eq_of_lt hn, Nat.div_eq_of_lt hn]; rfl
  · rw [if_neg h]
theorem mod_succ_pow (n i : Nat) : n % 2 ^ (i + 1) = n % 2 ^ i + 2 ^ i * (n / 2 ^ i % 2) := by rw [Nat.pow_succ, Nat.mod_mul]
theorem turnR_step {n k u i : Nat} (hu : u < k) (hi : i < k) : turnR n k u (i + 1) = turnR n k u i + n / 2 ^ i % 2 * 2 ^ ((i + u) % k) := by
  unfold turnR
  by_cases h : i + u < k
  · rw [if_pos (by omega), if_pos (by omega), Nat.mod_eq_of_lt h, mod_succ_pow, Nat.add_mul, Nat.pow_add, Nat.mul_comm (2 ^ i) (n / 2 ^ i % 2), Nat.mul_assoc]
  · have e : (i + u) % k = i - (k - u) := by rw [Nat.mod_eq_sub_mod (by omega), Nat.mod_eq_of_lt (by omega)]; omega
    rw [if_neg (by omega), e, mod_succ_pow]
    have e2 : 2 ^ i = 2 ^ (k - u) * 2 ^ (i - (k - u)) := by rw [← Nat.pow_add]; congr 1; omega
    have e3 : (n % 2 ^ i + 2 ^ i * (n / 2 ^ i % 2)) / 2 ^ (k - u) = n % 2 ^ i / 2 ^ (k - u) + n / 2 ^ i % 2 * 2 ^ (i - (k - u)) := by
      rw [show 2 ^ i * (n / 2 ^ i % 2) = 2 ^ (k - u) * (2 ^ (i - (k - u)) * (n / 2 ^ i % 2)) by rw [← Nat.mul_assoc, ← e2], Nat.add_mul_div_left _ _ (pw_pos _), Nat.mul_comm (2 ^ (i - (k - u)))]
    rw [e3]
    by_cases h2 : i ≤ k - u
    · obtain rfl : i = k - u := by omega
      rw [if_pos (Nat.le_refl _)]
      have : n % 2 ^ (k - u) / 2 ^ (k - u) = 0 := Nat.div_eq_of_lt (Nat.mod_lt _ (pw_pos _))
      omega
    · rw [if_neg h2]; omega
theorem turnR_lt {n k u i : Nat} (hu : u < k) (hi : i ≤ k) : turnR n k u i < 2 ^ k := by
  unfold turnR
  have e : 2 ^ k = 2 ^ (k - u) * 2 ^ u := by rw [← Nat.pow_add]; congr 1; omega
  split
  · rename_i h
    rw [e]
    have h1 : n % 2 ^ i < 2 ^ (k - u) := Nat.lt_of_lt_of_le (Nat.mod_lt _ (pw_pos _)) (pw_le h)
    exact Nat.mul_lt_mul_of_pos_right h1 (pw_pos u)
  · rename_i h
    have h1 : n % 2 ^ i < 2 ^ k := Nat.lt_of_lt_of_le (Nat.mod_lt _ (pw_pos _)) (pw_le hi)
    have h2 := turn_pieces (n := n % 2 ^ i) (k := k) (u := u) (by omega) h1
    have h3 : n % 2 ^ i % 2 ^ (k - u) = n % 2 ^ (k - u) := Nat.mod_mod_of_dvd _ (Nat.pow_dvd_pow 2 (by omega))
    rw [h3] at h2
    omega
end Go.Proofs.Ytkidgijoopdidaa
