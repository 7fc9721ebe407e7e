/- Plain mathematics: what layer 2's functions over numbers return. -/
import Derived.Laws.BitsAllLaws
import Derived.Laws.BitsLemmas
import Derived.RowKit
namespace Go.Proofs.Ytkidgijoopdidaa
open Go.RowKit
set_option linter.unusedVariables false

theorem wrap_i64' (n : Int) : IntKind.i64.wrap n = (n + 9223372036854775808) % 18446744073709551616 - 9223372036854775808 := IntKind.wrap_i64 n
/-! ### powers of two -/
theorem pw_pos (k : Nat) : 0 < 2 ^ k := Nat.two_pow_pos k
theorem pw_le {a b : Nat} (h : a ≤ b) : 2 ^ a ≤ 2 ^ b := Nat.pow_le_pow_right (by decide) h
theorem pw_mul (a b : Nat) : 2 ^ (a + b) = 2 ^ a * 2 ^ b := Nat.pow_add 2 a b
theorem pw64 {k : Nat} (h : k ≤ 64) : 2 ^ k * 2 ^ (64 - k) = 18446744073709551616 := by rw [← Nat.pow_add, show k + (64 - k) = 64 by omega]
theorem pw_le64 {k : Nat} (h : k ≤ 64) : 2 ^ k ≤ 18446744073709551616 := pw_le (b := 64) h
theorem pw_le63 {k : Nat} (h : k ≤ 63) : 2 ^ k ≤ 9223372036854775808 := pw_le (b := 63) h
theorem cast_pw (k : Nat) : (2 : Int) ^ k = ((2 ^ k : Nat) : Int) := by simp

/-! ### saturating -/
def sat (x : Int) : Int := if 9223372036854775807 < x then 9223372036854775807 else if x < -9223372036854775808 then -9223372036854775808 else x
theorem sat_hi {x : Int} (h : 9223372036854775807 ≤ x) : sat x = 9223372036854775807 := by unfold sat; split <;> (try split) <;> omega
theorem sat_lo {x : Int} (h : x ≤ -9223372036854775808) : sat x = -9223372036854775808 := by unfold sat; split <;> (try split) <;> omega
theorem sat_in {x : Int} (h : -9223372036854775808 ≤ x) (h1 : x ≤ 9223372036854775807) : sat x = x := by unfold sat; split <;> (try split) <;> omega
theorem sat_bd (x : Int) : -9223372036854775808 ≤ sat x ∧ sat x ≤ 9223372036854775807 := by unfold sat; split <;> (try split) <;> omega
theorem sat_mul_nat (x : Int) (p : Nat) (hp : 1 ≤ p) : sat (sat x * p) = sat (x * p) := by
  have hp' : (1 : Int) ≤ p := by omega
  rcases Int.lt_or_le 9223372036854775807 x with h | h
  · rw [sat_hi (x := x) (by omega)]
    have : x * 1 ≤ x * p := Int.mul_le_mul_of_nonneg_left hp' (by omega)
    have h2 : (9223372036854775807 : Int) * 1 ≤ 9223372036854775807 * p := Int.mul_le_mul_of_nonneg_left hp' (by omega)
    rw [sat_hi (by omega), sat_hi (by omega)]
  · rcases Int.lt_or_le x (-9223372036854775808) with h2 | h2
    · rw [sat_lo (x := x) (by omega)]
      have a1 : (-x) * 1 ≤ (-x) * p := Int.mul_le_mul_of_nonneg_left hp' (by omega)
      have a2 : -x * p = -(x * p) := Int.neg_mul x p
      rw [sat_lo (by omega), sat_lo (by omega)]
    · rw [sat_in (x := x) h2 h]

/-- a times 2 to the power of k, saturating; for k below 0 rounded down. -/
def satShift (a k : Int) : Int := if k < 0 then a / ((2 ^ (-k).toNat : Nat) : Int) else sat (a * ((2 ^ k.toNat : Nat) : Int))

theorem div_pow_big {a : Int} {m : Nat} (h0 : -9223372036854775808 ≤ a) (h1 : a ≤ 9223372036854775807) (hm : 63 ≤ m) : a / ((2 ^ m : Nat) : Int) = if a < 0 then -1 else 0 := by
  have hp : (9223372036854775808 : Int) ≤ ((2 ^ m : Nat) : Int) := by have := pw_le (a := 63) hm; omega
  generalize ((2 ^ m : Nat) : Int) = P at *
  split
  · have h := Int.ediv_mul_le a (b := P) (by omega)
    have h3 : a / P < 0 := Int.ediv_neg_of_neg_of_pos (by omega) (by omega)
    have h4 : (-1 : Int) ≤ a / P := by rw [Int.le_ediv_iff_mul_le (by omega)]; omega
    omega
  · exact Int.ediv_eq_zero_of_lt (by omega) (by omega)

theorem satShift_down {a : Int} {k : Nat} : satShift a (-(k : Int) - 1) = a / ((2 ^ (k + 1) : Nat) : Int) := by
  unfold satShift; rw [if_pos (by omega), show (-(-(k : Int) - 1)).toNat = k + 1 by omega]
theorem satShift_up {a : Int} {k : Nat} : satShift a k = sat (a * ((2 ^ k : Nat) : Int)) := by
  unfold satShift; rw [if_neg (by omega), Int.toNat_natCast]

/-- The shift up and back tells whether it fits. -/
theorem up_back {a : Int} {k : Nat} (hk : k ≤ 64) (h0 : -9223372036854775808 ≤ a) (h1 : a ≤ 9223372036854775807) :
    (wrap64 (a * ((2 ^ k : Nat) : Int))) / ((2 ^ k : Nat) : Int) = a ↔ -9223372036854775808 ≤ a * ((2 ^ k : Nat) : Int) ∧ a * ((2 ^ k : Nat) : Int) ≤ 9223372036854775807 := by
  have hp := pw_pos k
  have hq := pw64 hk
  generalize 2 ^ k = P at *
  generalize 2 ^ (64 - k) = Q at *
  have hP : (0 : Int) < P := by omega
  have hPQ : (P : Int) * Q = 18446744073709551616 := by rw [← Int.natCast_mul, hq]; rfl
  constructor
  · intro h
    have hw : wrap64 (a * P) = P * (wrap64 (a * P) / P) := by
      have : (P : Int) ∣ wrap64 (a * P) := by
        unfold wrap64
        have e : (a * (P : Int) + 9223372036854775808) % 18446744073709551616 - 9223372036854775808 = a * P - 18446744073709551616 * ((a * P + 9223372036854775808) / 18446744073709551616) := by omega
        rw [e, ← hPQ, Int.mul_assoc]
        exact Int.dvd_sub (Int.dvd_mul_left a P) (Int.dvd_mul_right _ _)
      exact (Int.mul_ediv_cancel' this).symm
    rw [h, Int.mul_comm (P : Int) a] at hw
    have b : -9223372036854775808 ≤ wrap64 (a * P) ∧ wrap64 (a * P) ≤ 9223372036854775807 := by unfold wrap64; omega
    rw [← hw]; exact b
  · intro ⟨h2, h3⟩
    have e : wrap64 (a * P) = a * P := by unfold wrap64; omega
    rw [e, Int.mul_ediv_cancel _ (by omega)]

/-! ### xor with nothing and with ones -/
theorem xor_u64_zero {x : Int} (h0 : 0 ≤ x) (h1 : x < 18446744073709551616) : bits .xor .u64 x 0 = x := by
  obtain ⟨n, rfl⟩ := Int.eq_ofNat_of_zero_le h0
  rw [show (0 : Int) = ((0 : Nat) : Int) from rfl, u64_xor_nat n 0 (by omega) (by omega), Nat.xor_zero]
theorem nat_xor_ones (n : Nat) (h : n < 18446744073709551616) : n ^^^ 18446744073709551615 = 18446744073709551615 - n := by
  have : (BitVec.ofNat 64 n ^^^ BitVec.allOnes 64).toNat = (~~~(BitVec.ofNat 64 n)).toNat := by rw [BitVec.xor_allOnes]
  rw [BitVec.toNat_xor, BitVec.toNat_not, BitVec.toNat_ofNat, BitVec.toNat_allOnes, Nat.mod_eq_of_lt (by omega)] at this
  exact this
theorem xor_u64_ones {x : Int} (h0 : 0 ≤ x) (h1 : x < 18446744073709551616) : bits .xor .u64 x 18446744073709551615 = 18446744073709551615 - x := by
  obtain ⟨n, rfl⟩ := Int.eq_ofNat_of_zero_le h0
  rw [show (18446744073709551615 : Int) = ((18446744073709551615 : Nat) : Int) from rfl, u64_xor_nat n _ (by omega) (by omega), nat_xor_ones n (by omega)]
  omega
theorem xor_i64_zero {x : Int} (h0 : 0 ≤ x) (h1 : x < 9223372036854775808) : bits .xor .i64 x 0 = x := by
  obtain ⟨n, rfl⟩ := Int.eq_ofNat_of_zero_le h0
  show IntKind.i64.wrap ((BitVec.ofInt 64 (n : Int) ^^^ BitVec.ofInt 64 0).toNat : Int) = _
  rw [BitVec.toNat_xor, ofInt_u64 n (by omega), show (BitVec.ofInt 64 0).toNat = 0 from rfl, Nat.xor_zero, wrap_i64']
  omega
theorem xor_i64_ones {x : Int} (h0 : 0 ≤ x) (h1 : x < 9223372036854775808) : bits .xor .i64 x (-1) = -x - 1 := by
  obtain ⟨n, rfl⟩ := Int.eq_ofNat_of_zero_le h0
  show IntKind.i64.wrap ((BitVec.ofInt 64 (n : Int) ^^^ BitVec.ofInt 64 (-1)).toNat : Int) = _
  rw [BitVec.toNat_xor, ofInt_u64 n (by omega), show (BitVec.ofInt 64 (-1)).toNat = 18446744073709551615 from rfl, nat_xor_ones n (by omega), wrap_i64']
  omega
def zigI (n : Int) : Int := if n < 0 then -2 * n - 1 else 2 * n
def zagI (n : Int) : Int := if n % 2 = 1 then -(n / 2) - 1 else n / 2
theorem zig_bd {n : Int} (h0 : -9223372036854775808 ≤ n) (h1 : n ≤ 9223372036854775807) : 0 ≤ zigI n ∧ zigI n ≤ 18446744073709551615 := by unfold zigI; split <;> omega
theorem zag_bd {n : Int} (h0 : 0 ≤ n) (h1 : n ≤ 18446744073709551615) : -9223372036854775808 ≤ zagI n ∧ zagI n ≤ 9223372036854775807 := by unfold zagI; split <;> omega
theorem zag_zig (n : Int) : zagI (zigI n) = n := by unfold zagI zigI; split <;> split <;> omega
theorem zig_zag {n : Int} (h : 0 ≤ n) : zigI (zagI n) = n := by unfold zagI zigI; split <;> split <;> omega
theorem zig_bits {n : Int} (h0 : -9223372036854775808 ≤ n) (h1 : n ≤ 9223372036854775807) :
    bits .xor .u64 (IntKind.u64.wrap (wrap64 (n * 2))) (IntKind.u64.wrap (n / 9223372036854775808)) = zigI n := by
  rw [IntKind.wrap_u64, IntKind.wrap_u64]
  have e : wrap64 (n * 2) % 18446744073709551616 = (n * 2) % 18446744073709551616 := by unfold wrap64; omega
  rw [e]
  unfold zigI
  split
  · rw [show n / 9223372036854775808 % 18446744073709551616 = 18446744073709551615 by omega, xor_u64_ones (by omega) (by omega)]; omega
  · rw [show n / 9223372036854775808 % 18446744073709551616 = 0 by omega, xor_u64_zero (by omega) (by omega)]; omega
theorem and_one {n : Int} (h0 : 0 ≤ n) (h1 : n ≤ 18446744073709551615) : bits .and .u64 n 1 = n % 2 := by
  obtain ⟨m, rfl⟩ := Int.eq_ofNat_of_zero_le h0
  rw [show (1 : Int) = ((1 : Nat) : Int) from rfl, u64_and_nat m 1 (by omega) (by omega), nat_mask1]; omega
theorem zag_bits {n : Int} (h0 : 0 ≤ n) (h1 : n ≤ 18446744073709551615) :
    bits .xor .i64 (n / 2) (wrap64 (-wrap64 (bits .and .u64 n 1))) = zagI n := by
  rw [and_one h0 h1]
  unfold zagI
  split
  · rename_i h
    rw [h, show wrap64 (-wrap64 1) = -1 by decide, xor_i64_ones (by omega) (by omega)]
  · rw [show n % 2 = 0 by omega, show wrap64 (-wrap64 0) = 0 by decide, xor_i64_zero (by omega) (by omega)]
end Go.Proofs.Ytkidgijoopdidaa
