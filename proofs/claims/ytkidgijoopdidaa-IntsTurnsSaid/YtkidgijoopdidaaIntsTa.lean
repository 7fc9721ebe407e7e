/- Plain mathematics: turns one after the other. -/
import Derived.Test.YtkidgijoopdidaaIntsN
namespace Go.Proofs.Ytkidgijoopdidaa
open Go.RowKit
set_option linter.unusedVariables false

theorem mod_two {x M : Nat} (h : x < 2 * M) : x % M = if x < M then x else x - M := by
  split
  · exact Nat.mod_eq_of_lt ‹_›
  · rw [Nat.mod_eq_sub_mod (by omega), Nat.mod_eq_of_lt (by omega)]
theorem turn_bit {n M u i : Nat} (hu : u < M) (hn : n < 2 ^ M) (hi : i < M) : (turnN n M u).testBit i = n.testBit ((i + (M - u)) % M) := by
  have hp := turn_pieces (Nat.le_of_lt hu) hn
  unfold turnN
  by_cases h : i < u
  · rw [mod_two (x := i + (M - u)) (M := M) (by omega), if_pos (by omega)]
    have h1 := Nat.testBit_mod_two_pow (n % 2 ^ (M - u) * 2 ^ u + n / 2 ^ (M - u)) u i
    rw [Nat.add_comm, Nat.add_mul_mod_self_right, Nat.mod_eq_of_lt hp.2, Nat.testBit_div_two_pow] at h1
    simp only [h, decide_true, Bool.true_and] at h1
    rw [Nat.add_comm (n % 2 ^ (M - u) * 2 ^ u), ← h1]
  · rw [mod_two (x := i + (M - u)) (M := M) (by omega), if_neg (by omega)]
    have e : ∀ x : Nat, x.testBit i = (x / 2 ^ u).testBit (i - u) := fun x => by rw [Nat.testBit_div_two_pow]; congr 1; omega
    rw [e, Nat.add_comm, Nat.add_mul_div_right _ _ (pw_pos u), Nat.div_eq_of_lt hp.2, Nat.zero_add, Nat.testBit_mod_two_pow]
    have h1 : i - u < M - u := by omega
    simp only [h1, decide_true, Bool.true_and]
    congr 1; omega
theorem turn_zero {n M : Nat} (hn : n < 2 ^ M) : turnN n M 0 = n := by
  unfold turnN; rw [Nat.sub_zero, Nat.mod_eq_of_lt hn, Nat.div_eq_of_lt hn]; simp
theorem turn_turn {n M u v : Nat} (hu : u < M) (hv : v < M) (hn : n < 2 ^ M) : turnN (turnN n M u) M v = turnN n M ((u + v) % M) := by
  have ht := turnN_lt (Nat.le_of_lt hu) hn
  have hw : (u + v) % M < M := Nat.mod_lt _ (by omega)
  apply Nat.eq_of_testBit_eq
  intro i
  by_cases hi : i < M
  · have h1 : (i + (M - v)) % M < M := Nat.mod_lt _ (by omega)
    rw [turn_bit hv ht hi, turn_bit hu hn h1, turn_bit hw hn hi]
    congr 1
    rw [mod_two (x := i + (M - v)) (by omega), mod_two (x := u + v) (by omega)]
    split <;> split <;> (rw [mod_two (by omega), mod_two (by omega)]; split <;> split <;> omega)
  · rw [Nat.testBit_lt_two_pow (Nat.lt_of_lt_of_le (turnN_lt (Nat.le_of_lt hv) ht) (pw_le (by omega))), Nat.testBit_lt_two_pow (Nat.lt_of_lt_of_le (turnN_lt (Nat.le_of_lt hw) hn) (pw_le (by omega)))]
/-- By k places. -/
def turnK (n M : Nat) (k : Int) : Nat := turnN n M (k % (M : Int)).toNat
theorem turnK_u {M : Nat} (hM : 0 < M) (k : Int) : ∃ u : Nat, k % (M : Int) = u ∧ u < M := by
  have h0 := Int.emod_nonneg k (b := (M : Int)) (by omega)
  have h1 := Int.emod_lt_of_pos k (b := (M : Int)) (by omega)
  exact ⟨(k % (M : Int)).toNat, by omega, by omega⟩
theorem turnK_lt {n M : Nat} (hM : 0 < M) (hn : n < 2 ^ M) (k : Int) : turnK n M k < 2 ^ M := by
  obtain ⟨u, h1, h2⟩ := turnK_u hM k
  unfold turnK; rw [h1]; exact turnN_lt (Nat.le_of_lt h2) hn
theorem turnK_two {n M : Nat} (hM : 0 < M) (hn : n < 2 ^ M) (j k : Int) : turnK (turnK n M j) M k = turnK n M (j + k) := by
  obtain ⟨u, h1, h2⟩ := turnK_u hM j
  obtain ⟨v, h3, h4⟩ := turnK_u hM k
  unfold turnK
  rw [h1, h3, Int.toNat_natCast, Int.toNat_natCast, turn_turn h2 h4 hn, Int.add_emod, h1, h3, ← Int.natCast_add, ← Int.natCast_emod, Int.toNat_natCast]
theorem turnK_back {n M : Nat} (hM : 0 < M) (hn : n < 2 ^ M) (j : Int) : turnK (turnK n M j) M (-j) = n := by
  rw [turnK_two hM hn, show j + -j = 0 by omega]
  unfold turnK
  rw [Int.zero_emod]; exact turn_zero hn
end Go.Proofs.Ytkidgijoopdidaa
