/- The law IntsSums: the walk. -/
import Derived.Test.YtkidgijoopdidaaIntsW
namespace Go.Proofs.Ytkidgijoopdidaa
open Go.RowKit
set_option linter.unusedVariables false

set_option maxRecDepth 20000 in
set_option maxHeartbeats 1000000 in
theorem sums_any (a b k : Int) (w : World) (ha : -9223372036854775808 ≤ a ∧ a ≤ 9223372036854775807) (hb : -9223372036854775808 ≤ b ∧ b ≤ 9223372036854775807) (hk : -9223372036854775808 ≤ k ∧ k ≤ 9223372036854775807) :
    Calls Try.prog 7 #[.int .i64 a, .int .i64 b, .int .i64 k] w fun e w' => e = .returned (.bool true) ∧ Below w.heap.size w w' := by
  obtain ⟨a0, a1⟩ := ha
  obtain ⟨b0, b1⟩ := hb
  obtain ⟨k0, k1⟩ := hk
  obtain ⟨S, hS⟩ : ∃ S, sat (a + b) = S := ⟨_, rfl⟩
  obtain ⟨P, hP⟩ : ∃ P, sat (a * b) = P := ⟨_, rfl⟩
  obtain ⟨F, hF⟩ : ∃ F, satShift a k = F := ⟨_, rfl⟩
  have HS := Lib.hid hS; have HP := Lib.hid hP; have HF := Lib.hid hF
  clear hS hP hF
  go_enter Try.func7, Try.ntmps7
  go_wp2_with (first
    | (go_at_call 35; (with_reducible refine (add_any a b _ a0 a1 b0 b1).mono ?_); rintro e w' ⟨rfl, rfl⟩; rw [HS.out])
    | (go_at_call 36; (with_reducible refine (radd_any a b _ a0 a1 b0 b1).mono ?_); rintro e w' ⟨rfl, rfl⟩; rw [HS.out])
    | (go_at_call 37; (with_reducible refine (mul_any a b _ a0 a1 b0 b1).mono ?_); rintro e w' ⟨rfl, rfl⟩; rw [HP.out])
    | (go_at_call 38; (with_reducible refine (rmul_any a b _ a0 a1 b0 b1).mono ?_); rintro e w' ⟨rfl, rfl⟩; rw [HP.out])
    | (go_at_call 39; (with_reducible refine (shift_any a k _ a0 a1 k0 k1).mono ?_); rintro e w' ⟨rfl, rfl⟩; rw [HF.out])
    | (go_at_call 40; (with_reducible refine (rshift_any a k _ a0 a1 k0 k1).mono ?_); rintro e w' ⟨rfl, rfl⟩; rw [HF.out])
    | (go_at_call 12; (with_reducible refine (awake_any _).mono ?_); rintro e w2 ⟨rfl, hb⟩; have HB := Lib.hid hb; clear hb))
  go_ret
  exact ⟨rfl, HB.out⟩
end Go.Proofs.Ytkidgijoopdidaa
