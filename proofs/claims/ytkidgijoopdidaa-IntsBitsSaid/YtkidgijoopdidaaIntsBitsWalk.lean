/- The law IntsBits: the walk. -/
import Derived.Test.YtkidgijoopdidaaIntsW
namespace Go.Proofs.Ytkidgijoopdidaa
open Go.RowKit
set_option linter.unusedVariables false

set_option maxRecDepth 20000 in
set_option maxHeartbeats 2000000 in
theorem bitsLaw_any (n x : Nat) (a m k : Int) (w : World) (hn : n < 18446744073709551616) (hx : x < 18446744073709551616) (ha : -9223372036854775808 ≤ a ∧ a ≤ 9223372036854775807) (hm : -9223372036854775808 ≤ m ∧ m ≤ 9223372036854775807) (hk : -9223372036854775808 ≤ k ∧ k ≤ 9223372036854775807) :
    Calls Try.prog 6 #[.agg #[.int .u64 n, .int .u64 x, .int .i64 a, .int .i64 m, .int .i64 k]] w fun e w' => e = .returned (.bool true) ∧ Below w.heap.size w w' := by
  obtain ⟨a0, a1⟩ := ha
  obtain ⟨m0, m1⟩ := hm
  obtain ⟨k0, k1⟩ := hk
  obtain ⟨T, hT⟩ : ∃ T, turnVal n m k = T := ⟨_, rfl⟩
  obtain ⟨TE, hTE⟩ : ∃ T, turnErr n m = T := ⟨_, rfl⟩
  obtain ⟨F, hF⟩ : ∃ T, fieldVal n a m = T := ⟨_, rfl⟩
  obtain ⟨FE, hFE⟩ : ∃ T, fieldErr a m = T := ⟨_, rfl⟩
  obtain ⟨X, hX⟩ : ∃ T, withVal n a m x = T := ⟨_, rfl⟩
  obtain ⟨XE, hXE⟩ : ∃ T, withErr a m x = T := ⟨_, rfl⟩
  have HT := Lib.hid hT; have HTE := Lib.hid hTE; have HF := Lib.hid hF; have HFE := Lib.hid hFE; have HX := Lib.hid hX; have HXE := Lib.hid hXE
  clear hT hTE hF hFE hX hXE
  go_enter Try.func6, Try.ntmps6
  go_wp2_with (first
    | (go_at_call 29; (with_reducible refine (turn_any n m k _ hn m0 m1 k0 k1).mono ?_); rintro e w' ⟨rfl, q1, rfl⟩; rw [HT.out, HTE.out])
    | (go_at_call 30; (with_reducible refine (rturn_any n m k _ hn m0 m1 k0 k1).mono ?_); rintro e w' ⟨rfl, rfl⟩; rw [HT.out, HTE.out])
    | (go_at_call 31; (with_reducible refine (field_any n a m _ hn a0 a1).mono ?_); rintro e w' ⟨rfl, q2, rfl⟩; rw [HF.out, HFE.out])
    | (go_at_call 32; (with_reducible refine (rfield_any n a m _ hn a0 a1 m0 m1).mono ?_); rintro e w' ⟨rfl, rfl⟩; rw [HF.out, HFE.out])
    | (go_at_call 33; (with_reducible refine (with_any n a m x _ hn hx a0 a1).mono ?_); rintro e w' ⟨rfl, q3, rfl⟩; rw [HX.out, HXE.out])
    | (go_at_call 34; (with_reducible refine (rwith_any n a m x _ hn hx a0 a1 m0 m1).mono ?_); rintro e w' ⟨rfl, rfl⟩; rw [HX.out, HXE.out])
    | (go_at_call 12; (with_reducible refine (awake_any _).mono ?_); rintro e w2 ⟨rfl, hb⟩; have HB := Lib.hid hb; clear hb))
  go_ret
  exact ⟨rfl, bl_call (bl_drewN _ (bl_alloc _ (Below.refl _ _))) HB.out⟩
end Go.Proofs.Ytkidgijoopdidaa
