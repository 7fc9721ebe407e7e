/- The law IntsFits: the walk. -/
import Derived.Test.YtkidgijoopdidaaIntsW
namespace Go.Proofs.Ytkidgijoopdidaa
open Go.RowKit
set_option linter.unusedVariables false

set_option maxRecDepth 20000 in
set_option maxHeartbeats 1000000 in
theorem fitsLaw_any (n : Int) (u : Nat) (b : Int) (s : Bool) (w : World) (hn : -9223372036854775808 ≤ n ∧ n ≤ 9223372036854775807) (hu : u < 18446744073709551616) (hb : -9223372036854775808 ≤ b ∧ b ≤ 9223372036854775807) :
    Calls Try.prog 5 #[.agg #[.int .i64 n, .int .u64 u, .int .i64 b, .bool s]] w fun e w' => e = .returned (.bool true) ∧ Below w.heap.size w w' := by
  obtain ⟨n0, n1⟩ := hn
  obtain ⟨b0, b1⟩ := hb
  obtain ⟨X, hX⟩ : ∃ X, fVal n b s = X := ⟨_, rfl⟩
  obtain ⟨E, hE⟩ : ∃ E, fErr n b s = E := ⟨_, rfl⟩
  obtain ⟨Y, hY⟩ : ∃ Y, wVal u b s = Y := ⟨_, rfl⟩
  obtain ⟨F, hF⟩ : ∃ F, wErr u b s = F := ⟨_, rfl⟩
  have HX := Lib.hid hX; have HE := Lib.hid hE; have HY := Lib.hid hY; have HF := Lib.hid hF
  clear hX hE hY hF
  go_enter Try.func5, Try.ntmps5
  go_wp2_with (first
    | (go_at_call 25; (with_reducible refine (fit_any n b s _ n0 n1 b0 b1).mono ?_); rintro e w' ⟨rfl, rfl⟩; rw [HX.out, HE.out])
    | (go_at_call 26; (with_reducible refine (rfit_any n b s _ n0 n1 b0 b1).mono ?_); rintro e w' ⟨rfl, rfl⟩; rw [HX.out, HE.out])
    | (go_at_call 27; (with_reducible refine (widen_any u b s _ hu b0 b1).mono ?_); rintro e w' ⟨rfl, rfl⟩; rw [HY.out, HF.out])
    | (go_at_call 28; (with_reducible refine (rwiden_any u b s _ hu b0 b1).mono ?_); rintro e w' ⟨rfl, rfl⟩; rw [HY.out, HF.out])
    | (go_at_call 12; (with_reducible refine (awake_any _).mono ?_); rintro e w2 ⟨rfl, hb⟩; have HB := Lib.hid hb; clear hb))
  go_goals
  go_ret
  exact ⟨rfl, bl_call (bl_alloc _ (Below.refl _ _)) HB.out⟩
end Go.Proofs.Ytkidgijoopdidaa
