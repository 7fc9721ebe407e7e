/- The contract of the program's step. -/
import Derived.Test.YtipcanphkdodaaaDoorShaW
namespace Go.Proofs.YtipcanphkdodaaaDoor
open Go.RowKit Go.Lib
set_option linter.unusedVariables false

/-- A callee's contract inside a quiet region that stands behind another one. -/
theorem qd_more {P : Program} {f : FuncId} {args : Array Value} {w : World} {i j : Nat} {v : Value} (h : Calls P f args (w.drewN (i + j)) fun e w' => e = .returned v ∧ ∃ m, w' = (w.drewN (i + j)).drewN m) :
    Calls P f args (w.drewN (i + j)) fun e w' => e = .returned v ∧ ∃ m, w' = w.drewN (i + m) :=
  Calls.mono h fun e w' hh => ⟨hh.1, by obtain ⟨m, hm⟩ := hh.2; exact ⟨j + m, by rw [hm, World.drewN_drewN, Nat.add_assoc]⟩⟩
theorem qd_same {P : Program} {f : FuncId} {args : Array Value} {w : World} {v : Value} (h : Calls P f args w fun e w' => e = .returned v ∧ w = w') : Calls P f args w fun e w' => e = .returned v ∧ ∃ m, w' = w.drewN m :=
  Calls.mono h fun e w' hh => ⟨hh.1, 0, hh.2.symm⟩

set_option maxRecDepth 20000 in
set_option maxHeartbeats 2000000 in
theorem step_any (a b c d e f g h k x : Nat) (w : World) (ha : a < 4294967296) (hb : b < 4294967296) (hc : c < 4294967296) (hd : d < 4294967296) (he : e < 4294967296) (hf : f < 4294967296) (hg : g < 4294967296) (hh : h < 4294967296) (hk : k < 4294967296) (hx : x < 4294967296) :
    Calls Tryd.prog 37 #[.agg #[.int .u32 a, .int .u32 b, .int .u32 c, .int .u32 d, .int .u32 e, .int .u32 f, .int .u32 g, .int .u32 h], .int .u32 k, .int .u32 x] w fun r w' =>
      r = .returned (.agg #[.int .u32 (addN (uN e f g h k x) (vN a b c)), .int .u32 a, .int .u32 b, .int .u32 c, .int .u32 (addN d (uN e f g h k x)), .int .u32 e, .int .u32 f, .int .u32 g]) ∧ Below w.heap.size w w' := by
  go_enter Tryd.func37, Tryd.ntmps37
  go_wp2_with fail
  go_quiet (first
    | (go_at_call 52; exact Calls.quiet_of (large1_any e _ he))
    | (go_at_call 53; exact Calls.quiet_of_same ((choose_any e f g _ he hf hg).mono fun _ _ h => ⟨h.1, h.2.symm⟩)))
  go_wp2_with fail
  go_quiet (first
    | (go_at_call 54; exact qd_more (large0_any a _ ha))
    | (go_at_call 55; exact qd_more (qd_same (majority_any a b c _ ha hb hc))))
  go_wp2_with fail
  refine bodyPost_ret (v := .agg #[.int .u32 (addN (uN e f g h k x) (vN a b c)), .int .u32 a, .int .u32 b, .int .u32 c, .int .u32 (addN d (uN e f g h k x)), .int .u32 e, .int .u32 f, .int .u32 g]) ?_ rfl ?_
  · simp [results, Tryd.results37, go_sem]
    unfold uN vN addN
    omega
  · refine ⟨rfl, ?_⟩
    iterate 8 (refine bl_set _ ?_ (by simp))
    exact bl_drewN _ (bl_alloc _ (bl_alloc _ (Below.refl _ _)))
end Go.Proofs.YtipcanphkdodaaaDoor
