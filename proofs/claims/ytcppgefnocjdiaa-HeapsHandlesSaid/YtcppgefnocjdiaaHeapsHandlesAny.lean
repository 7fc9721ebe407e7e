/- HeapsHandles: of any number of values. -/
import Derived.Test.YtcppgefnocjdiaaHeapsHandlesWalk
namespace Go.Proofs.Ytcppgefnocjdiaa
open Go.RowKit Go.Lib Go.Sort Go.Shelf
set_option linter.unusedVariables false
set_option maxRecDepth 100000 in
theorem handles_any (n : Nat) (lv : Value) (l : List Int) (y0 y1 : Int) (W : World) (hn : n < 256) (hl : RI W lv l) (hy : -9223372036854775808 ≤ y1 ∧ y1 ≤ 9223372036854775807) :
    Calls Try.prog 6 #[.int .u8 n, lv, .agg #[.int .i64 y0, .int .i64 y1]] W fun e w' => e = .returned (.bool true) ∧ Go.RowKit.Below W.heap.size W w' := by
  by_cases hle : l.length ≤ 100
  · exact handles_some n lv l y0 y1 W hn hl hle hy
  · obtain ⟨A, c, rfl⟩ := hl.len
    obtain ⟨m, hm⟩ : ∃ m, l.length = m := ⟨_, rfl⟩
    rw [hm] at hle ⊢
    have hmz : (m : Int) > 100 := by omega
    clear hm hl
    go_enter Try.func6, Try.ntmps6
    go_wp2_with (first
      | (go_at_call 10; refine (awake_any _).mono ?_; rintro e w5 ⟨rfl, hb5⟩))
    go_ret
    have hb1 : Go.RowKit.Below W.heap.size W (W.alloc (.cells #[.int .i64 y0, .int .i64 y1] 62)) := (Go.RowKit.Below.refl _ W).alloc (Nat.le_refl _) _
    exact ⟨rfl, hb1.trans (hb5.mono hb1.size)⟩
end Go.Proofs.Ytcppgefnocjdiaa
