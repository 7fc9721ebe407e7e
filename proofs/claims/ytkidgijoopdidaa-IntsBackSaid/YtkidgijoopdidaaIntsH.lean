/- Field and With, of the program and of its reference. -/
import Derived.Test.YtkidgijoopdidaaIntsG
import Derived.Test.YtkidgijoopdidaaIntsN
import Derived.Deep.QuietTactic
import Derived.BigQuiet
namespace Go.Proofs.Ytkidgijoopdidaa
open Go.RowKit Go.Lib
set_option linter.unusedVariables false

/-- Whether a number has these bits. -/
def okF (a m : Int) : Bool := decide (0 ≤ a) && decide (a ≤ 63) && decide (1 ≤ m) && decide (m ≤ 64 - a)
def fieldVal (n : Nat) (a m : Int) : Int := if okF a m = true then (fieldN n a.toNat m.toNat : Int) else 0
def fieldErr (a m : Int) : Int := if okF a m = true then 0 else 7
theorem fieldErr_no {n : Nat} {a m : Int} (h : okF a m = false) : (0 : Int) = fieldVal n a m ∧ (7 : Int) = fieldErr a m := by unfold fieldVal fieldErr; rw [h]; exact ⟨rfl, rfl⟩
theorem fieldErr_yes {n : Nat} {a m : Int} {v : Int} (h : okF a m = true) (hv : v = fieldN n a.toNat m.toNat) : v = fieldVal n a m ∧ (0 : Int) = fieldErr a m := by unfold fieldVal fieldErr; rw [h]; exact ⟨hv, rfl⟩
theorem okF_no {a m : Int} (h : okF a m = false) : a < 0 ∨ 63 < a ∨ m < 1 ∨ 64 - a < m := by unfold okF at h; simp at h; omega
theorem okF_yes {a m : Int} (h : okF a m = true) : ∃ i j : Nat, a = i ∧ m = j ∧ 1 ≤ j ∧ i + j ≤ 64 := by
  unfold okF at h; simp at h; exact ⟨a.toNat, m.toNat, by omega, by omega, by omega, by omega⟩
theorem field_bits {n i j : Nat} (hn : n < 18446744073709551616) (hj : j ≤ 64) : bits .and .u64 ((n : Int) / 2 ^ i) ((2 ^ j - 1 : Nat) : Int) = (fieldN n i j : Int) := by
  rw [cast_pw, ← Int.natCast_ediv, and_low hj (Nat.lt_of_le_of_lt (Nat.div_le_self _ _) hn)]; rfl

set_option maxHeartbeats 1000000 in
theorem field_any (n : Nat) (a m : Int) (w : World) (hn : n < 18446744073709551616) (a0 : -9223372036854775808 ≤ a) (a1 : a ≤ 9223372036854775807) :
    Calls Try.prog 31 #[.int .u64 n, .int .i64 a, .int .i64 m] w fun e w' => e = .returned (.tuple #[.int .u64 (fieldVal n a m), .int .i64 (fieldErr a m)]) ∧ ∃ q, w' = w.drewN q := by
  cases ho : okF a m
  case false =>
    have hc := okF_no ho
    have HZ := Lib.hid (fieldErr_no (n := n) ho); clear ho
    go_enter Try.func31, Try.ntmps31
    go_wp2_with (go_at_call 47; (with_reducible refine (field_no a m _ a0 a1 hc).mono ?_); rintro e w' ⟨rfl, rfl⟩)
    go_ret2
    exact ⟨ret_two HZ.out.1 HZ.out.2, 0, rfl⟩
  case true =>
    obtain ⟨i, j, rfl, rfl, hj1, hij⟩ := okF_yes ho
    have HZ := Lib.hid (fieldErr_yes (n := n) ho rfl); clear ho
    have i63 : i ≤ 63 := by omega
    obtain ⟨L, hL⟩ : ∃ L, L = 2 ^ j - 1 := ⟨_, rfl⟩
    have EM : bits .and .u64 ((n : Int) / 2 ^ i) (L : Int) = (fieldN n i j : Int) := by rw [hL, field_bits hn (by omega)]
    have HL := Lib.hid hL; clear hL
    go_enter Try.func31, Try.ntmps31
    go_wp2_with (go_at_call 47; (with_reducible refine (field_yes _ _ _ (by omega) (by omega) (by omega) (by omega)).mono ?_); rintro e w' ⟨rfl, rfl⟩)
    go_quiet ((go_at_call 46; exact Calls.quiet_of_same ((lowest_at j L _ _ (by omega) (by omega) HL.out).mono fun _ _ h => ⟨h.1, h.2.symm⟩)))
    go_wp2_with fail
    go_ret2
    exact ⟨ret_two HZ.out.1 HZ.out.2, _, rfl⟩
end Go.Proofs.Ytkidgijoopdidaa
