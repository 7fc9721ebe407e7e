/- The contracts of the program's functions over words. -/
import Derived.Test.YtipcanphkdodaaaDoorChecked
import Derived.Test.YtipcanphkdodaaaDoorShaM
import Derived.WalkKit
import Derived.WalkSpells
import Derived.WalkLawsBesides
import Derived.Outline
import Derived.Lib.Hide
import Derived.Deep.QuietTactic
import Derived.BigQuiet
namespace Go.Proofs.YtipcanphkdodaaaDoor
open Go.RowKit Go.Lib
set_option linter.unusedVariables false

theorem ret_int {k : IntKind} {a b : Int} (h : a = b) : Ending.returned (.int k a) = .returned (.int k b) := by rw [h]
set_option maxHeartbeats 1000000 in
theorem rot_any (x n : Nat) (w : World) (hx : x < 4294967296) (h0 : 1 ≤ n) (h1 : n ≤ 31) : Calls Tryd.prog 61 #[.int .u32 x, .int .i64 n] w fun e w' => e = .returned (.int .u32 (rotN x n)) ∧ ∃ q, w' = w.drewN q := by
  obtain ⟨m, hm⟩ : ∃ m : Nat, (32 : Int) - n = m := ⟨32 - n, by omega⟩
  have hb := rot_bits (n := n) (m := m) hx (by omega)
  have HB := Lib.hid hb; clear hb
  go_enter Tryd.func61, Tryd.ntmps61
  go_wp2_with fail
  go_quiet (fail)
  go_wp2_with fail
  go_ret
  exact ⟨ret_int HB.out, _, rfl⟩
theorem shr_any (x n : Nat) (w : World) (hx : x < 4294967296) (h1 : n ≤ 31) : Calls Tryd.prog 62 #[.int .u32 x, .int .i64 n] w fun e w' => e = .returned (.int .u32 ((x / 2 ^ n : Nat) : Int)) ∧ w = w' := by
  go_enter Tryd.func62, Tryd.ntmps62
  go_wp2_with fail
  go_ret
  exact ⟨ret_int (cast_div x n), rfl⟩
theorem choose_any (x y z : Nat) (w : World) (hx : x < 4294967296) (hy : y < 4294967296) (hz : z < 4294967296) : Calls Tryd.prog 53 #[.int .u32 x, .int .u32 y, .int .u32 z] w fun e w' => e = .returned (.int .u32 (chN x y z)) ∧ w = w' := by
  have hsg : IntKind.u32.signed = false := rfl
  have HB := Lib.hid (ch_bits hx hy hz)
  go_enter Tryd.func53, Tryd.ntmps53
  go_wp2_with fail
  go_ret
  exact ⟨ret_int HB.out, rfl⟩
theorem majority_any (x y z : Nat) (w : World) (hx : x < 4294967296) (hy : y < 4294967296) (hz : z < 4294967296) : Calls Tryd.prog 55 #[.int .u32 x, .int .u32 y, .int .u32 z] w fun e w' => e = .returned (.int .u32 (mjN x y z)) ∧ w = w' := by
  go_enter Tryd.func55, Tryd.ntmps55
  go_wp2_with fail
  go_ret
  exact ⟨ret_int (mj_bits hx hy hz), rfl⟩
theorem rot_at (x n : Nat) (k : Int) (w : World) (hx : x < 4294967296) (hk : k = n) (h0 : 1 ≤ n) (h1 : n ≤ 31) : Calls Tryd.prog 61 #[.int .u32 x, .int .i64 k] w fun e w' => e = .returned (.int .u32 (rotN x n)) ∧ ∃ q, w' = w.drewN q := by
  subst hk; exact rot_any x n w hx h0 h1
theorem shr_at (x n : Nat) (k : Int) (w : World) (hx : x < 4294967296) (hk : k = n) (h1 : n ≤ 31) : Calls Tryd.prog 62 #[.int .u32 x, .int .i64 k] w fun e w' => e = .returned (.int .u32 ((x / 2 ^ n : Nat) : Int)) ∧ w = w' := by
  subst hk; exact shr_any x n w hx h1

set_option maxHeartbeats 1000000 in
theorem small0_any (x : Nat) (w : World) (hx : x < 4294967296) : Calls Tryd.prog 51 #[.int .u32 x] w fun e w' => e = .returned (.int .u32 (sm0 x)) ∧ ∃ q, w' = w.drewN q := by
  have HB := Lib.hid (xor3_bits (rotN_lt 7 hx) (rotN_lt 18 hx) (div_lt (n := 3) hx))
  have t1 : True := trivial; have t2 : True := trivial; have t3 : True := trivial
  go_enter Tryd.func51, Tryd.ntmps51
  go_wp2_with (first
    | (go_at_call 61; have _t := t1; (with_reducible refine (rot_at x 7 _ _ hx (by omega) (by omega) (by omega)).mono ?_); rintro e w' ⟨rfl, q, rfl⟩; clear t1 _t)
    | (go_at_call 61; have _t := t2; (with_reducible refine (rot_at x 18 _ _ hx (by omega) (by omega) (by omega)).mono ?_); rintro e w' ⟨rfl, q, rfl⟩; clear t2 _t)
    | (go_at_call 62; have _t := t3; (with_reducible refine (shr_at x 3 _ _ hx (by omega) (by omega)).mono ?_); rintro e w' ⟨rfl, rfl⟩; clear t3 _t))
  go_ret
  exact ⟨ret_int HB.out, _, rfl⟩

set_option maxHeartbeats 1000000 in
theorem small1_any (x : Nat) (w : World) (hx : x < 4294967296) : Calls Tryd.prog 50 #[.int .u32 x] w fun e w' => e = .returned (.int .u32 (sm1 x)) ∧ ∃ q, w' = w.drewN q := by
  have HB := Lib.hid (xor3_bits (rotN_lt 17 hx) (rotN_lt 19 hx) (div_lt (n := 10) hx))
  have t1 : True := trivial; have t2 : True := trivial; have t3 : True := trivial
  go_enter Tryd.func50, Tryd.ntmps50
  go_wp2_with (first
    | (go_at_call 61; have _t := t1; (with_reducible refine (rot_at x 17 _ _ hx (by omega) (by omega) (by omega)).mono ?_); rintro e w' ⟨rfl, q, rfl⟩; clear t1 _t)
    | (go_at_call 61; have _t := t2; (with_reducible refine (rot_at x 19 _ _ hx (by omega) (by omega) (by omega)).mono ?_); rintro e w' ⟨rfl, q, rfl⟩; clear t2 _t)
    | (go_at_call 62; have _t := t3; (with_reducible refine (shr_at x 10 _ _ hx (by omega) (by omega)).mono ?_); rintro e w' ⟨rfl, rfl⟩; clear t3 _t))
  go_ret
  exact ⟨ret_int HB.out, _, rfl⟩

set_option maxHeartbeats 1000000 in
theorem large0_any (x : Nat) (w : World) (hx : x < 4294967296) : Calls Tryd.prog 54 #[.int .u32 x] w fun e w' => e = .returned (.int .u32 (lg0 x)) ∧ ∃ q, w' = w.drewN q := by
  have HB := Lib.hid (xor3_bits (rotN_lt 2 hx) (rotN_lt 13 hx) (rotN_lt 22 hx))
  have t1 : True := trivial; have t2 : True := trivial; have t3 : True := trivial
  go_enter Tryd.func54, Tryd.ntmps54
  go_wp2_with (first
    | (go_at_call 61; have _t := t1; (with_reducible refine (rot_at x 2 _ _ hx (by omega) (by omega) (by omega)).mono ?_); rintro e w' ⟨rfl, q, rfl⟩; clear t1 _t)
    | (go_at_call 61; have _t := t2; (with_reducible refine (rot_at x 13 _ _ hx (by omega) (by omega) (by omega)).mono ?_); rintro e w' ⟨rfl, q, rfl⟩; clear t2 _t)
    | (go_at_call 61; have _t := t3; (with_reducible refine (rot_at x 22 _ _ hx (by omega) (by omega) (by omega)).mono ?_); rintro e w' ⟨rfl, q, rfl⟩; clear t3 _t))
  go_ret
  exact ⟨ret_int HB.out, _, rfl⟩

set_option maxHeartbeats 1000000 in
theorem large1_any (x : Nat) (w : World) (hx : x < 4294967296) : Calls Tryd.prog 52 #[.int .u32 x] w fun e w' => e = .returned (.int .u32 (lg1 x)) ∧ ∃ q, w' = w.drewN q := by
  have HB := Lib.hid (xor3_bits (rotN_lt 6 hx) (rotN_lt 11 hx) (rotN_lt 25 hx))
  have t1 : True := trivial; have t2 : True := trivial; have t3 : True := trivial
  go_enter Tryd.func52, Tryd.ntmps52
  go_wp2_with (first
    | (go_at_call 61; have _t := t1; (with_reducible refine (rot_at x 6 _ _ hx (by omega) (by omega) (by omega)).mono ?_); rintro e w' ⟨rfl, q, rfl⟩; clear t1 _t)
    | (go_at_call 61; have _t := t2; (with_reducible refine (rot_at x 11 _ _ hx (by omega) (by omega) (by omega)).mono ?_); rintro e w' ⟨rfl, q, rfl⟩; clear t2 _t)
    | (go_at_call 61; have _t := t3; (with_reducible refine (rot_at x 25 _ _ hx (by omega) (by omega) (by omega)).mono ?_); rintro e w' ⟨rfl, q, rfl⟩; clear t3 _t))
  go_ret
  exact ⟨ret_int HB.out, _, rfl⟩
end Go.Proofs.YtipcanphkdodaaaDoor
