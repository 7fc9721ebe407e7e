/- The reference's numbers of 128 bits. -/
import Derived.Test.YtipcanphkdodaaaDoorShaS
namespace Go.Proofs.YtipcanphkdodaaaDoor
open Go.RowKit
set_option linter.unusedVariables false

def wideV (x : Nat) : Array Value := #[.int .u64 ((x / 18446744073709551616 : Nat) : Int), .int .u64 ((x % 18446744073709551616 : Nat) : Int)]
theorem wideV_size (x : Nat) : (wideV x).size = 2 := rfl
theorem and32 {n : Nat} (hn : n < 18446744073709551616) : bits .and .u64 (n : Int) 4294967295 = ((n % 4294967296 : Nat) : Int) := by
  rw [show (4294967295 : Int) = ((4294967295 : Nat) : Int) from rfl, u64_and_nat _ _ hn (by decide), show (4294967295 : Nat) = 2 ^ 32 - 1 from rfl, Nat.and_two_pow_sub_one_eq_mod]
theorem w64 {n : Nat} (hn : n < 18446744073709551616) : IntKind.u64.wrap (n : Int) = (n : Int) := by rw [IntKind.wrap_u64]; omega
theorem w64' (n : Nat) : IntKind.u64.wrap (n : Int) = ((n % 18446744073709551616 : Nat) : Int) := by rw [IntKind.wrap_u64]; omega
theorem mul_lt {a b : Nat} (ha : a < 4294967296) (hb : b < 4294967296) : a * b < 18446744065119617026 := by
  have := Nat.mul_le_mul (show a ≤ 4294967295 by omega) (show b ≤ 4294967295 by omega)
  omega
theorem times_hl (p q r s : Nat) (hp : p < 18446744065119617026) (hq : q < 18446744065119617026) (hr : r < 18446744065119617026) (hs : s < 18446744065119617026) (M : Nat) (hM : M = s / 4294967296 + q % 4294967296 + r % 4294967296) :
    (p * 18446744073709551616 + (q + r) * 4294967296 + s) % 18446744073709551616 = (M * 4294967296 % 18446744073709551616 + s % 4294967296) % 18446744073709551616 ∧
    (p * 18446744073709551616 + (q + r) * 4294967296 + s) / 18446744073709551616 = p + q / 4294967296 + r / 4294967296 + M / 4294967296 := by omega
theorem times_split (a b : Nat) : a * b = (a / 4294967296) * (b / 4294967296) * 18446744073709551616 + ((a / 4294967296) * (b % 4294967296) + (a % 4294967296) * (b / 4294967296)) * 4294967296 + (a % 4294967296) * (b % 4294967296) := by
  have ea : a = (a / 4294967296) * 4294967296 + a % 4294967296 := by omega
  have eb : b = (b / 4294967296) * 4294967296 + b % 4294967296 := by omega
  generalize a / 4294967296 = a1 at ea ⊢
  generalize a % 4294967296 = a0 at ea ⊢
  generalize b / 4294967296 = b1 at eb ⊢
  generalize b % 4294967296 = b0 at eb ⊢
  subst ea eb
  rw [show (18446744073709551616 : Nat) = 4294967296 * 4294967296 from rfl]
  generalize (4294967296 : Nat) = c
  grind
theorem cdiv (n : Nat) : (n : Int) / 4294967296 = ((n / 4294967296 : Nat) : Int) := by omega
theorem cmul (n : Nat) : (n : Int) * 4294967296 = ((n * 4294967296 : Nat) : Int) := by omega
theorem times_eq {a b : Nat} (ha : a < 18446744073709551616) (hb : b < 18446744073709551616) (P Q R S M X Y : Int)
    (hP : P = IntKind.u64.wrap ((a : Int) / 4294967296 * ((b : Int) / 4294967296))) (hQ : Q = IntKind.u64.wrap ((a : Int) / 4294967296 * bits .and .u64 (b : Int) 4294967295))
    (hR : R = IntKind.u64.wrap (bits .and .u64 (a : Int) 4294967295 * ((b : Int) / 4294967296))) (hS : S = IntKind.u64.wrap (bits .and .u64 (a : Int) 4294967295 * bits .and .u64 (b : Int) 4294967295))
    (hM : M = IntKind.u64.wrap (IntKind.u64.wrap (S / 4294967296 + bits .and .u64 Q 4294967295) + bits .and .u64 R 4294967295))
    (hX : X = IntKind.u64.wrap (IntKind.u64.wrap (IntKind.u64.wrap (P + Q / 4294967296) + R / 4294967296) + M / 4294967296))
    (hY : Y = IntKind.u64.wrap (IntKind.u64.wrap (M * 4294967296) + bits .and .u64 S 4294967295)) :
    X = ((a * b / 18446744073709551616 : Nat) : Int) ∧ Y = ((a * b % 18446744073709551616 : Nat) : Int) := by
  have a1 : a / 4294967296 < 4294967296 := by omega
  have a0 : a % 4294967296 < 4294967296 := by omega
  have b1 : b / 4294967296 < 4294967296 := by omega
  have b0 : b % 4294967296 < 4294967296 := by omega
  have lp := mul_lt a1 b1; have lq := mul_lt a1 b0; have lr := mul_lt a0 b1; have ls := mul_lt a0 b0
  rw [and32 hb] at hQ hS
  rw [and32 ha] at hR hS
  rw [cdiv, cdiv, ← Int.natCast_mul, w64 (by omega)] at hP
  rw [cdiv, ← Int.natCast_mul, w64 (by omega)] at hQ
  rw [cdiv, ← Int.natCast_mul, w64 (by omega)] at hR
  rw [← Int.natCast_mul, w64 (by omega)] at hS
  rw [times_split a b]
  generalize a / 4294967296 * (b / 4294967296) = p at *
  generalize a / 4294967296 * (b % 4294967296) = q at *
  generalize a % 4294967296 * (b / 4294967296) = r at *
  generalize a % 4294967296 * (b % 4294967296) = s at *
  subst hP hQ hR hS
  obtain ⟨e1, e2⟩ := times_hl p q r s lp lq lr ls _ rfl
  rw [e1, e2]
  rw [and32 (by omega), and32 (by omega), cdiv, ← Int.natCast_add, w64 (by omega), ← Int.natCast_add, w64 (by omega)] at hM
  generalize s / 4294967296 + q % 4294967296 + r % 4294967296 = m at *
  subst hM
  have e3 : (p * 18446744073709551616 + (q + r) * 4294967296 + s) / 18446744073709551616 < 18446744073709551616 := by omega
  rw [e2] at e3
  constructor
  · rw [hX, cdiv, ← Int.natCast_add, w64 (by omega), cdiv, ← Int.natCast_add, w64 (by omega), cdiv, ← Int.natCast_add, w64 (by omega)]
  · rw [hY, and32 (by omega), cmul, w64', ← Int.natCast_add, w64']
theorem infoWide : (Tryd.prog.info? 98).map (·.size) = some 2 := by kernel_rfl
set_option maxRecDepth 4000 in
set_option maxHeartbeats 1000000 in
theorem rtimes_any (a b : Nat) (w : World) (ha : a < 18446744073709551616) (hb : b < 18446744073709551616) : Calls Tryd.prog 63 #[.int .u64 a, .int .u64 b] w (Gives w (.agg (wideV (a * b)))) := by
  obtain ⟨eX, eY⟩ := times_eq ha hb _ _ _ _ _ _ _ rfl rfl rfl rfl rfl rfl rfl
  have EX := Lib.hid eX; have EY := Lib.hid eY; clear eX eY
  go_enter Tryd.func63, Tryd.ntmps63
  go_wp2_with fail
  rw [EX.out, EY.out]
  refine bodyPost_ret (v := .agg (wideV (a * b))) (results_cell_row Tryd.results63 _ _ w.heap.size 98 _ (0, 0) _ rfl (AR.made w _ _) Tryd.underlying98 rfl infoWide) rfl ⟨rfl, bl_self _ _⟩
theorem lex_lt (x y : Nat) : x < y ↔ (x / 18446744073709551616 < y / 18446744073709551616 ∨ x / 18446744073709551616 = y / 18446744073709551616 ∧ x % 18446744073709551616 < y % 18446744073709551616) := by omega
theorem rless_any (x y : Nat) (w : World) : Calls Tryd.prog 57 #[.agg (wideV x), .agg (wideV y)] w (Gives w (.bool (decide (x < y)))) := by
  have hl := lex_lt x y
  unfold wideV
  generalize x / 18446744073709551616 = a at *
  generalize x % 18446744073709551616 = b at *
  generalize y / 18446744073709551616 = c at *
  generalize y % 18446744073709551616 = d at *
  have HB : Hid (Below w.heap.size w ((w.alloc (.cells #[.int .u64 (a : Int), .int .u64 (b : Int)] 98)).alloc (.cells #[.int .u64 (c : Int), .int .u64 (d : Int)] 98))) := Lib.hid (bl_alloc _ (bl_alloc _ (Below.refl _ _)))
  by_cases h1 : a < c
  · have e : decide (x < y) = true := decide_eq_true (hl.2 (.inl h1))
    rw [e]
    have g1 : decide ((a : Int) < (c : Int)) = true := decide_eq_true (by omega)
    clear e hl
    go_enter Tryd.func57, Tryd.ntmps57
    go_wp2_with fail
    go_ret
    exact ⟨rfl, HB.out⟩
  · have g1 : decide ((a : Int) < (c : Int)) = false := decide_eq_false (by omega)
    by_cases h2 : a = c
    · subst h2
      by_cases h3 : b < d
      · have e : decide (x < y) = true := decide_eq_true (hl.2 (.inr ⟨rfl, h3⟩))
        rw [e]
        have g3 : decide ((b : Int) < (d : Int)) = true := decide_eq_true (by omega)
        clear e hl
        go_enter Tryd.func57, Tryd.ntmps57
        go_wp2_with fail
        go_ret
        exact ⟨rfl, HB.out⟩
      · have e : decide (x < y) = false := decide_eq_false (fun h => by rcases hl.1 h with h | ⟨_, h⟩ <;> omega)
        rw [e]
        have g3 : decide ((b : Int) < (d : Int)) = false := decide_eq_false (by omega)
        clear e hl
        go_enter Tryd.func57, Tryd.ntmps57
        go_wp2_with fail
        go_ret
        exact ⟨rfl, HB.out⟩
    · have e : decide (x < y) = false := decide_eq_false (fun h => by rcases hl.1 h with h | ⟨h, _⟩ <;> omega)
      rw [e]
      have g2 : ((a : Int) == (c : Int)) = false := by simp; omega
      clear e hl
      go_enter Tryd.func57, Tryd.ntmps57
      go_wp2_with fail
      go_ret
      exact ⟨rfl, HB.out⟩
theorem wideV_two (x : Nat) : wideV x = #[.int .u64 ((x / 18446744073709551616 : Nat) : Int), .int .u64 ((x % 18446744073709551616 : Nat) : Int)] := rfl
def powN (m : Nat) (t : Bool) : Nat := if t then m * m * m else m * m
theorem power_hi {m : Nat} (hm : m < 2199023255552) : IntKind.u64.wrap (((m * m % 18446744073709551616 * m / 18446744073709551616 : Nat) : Int) + IntKind.u64.wrap (((m * m / 18446744073709551616 : Nat) : Int) * (m : Int))) = ((m * m * m / 18446744073709551616 : Nat) : Int) ∧ m * m % 18446744073709551616 * m % 18446744073709551616 = m * m * m % 18446744073709551616 := by
  have h2 : m * m < 4835703278458516698824704 := by
    have := Nat.mul_le_mul (show m ≤ 2199023255551 by omega) (show m ≤ 2199023255551 by omega)
    omega
  have h3 : m * m / 18446744073709551616 * m < 18446744073709551616 := by
    have := Nat.mul_le_mul (show m * m / 18446744073709551616 ≤ 262144 by omega) (show m ≤ 2199023255551 by omega)
    omega
  have h4 : m * m % 18446744073709551616 * m < 18446744073709551616 * 2199023255552 := Nat.mul_lt_mul'' (Nat.mod_lt _ (by omega)) hm
  have e : m * m * m = m * m / 18446744073709551616 * m * 18446744073709551616 + m * m % 18446744073709551616 * m := by
    conv => lhs; rw [show m * m = m * m / 18446744073709551616 * 18446744073709551616 + m * m % 18446744073709551616 by omega]
    rw [Nat.add_mul, Nat.mul_right_comm]
  have h5 : m * m * m < 10633823966279326983230456482242756608 := by
    have := Nat.mul_le_mul (show m * m ≤ 4835703278458516698824703 by omega) (show m ≤ 2199023255551 by omega)
    omega
  rw [← Int.natCast_mul, w64 h3, ← Int.natCast_add]
  rw [e] at h5 ⊢
  generalize m * m / 18446744073709551616 * m = u at *
  generalize m * m % 18446744073709551616 * m = v at *
  rw [w64 (by omega)]
  omega
end Go.Proofs.YtipcanphkdodaaaDoor
