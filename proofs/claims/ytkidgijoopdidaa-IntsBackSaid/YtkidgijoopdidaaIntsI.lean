/- Field of the reference; With of both sides. -/
import Derived.Test.YtkidgijoopdidaaIntsH
namespace Go.Proofs.Ytkidgijoopdidaa
open Go.RowKit Go.Lib
set_option linter.unusedVariables false

theorem rf_step (n i c : Nat) : ∀ x : Nat, x = fieldN n (i + 1) c → (2 * (x : Int) + (n : Int) / 2 ^ i % 2) = ((fieldN n i (c + 1) : Nat) : Int) := by
  intro x hx
  rw [← fieldN_step, ← hx, cast_pw, ← Int.natCast_ediv]
  omega
theorem fieldN_bd (n e c : Nat) (hc : c ≤ 63) : fieldN n e c ≤ 9223372036854775807 := by have := fieldN_lt n e c; have := pw_le63 hc; omega

set_option maxHeartbeats 2000000 in
theorem rfield_any (n : Nat) (a m : Int) (w : World) (hn : n < 18446744073709551616) (a0 : -9223372036854775808 ≤ a) (a1 : a ≤ 9223372036854775807) (m0 : -9223372036854775808 ≤ m) (m1 : m ≤ 9223372036854775807) :
    Calls Try.prog 32 #[.int .u64 n, .int .i64 a, .int .i64 m] w fun e w' => e = .returned (.tuple #[.int .u64 (fieldVal n a m), .int .i64 (fieldErr a m)]) ∧ w = w' := by
  cases ho : okF a m
  case false =>
    have hc := okF_no ho
    have HZ := Lib.hid (fieldErr_no (n := n) ho); clear ho
    by_cases c1 : a < 0
    · clear hc
      go_enter Try.func32, Try.ntmps32
      go_wp2_with fail
      go_ret2
      exact ⟨ret_two HZ.out.1 HZ.out.2, rfl⟩
    by_cases c2 : 63 < a
    · clear hc
      go_enter Try.func32, Try.ntmps32
      go_wp2_with fail
      go_ret2
      exact ⟨ret_two HZ.out.1 HZ.out.2, rfl⟩
    by_cases c3 : m < 1
    · clear hc
      go_enter Try.func32, Try.ntmps32
      go_wp2_with fail
      go_ret2
      exact ⟨ret_two HZ.out.1 HZ.out.2, rfl⟩
    have c4 : 64 - a < m := by omega
    clear hc
    go_enter Try.func32, Try.ntmps32
    go_wp2_with fail
    go_ret2
    exact ⟨ret_two HZ.out.1 HZ.out.2, rfl⟩
  case true =>
    obtain ⟨i, j, rfl, rfl, hj1, hij⟩ := okF_yes ho
    have HZ := Lib.hid (fieldErr_yes (n := n) ho rfl); clear ho
    have c2 : ¬ (63 : Int) < i := by omega
    have c4 : ¬ 64 - (i : Int) < j := by omega
    go_enter Try.func32, Try.ntmps32
    go_wp2_with fail
    go_loop [8, 9] (fun v u => ∃ (x c : Nat), v = .int .u64 x ∧ u = .int .i64 ((j : Int) - c - 1) ∧ c ≤ j ∧ Hid (x = fieldN n (i + (j - c)) c)) (fun _ u => (intOf u + 1).toNat)
    case atStart => exact ⟨0, 0, rfl, by go_num, by omega, Lib.hid (by rw [fieldN_zero])⟩
    case round =>
      obtain ⟨x, c, rfl, rfl, hc, HX⟩ := hrel
      by_cases hlt : c < j
      · have hx : x ≤ 9223372036854775807 := by rw [HX.out]; exact fieldN_bd _ _ _ (by omega)
        obtain ⟨e, he⟩ : ∃ e : Nat, (i : Int) + ((j : Int) - c - 1) = e := ⟨i + (j - c) - 1, by omega⟩
        have h63 : e ≤ 63 := by omega
        have HS := Lib.hid (rf_step n e c x (by rw [HX.out]; congr 1; omega))
        have HE : Hid (e = i + (j - (c + 1))) := Lib.hid (by omega)
        clear HX
        have hq : 0 ≤ (n : Int) / 2 ^ e := by rw [cast_pw]; exact Int.ediv_nonneg (by omega) (Int.natCast_nonneg _)
        go_wp2_with fail
        go_round
        case rel => exact ⟨fieldN n e (c + 1), c + 1, by rw [HS.out], by go_num, by omega, Lib.hid (by rw [HE.out])⟩
        case measure => simp [intOf]; omega
      · obtain rfl : c = j := by omega
        have HG : Hid ((x : Int) = fieldVal n i c) := Lib.hid (by rw [← HZ.out.1, HX.out]; simp)
        have HG2 := Lib.hid HZ.out.2
        clear HX HZ
        go_wp2_with fail
        go_ret2
        exact ⟨ret_two HG.out HG2.out, rfl⟩

/-! ### With -/
def withVal (n : Nat) (a m : Int) (v : Nat) : Int := if (okF a m && fitB v m.toNat) = true then (withN n a.toNat m.toNat v : Int) else 0
def withErr (a m : Int) (v : Nat) : Int := if (okF a m && fitB v m.toNat) = true then 0 else 7
theorem withErr_no {n v : Nat} {a m : Int} (h : (okF a m && fitB v m.toNat) = false) : (0 : Int) = withVal n a m v ∧ (7 : Int) = withErr a m v := by unfold withVal withErr; rw [h]; exact ⟨rfl, rfl⟩
theorem withErr_yes {n v : Nat} {a m x : Int} (h : (okF a m && fitB v m.toNat) = true) (hv : x = withN n a.toNat m.toNat v) : x = withVal n a m v ∧ (0 : Int) = withErr a m v := by unfold withVal withErr; rw [h]; exact ⟨hv, rfl⟩
theorem mask_lt {i j : Nat} (h : i + j ≤ 64) : (2 ^ j - 1) * 2 ^ i < 18446744073709551616 := by
  have h1 : 2 ^ j * 2 ^ i ≤ 2 ^ 64 := by rw [← Nat.pow_add]; exact pw_le (by omega)
  have h2 := pw_pos j; have h3 := pw_pos i
  have h4 : (2 ^ j - 1) * 2 ^ i < 2 ^ j * 2 ^ i := Nat.mul_lt_mul_of_pos_right (by omega) h3
  omega
theorem put_lt {v i j : Nat} (hv : v < 2 ^ j) (h : i + j ≤ 64) : v * 2 ^ i < 18446744073709551616 := by
  have h1 : 2 ^ j * 2 ^ i ≤ 2 ^ 64 := by rw [← Nat.pow_add]; exact pw_le (by omega)
  have h4 : v * 2 ^ i < 2 ^ j * 2 ^ i := Nat.mul_lt_mul_of_pos_right hv (pw_pos i)
  omega
theorem with_model {n i j v L : Nat} (hn : n < 18446744073709551616) (hv : v < 2 ^ j) (h : i + j ≤ 64) (hL : L = 2 ^ j - 1) :
    bits .or .u64 (bits .andNot .u64 (n : Int) (IntKind.u64.wrap ((L : Int) * 2 ^ i))) (IntKind.u64.wrap ((v : Int) * 2 ^ i)) = (withN n i j v : Int) := by
  subst hL
  have h1 := mask_lt h
  have h2 := put_lt hv h
  rw [cast_pw, ← Int.natCast_mul, ← Int.natCast_mul, IntKind.wrap_u64, IntKind.wrap_u64, show ((((2 ^ j - 1) * 2 ^ i : Nat) : Int) % 18446744073709551616) = (((2 ^ j - 1) * 2 ^ i : Nat) : Int) by omega, show (((v * 2 ^ i : Nat) : Int) % 18446744073709551616) = ((v * 2 ^ i : Nat) : Int) by omega,
    u64_andNot_nat n _ hn h1, u64_or_nat _ _ (Nat.lt_of_le_of_lt Nat.and_le_left hn) h2, with_bits hn hv h]

set_option maxHeartbeats 1000000 in
theorem with_any (n : Nat) (a m : Int) (v : Nat) (w : World) (hn : n < 18446744073709551616) (hv : v < 18446744073709551616) (a0 : -9223372036854775808 ≤ a) (a1 : a ≤ 9223372036854775807) :
    Calls Try.prog 33 #[.int .u64 n, .int .i64 a, .int .i64 m, .int .u64 v] w fun e w' => e = .returned (.tuple #[.int .u64 (withVal n a m v), .int .i64 (withErr a m v)]) ∧ ∃ q, w' = w.drewN q := by
  cases ho : okF a m
  case false =>
    have hc := okF_no ho
    have HZ := Lib.hid (withErr_no (n := n) (v := v) (by rw [ho]; rfl)); clear ho
    go_enter Try.func33, Try.ntmps33
    go_wp2_with (go_at_call 47; (with_reducible refine (field_no a m _ a0 a1 hc).mono ?_); rintro e w' ⟨rfl, rfl⟩)
    go_ret2
    exact ⟨ret_two HZ.out.1 HZ.out.2, 0, rfl⟩
  case true =>
    obtain ⟨i, j, rfl, rfl, hj1, hij⟩ := okF_yes ho
    cases hf : fitB v j
    case false =>
      have HZ := Lib.hid (withErr_no (n := n) (v := v) (a := i) (m := j) (by rw [ho, Int.toNat_natCast, hf]; rfl)); clear ho
      have HF := Lib.hid hf; clear hf
      go_enter Try.func33, Try.ntmps33
      go_wp2_with (first
        | (go_at_call 47; (with_reducible refine (field_yes _ _ _ (by omega) (by omega) (by omega) (by omega)).mono ?_); rintro e w' ⟨rfl, rfl⟩)
        | (go_at_call 41; (with_reducible refine (fits_any v j _ hv (by omega)).mono ?_); rintro e w' ⟨rfl, rfl⟩; rw [HF.out]))
      go_ret2
      exact ⟨ret_two HZ.out.1 HZ.out.2, 0, rfl⟩
    case true =>
      have HZ := Lib.hid (withErr_yes (n := n) (v := v) (a := i) (m := j) (by rw [ho, Int.toNat_natCast, hf]; rfl) rfl); clear ho
      obtain ⟨L, hL⟩ : ∃ L, L = 2 ^ j - 1 := ⟨_, rfl⟩
      have EM := with_model (i := i) hn (fitB_lt hf) hij hL
      have HF := Lib.hid hf; clear hf
      have HL := Lib.hid hL; clear hL
      have i63 : i ≤ 63 := by omega
      go_enter Try.func33, Try.ntmps33
      go_wp2_with (first
        | (go_at_call 47; (with_reducible refine (field_yes _ _ _ (by omega) (by omega) (by omega) (by omega)).mono ?_); rintro e w' ⟨rfl, rfl⟩)
        | (go_at_call 41; (with_reducible refine (fits_any v j _ hv (by omega)).mono ?_); rintro e w' ⟨rfl, rfl⟩; rw [HF.out]))
      go_quiet ((go_at_call 46; exact Calls.quiet_of_same ((lowest_at j L _ _ (by omega) (by omega) HL.out).mono fun _ _ h => ⟨h.1, h.2.symm⟩)))
      go_wp2_with fail
      go_ret2
      exact ⟨ret_two HZ.out.1 HZ.out.2, _, rfl⟩
end Go.Proofs.Ytkidgijoopdidaa
