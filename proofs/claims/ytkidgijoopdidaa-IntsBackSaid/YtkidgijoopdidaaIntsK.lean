/- Turn, of both sides. -/
import Derived.Test.YtkidgijoopdidaaIntsJ
namespace Go.Proofs.Ytkidgijoopdidaa
open Go.RowKit Go.Lib
set_option linter.unusedVariables false

def turnOk (n : Nat) (b : Int) : Bool := inB b && fitB n b.toNat
def turnVal (n : Nat) (b k : Int) : Int := if turnOk n b = true then (turnN n b.toNat (k % b).toNat : Int) else 0
def turnErr (n : Nat) (b : Int) : Int := if turnOk n b = true then 0 else 7
theorem turnErr_no {n : Nat} {b k : Int} (h : turnOk n b = false) : (0 : Int) = turnVal n b k ∧ (7 : Int) = turnErr n b := by unfold turnVal turnErr; rw [h]; exact ⟨rfl, rfl⟩
theorem turnErr_yes {n : Nat} {b k x : Int} (h : turnOk n b = true) (hv : x = turnN n b.toNat (k % b).toNat) : x = turnVal n b k ∧ (0 : Int) = turnErr n b := by unfold turnVal turnErr; rw [h]; exact ⟨hv, rfl⟩
theorem turn_model {n k u L : Nat} (hu : u ≤ k) (hk : k ≤ 64) (hn : n < 2 ^ k) (hL : L = 2 ^ k - 1) :
    bits .and .u64 (bits .or .u64 (IntKind.u64.wrap ((n : Int) * 2 ^ u)) ((n : Int) / 2 ^ (k - u))) (L : Int) = (turnN n k u : Int) := by
  subst hL
  have h64 : n < 18446744073709551616 := Nat.lt_of_lt_of_le hn (pw_le64 hk)
  have h1 : n * 2 ^ u % 18446744073709551616 < 18446744073709551616 := Nat.mod_lt _ (by decide)
  have h2 : n / 2 ^ (k - u) < 18446744073709551616 := Nat.lt_of_le_of_lt (Nat.div_le_self _ _) h64
  have h3 : (n * 2 ^ u % 18446744073709551616) ||| (n / 2 ^ (k - u)) < 18446744073709551616 := Nat.or_lt_two_pow (n := 64) h1 h2
  rw [cast_pw, cast_pw, ← Int.natCast_mul, ← Int.natCast_ediv, IntKind.wrap_u64, show (((n * 2 ^ u : Nat) : Int) % 18446744073709551616) = ((n * 2 ^ u % 18446744073709551616 : Nat) : Int) by omega,
    u64_or_nat _ _ h1 h2, and_low hk h3, turn_bits hu hk hn]
theorem tmod_cases (k b : Int) (hb : 0 < b) : (0 ≤ k.tmod b ∧ k.tmod b = k % b) ∨ (k.tmod b < 0 ∧ k.tmod b = k % b - b) := by
  have h := Int.tmod_eq_emod (a := k) (b := b)
  have h0 := Int.emod_nonneg k (b := b) (by omega)
  have h1 := Int.emod_lt_of_pos k hb
  split at h
  · left; omega
  · right; omega

set_option maxHeartbeats 1000000 in
theorem turn_any (n : Nat) (b k : Int) (w : World) (hn : n < 18446744073709551616) (b0 : -9223372036854775808 ≤ b) (b1 : b ≤ 9223372036854775807) (k0 : -9223372036854775808 ≤ k) (k1 : k ≤ 9223372036854775807) :
    Calls Try.prog 29 #[.int .u64 n, .int .i64 b, .int .i64 k] w fun e w' => e = .returned (.tuple #[.int .u64 (turnVal n b k), .int .i64 (turnErr n b)]) ∧ ∃ q, w' = w.drewN q := by
  by_cases hb : 1 ≤ b ∧ b ≤ 64
  case neg =>
    have HZ := Lib.hid (turnErr_no (n := n) (b := b) (k := k) (by unfold turnOk inB; simp; omega))
    go_enter Try.func29, Try.ntmps29
    go_wp2_with (go_at_call 45; (with_reducible refine (counts_no b _ (by omega)).mono ?_); rintro e w' ⟨rfl, rfl⟩)
    go_ret2
    exact ⟨ret_two HZ.out.1 HZ.out.2, 0, rfl⟩
  case pos =>
    obtain ⟨h1, h2⟩ := hb
    obtain ⟨m, rfl⟩ : ∃ m : Nat, b = m := ⟨b.toNat, by omega⟩
    have hm : m ≤ 64 := by omega
    have hm1 : 1 ≤ m := by omega
    cases hf : fitB n m
    case false =>
      have HZ := Lib.hid (turnErr_no (n := n) (b := m) (k := k) (by unfold turnOk; rw [Int.toNat_natCast, hf]; simp))
      have HF := Lib.hid hf; clear hf
      go_enter Try.func29, Try.ntmps29
      go_wp2_with (first
        | (go_at_call 45; (with_reducible refine (counts_yes _ _ (by omega) (by omega)).mono ?_); rintro e w' ⟨rfl, rfl⟩)
        | (go_at_call 41; (with_reducible refine (fits_any n m _ hn hm).mono ?_); rintro e w' ⟨rfl, rfl⟩; rw [HF.out]))
      go_ret2
      exact ⟨ret_two HZ.out.1 HZ.out.2, 0, rfl⟩
    case true =>
      have HZ := Lib.hid (turnErr_yes (n := n) (b := m) (k := k) (by unfold turnOk; rw [Int.toNat_natCast, hf, inB_of hm1 hm]; rfl) rfl)
      obtain ⟨u, hu⟩ : ∃ u : Nat, k % (m : Int) = u := ⟨(k % (m : Int)).toNat, by have := Int.emod_nonneg k (b := (m : Int)) (by omega); omega⟩
      have hum : u < m := by have := Int.emod_lt_of_pos k (b := (m : Int)) (by omega); omega
      have ht := tmod_cases k m (by omega)
      rw [hu] at ht HZ
      rw [Int.toNat_natCast, Int.toNat_natCast] at HZ
      clear hu
      obtain ⟨L, hL⟩ : ∃ L, L = 2 ^ m - 1 := ⟨_, rfl⟩
      have EM := turn_model (u := u) (by omega) hm (fitB_lt hf) hL
      have HL := Lib.hid hL; clear hL
      have HF := Lib.hid hf; clear hf
      have hu64 : u ≤ 63 := by omega
      rcases ht with ⟨ht, ht2⟩ | ⟨ht, ht2⟩
      all_goals
        clear ht
        go_enter Try.func29, Try.ntmps29
        go_wp2_with (first
          | (go_at_call 45; (with_reducible refine (counts_yes _ _ (by omega) (by omega)).mono ?_); rintro e w' ⟨rfl, rfl⟩)
          | (go_at_call 41; (with_reducible refine (fits_any n m _ hn hm).mono ?_); rintro e w' ⟨rfl, rfl⟩; rw [HF.out]))
        go_quiet ((go_at_call 46; exact Calls.quiet_of_same ((lowest_at m L _ _ (by omega) (by omega) HL.out).mono fun _ _ h => ⟨h.1, h.2.symm⟩)))
        go_wp2_with fail
        go_ret2
        exact ⟨ret_two HZ.out.1 HZ.out.2, _, rfl⟩
end Go.Proofs.Ytkidgijoopdidaa
