/- Numbers in a number of bits: Fit, of the program and of the reference; Fit and Widen are inverse. -/
import Derived.Test.YtkidgijoopdidaaIntsE
namespace Go.Proofs.Ytkidgijoopdidaa
open Go.RowKit Go.Lib
set_option linter.unusedVariables false

/-- x as it is written in b bits. -/
def fV (x : Int) (b : Int) : Nat := (x % ((2 ^ b.toNat : Nat) : Int)).toNat
def fOk (x : Int) (b : Int) (s : Bool) : Bool := inB b && wOk (fV x b) b s && decide (wV (fV x b) b s = x)
def fVal (x : Int) (b : Int) (s : Bool) : Int := if fOk x b s = true then (fV x b : Int) else 0
def fErr (x : Int) (b : Int) (s : Bool) : Int := if fOk x b s = true then 0 else 7
theorem fErr_no {x b : Int} {s : Bool} (h : fOk x b s = false) : (0 : Int) = fVal x b s ∧ (7 : Int) = fErr x b s := by unfold fVal fErr; rw [h]; exact ⟨rfl, rfl⟩
theorem fErr_yes {x b : Int} {s : Bool} {v : Int} (h : fOk x b s = true) (hv : v = fV x b) : v = fVal x b s ∧ (0 : Int) = fErr x b s := by unfold fVal fErr; rw [h]; exact ⟨hv, rfl⟩
theorem fV_lt (x b : Int) : fV x b < 2 ^ b.toNat := by
  unfold fV
  have hp := pw_pos b.toNat
  generalize 2 ^ b.toNat = P at *
  have := Int.emod_lt_of_pos x (b := (P : Int)) (by omega)
  have h0 := Int.emod_nonneg x (b := (P : Int)) (by omega)
  omega
theorem and_low {n k : Nat} (hk : k ≤ 64) (hn : n < 18446744073709551616) : bits .and .u64 (n : Int) ((2 ^ k - 1 : Nat) : Int) = ((n % 2 ^ k : Nat) : Int) := by
  have h1 := pw_le64 hk
  have h2 := pw_pos k
  rw [u64_and_nat n _ hn (by omega), Nat.and_two_pow_sub_one_eq_mod]
theorem low_fV {x : Int} {k : Nat} (hk : k ≤ 64) : bits .and .u64 (IntKind.u64.wrap x) ((2 ^ k - 1 : Nat) : Int) = (fV x k : Int) := by
  rw [IntKind.wrap_u64]
  obtain ⟨n, hn⟩ : ∃ n : Nat, x % 18446744073709551616 = n := ⟨(x % 18446744073709551616).toNat, by omega⟩
  rw [hn, and_low hk (by omega)]
  unfold fV
  rw [Int.toNat_natCast]
  have hq := pw64 hk
  have hp := pw_pos k
  generalize 2 ^ k = P at *
  generalize 2 ^ (64 - k) = Q at *
  have : x % (P : Int) = (x % 18446744073709551616) % P := by
    rw [Int.emod_emod_of_dvd _ ⟨(Q : Int), by rw [← Int.natCast_mul, hq]; rfl⟩]
  rw [this, hn, ← Int.natCast_emod, Int.toNat_natCast]
theorem lowest_at (k L : Nat) (b : Int) (w : World) (hk : k ≤ 64) (hb : b = k) (hL : L = 2 ^ k - 1) : Calls Try.prog 46 #[.int .i64 b] w fun e w' => e = .returned (.int .u64 L) ∧ w = w' := by
  subst hb hL; exact lowest_any k w hk
theorem widen_at (n : Nat) (b v r : Int) (s : Bool) (w : World) (hn : n < 18446744073709551616) (b0 : -9223372036854775808 ≤ b) (b1 : b ≤ 9223372036854775807) (hv : wVal n b s = v) (hr : wErr n b s = r) :
    Calls Try.prog 27 #[.int .u64 n, .int .i64 b, .bool s] w fun e w' => e = .returned (.tuple #[.int .i64 v, .int .i64 r]) ∧ w = w' := by
  subst hv hr; exact widen_any n b s w hn b0 b1

set_option maxHeartbeats 1000000 in
theorem fit_any (x b : Int) (s : Bool) (w : World) (x0 : -9223372036854775808 ≤ x) (x1 : x ≤ 9223372036854775807) (b0 : -9223372036854775808 ≤ b) (b1 : b ≤ 9223372036854775807) :
    Calls Try.prog 25 #[.int .i64 x, .int .i64 b, .bool s] w fun e w' => e = .returned (.tuple #[.int .u64 (fVal x b s), .int .i64 (fErr x b s)]) ∧ w = w' := by
  by_cases hb : 1 ≤ b ∧ b ≤ 64
  case neg =>
    have hz : fOk x b s = false := by unfold fOk inB; simp; omega
    have HZ := Lib.hid (fErr_no hz); clear hz
    go_enter Try.func25, Try.ntmps25
    go_wp2_with (go_at_call 45; (with_reducible refine (counts_no b _ (by omega)).mono ?_); rintro e w' ⟨rfl, rfl⟩)
    go_ret2
    exact ⟨ret_two HZ.out.1 HZ.out.2, rfl⟩
  case pos =>
    obtain ⟨h1, h2⟩ := hb
    obtain ⟨k, rfl⟩ : ∃ k : Nat, b = k := ⟨b.toNat, by omega⟩
    have hk : k ≤ 64 := by omega
    have hin : inB (k : Int) = true := by unfold inB; simp; omega
    obtain ⟨L, hL⟩ : ∃ L, L = 2 ^ k - 1 := ⟨_, rfl⟩
    obtain ⟨m, hm⟩ : ∃ m, fV x k = m := ⟨_, rfl⟩
    have EM : bits .and .u64 (IntKind.u64.wrap x) (L : Int) = (m : Int) := by rw [hL, low_fV hk, hm]
    have HL := Lib.hid hL; clear hL
    have hmlt : m < 18446744073709551616 := by have h5 := fV_lt x k; have h6 := pw_le64 hk; rw [hm, Int.toNat_natCast] at h5; omega
    cases hw : wOk m k s
    case false =>
      have hz : fOk x k s = false := by unfold fOk; rw [hm, hw]; simp
      have HZ := Lib.hid (fErr_no hz); clear hz
      have HW := Lib.hid (wErr_no hw); clear hw hm hin
      go_enter Try.func25, Try.ntmps25
      go_wp2_with (first
        | (go_at_call 45; (with_reducible refine (counts_yes _ _ (by omega) (by omega)).mono ?_); rintro e w' ⟨rfl, rfl⟩)
        | (go_at_call 46; (with_reducible refine (lowest_at k L _ _ hk (by omega) HL.out).mono ?_); rintro e w' ⟨rfl, rfl⟩)
        | (go_at_call 27; (with_reducible refine (widen_at m k 0 7 s _ hmlt (by omega) (by omega) HW.out.1.symm HW.out.2.symm).mono ?_); rintro e w' ⟨rfl, rfl⟩))
      go_ret2
      exact ⟨ret_two HZ.out.1 HZ.out.2, rfl⟩
    case true =>
      obtain ⟨V, hV⟩ : ∃ V, V = wV m k s := ⟨_, rfl⟩
      have HW := Lib.hid (wErr_yes hw hV)
      by_cases hvx : V = x
      · have hz : fOk x k s = true := by unfold fOk; rw [hm, hw, hin, ← hV]; simpa using hvx
        have HZ := Lib.hid (fErr_yes (v := m) hz (by rw [hm])); clear hz hm hV hw hin
        obtain rfl := hvx
        go_enter Try.func25, Try.ntmps25
        go_wp2_with (first
          | (go_at_call 45; (with_reducible refine (counts_yes _ _ (by omega) (by omega)).mono ?_); rintro e w' ⟨rfl, rfl⟩)
          | (go_at_call 46; (with_reducible refine (lowest_at k L _ _ hk (by omega) HL.out).mono ?_); rintro e w' ⟨rfl, rfl⟩)
          | (go_at_call 27; (with_reducible refine (widen_at m k V 0 s _ hmlt (by omega) (by omega) HW.out.1.symm HW.out.2.symm).mono ?_); rintro e w' ⟨rfl, rfl⟩))
        go_ret2
        exact ⟨ret_two HZ.out.1 HZ.out.2, rfl⟩
      · have hz : fOk x k s = false := by unfold fOk; rw [hm, ← hV]; simp [hvx]
        have HZ := Lib.hid (fErr_no hz); clear hz hm hV hw hin
        have hne : (V != x) = true := by simpa using hvx
        clear hvx
        go_enter Try.func25, Try.ntmps25
        go_wp2_with (first
          | (go_at_call 45; (with_reducible refine (counts_yes _ _ (by omega) (by omega)).mono ?_); rintro e w' ⟨rfl, rfl⟩)
          | (go_at_call 46; (with_reducible refine (lowest_at k L _ _ hk (by omega) HL.out).mono ?_); rintro e w' ⟨rfl, rfl⟩)
          | (go_at_call 27; (with_reducible refine (widen_at m k V 0 s _ hmlt (by omega) (by omega) HW.out.1.symm HW.out.2.symm).mono ?_); rintro e w' ⟨rfl, rfl⟩))
        go_ret2
        exact ⟨ret_two HZ.out.1 HZ.out.2, rfl⟩
end Go.Proofs.Ytkidgijoopdidaa
