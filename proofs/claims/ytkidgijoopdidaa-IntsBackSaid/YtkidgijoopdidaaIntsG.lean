/- Fit of the reference; Fit and Widen are inverse to each other. -/
import Derived.Test.YtkidgijoopdidaaIntsF
namespace Go.Proofs.Ytkidgijoopdidaa
open Go.RowKit Go.Lib
set_option linter.unusedVariables false

theorem below3 (z : Int) (n k : Nat) (b : Int) (w : World) (hz : z = n) (hn : n < 18446744073709551616) (hk : k ≤ 64) (hb : b = k) : Calls Try.prog 44 #[.int .u64 z, .int .i64 b] w fun e w' => e = .returned (.bool (fitB n k)) ∧ w = w' := by
  subst hb hz; exact below_any n k w hn hk
theorem two_half {k : Nat} (h : 1 ≤ k) : 2 ^ k = 2 * 2 ^ (k - 1) := by rw [show k = (k - 1) + 1 by omega, Nat.pow_succ, Nat.mul_comm]; rfl
theorem fV_nat {n k : Nat} (h : n < 2 ^ k) : fV n k = n := by
  unfold fV; rw [Int.toNat_natCast, ← Int.natCast_emod, Int.toNat_natCast, Nat.mod_eq_of_lt h]
theorem fV_neg {x : Int} {k : Nat} (h0 : x < 0) (h : -((2 ^ k : Nat) : Int) ≤ x) : (fV x k : Int) = x + ((2 ^ k : Nat) : Int) := by
  unfold fV
  rw [Int.toNat_natCast]
  have hp := pw_pos k
  generalize 2 ^ k = P at *
  have : x % (P : Int) = (x + P) % P := by rw [Int.add_emod_right]
  rw [this, Int.emod_eq_of_lt (by omega) (by omega)]
  omega
theorem wV_bd {n k : Nat} (h : 1 ≤ k) (hn : n < 2 ^ k) : -((2 ^ (k - 1) : Nat) : Int) ≤ wV n k true ∧ wV n k true < ((2 ^ (k - 1) : Nat) : Int) := by
  unfold wV fitB
  rw [Int.toNat_natCast, two_half h]
  rw [two_half h] at hn
  generalize 2 ^ (k - 1) = H at *
  by_cases hh : n < H
  · rw [if_neg (by simp [hh])]; omega
  · rw [if_pos (by simp [hh])]; omega
theorem wV_false (n : Nat) (b : Int) : wV n b false = n := by unfold wV; simp
theorem inB_of {k : Nat} (h1 : 1 ≤ k) (h2 : k ≤ 64) : inB (k : Int) = true := by unfold inB; simp; omega
theorem fitB_lt {n k : Nat} (h : fitB n k = true) : n < 2 ^ k := by unfold fitB at h; simpa using h
theorem fitB_ge {n k : Nat} (h : fitB n k = false) : 2 ^ k ≤ n := by unfold fitB at h; simpa using h

theorem fOk_A {n k : Nat} (h1 : 1 ≤ k) (h2 : k ≤ 64) (hn : n ≤ 9223372036854775807) (h : fitB n k = true) : fOk n k false = true := by
  unfold fOk; rw [inB_of h1 h2, fV_nat (fitB_lt h), wV_false]; unfold wOk; rw [inB_of h1 h2, Int.toNat_natCast, h]; simp; omega
theorem fOk_B {n k : Nat} (h : fitB n k = false) : fOk n k false = false := by
  have h1 := fV_lt n k
  rw [Int.toNat_natCast] at h1
  have h2 := fitB_ge h
  unfold fOk; rw [wV_false]; simp; intro _ _; omega
theorem fOk_C {x b : Int} (h : x < 0) : fOk x b false = false := by
  unfold fOk; rw [wV_false]; simp; intro _ _; omega
theorem fOk_D {n k : Nat} (h1 : 1 ≤ k) (h2 : k ≤ 64) (h : fitB n (k - 1) = true) : fOk n k true = true := by
  have hl := fitB_lt h
  have hh := two_half h1
  have h3 : n < 2 ^ k := by omega
  unfold fOk; rw [inB_of h1 h2, fV_nat h3]; unfold wOk; rw [inB_of h1 h2, Int.toNat_natCast, fitB_yes h3]; unfold wV; rw [Int.toNat_natCast, h]; simp
theorem fOk_E {n k : Nat} (h1 : 1 ≤ k) (h : fitB n (k - 1) = false) : fOk n k true = false := by
  have h3 := fV_lt n k
  rw [Int.toNat_natCast] at h3
  have h4 := wV_bd h1 h3
  have h5 := fitB_ge h
  unfold fOk; simp; intro _ _; omega
theorem fOk_F {x : Int} {m k : Nat} (h1 : 1 ≤ k) (h2 : k ≤ 64) (h0 : x < 0) (hm : -(x + 1) = m) (h : fitB m (k - 1) = true) : fOk x k true = true := by
  have hl := fitB_lt h
  have hh := two_half h1
  have h3 := fV_neg (x := x) (k := k) h0 (by omega)
  have h4 := fV_lt x k
  rw [Int.toNat_natCast] at h4
  have h5 : fitB (fV x k) (k - 1) = false := fitB_no (by omega)
  unfold fOk; rw [inB_of h1 h2]; unfold wOk; rw [inB_of h1 h2, Int.toNat_natCast, fitB_yes h4]; unfold wV; rw [Int.toNat_natCast, h5]; have e := cast_pw k; simp; omega
theorem fOk_G {x : Int} {m k : Nat} (h1 : 1 ≤ k) (hm : -(x + 1) = m) (h : fitB m (k - 1) = false) : fOk x k true = false := by
  have h3 := fV_lt x k
  rw [Int.toNat_natCast] at h3
  have h4 := wV_bd h1 h3
  have h5 := fitB_ge h
  unfold fOk; simp; intro _ _; omega

set_option maxRecDepth 20000 in
set_option maxHeartbeats 2000000 in
theorem rfit_any (x b : Int) (s : Bool) (w : World) (x0 : -9223372036854775808 ≤ x) (x1 : x ≤ 9223372036854775807) (b0 : -9223372036854775808 ≤ b) (b1 : b ≤ 9223372036854775807) :
    Calls Try.prog 26 #[.int .i64 x, .int .i64 b, .bool s] w fun e w' => e = .returned (.tuple #[.int .u64 (fVal x b s), .int .i64 (fErr x b s)]) ∧ w = w' := by
  by_cases hb : 1 ≤ b ∧ b ≤ 64
  case neg =>
    have hz : fOk x b s = false := by unfold fOk inB; simp; omega
    have HZ := Lib.hid (fErr_no hz); clear hz
    by_cases hb1 : b < 1
    all_goals
      go_enter Try.func26, Try.ntmps26
      go_wp2_with fail
      go_ret2
      exact ⟨ret_two HZ.out.1 HZ.out.2, rfl⟩
  case pos =>
    obtain ⟨h1, h2⟩ := hb
    obtain ⟨k, rfl⟩ : ∃ k : Nat, b = k := ⟨b.toNat, by omega⟩
    have hk : k ≤ 64 := by omega
    have hk1 : 1 ≤ k := by omega
    by_cases hx : x < 0
    · cases s
      · have HZ := Lib.hid (fErr_no (fOk_C (b := k) hx))
        go_enter Try.func26, Try.ntmps26
        go_wp2_with fail
        go_ret2
        exact ⟨ret_two HZ.out.1 HZ.out.2, rfl⟩
      · obtain ⟨m, hm⟩ : ∃ m : Nat, -(x + 1) = m := ⟨(-(x + 1)).toNat, by omega⟩
        have hm64 : m < 18446744073709551616 := by omega
        have HM := Lib.hid hm
        cases hf : fitB m (k - 1)
        · have HZ := Lib.hid (fErr_no (fOk_G hk1 hm hf))
          have HF := Lib.hid hf
          clear hf hm
          go_enter Try.func26, Try.ntmps26
          go_wp2_with (go_at_call 44; (with_reducible refine (below3 _ m (k - 1) _ _ HM.out hm64 (by omega) (by omega)).mono ?_); rintro e w' ⟨rfl, rfl⟩; rw [HF.out])
          go_ret2
          exact ⟨ret_two HZ.out.1 HZ.out.2, rfl⟩
        · have hfm := fitB_lt hf
          have hh := two_half hk1
          have HN := Lib.hid (fV_neg (x := x) (k := k) hx (by omega))
          have HZ := Lib.hid (fErr_yes (fOk_F hk1 hk hx hm hf) rfl)
          have HF := Lib.hid hf
          have HP : Hid (0 ≤ ((2 ^ k - 1 : Nat) : Int) - -(x + 1)) := Lib.hid (by omega)
          clear hf hm hfm hh
          go_enter Try.func26, Try.ntmps26
          go_wp2_with (go_at_call 44; (with_reducible refine (below3 _ m (k - 1) _ _ HM.out hm64 (by omega) (by omega)).mono ?_); rintro e w' ⟨rfl, rfl⟩; rw [HF.out])
          go_loop [8, 9] (fun v i => ∃ (x j : Nat), v = .int .u64 x ∧ i = .int .i64 j ∧ j ≤ k ∧ Hid (x = 2 ^ j - 1)) (fun _ i => k - (intOf i).toNat)
          case atStart => exact ⟨0, 0, rfl, rfl, by omega, Lib.hid (by simp)⟩
          case round =>
            obtain ⟨y, j, rfl, rfl, hj, HX⟩ := hrel
            by_cases hlt : j < k
            · have hbd := ones_bd HX.out (by omega)
              go_wp2_with fail
              go_round
              case rel => exact ⟨2 * y + 1, j + 1, by go_num, by go_num, by omega, Lib.hid (ones_step HX.out)⟩
              case measure => simp [intOf]; omega
            · obtain rfl : j = k := by omega
              have g1 : 0 ≤ (y : Int) - -(x + 1) := by rw [HX.out]; exact HP.out
              have g2 : (y : Int) - -(x + 1) = fV x j := by rw [HX.out, HN.out]; have := pw_pos j; omega
              have g3 : (y : Int) ≤ 18446744073709551615 := by have := pw_le64 hk; rw [HX.out]; omega
              have HG := Lib.hid (g2.trans HZ.out.1); have HG2 := Lib.hid HZ.out.2
              clear g2 HX HP HN HZ
              go_wp2_with fail
              go_ret2
              exact ⟨ret_two (by have := HG.out; omega) HG2.out, rfl⟩
    · obtain ⟨n, rfl⟩ : ∃ n : Nat, x = n := ⟨x.toNat, by omega⟩
      have hn64 : n < 18446744073709551616 := by omega
      cases s
      · cases hf : fitB n k
        · have HZ := Lib.hid (fErr_no (fOk_B hf))
          have HF := Lib.hid hf
          clear hf
          go_enter Try.func26, Try.ntmps26
          go_wp2_with (go_at_call 44; (with_reducible refine (below3 _ n k _ _ rfl hn64 (by omega) (by omega)).mono ?_); rintro e w' ⟨rfl, rfl⟩; rw [HF.out])
          go_ret2
          exact ⟨ret_two HZ.out.1 HZ.out.2, rfl⟩
        · have HZ := Lib.hid (fErr_yes (v := n) (fOk_A hk1 hk (by omega) hf) (by rw [fV_nat (fitB_lt hf)]))
          have HF := Lib.hid hf
          clear hf
          go_enter Try.func26, Try.ntmps26
          go_wp2_with (go_at_call 44; (with_reducible refine (below3 _ n k _ _ rfl hn64 (by omega) (by omega)).mono ?_); rintro e w' ⟨rfl, rfl⟩; rw [HF.out])
          go_ret2
          exact ⟨ret_two HZ.out.1 HZ.out.2, rfl⟩
      · cases hf : fitB n (k - 1)
        · have HZ := Lib.hid (fErr_no (fOk_E hk1 hf))
          have HF := Lib.hid hf
          clear hf
          go_enter Try.func26, Try.ntmps26
          go_wp2_with (go_at_call 44; (with_reducible refine (below3 _ n (k - 1) _ _ rfl hn64 (by omega) (by omega)).mono ?_); rintro e w' ⟨rfl, rfl⟩; rw [HF.out])
          go_ret2
          exact ⟨ret_two HZ.out.1 HZ.out.2, rfl⟩
        · have hl := fitB_lt hf
          have hh := two_half hk1
          have HZ := Lib.hid (fErr_yes (v := n) (fOk_D hk1 hk hf) (by rw [fV_nat (by omega)]))
          have HF := Lib.hid hf
          clear hf hl hh
          go_enter Try.func26, Try.ntmps26
          go_wp2_with (go_at_call 44; (with_reducible refine (below3 _ n (k - 1) _ _ rfl hn64 (by omega) (by omega)).mono ?_); rintro e w' ⟨rfl, rfl⟩; rw [HF.out])
          go_ret2
          exact ⟨ret_two HZ.out.1 HZ.out.2, rfl⟩
end Go.Proofs.Ytkidgijoopdidaa
