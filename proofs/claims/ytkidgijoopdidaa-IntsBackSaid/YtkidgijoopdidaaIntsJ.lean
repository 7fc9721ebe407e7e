/- With of the reference. -/
import Derived.Test.YtkidgijoopdidaaIntsI
namespace Go.Proofs.Ytkidgijoopdidaa
open Go.RowKit Go.Lib
set_option linter.unusedVariables false

theorem rfield_at (n : Nat) (a m x r : Int) (w : World) (hn : n < 18446744073709551616) (a0 : -9223372036854775808 ≤ a) (a1 : a ≤ 9223372036854775807) (m0 : -9223372036854775808 ≤ m) (m1 : m ≤ 9223372036854775807) (hx : x = fieldVal n a m) (hr : r = fieldErr a m) :
    Calls Try.prog 32 #[.int .u64 n, .int .i64 a, .int .i64 m] w fun e w' => e = .returned (.tuple #[.int .u64 x, .int .i64 r]) ∧ w = w' := by
  subst hx hr; exact rfield_any n a m w hn a0 a1 m0 m1
theorem div_step (W e : Nat) : W / 2 ^ e = 2 * (W / 2 ^ (e + 1)) + W / 2 ^ e % 2 := by rw [← half_pow]; omega
theorem int_bit (n i : Nat) : (n : Int) / 2 ^ i % 2 = ((n / 2 ^ i % 2 : Nat) : Int) := by rw [cast_pw, ← Int.natCast_ediv]; omega
theorem int_div_nonneg (n i : Nat) : 0 ≤ (n : Int) / 2 ^ i := by rw [cast_pw]; exact Int.ediv_nonneg (by omega) (Int.natCast_nonneg _)
theorem w_step {W e b x : Nat} (hx : x = W / 2 ^ (e + 1)) (hb : W / 2 ^ e % 2 = b) : 2 * x + b = W / 2 ^ e := by rw [div_step, hx, hb]
theorem w_bd {W x c : Nat} (hW : W < 18446744073709551616) (hc : c ≤ 63) (hx : x = W / 2 ^ (64 - c)) : x ≤ 9223372036854775807 := by
  have : x < 2 ^ c := by
    rw [hx, Nat.div_lt_iff_lt_mul (pw_pos _), ← Nat.pow_add, show c + (64 - c) = 64 by omega]; exact hW
  have := pw_le63 hc
  omega

set_option maxRecDepth 20000 in
set_option maxHeartbeats 2000000 in
theorem rwith_any (n : Nat) (a m : Int) (v : Nat) (w : World) (hn : n < 18446744073709551616) (hv : v < 18446744073709551616) (a0 : -9223372036854775808 ≤ a) (a1 : a ≤ 9223372036854775807) (m0 : -9223372036854775808 ≤ m) (m1 : m ≤ 9223372036854775807) :
    Calls Try.prog 34 #[.int .u64 n, .int .i64 a, .int .i64 m, .int .u64 v] w fun e w' => e = .returned (.tuple #[.int .u64 (withVal n a m v), .int .i64 (withErr a m v)]) ∧ w = w' := by
  cases ho : okF a m
  case false =>
    have HZ := Lib.hid (withErr_no (n := n) (v := v) (by rw [ho]; rfl))
    have HY := Lib.hid (fieldErr_no (n := n) ho); clear ho
    go_enter Try.func34, Try.ntmps34
    go_wp2_with (go_at_call 32; (with_reducible refine (rfield_at n a m 0 7 _ hn a0 a1 m0 m1 HY.out.1 HY.out.2).mono ?_); rintro e w' ⟨rfl, rfl⟩)
    go_ret2
    exact ⟨ret_two HZ.out.1 HZ.out.2, rfl⟩
  case true =>
    obtain ⟨i, j, rfl, rfl, hj1, hij⟩ := okF_yes ho
    have HY := Lib.hid (fieldErr_yes (n := n) ho rfl)
    obtain ⟨F, hF⟩ : ∃ F : Nat, F = fieldN n (i : Int).toNat (j : Int).toNat := ⟨_, rfl⟩
    rw [← hF] at HY
    clear hF
    cases hf : fitB v j
    case false =>
      have HZ := Lib.hid (withErr_no (n := n) (v := v) (a := i) (m := j) (by rw [ho, Int.toNat_natCast, hf]; rfl)); clear ho
      have HF := Lib.hid hf; clear hf
      go_enter Try.func34, Try.ntmps34
      go_wp2_with (first
        | (go_at_call 32; (with_reducible refine (rfield_at n i j F 0 _ hn a0 a1 m0 m1 HY.out.1 HY.out.2).mono ?_); rintro e w' ⟨rfl, rfl⟩)
        | (go_at_call 44; (with_reducible refine (below2 v j _ _ hv (by omega) (by omega)).mono ?_); rintro e w' ⟨rfl, rfl⟩; rw [HF.out]))
      go_ret2
      exact ⟨ret_two HZ.out.1 HZ.out.2, rfl⟩
    case true =>
      obtain ⟨W, hW⟩ : ∃ W, W = withN n i j v := ⟨_, rfl⟩
      have hWlt : W < 18446744073709551616 := by rw [hW]; exact withN_lt hn (fitB_lt hf) hij
      have HZ := Lib.hid (withErr_yes (n := n) (v := v) (a := i) (m := j) (x := W) (by rw [ho, Int.toNat_natCast, hf]; rfl) (by rw [hW]; rfl)); clear ho
      have B1 : Hid (∀ e, e < i → W / 2 ^ e % 2 = n / 2 ^ e % 2) := Lib.hid fun e he => by rw [hW]; exact mod2_of (withN_lo he)
      have B2 : Hid (∀ e, i ≤ e → e < i + j → W / 2 ^ e % 2 = v / 2 ^ (e - i) % 2) := Lib.hid fun e he he2 => by rw [hW]; exact mod2_of (withN_mid (fitB_lt hf) he he2)
      have B3 : Hid (∀ e, i + j ≤ e → W / 2 ^ e % 2 = n / 2 ^ e % 2) := Lib.hid fun e he => by rw [hW]; exact mod2_of (withN_hi (fitB_lt hf) he)
      clear hW
      have HF := Lib.hid hf; clear hf
      have i63 : i ≤ 63 := by omega
      go_enter Try.func34, Try.ntmps34
      go_wp2_with (first
        | (go_at_call 32; (with_reducible refine (rfield_at n i j F 0 _ hn a0 a1 m0 m1 HY.out.1 HY.out.2).mono ?_); rintro e w' ⟨rfl, rfl⟩)
        | (go_at_call 44; (with_reducible refine (below2 v j _ _ hv (by omega) (by omega)).mono ?_); rintro e w' ⟨rfl, rfl⟩; rw [HF.out]))
      go_loop [12, 13, 14] (fun x u _ => ∃ (y c : Nat), x = .int .u64 y ∧ u = .int .i64 (63 - (c : Int)) ∧ c ≤ 64 ∧ Hid (y = W / 2 ^ (64 - c))) (fun _ u _ => (intOf u + 1).toNat)
      case atStart => exact ⟨0, 0, rfl, by go_num, by omega, Lib.hid (by rw [Nat.div_eq_of_lt hWlt])⟩
      case round =>
        obtain ⟨y, c, rfl, rfl, hc, HX⟩ := hrel
        by_cases hlt : c < 64
        · have hy := w_bd hWlt (by omega) HX.out
          obtain ⟨e, he⟩ : ∃ e : Nat, 63 - (c : Int) = e := ⟨63 - c, by omega⟩
          have h63 : e ≤ 63 := by omega
          have HE : Hid (e = 63 - c) := Lib.hid (by omega)
          have HX2 : Hid (y = W / 2 ^ (e + 1)) := Lib.hid (by rw [HX.out]; congr 2; omega)
          clear HX
          by_cases c1 : e < i
          · have HB := Lib.hid (w_step HX2.out (B1.out e c1))
            have hq := int_div_nonneg n e
            have HI := Lib.hid (int_bit n e)
            go_wp2_with fail
            go_round
            case rel => exact ⟨W / 2 ^ e, c + 1, by rw [HI.out, ← HB.out]; go_num, by go_num, by omega, Lib.hid (by congr 2; have := HE.out; omega)⟩
            case measure => simp [intOf]; omega
          · by_cases c2 : e < i + j
            · have HB := Lib.hid (w_step HX2.out (B2.out e (by omega) c2))
              obtain ⟨d, hd⟩ : ∃ d : Nat, (e : Int) - i = d := ⟨e - i, by omega⟩
              have hd63 : d ≤ 63 := by omega
              have HD : Hid (e - i = d) := Lib.hid (by omega)
              have hq := int_div_nonneg v d
              have hq2 := int_div_nonneg n e
              have HI := Lib.hid (int_bit v d)
              go_wp2_with fail
              go_round
              case rel => exact ⟨W / 2 ^ e, c + 1, by rw [HI.out, ← HB.out, HD.out]; go_num, by go_num, by omega, Lib.hid (by congr 2; have := HE.out; omega)⟩
              case measure => simp [intOf]; omega
            · have HB := Lib.hid (w_step HX2.out (B3.out e (by omega)))
              have hq := int_div_nonneg n e
              have HI := Lib.hid (int_bit n e)
              go_wp2_with fail
              go_round
              case rel => exact ⟨W / 2 ^ e, c + 1, by rw [HI.out, ← HB.out]; go_num, by go_num, by omega, Lib.hid (by congr 2; have := HE.out; omega)⟩
              case measure => simp [intOf]; omega
        · obtain rfl : c = 64 := by omega
          have HG : Hid (((y : Nat) : Int) = withVal n i j v) := Lib.hid (by rw [← HZ.out.1, HX.out]; simp)
          have HG2 := Lib.hid HZ.out.2
          clear HX HZ
          go_wp2_with fail
          go_ret2
          exact ⟨ret_two HG.out HG2.out, rfl⟩
end Go.Proofs.Ytkidgijoopdidaa
