/- Turn of the reference. -/
import Derived.Test.YtkidgijoopdidaaIntsK
namespace Go.Proofs.Ytkidgijoopdidaa
open Go.RowKit Go.Lib
set_option linter.unusedVariables false

theorem rt_no {n m u j x : Nat} (hu : u < m) (hj : j < m) (hx : x = turnR n m u j) (hb : ¬ n / 2 ^ j % 2 = 1) : x = turnR n m u (j + 1) := by
  rw [turnR_step hu hj, ← hx, show n / 2 ^ j % 2 = 0 by omega]; simp
theorem rt_yes {n m u j x r : Nat} (hu : u < m) (hj : j < m) (hx : x = turnR n m u j) (hb : n / 2 ^ j % 2 = 1) (hr : (j + u) % m = r) : x + 2 ^ r = turnR n m u (j + 1) := by
  rw [turnR_step hu hj, ← hx, hb, hr]; simp

set_option maxRecDepth 20000 in
set_option maxHeartbeats 2000000 in
theorem rturn_any (n : Nat) (b k : Int) (w : World) (hn : n < 18446744073709551616) (b0 : -9223372036854775808 ≤ b) (b1 : b ≤ 9223372036854775807) (k0 : -9223372036854775808 ≤ k) (k1 : k ≤ 9223372036854775807) :
    Calls Try.prog 30 #[.int .u64 n, .int .i64 b, .int .i64 k] w fun e w' => e = .returned (.tuple #[.int .u64 (turnVal n b k), .int .i64 (turnErr n b)]) ∧ w = w' := by
  by_cases hb : 1 ≤ b ∧ b ≤ 64
  case neg =>
    have HZ := Lib.hid (turnErr_no (n := n) (b := b) (k := k) (by unfold turnOk inB; simp; omega))
    by_cases hb1 : b < 1
    all_goals
      go_enter Try.func30, Try.ntmps30
      go_wp2_with fail
      go_ret2
      exact ⟨ret_two HZ.out.1 HZ.out.2, rfl⟩
  case pos =>
    obtain ⟨h1, h2⟩ := hb
    obtain ⟨m, rfl⟩ : ∃ m : Nat, b = m := ⟨b.toNat, by omega⟩
    have hm : m ≤ 64 := by omega
    have hm1 : 1 ≤ m := by omega
    cases hf : fitB n m
    case false =>
      have HZ := Lib.hid (turnErr_no (n := n) (b := m) (k := k) (by unfold turnOk; rw [Int.toNat_natCast, hf]; simp))
      have HF := Lib.hid hf; clear hf
      go_enter Try.func30, Try.ntmps30
      go_wp2_with (go_at_call 44; (with_reducible refine (below2 n m _ _ hn (by omega) (by omega)).mono ?_); rintro e w' ⟨rfl, rfl⟩; rw [HF.out])
      go_ret2
      exact ⟨ret_two HZ.out.1 HZ.out.2, rfl⟩
    case true =>
      obtain ⟨u, hu⟩ : ∃ u : Nat, k % (m : Int) = u := ⟨(k % (m : Int)).toNat, by have := Int.emod_nonneg k (b := (m : Int)) (by omega); omega⟩
      have hum : u < m := by have := Int.emod_lt_of_pos k (b := (m : Int)) (by omega); omega
      have HZ := Lib.hid (turnErr_yes (n := n) (b := m) (k := k) (x := turnN n m u) (by unfold turnOk; rw [Int.toNat_natCast, hf, inB_of hm1 hm]; rfl) (by rw [hu]; rfl))
      have HT : Hid (turnR n m u m = turnN n m u) := Lib.hid (turnR_end hum (fitB_lt hf))
      have ht := tmod_cases k m (by omega)
      rw [hu] at ht
      clear hu
      have E1 : (u : Int) % m = u := Int.emod_eq_of_lt (by omega) (by omega)
      have E2 : ((u : Int) + m) % m = u := by rw [Int.add_emod_right]; exact E1
      have HF := Lib.hid hf; clear hf
      have hu64 : u ≤ 63 := by omega
      rcases ht with ⟨ht, ht2⟩ | ⟨ht, ht2⟩
      all_goals
        clear ht
        go_enter Try.func30, Try.ntmps30
        go_wp2_with (go_at_call 44; (with_reducible refine (below2 n m _ _ hn (by omega) (by omega)).mono ?_); rintro e w' ⟨rfl, rfl⟩; rw [HF.out])
        clear ht2 E2
        go_loop [8, 9] (fun v i => ∃ (x j : Nat), v = .int .u64 x ∧ i = .int .i64 j ∧ j ≤ m ∧ Hid (x = turnR n m u j)) (fun _ i => m - (intOf i).toNat)
        case atStart => exact ⟨0, 0, rfl, rfl, by omega, Lib.hid (by rw [turnR_zero])⟩
        case round =>
          obtain ⟨x, j, rfl, rfl, hj, HX⟩ := hrel
          by_cases hlt : j < m
          · obtain ⟨t, ht⟩ : ∃ t : Nat, (n : Int) / 2 ^ j = t := ⟨n / 2 ^ j, by rw [cast_pw, ← Int.natCast_ediv]⟩
            have HTt : Hid (n / 2 ^ j = t) := Lib.hid (by rw [cast_pw, ← Int.natCast_ediv] at ht; omega)
            by_cases hbit : t % 2 = 1
            · obtain ⟨r, hr⟩ : ∃ r : Nat, ((j : Int) + u) % m = r := ⟨(j + u) % m, by rw [← Int.natCast_add, ← Int.natCast_emod]⟩
              have hr' : (j + u) % m = r := by rw [← Int.natCast_add, ← Int.natCast_emod] at hr; omega
              have hrm : r < m := by rw [← hr']; exact Nat.mod_lt _ (by omega)
              have hy := rt_yes hum hlt HX.out (by rw [HTt.out]; exact hbit) hr'
              obtain ⟨p, hp⟩ : ∃ p : Nat, p = 2 ^ r := ⟨_, rfl⟩
              have hp63 := pw_le63 (k := r) (by omega)
              have hb : x + p ≤ 18446744073709551615 := by have a1 := turnR_lt (n := n) (i := j + 1) hum (by omega); rw [← hy, ← hp] at a1; have a2 := pw_le64 hm; omega
              have hpw : IntKind.u64.wrap (2 ^ r) = (p : Int) := by rw [hp, IntKind.wrap_u64, cast_pw]; omega
              have hp62 : p ≤ 9223372036854775808 := by rw [hp]; exact hp63
              have HY : Hid (x + p = turnR n m u (j + 1)) := Lib.hid (by rw [hp]; exact hy)
              have hr63 : r ≤ 63 := by omega
              clear hy hr' hp hp63 HX
              go_wp2_with fail
              go_round
              case rel => exact ⟨x + p, j + 1, by go_num, by go_num, by omega, HY⟩
              case measure => simp [intOf]; omega
            · have HY := Lib.hid (rt_no hum hlt HX.out (by rw [HTt.out]; exact hbit))
              clear HX
              have hb2 : ((t : Int) % 2 == 1) = false := by simp; omega
              go_wp2_with fail
              go_round
              case rel => exact ⟨x, j + 1, by go_num, by go_num, by omega, HY⟩
              case measure => simp [intOf]; omega
          · obtain rfl : j = m := by omega
            have HG : Hid ((x : Int) = turnVal n j k) := Lib.hid (by rw [← HZ.out.1, HX.out, HT.out])
            have HG2 := Lib.hid HZ.out.2
            clear HX HZ HT
            go_wp2_with fail
            go_ret2
            exact ⟨ret_two HG.out HG2.out, rfl⟩
end Go.Proofs.Ytkidgijoopdidaa
