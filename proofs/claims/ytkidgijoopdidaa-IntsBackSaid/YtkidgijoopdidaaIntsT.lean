/- GetVar of the program. -/
import Derived.Test.YtkidgijoopdidaaIntsR
namespace Go.Proofs.Ytkidgijoopdidaa
open Go.RowKit
set_option linter.unusedVariables false

/-- What is found at the beginning of ys, behind j bytes of 128 or more: an error, or the place of the last digit. -/
def gv : List Int → Nat → Int × Nat
  | [], _ => (10, 0)
  | x :: ys, j => if j = 9 ∧ 1 < x then (7, 0) else if 128 ≤ x then gv ys (j + 1) else if x = 0 ∧ 0 < j then (6, 0) else (0, j)
def varN : List Int → Nat
  | [] => 0
  | x :: ys => x.toNat % 128 + 128 * varN ys
theorem varN_snoc (ys : List Int) (x : Int) : varN (ys ++ [x]) = varN ys + 128 ^ ys.length * (x.toNat % 128) := by
  induction ys with
  | nil => simp [varN]
  | cons y ys ih => rw [List.cons_append, varN, varN, ih, List.length_cons, Nat.pow_succ, Nat.mul_add, Nat.mul_comm (128 ^ ys.length) 128, Nat.mul_assoc]; omega
theorem varN_lt (ys : List Int) : varN ys < 128 ^ ys.length := by
  induction ys with
  | nil => simp [varN]
  | cons y ys ih => rw [varN, List.length_cons, Nat.pow_succ]; omega
theorem varN_take {xs : List Int} {j : Nat} (h : j < xs.length) : varN (xs.take (j + 1)) = varN (xs.take j) + 128 ^ j * ((xs.getD j 0).toNat % 128) := by
  rw [take_snoc h, varN_snoc, List.length_take, Nat.min_eq_left (by omega)]
theorem drop_at {xs : List Int} {j : Nat} (h : j < xs.length) : xs.drop j = xs.getD j 0 :: xs.drop (j + 1) := by
  rw [List.drop_eq_getElem_cons h, List.getD_eq_getElem?_getD, List.getElem?_eq_getElem h]; rfl
theorem pow128 (j : Nat) : 128 ^ j = 2 ^ (7 * j) := by rw [Nat.pow_mul]
/-- One digit more. -/
theorem or_digit {y j : Nat} {x : Int} (hj : j ≤ 9) (hy : y < 128 ^ j) (h0 : 0 ≤ x) (h1 : x < 256) (h9 : j = 9 → x ≤ 1) :
    bits .or .u64 (y : Int) (IntKind.u64.wrap (x % 128 * 2 ^ (7 * j))) = ((y + 128 ^ j * (x.toNat % 128) : Nat) : Int) := by
  obtain ⟨X, rfl⟩ := Int.eq_ofNat_of_zero_le h0
  rw [pow128] at hy ⊢
  have hp := pw_pos (7 * j)
  have hb : X % 128 * 2 ^ (7 * j) < 18446744073709551616 := by
    by_cases h : j = 9
    · subst h
      have := h9 rfl
      have e : 2 ^ (7 * 9) = 9223372036854775808 := by decide
      omega
    · have e1 : 2 ^ (7 * j) ≤ 2 ^ 56 := pw_le (by omega)
      have e2 : 2 ^ 56 = 72057594037927936 := by decide
      have e3 : X % 128 * 2 ^ (7 * j) ≤ 127 * 72057594037927936 := Nat.mul_le_mul (by omega) (by omega)
      omega
  have e1 : 2 ^ (7 * j) ≤ 2 ^ 63 := pw_le (by omega)
  have e2 : 2 ^ 63 = 9223372036854775808 := by decide
  rw [cast_pw, Int.toNat_natCast, show (X : Int) % 128 = ((X % 128 : Nat) : Int) by omega, ← Int.natCast_mul, IntKind.wrap_u64, show ((X % 128 * 2 ^ (7 * j) : Nat) : Int) % 18446744073709551616 = ((X % 128 * 2 ^ (7 * j) : Nat) : Int) by omega,
    u64_or_nat _ _ (by omega) hb, Nat.or_comm, nat_join (7 * j) _ _ (Nat.mul_mod_left _ _) hy, Nat.add_comm, Nat.mul_comm]

/-- What GetVar returns. -/
def GV (xs : List Int) (w : World) (e : Ending) (w' : World) : Prop :=
  if (gv xs 0).1 = 0 then Got w (varN (xs.take ((gv xs 0).2 + 1))) (xs.drop ((gv xs 0).2 + 1)) e w' else NotGot w (gv xs 0).1 e w'
theorem gv_bad {xs : List Int} {w w' : World} {e : Ending} {r : Int} {l : Nat} (h : gv xs 0 = (r, l)) (hr : r ≠ 0) (he : e = .returned (.tuple #[.int .u64 0, .slice none 0 0, .int .i64 r])) (hw : w = w') : GV xs w e w' := by
  unfold GV; rw [h, if_neg hr]; exact ⟨he, hw⟩
theorem gv_good {xs : List Int} {w w' : World} {e : Ending} {l y : Nat} {v : Value} (h : gv xs 0 = (0, l)) (hy : y = varN (xs.take (l + 1))) (hv : RB w' v (xs.drop (l + 1))) (he : e = .returned (.tuple #[.int .u64 y, v, .int .i64 0])) (hw : ∃ q, w' = w.drewN q) : GV xs w e w' := by
  unfold GV; rw [h, if_pos rfl]; subst hy; exact ⟨v, he, hv, hw⟩
theorem gv_end {xs : List Int} {j : Nat} (h : gv (xs.drop j) j = gv xs 0) (hj : xs.length ≤ j) : gv xs 0 = (10, 0) := by rw [← h, List.drop_eq_nil_of_le hj]; rfl
theorem gv_range {xs : List Int} {j : Nat} (h : gv (xs.drop j) j = gv xs 0) (hj : j < xs.length) (h9 : j = 9) (hx : 1 < xs.getD j 0) : gv xs 0 = (7, 0) := by
  rw [← h, drop_at hj, gv, if_pos ⟨h9, hx⟩]
theorem gv_more {xs : List Int} {j : Nat} (h : gv (xs.drop j) j = gv xs 0) (hj : j < xs.length) (h9 : ¬ (j = 9 ∧ 1 < xs.getD j 0)) (hx : 128 ≤ xs.getD j 0) : gv (xs.drop (j + 1)) (j + 1) = gv xs 0 := by
  rw [← h, drop_at hj, gv, if_neg h9, if_pos hx]
theorem gv_form {xs : List Int} {j : Nat} (h : gv (xs.drop j) j = gv xs 0) (hj : j < xs.length) (hx : xs.getD j 0 = 0) (h0 : 0 < j) : gv xs 0 = (6, 0) := by
  rw [← h, drop_at hj, gv, if_neg (by omega), if_neg (by omega), if_pos ⟨hx, h0⟩]
theorem gv_ok {xs : List Int} {j : Nat} (h : gv (xs.drop j) j = gv xs 0) (hj : j < xs.length) (h9 : ¬ (j = 9 ∧ 1 < xs.getD j 0)) (hx : ¬ 128 ≤ xs.getD j 0) (h0 : ¬ (xs.getD j 0 = 0 ∧ 0 < j)) : gv xs 0 = (0, j) := by
  rw [← h, drop_at hj, gv, if_neg h9, if_neg hx, if_neg h0]

theorem getvar_zero (A : Option Addr) (c : Nat) (w : World) : Calls Try.prog 17 #[.slice A 0 c] w (GV [] w) := by
  go_enter Try.func17, Try.ntmps17
  go_wp2_with fail
  refine wp_loop_rounds 1 ?_
  rw [rounds_succ]
  go_wp2_with fail
  go_ret3
  exact gv_bad (xs := []) rfl (by decide) rfl rfl

set_option maxRecDepth 20000 in
set_option maxHeartbeats 2000000 in
theorem getvar_at (g off c : Nat) (xs : List Int) (w : World) (hby : BY xs) (hg : g < w.heap.size) (hs : xs.length ≤ 1100) (hc1 : xs.length ≤ c) (hc2 : c ≤ maxLen)
    (hc : ∀ i, i < xs.length → w.cell? ⟨g, off + i, none⟩ = some (.int .u8 (xs.getD i 0))) :
    Calls Try.prog 17 #[.slice (some ⟨g, off, none⟩) xs.length c] w (GV xs w) := by
  have HC := Lib.hid hc; clear hc
  have HY := Lib.hid hby; clear hby
  have HC2 := Lib.hid hc2
  unfold maxLen at hc2
  go_enter Try.func17, Try.ntmps17
  go_wp2_with fail
  go_loop [2, 9] (fun v i => ∃ (j y : Nat), j ≤ xs.length ∧ j ≤ 9 ∧ v = .int .u64 y ∧ i = .int .i64 j ∧ Hid (y = varN (xs.take j)) ∧ Hid (gv (xs.drop j) j = gv xs 0)) (fun _ i => xs.length - (intOf i).toNat)
  case atStart => exact ⟨0, 0, by omega, by omega, rfl, rfl, Lib.hid (by simp [varN]), Lib.hid rfl⟩
  case round =>
    obtain ⟨j, y, hj, hj9, rfl, rfl, HX, HG⟩ := hrel
    by_cases hlt : j < xs.length
    · have cs := HC.out j hlt
      have hb := HY.out.get (i := j) hlt
      have HS := Lib.hid (varN_take hlt)
      have hy128 : y < 128 ^ j := by have := varN_lt (xs.take j); rw [List.length_take, Nat.min_eq_left (by omega)] at this; rw [HX.out]; exact this
      have HG7 : Hid (j = 9 → 1 < xs.getD j 0 → gv xs 0 = (7, 0)) := Lib.hid fun h1 h2 => gv_range HG.out hlt h1 h2
      have HGM : Hid (¬ (j = 9 ∧ 1 < xs.getD j 0) → 128 ≤ xs.getD j 0 → gv (xs.drop (j + 1)) (j + 1) = gv xs 0) := Lib.hid fun h1 h2 => gv_more HG.out hlt h1 h2
      have HG6 : Hid (xs.getD j 0 = 0 → 0 < j → gv xs 0 = (6, 0)) := Lib.hid fun h1 h2 => gv_form HG.out hlt h1 h2
      have HG0 : Hid (¬ (j = 9 ∧ 1 < xs.getD j 0) → ¬ 128 ≤ xs.getD j 0 → ¬ (xs.getD j 0 = 0 ∧ 0 < j) → gv xs 0 = (0, j)) := Lib.hid fun h1 h2 h3 => gv_ok HG.out hlt h1 h2 h3
      obtain ⟨x, hx⟩ : ∃ x, xs.getD j 0 = x := ⟨_, rfl⟩
      rw [hx] at cs hb HS HG7 HGM HG6 HG0
      obtain ⟨hb0, hb1⟩ := hb
      clear HG hx
      by_cases h9 : j = 9 ∧ 1 < x
      · obtain ⟨h9, h1⟩ := h9
        have HN := Lib.hid (HG7.out h9 h1)
        subst h9
        clear hy128
        go_wp2_with fail
        go_ret3
        exact gv_bad HN.out (by decide) rfl rfl
      · have EM := or_digit (y := y) (j := j) (x := x) hj9 hy128 hb0 hb1 (by omega)
        obtain ⟨z, hz⟩ : ∃ z : Nat, z = y + 128 ^ j * (x.toNat % 128) := ⟨_, rfl⟩
        rw [← hz] at EM
        have HZ : Hid (z = varN (xs.take (j + 1))) := Lib.hid (by rw [HS.out, ← HX.out, hz])
        clear hz HS HX hy128
        have HGM2 := HGM.out h9
        have HG02 := HG0.out h9
        have HGM := Lib.hid HGM2; have HG0 := Lib.hid HG02
        clear HGM2 HG02
        by_cases hm : 128 ≤ x
        · have HN := Lib.hid (HGM.out hm)
          have hj8 : j ≤ 8 := by omega
          clear h9
          go_wp2_with fail
          go_round
          case rel => exact ⟨j + 1, z, by omega, by omega, rfl, by go_num, HZ, HN⟩
          case measure => simp [intOf]; omega
        · by_cases h0 : x = 0 ∧ 0 < j
          · have HN := Lib.hid (HG6.out h0.1 h0.2)
            have k1 : x ≤ 0 := by omega
            have k2 : 0 < j := h0.2
            clear h0 h9
            rcases (by omega : j ≤ 8 ∨ 9 ≤ j) with k3 | k3
            all_goals
              go_wp2_with fail
              go_ret3
              exact gv_bad HN.out (by decide) rfl rfl
          · have HN := Lib.hid (HG0.out hm h0)
            by_cases hck : c = j + 1
            case' pos => have HR : Hid (∀ n, n = 0 → ∀ m, m = 0 → ∀ W : World, RB W (.slice (some ⟨g, off, none⟩) n m) (xs.drop (j + 1))) := Lib.hid fun n hn m hm W => rb_none hn hm (by omega)
            case' neg => have HR : Hid (RB w (.slice (some ⟨g, off + (j + 1), none⟩) (xs.length - (j + 1)) (c - (j + 1))) (xs.drop (j + 1))) := Lib.hid (rb_rest hg hlt hc1 HC2.out hck HC.out)
            all_goals
              have hz3 : (1 ≤ x ∧ j = 9) ∨ (1 ≤ x ∧ j ≤ 8) ∨ (x ≤ 0 ∧ j ≤ 0) := by omega
              clear h0
              rcases hz3 with ⟨k1, k2⟩ | ⟨k1, k2⟩ | ⟨k1, k2⟩
              · have EM9 : bits .or .u64 (y : Int) (x % 128 * 9223372036854775808) = (z : Int) := by
                  rw [← EM, k2, IntKind.wrap_u64, show (2 : Int) ^ (7 * 9) = 9223372036854775808 by decide]
                  congr 1; omega
                clear EM
                subst k2
                have k3 : x ≤ 1 := by omega
                go_wp2_with fail
                go_quiet (fail)
                go_wp2_with fail
                go_ret3
                refine gv_good HN.out HZ.out ?_ rfl ⟨_, rfl⟩
                first | exact HR.out | exact (HR.out _ (by omega) _ (by omega) _)
              all_goals
                go_wp2_with fail
                go_quiet (fail)
                go_wp2_with fail
                go_ret3
                refine gv_good HN.out HZ.out ?_ rfl ⟨_, rfl⟩
                first | exact HR.out | exact (HR.out _ (by omega) _ (by omega) _)
    · have hje : xs.length = j := by omega
      have HN := Lib.hid (gv_end HG.out (by omega))
      go_wp2_with fail
      go_ret3
      exact gv_bad HN.out (by decide) rfl rfl
theorem getvar_any (v : Value) (xs : List Int) (w : World) (hv : RB w v xs) (hby : BY xs) (hs : xs.length ≤ 1100) : Calls Try.prog 17 #[v] w (GV xs w) := by
  rcases hv with ⟨A, c, rfl, rfl, hn⟩ | ⟨g, off, c, rfl, hg, h0, hc1, hc2, hc⟩
  · exact getvar_zero A c w
  · exact getvar_at g off c xs w hby hg hs hc1 hc2 hc
end Go.Proofs.Ytkidgijoopdidaa
