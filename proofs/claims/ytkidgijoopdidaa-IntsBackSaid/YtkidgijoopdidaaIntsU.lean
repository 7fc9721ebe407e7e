/- GetVar of the reference. -/
import Derived.Test.YtkidgijoopdidaaIntsT
namespace Go.Proofs.Ytkidgijoopdidaa
open Go.RowKit
set_option linter.unusedVariables false

theorem varN_drop (ys : List Int) (i : Nat) : varN (ys.drop i) ≤ varN ys := by
  induction ys generalizing i with
  | nil => simp
  | cons y ys ih =>
    cases i with
    | zero => simp
    | succ i => rw [List.drop_succ_cons, varN]; have := ih i; omega
theorem varN_at {ys : List Int} {i : Nat} (h : i < ys.length) : varN (ys.drop i) = (ys.getD i 0).toNat % 128 + 128 * varN (ys.drop (i + 1)) := by
  rw [drop_at h, varN]
theorem getD_take {xs : List Int} {i n : Nat} (h : i < n) : (xs.take n).getD i 0 = xs.getD i 0 := by
  rw [List.getD_eq_getElem?_getD, List.getD_eq_getElem?_getD, List.getElem?_take, if_pos h]
theorem var_top {xs : List Int} {l : Nat} (hl : l < xs.length) (hx : 0 ≤ xs.getD l 0) (h : l ≤ 8 ∨ (l = 9 ∧ xs.getD l 0 ≤ 1)) : varN (xs.take (l + 1)) < 18446744073709551616 := by
  rcases h with h | ⟨rfl, h⟩
  · have h1 := varN_lt (xs.take (l + 1))
    rw [List.length_take, Nat.min_eq_left (by omega)] at h1
    have h2 : 128 ^ (l + 1) ≤ 128 ^ 9 := Nat.pow_le_pow_right (by decide) (by omega)
    have h3 : 128 ^ 9 = 9223372036854775808 := by decide
    omega
  · have h1 := varN_lt (xs.take 9)
    rw [List.length_take, Nat.min_eq_left (by omega)] at h1
    have h3 : 128 ^ 9 = 9223372036854775808 := by decide
    rw [varN_take hl, h3]
    rw [h3] at h1
    have : (xs.getD 9 0).toNat % 128 ≤ 1 := by omega
    omega

theorem rgetvar_zero (A : Option Addr) (c : Nat) (w : World) : Calls Try.prog 18 #[.slice A 0 c] w (GV [] w) := by
  go_enter Try.func18, Try.ntmps18
  go_wp2_with fail
  refine wp_loop_rounds 1 ?_
  rw [rounds_succ]
  go_wp2_with fail
  go_ret3
  exact gv_bad (xs := []) rfl (by decide) rfl rfl

set_option maxRecDepth 20000 in
set_option maxHeartbeats 4000000 in
theorem rgetvar_at (g off c : Nat) (xs : List Int) (w : World) (hby : BY xs) (hg : g < w.heap.size) (hs : xs.length ≤ 1100) (hc1 : xs.length ≤ c) (hc2 : c ≤ maxLen)
    (hc : ∀ i, i < xs.length → w.cell? ⟨g, off + i, none⟩ = some (.int .u8 (xs.getD i 0))) :
    Calls Try.prog 18 #[.slice (some ⟨g, off, none⟩) xs.length c] w (GV xs w) := by
  have HC := Lib.hid hc; clear hc
  have HY := Lib.hid hby; clear hby
  have HC2 := Lib.hid hc2
  unfold maxLen at hc2
  go_enter Try.func18, Try.ntmps18
  go_wp2_with fail
  go_loop [5] (fun i => ∃ (j : Nat), j ≤ xs.length ∧ j ≤ 10 ∧ i = .int .i64 j ∧ Hid (j ≤ 9 → gv (xs.drop j) j = gv xs 0) ∧ Hid (j = 10 → gv xs 0 = (7, 0))) (fun i => xs.length - (intOf i).toNat)
  case atStart => exact ⟨0, by omega, by omega, rfl, Lib.hid fun _ => rfl, Lib.hid fun h => by cases h⟩
  case round =>
    obtain ⟨j, hj, hj10, rfl, HG, HT⟩ := hrel
    by_cases h10 : j = 10
    · have HN := Lib.hid (HT.out h10)
      have k10 : 10 ≤ j := by omega
      clear h10
      rcases (by omega : j < xs.length ∨ xs.length ≤ j) with k | k
      all_goals
        go_wp2_with fail
        go_ret3
        exact gv_bad HN.out (by decide) rfl rfl
    · have hj9 : j ≤ 9 := by omega
      clear h10 HT
      replace HG := Lib.hid (HG.out hj9)
      by_cases hlt : j < xs.length
      · have cs := HC.out j hlt
        have hb := HY.out.get (i := j) hlt
        have HG7 : Hid (j = 9 → 1 < xs.getD j 0 → gv xs 0 = (7, 0)) := Lib.hid fun h1 h2 => gv_range HG.out hlt h1 h2
        have HGM : Hid (¬ (j = 9 ∧ 1 < xs.getD j 0) → 128 ≤ xs.getD j 0 → gv (xs.drop (j + 1)) (j + 1) = gv xs 0) := Lib.hid fun h1 h2 => gv_more HG.out hlt h1 h2
        have HG6 : Hid (xs.getD j 0 = 0 → 0 < j → gv xs 0 = (6, 0)) := Lib.hid fun h1 h2 => gv_form HG.out hlt h1 h2
        have HG0 : Hid (¬ (j = 9 ∧ 1 < xs.getD j 0) → ¬ 128 ≤ xs.getD j 0 → ¬ (xs.getD j 0 = 0 ∧ 0 < j) → gv xs 0 = (0, j)) := Lib.hid fun h1 h2 h3 => gv_ok HG.out hlt h1 h2 h3
        have HV : Hid ((j ≤ 8 ∨ (j = 9 ∧ xs.getD j 0 ≤ 1)) → varN (xs.take (j + 1)) < 18446744073709551616) := Lib.hid fun h => var_top hlt hb.1 h
        obtain ⟨x, hx⟩ : ∃ x, xs.getD j 0 = x := ⟨_, rfl⟩
        rw [hx] at cs hb HG7 HGM HG6 HG0 HV
        obtain ⟨hb0, hb1⟩ := hb
        clear HG hx
        by_cases hm : 128 ≤ x
        · have HGN : Hid (j + 1 ≤ 9 → gv (xs.drop (j + 1)) (j + 1) = gv xs 0) := Lib.hid fun h => HGM.out (by omega) hm
          have HTN : Hid (j + 1 = 10 → gv xs 0 = (7, 0)) := Lib.hid fun h => HG7.out (by omega) (by omega)
          go_wp2_with fail
          go_round
          case rel => exact ⟨j + 1, by omega, by omega, by go_num, HGN, HTN⟩
          case measure => simp [intOf]; omega
        · by_cases h9 : j = 9 ∧ 1 < x
          · have HN := Lib.hid (HG7.out h9.1 h9.2)
            obtain ⟨rfl, k2⟩ := h9
            go_wp2_with fail
            go_ret3
            exact gv_bad HN.out (by decide) rfl rfl
          · by_cases h0 : x = 0 ∧ 0 < j
            · have HN := Lib.hid (HG6.out h0.1 h0.2)
              have k1 : x ≤ 0 := by omega
              have k2 : 0 < j := h0.2
              clear h0 h9
              rcases (by omega : j ≤ 8 ∨ j = 9) with k3 | rfl
              all_goals
                go_wp2_with fail
                go_ret3
                exact gv_bad HN.out (by decide) rfl rfl
            · have HN := Lib.hid (HG0.out h9 hm h0)
              have HVV := Lib.hid (HV.out (by omega))
              by_cases hck : c = j + 1
              case' pos => have HR : Hid (∀ n, n = 0 → ∀ m, m = 0 → ∀ W : World, RB W (.slice (some ⟨g, off, none⟩) n m) (xs.drop (j + 1))) := Lib.hid fun n hn m hm W => rb_none hn hm (by omega)
              case' neg => have HR : Hid (RB w (.slice (some ⟨g, off + (j + 1), none⟩) (xs.length - (j + 1)) (c - (j + 1))) (xs.drop (j + 1))) := Lib.hid (rb_rest hg hlt hc1 HC2.out hck HC.out)
              all_goals
                have hz3 : (1 ≤ x ∧ x ≤ 1 ∧ j = 9) ∨ (1 ≤ x ∧ j ≤ 8 ∧ 0 < j) ∨ j ≤ 0 := by omega
                clear h0 h9
                obtain ⟨M, hM⟩ : ∃ M, M = j + 1 := ⟨_, rfl⟩
                have hMl : M ≤ xs.length := by omega
                replace HVV : Hid (varN (xs.take M) < 18446744073709551616) := Lib.hid (by rw [hM]; exact HVV.out)
                have HM := Lib.hid hM; clear hM
                rcases hz3 with ⟨k1, k2, rfl⟩ | ⟨k1, k2, k3⟩ | k1
                all_goals
                  go_wp2_with fail
                  go_loop [6, 7] (fun v i => ∃ (y d : Nat), d ≤ M ∧ v = .int .u64 y ∧ i = .int .i64 ((d : Int) - 1) ∧ Hid (y = varN ((xs.take M).drop d))) (fun _ i => (intOf i + 1).toNat)
                  case atStart => exact ⟨0, M, Nat.le_refl _, rfl, by have := HM.out; congr 1; omega, Lib.hid (by rw [List.drop_eq_nil_of_le (List.length_take_le _ _)]; rfl)⟩
                  case round =>
                    obtain ⟨y, d, hd, rfl, rfl, HX⟩ := hrel
                    by_cases hd0 : 0 < d
                    · obtain ⟨e, he⟩ : ∃ e : Nat, (d : Int) - 1 = e := ⟨d - 1, by omega⟩
                      have hde : d = e + 1 := by omega
                      have he64 : e < xs.length := by omega
                      have cs2 := HC.out e (by omega)
                      have hb2 := HY.out.get (i := e) (by omega)
                      have hst : varN ((xs.take M).drop e) = (xs.getD e 0).toNat % 128 + 128 * varN ((xs.take M).drop (e + 1)) := by
                        rw [varN_at (by rw [List.length_take]; omega), getD_take (by omega)]
                      have hle := varN_drop (xs.take M) e
                      obtain ⟨x2, hx2⟩ : ∃ x2, xs.getD e 0 = x2 := ⟨_, rfl⟩
                      rw [hx2] at cs2 hb2 hst
                      obtain ⟨hb20, hb21⟩ := hb2
                      have hX := HX.out
                      rw [hde] at hX
                      rw [← hX] at hst
                      obtain ⟨z, hz⟩ : ∃ z : Nat, z = varN ((xs.take M).drop e) := ⟨_, rfl⟩
                      rw [← hz] at hst hle
                      have hz64 : z < 18446744073709551616 := Nat.lt_of_le_of_lt hle HVV.out
                      have hzb : 128 * (y : Int) + x2 % 128 ≤ 18446744073709551615 := by omega
                      have HE : Hid (128 * (y : Int) + x2 % 128 = z) := Lib.hid (by omega)
                      have HZ := Lib.hid hz
                      clear hx2 hst hle hX hz hde HX
                      go_wp2_with fail
                      go_round
                      case rel => exact ⟨z, e, by omega, by rw [← HE.out], by go_num, HZ⟩
                      case measure => simp [intOf]; omega
                    · obtain rfl : d = 0 := by omega
                      have HY2 : Hid (y = varN (xs.take M)) := Lib.hid (by rw [HX.out]; rfl)
                      clear HX
                      go_wp2_with fail
                      go_quiet (fail)
                      go_wp2_with fail
                      go_ret3
                      refine gv_good HN.out (by rw [HY2.out, HM.out]) ?_ rfl ⟨_, rfl⟩
                      first | exact HR.out | exact (HR.out _ (by omega) _ (by omega) _)
      · have hje : xs.length = j := by omega
        have HN := Lib.hid (gv_end HG.out (by omega))
        go_wp2_with fail
        go_ret3
        exact gv_bad HN.out (by decide) rfl rfl
theorem rgetvar_any (v : Value) (xs : List Int) (w : World) (hv : RB w v xs) (hby : BY xs) (hs : xs.length ≤ 1100) : Calls Try.prog 18 #[v] w (GV xs w) := by
  rcases hv with ⟨A, c, rfl, rfl, hn⟩ | ⟨g, off, c, rfl, hg, h0, hc1, hc2, hc⟩
  · exact rgetvar_zero A c w
  · exact rgetvar_at g off c xs w hby hg hs hc1 hc2 hc
end Go.Proofs.Ytkidgijoopdidaa
