/- The law IntsTurns: the walk. -/
import Derived.Test.YtkidgijoopdidaaIntsW
import Derived.Test.YtkidgijoopdidaaIntsTa
namespace Go.Proofs.Ytkidgijoopdidaa
open Go.RowKit
set_option linter.unusedVariables false

theorem i32_wf {n : Int} (h : (Lit.int .i32 n).wf = true) : -2147483648 ≤ n ∧ n ≤ 2147483647 := by
  simp only [Lit.wf, Bool.and_eq_true, decide_eq_true_eq] at h
  exact h
theorem turn_at (n M : Nat) (b k : Int) (r : Nat) (w : World) (hb : b = M) (hM : 1 ≤ M) (hM2 : M ≤ 64) (hn : n < 2 ^ M) (k0 : -9223372036854775808 ≤ k) (k1 : k ≤ 9223372036854775807) (hr : turnK n M k = r) :
    Calls Try.prog 29 #[.int .u64 n, .int .i64 b, .int .i64 k] w fun e w' => e = .returned (.tuple #[.int .u64 r, .int .i64 0]) ∧ ∃ q, w' = w.drewN q := by
  subst hb hr
  have h64 := pw_le64 hM2
  have hok : turnOk n M = true := by unfold turnOk; rw [inB_of hM hM2, Int.toNat_natCast, fitB_yes hn]; rfl
  have h := turn_any n M k w (by omega) (by omega) (by omega) k0 k1
  have e1 : turnVal n M k = (turnK n M k : Int) := by unfold turnVal turnK; rw [hok, if_pos rfl, Int.toNat_natCast]
  have e2 : turnErr n M = 0 := by unfold turnErr; rw [hok, if_pos rfl]
  rw [e1, e2] at h
  exact h
theorem okF_of {a m : Int} {i j : Nat} (ha : a = i) (hm : m = j) (hj : 1 ≤ j) (h : i + j ≤ 64) : okF a m = true := by
  subst ha hm; unfold okF; simp; omega
theorem field_at (n i j : Nat) (a m : Int) (r : Nat) (w : World) (hn : n < 18446744073709551616) (ha : a = i) (hm : m = j) (hj : 1 ≤ j) (h : i + j ≤ 64) (hr : fieldN n i j = r) :
    Calls Try.prog 31 #[.int .u64 n, .int .i64 a, .int .i64 m] w fun e w' => e = .returned (.tuple #[.int .u64 r, .int .i64 0]) ∧ ∃ q, w' = w.drewN q := by
  have ho := okF_of ha hm hj h
  have h := field_any n a m w hn (by omega) (by omega)
  have e1 : fieldVal n a m = (r : Int) := by unfold fieldVal; rw [ho, if_pos rfl, ← hr, ha, hm, Int.toNat_natCast, Int.toNat_natCast]
  have e2 : fieldErr a m = 0 := by unfold fieldErr; rw [ho, if_pos rfl]
  rw [e1, e2] at h
  exact h
theorem with_at (n i j v : Nat) (a m : Int) (r : Nat) (w : World) (hn : n < 18446744073709551616) (hv : v < 2 ^ j) (ha : a = i) (hm : m = j) (hj : 1 ≤ j) (h : i + j ≤ 64) (hr : withN n i j v = r) :
    Calls Try.prog 33 #[.int .u64 n, .int .i64 a, .int .i64 m, .int .u64 v] w fun e w' => e = .returned (.tuple #[.int .u64 r, .int .i64 0]) ∧ ∃ q, w' = w.drewN q := by
  have ho := okF_of ha hm hj h
  have h64 := pw_le64 (k := j) (by omega)
  have h := with_any n a m v w hn (by omega) (by omega) (by omega)
  have hf : fitB v m.toNat = true := by rw [hm, Int.toNat_natCast]; exact fitB_yes hv
  have e1 : withVal n a m v = (r : Int) := by unfold withVal; rw [ho, hf]; simp only [Bool.and_self, if_true]; rw [← hr, ha, hm, Int.toNat_natCast, Int.toNat_natCast]
  have e2 : withErr a m v = 0 := by unfold withErr; rw [ho, hf]; rfl
  rw [e1, e2] at h
  exact h

set_option maxRecDepth 100000 in
set_option maxHeartbeats 4000000 in
theorem turnsLaw_any (n x : Nat) (a m k : Int) (j l : Int) (w : World) (hn : n < 18446744073709551616) (hx : x < 18446744073709551616) (ha : -9223372036854775808 ≤ a ∧ a ≤ 9223372036854775807) (hm : -9223372036854775808 ≤ m ∧ m ≤ 9223372036854775807) (hj : -2147483648 ≤ j ∧ j ≤ 2147483647) (hl : -2147483648 ≤ l ∧ l ≤ 2147483647) :
    Calls Try.prog 10 #[.agg #[.int .u64 n, .int .u64 x, .int .i64 a, .int .i64 m, .int .i64 k], .int .i32 j, .int .i32 l] w fun e w' => e = .returned (.bool true) ∧ Below w.heap.size w w' := by
  obtain ⟨a0, a1⟩ := ha
  obtain ⟨m0, m1⟩ := hm
  obtain ⟨j0, j1⟩ := hj
  obtain ⟨l0, l1⟩ := hl
  obtain ⟨V, hV⟩ : ∃ V : Nat, IntKind.u64.wrap a = V := ⟨(IntKind.u64.wrap a).toNat, by rw [IntKind.wrap_u64]; omega⟩
  have hV64 : V < 18446744073709551616 := by rw [IntKind.wrap_u64] at hV; omega
  obtain ⟨U, hU⟩ : ∃ V : Nat, IntKind.u64.wrap m = V := ⟨(IntKind.u64.wrap m).toNat, by rw [IntKind.wrap_u64]; omega⟩
  have hU64 : U < 18446744073709551616 := by rw [IntKind.wrap_u64] at hU; omega
  obtain ⟨A, hA⟩ : ∃ A : Nat, (V : Int) % 64 = A := ⟨V % 64, by omega⟩
  have hA63 : A ≤ 63 := by omega
  obtain ⟨M0, hM0⟩ : ∃ A : Nat, (U : Int) % 64 = A := ⟨U % 64, by omega⟩
  have hM63 : M0 ≤ 63 := by omega
  obtain ⟨M1, hM1⟩ : ∃ B : Nat, (U : Int) % (64 - (A : Int)) = B := ⟨((U : Int) % (64 - (A : Int))).toNat, by have := Int.emod_nonneg (U : Int) (b := 64 - (A : Int)) (by omega); omega⟩
  have hM1A : M1 + A ≤ 63 := by have := Int.emod_lt_of_pos (U : Int) (b := 64 - (A : Int)) (by omega); omega
  obtain ⟨n0, hn0⟩ : ∃ T, fieldN n 0 (M0 + 1) = T := ⟨_, rfl⟩
  have hn0l : n0 < 2 ^ (M0 + 1) := by rw [← hn0]; exact fieldN_lt _ _ _
  obtain ⟨r1, hr1⟩ : ∃ T, turnK n0 (M0 + 1) j = T := ⟨_, rfl⟩
  have hr1l : r1 < 2 ^ (M0 + 1) := by rw [← hr1]; exact turnK_lt (by omega) hn0l j
  have hb : turnK r1 (M0 + 1) (-j) = n0 := by rw [← hr1]; exact turnK_back (by omega) hn0l j
  obtain ⟨r3, hr3⟩ : ∃ T, turnK r1 (M0 + 1) l = T := ⟨_, rfl⟩
  have hd : turnK n0 (M0 + 1) (j + l) = r3 := by rw [← hr3, ← hr1, turnK_two (by omega) hn0l]
  obtain ⟨v, hv⟩ : ∃ T, fieldN x 0 (M1 + 1) = T := ⟨_, rfl⟩
  have hvl : v < 2 ^ (M1 + 1) := by rw [← hv]; exact fieldN_lt _ _ _
  obtain ⟨y, hy⟩ : ∃ T, withN n A (M1 + 1) v = T := ⟨_, rfl⟩
  have hyl : y < 18446744073709551616 := by rw [← hy]; exact withN_lt hn hvl (by omega)
  have hz : fieldN y A (M1 + 1) = v := by rw [← hy]; exact field_with hvl
  have ho : ∀ i, i < A ∨ A + (M1 + 1) ≤ i → fieldN y i 1 = fieldN n i 1 := fun i hi => by rw [← hy]; exact field_other hvl hi
  have N0 := Lib.hid hn0; have N0L := Lib.hid hn0l; have R1 := Lib.hid hr1; have R1L := Lib.hid hr1l; have HBk := Lib.hid hb; have R3 := Lib.hid hr3; have HD := Lib.hid hd; have HVv := Lib.hid hv; have HVL := Lib.hid hvl; have HY := Lib.hid hy; have HZ := Lib.hid hz; have HO := Lib.hid ho
  clear hn0 hn0l hr1 hr1l hb hr3 hd hv hvl hy hz ho
  go_enter Try.func10, Try.ntmps10
  go_wp2_with (first
    | (go_at_call 31; (with_reducible refine (field_at n 0 (M0 + 1) _ _ n0 _ hn (by omega) (by omega) (by omega) (by omega) N0.out).mono ?_); rintro e w' ⟨rfl, q1, rfl⟩)
    | (go_at_call 29; (with_reducible refine (turn_at n0 (M0 + 1) _ j r1 _ (by omega) (by omega) (by omega) N0L.out (by omega) (by omega) R1.out).mono ?_); rintro e w' ⟨rfl, q2, rfl⟩)
    | (go_at_call 29; (with_reducible refine (turn_at r1 (M0 + 1) _ (-j) n0 _ (by omega) (by omega) (by omega) R1L.out (by omega) (by omega) HBk.out).mono ?_); rintro e w' ⟨rfl, q3, rfl⟩)
    | (go_at_call 29; (with_reducible refine (turn_at r1 (M0 + 1) _ l r3 _ (by omega) (by omega) (by omega) R1L.out (by omega) (by omega) R3.out).mono ?_); rintro e w' ⟨rfl, q4, rfl⟩)
    | (go_at_call 29; (with_reducible refine (turn_at n0 (M0 + 1) _ (j + l) r3 _ (by omega) (by omega) (by omega) N0L.out (by omega) (by omega) HD.out).mono ?_); rintro e w' ⟨rfl, q5, rfl⟩)
    | (go_at_call 31; (with_reducible refine (field_at x 0 (M1 + 1) _ _ v _ hx (by omega) (by omega) (by omega) (by omega) HVv.out).mono ?_); rintro e w' ⟨rfl, q6, rfl⟩)
    | (go_at_call 33; (with_reducible refine (with_at n A (M1 + 1) v _ _ y _ hn HVL.out (by omega) (by omega) (by omega) (by omega) HY.out).mono ?_); rintro e w' ⟨rfl, q7, rfl⟩)
    | (go_at_call 31; (with_reducible refine (field_at y A (M1 + 1) _ _ v _ hyl (by omega) (by omega) (by omega) (by omega) HZ.out).mono ?_); rintro e w' ⟨rfl, q8, rfl⟩))
  go_loopw [22] (fun i wr => ∃ e : Nat, e ≤ 64 ∧ i = .int .i64 e ∧ Hid (∃ Q, wr = (w.alloc (.cells #[.int .u64 n, .int .u64 x, .int .i64 a, .int .i64 m, .int .i64 k] 44)).drewN Q)) (fun i _ => 64 - (intOf i).toNat)
  case atStart => exact ⟨0, by omega, rfl, Lib.hid ⟨_, rfl⟩⟩
  case round =>
    obtain ⟨e, he, rfl, HW⟩ := hrel
    obtain ⟨Q, rfl⟩ := HW.out
    clear HW
    by_cases hlt : e < 64
    · obtain ⟨p1, hp1⟩ : ∃ T, fieldN n e 1 = T := ⟨_, rfl⟩
      obtain ⟨p2, hp2⟩ : ∃ T, fieldN y e 1 = T := ⟨_, rfl⟩
      have P1 := Lib.hid hp1; have P2 := Lib.hid hp2
      have PE : Hid (e < A ∨ A + (M1 + 1) ≤ e → p2 = p1) := Lib.hid fun h => by rw [← hp1, ← hp2]; exact HO.out e h
      clear hp1 hp2
      have hcase : (A ≤ e ∧ e < A + (M1 + 1)) ∨ (p2 = p1 ∧ e < A) ∨ (p2 = p1 ∧ A + (M1 + 1) ≤ e) := by
        by_cases h1 : e < A
        · exact .inr (.inl ⟨PE.out (.inl h1), h1⟩)
        · by_cases h2 : A + (M1 + 1) ≤ e
          · exact .inr (.inr ⟨PE.out (.inr h2), h2⟩)
          · exact .inl ⟨by omega, by omega⟩
      clear PE
      rcases hcase with ⟨k1, k2⟩ | ⟨rfl, k1⟩ | ⟨rfl, k1⟩
      all_goals
        go_wp2_with (first
          | (go_at_call 31; (with_reducible refine (field_at n e 1 _ _ _ _ hn (by omega) (by omega) (by omega) (by omega) P1.out).mono ?_); rintro e w' ⟨rfl, q1, rfl⟩)
          | (go_at_call 31; (with_reducible refine (field_at y e 1 _ _ _ _ hyl (by omega) (by omega) (by omega) (by omega) P2.out).mono ?_); rintro e w' ⟨rfl, q2, rfl⟩))
        go_roundw
        case rel => exact ⟨e + 1, by omega, by go_num, Lib.hid ⟨_, rfl⟩⟩
        case measure => simp [intOf]; omega
    · obtain rfl : e = 64 := by omega
      go_wp2_with (go_at_call 12; (with_reducible refine (awake_any _).mono ?_); rintro e w2 ⟨rfl, hb⟩; have HB := Lib.hid hb; clear hb)
      go_ret
      exact ⟨rfl, bl_call (bl_drewN _ (bl_alloc _ (Below.refl _ _))) HB.out⟩
end Go.Proofs.Ytkidgijoopdidaa
