/- The reference's next. -/
import Derived.Test.YtdcjnklagklckaaDoorParseB
namespace Go.Proofs.YtdcjnklagklckaaDoor
open Go.RowKit
set_option linter.unusedVariables false

set_option maxRecDepth 20000 in
set_option maxHeartbeats 400000 in
theorem rnext_any (s : ByteArray) (w : World) (hs : s.size ≤ 281474976710656) :
    Calls Tryd.prog 59 #[.string s] w fun e w' => e = .returned (.string ⟨(succL s.data.toList).toArray⟩) ∧ Below w.heap.size w w' := by
  go_enter Tryd.func59, Tryd.ntmps59
  go_wp2_with fail
  go_loopw [3] (fun i wr => ∃ (k : Nat) (z : Int), k ≤ s.size ∧ i = .int .i64 z ∧ -1 ≤ z ∧ z < s.size ∧ Hid (z = k - 1) ∧ Hid (Below w.heap.size w wr) ∧ Hid ((s.data.toList.drop k).all (· == 57) = true)) (fun i _ => (intOf i + 1).toNat)
  case atStart =>
    exact ⟨s.size, s.size - 1, Nat.le_refl _, rfl, by omega, by omega, Lib.hid rfl, Lib.hid (Below.refl _ _), Lib.hid (by rw [List.drop_eq_nil_of_le (by rw [len_data]; exact Nat.le_refl _)]; rfl)⟩
  case round =>
    obtain ⟨k, z, hk, rfl, hz1, hz2, HZ, HB, HX⟩ := hrel
    by_cases h0 : z = -1
    · subst h0
      have hk0 : k = 0 := by have := HZ.out; omega
      subst hk0
      have HN := Lib.hid (succL_all s HX.out)
      clear hz1 hz2
      go_wp2_with fail
      go_loopw [4, 5] (fun o i wr2 => ∃ (m : Nat) (O : ByteArray), m ≤ s.size ∧ i = .int .i64 m ∧ o = .string O ∧ O.size ≤ m ∧ Hid (Below w.heap.size w wr2) ∧ Hid (O.data.toList = List.replicate m 48)) (fun _ i _ => s.size - (intOf i).toNat)
      case atStart => exact ⟨0, ⟨#[]⟩, by omega, rfl, rfl, by decide, HB, Lib.hid rfl⟩
      case round =>
        clear HB
        obtain ⟨m, O, hm, rfl, rfl, hO, HB, HO⟩ := hrel
        by_cases hlt : m < s.size
        · have hne : ¬ 9223372036854775807 < O.size + 1 := by omega
          go_wp2_with fail
          go_roundw
          case rel => exact ⟨m + 1, O ++ ⟨#[48]⟩, by omega, by go_num, rfl, by rw [ByteArray.size_append]; show O.size + 1 ≤ _; omega, HB, Lib.hid (by rw [ByteArray.data_append, Array.toList_append, HO.out, List.replicate_succ'])⟩
          case measure => simp [intOf]; omega
        · obtain rfl : m = s.size := by omega
          have hne : ¬ 9223372036854775807 < 1 + O.size := by omega
          have hlf : decide ((s.size : Int) < (s.size : Int)) = false := decide_eq_false (by omega)
          go_wp2_with fail
          go_ret
          refine ⟨ret_str ?_, HB.out⟩
          rw [HN.out]
          apply ByteArray.ext
          rw [ByteArray.data_append]
          apply Array.toList_inj.1
          rw [Array.toList_append, HO.out]; rfl
    · obtain ⟨q, rfl⟩ : ∃ q : Nat, z = q := ⟨z.toNat, by omega⟩
      clear h0 hz1
      have hqn : q < s.size := by omega
      have hkq : k = q + 1 := by have := HZ.out; omega
      subst hkq
      cases h57 : ((s[q].toNat : Int) == 57)
      · have hne57 : s[q] ≠ 57 := by intro e; rw [e] at h57; cases h57
        have HN := Lib.hid (succL_at s q hqn HX.out hne57)
        clear hne57
        obtain ⟨y, hy⟩ : ∃ y : Int, IntKind.u8.wrap ((s[q].toNat : Int) + 1) = y := ⟨_, rfl⟩
        have HY : Hid (y = ((s[q] + 1).toNat : Int)) := Lib.hid (by rw [← hy]; exact u8_succ s[q])
        go_wp2_with fail
        go_loopw [4, 5] (fun o i wr2 => ∃ (m : Nat) (O : ByteArray), m ≤ s.size ∧ q + 1 ≤ m ∧ i = .int .i64 m ∧ o = .string O ∧ O.size ≤ m ∧ Hid (Below w.heap.size w wr2) ∧ Hid (O.data.toList = List.replicate (m - (q + 1)) 48)) (fun _ i _ => s.size - (intOf i).toNat)
        case atStart => exact ⟨q + 1, ⟨#[]⟩, by omega, by omega, by go_num, rfl, by show 0 ≤ _; omega, HB, Lib.hid (by rw [Nat.sub_self]; rfl)⟩
        case round =>
          clear HB
          obtain ⟨m, O, hm, hm2, rfl, rfl, hO, HB, HO⟩ := hrel
          by_cases hlt : m < s.size
          · have hne : ¬ 9223372036854775807 < O.size + 1 := by omega
            go_wp2_with fail
            go_roundw
            case rel => exact ⟨m + 1, O ++ ⟨#[48]⟩, by omega, by omega, by go_num, rfl, by rw [ByteArray.size_append]; show O.size + 1 ≤ _; omega, HB, Lib.hid (by rw [ByteArray.data_append, Array.toList_append, HO.out, show m + 1 - (q + 1) = (m - (q + 1)) + 1 by omega, List.replicate_succ'])⟩
            case measure => simp [intOf]; omega
          · obtain rfl : m = s.size := by omega
            have hlf : decide ((s.size : Int) < (s.size : Int)) = false := decide_eq_false (by omega)
            have hqf : decide ((q : Int) < 0) = false := decide_eq_false (by omega)
            go_wp2_with fail
            have hqs : q ≤ s.size := by omega
            obtain ⟨E, hE⟩ : ∃ T, s.extract 0 q = T := ⟨_, rfl⟩
            obtain ⟨C, hC⟩ : ∃ T, s[q] + 1 = T := ⟨_, rfl⟩
            obtain ⟨F, hF⟩ : ∃ T, E ++ ⟨#[C]⟩ = T := ⟨_, rfl⟩
            have hEd : E.data.toList = s.data.toList.take q := by rw [← hE, Lib.extract_data]; simp
            have hEz : E.size = q := by rw [← len_data, hEd, List.length_take, len_data]; omega
            have hFd : F.data.toList = s.data.toList.take q ++ [C] := by rw [← hF, ByteArray.data_append, Array.toList_append, hEd]
            have hFz : F.size = q + 1 := by rw [← hF, ByteArray.size_append, hEz]; rfl
            have hn1 : ¬ 9223372036854775807 < E.size + 1 := by omega
            have hn2 : ¬ 9223372036854775807 < F.size + O.size := by omega
            have HFD := Lib.hid hFd; have HC := Lib.hid hC; have HFZ := Lib.hid hFz; have HEZ := Lib.hid hEz
            rw [hC] at HN HY
            obtain rfl := HY.out
            have hcv : ∀ t, (convert 38 9 (.slice (some ⟨wr.heap.size, 0, none⟩) 1 1)).run Tryd.prog (wr.alloc (.cells #[.int .u8 (C.toNat : Int)] t)).drew = .ok (.string ⟨#[C]⟩) (wr.alloc (.cells #[.int .u8 (C.toNat : Int)] t)).drew := fun t => by
              refine conv_bat (l := [C]) ?_ 1 1 rfl
              intro j hj
              have hj0 : j = 0 := by simp at hj; exact hj
              subst hj0
              exact ⟨World.cell?_alloc_at _ _ _ _ rfl, World.frozen?_alloc_at _ _ _ _ rfl⟩
            clear hEd hFd hFz hEz hC HY
            go_region_with fail
            go_wp2_with fail
            go_ret
            refine ⟨ret_str ?_, (HB.out.alloc HB.out.size _).drew⟩
            rw [HN.out]
            apply ByteArray.ext
            rw [ByteArray.data_append]
            apply Array.toList_inj.1
            rw [Array.toList_append, HO.out, HFD.out]; simp
      · have e57 : s[q] = 57 := by apply UInt8.toNat_inj.1; simp at h57; show _ = 57; omega
        have HX2 := Lib.hid (all57_step s q hqn HX.out e57)
        clear e57
        go_wp2_with fail
        go_roundw
        case rel => exact ⟨q, q - 1, by omega, by go_num, by omega, by omega, Lib.hid rfl, HB, HX2⟩
        case measure => simp [intOf]
end Go.Proofs.YtdcjnklagklckaaDoor
