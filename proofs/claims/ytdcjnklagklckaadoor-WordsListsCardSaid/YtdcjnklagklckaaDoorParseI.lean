/- The reference's parts. -/
import Derived.Test.YtdcjnklagklckaaDoorLinesB
namespace Go.Proofs.YtdcjnklagklckaaDoor
open Go.RowKit
set_option linter.unusedVariables false

def PartsPost (c : UInt8) (l : List UInt8) (w : World) (e : Ending) (w' : World) : Prop := ∃ v, e = .returned v ∧ SSl w' v (cutAt c l) ∧ Below w.heap.size w w'

set_option maxRecDepth 20000 in
set_option maxHeartbeats 1000000 in
theorem rparts_any (s : ByteArray) (c : UInt8) (w : World) (hs : s.size ≤ 1048576) :
    Calls Tryd.prog 57 #[.string s, .int .u8 (c.toNat : Int)] w (PartsPost c s.data.toList w) := by
  obtain ⟨i0, hi, hz0, hz1, hz2⟩ := info_parts info_str
  obtain ⟨C, hC⟩ : ∃ T : Int, (c.toNat : Int) = T := ⟨_, rfl⟩
  have HC := Lib.hid hC
  rw [hC]; clear hC
  go_enter Tryd.func57, Tryd.ntmps57
  go_wp2_with fail

  go_loopw [5, 6, 7] (fun v fr i wr => ∃ (k f : Nat) (P : List (List UInt8)), k ≤ s.size ∧ f ≤ k ∧ P.length ≤ k ∧ i = .int .i64 k ∧ fr = .int .i64 f ∧ Hid (Below w.heap.size w wr) ∧ Hid (wr.ownsRow w.heap.size 9 1 v P.length (scells P)) ∧ Hid (CutInv c s.data.toList f k P)) (fun _ _ i _ => s.size - (intOf i).toNat)
  case atStart => exact ⟨0, 0, [], by omega, by omega, by simp, rfl, rfl, Lib.hid (Below.refl _ _), Lib.hid (World.ownsRow_nil _ _ _ _), Lib.hid (cutinv_start _ _)⟩
  case round =>
    obtain ⟨k, f, P, hk, hfk, hPk, rfl, rfl, HB, HR, HI⟩ := hrel
    by_cases hlt : k < s.size
    case neg =>
      obtain rfl : k = s.size := by omega
      have HE := Lib.hid (cutinv_end HI.out (by rw [len_data]; exact hlt))
      have hlf : decide ((s.size : Int) < (s.size : Int)) = false := decide_eq_false (by omega)
      obtain ⟨TB, hTB⟩ : ∃ TB : ByteArray, s.extract f s.size = TB := ⟨_, rfl⟩
      have HTB : Hid ((⟨(s.data.toList.drop f).toArray⟩ : ByteArray) = TB) := Lib.hid (by rw [← hTB]; apply WideShapes.bytes_inj; rw [extract_mid]; rw [List.take_of_length_le (by rw [List.length_drop, len_data]; exact Nat.le_refl _)])
      go_wp2_with (at_builtin; refine wpList_append_own _ rfl _ _ 64 rfl w.heap.size 9 i0 (.string ⟨#[]⟩) 1 16 Tryd.underlying64 hi hz0 hz1 hz2 rfl (by decide) _ _ _ rfl (HR.out.alloc _) ⟨_, 0, none⟩ 1 1 [.string TB] rfl rfl (cells_new _ _ [_]) (by simp [Value.oneCell']) (by unfold maxLen; omega) (by omega) (by have := HB.out.size; simp; omega) ?_; intro v' w2 hown hgrow _; have hbw : Below w.heap.size w w2 := (HB.out.alloc HB.out.size _).grown hgrow (by have := HB.out.size; simp; omega) (fun k e => (HR.out.lt k e).1); have HBW := Lib.hid hbw; have HOWN := Lib.hid hown; clear hbw hown hgrow)
      go_ret
      refine ⟨_, rfl, ?_, HBW.out⟩
      rw [← HE.out]
      apply SSl_of_row (B := w.heap.size)
      rw [scells_snoc, List.length_append, HTB.out]; exact HOWN.out
    case pos =>
      by_cases h10 : s[k] = c
      · have HI2 := Lib.hid (cutinv_cut HI.out (by rw [len_data]; exact hlt) h10)
        have j2 : ((s[k].toNat : Int) == C) = true := by rw [h10, HC.out]; exact beq_self_eq_true _
        clear h10
        obtain ⟨TB, hTB⟩ : ∃ TB : ByteArray, s.extract f k = TB := ⟨_, rfl⟩
        have HTB : Hid ((⟨((s.data.toList.drop f).take (k - f)).toArray⟩ : ByteArray) = TB) := Lib.hid (by rw [← hTB]; apply WideShapes.bytes_inj; rw [extract_mid])
        go_wp2_with (at_builtin; refine wpList_append_own _ rfl _ _ 64 rfl w.heap.size 9 i0 (.string ⟨#[]⟩) 1 16 Tryd.underlying64 hi hz0 hz1 hz2 rfl (by decide) _ _ _ rfl (HR.out.alloc _) ⟨_, 0, none⟩ 1 1 [.string TB] rfl rfl (cells_new _ _ [_]) (by simp [Value.oneCell']) (by unfold maxLen; omega) (by omega) (by have := HB.out.size; simp; omega) ?_; intro v' w2 hown hgrow _; have hbw : Below w.heap.size w w2 := (HB.out.alloc HB.out.size _).grown hgrow (by have := HB.out.size; simp; omega) (fun k e => (HR.out.lt k e).1); have HBW := Lib.hid hbw; have HOWN := Lib.hid hown; clear hbw hown hgrow)
        go_roundw
        case rel =>
          refine ⟨k + 1, k + 1, P ++ [(s.data.toList.drop f).take (k - f)], by omega, by omega, by simp; omega, by go_num, by go_num, HBW, Lib.hid ?_, HI2⟩
          rw [scells_snoc, List.length_append, HTB.out]; exact HOWN.out
        case measure => simp [intOf]; omega
      · have HI2 := Lib.hid (cutinv_skip HI.out (by rw [len_data]; exact hlt) h10)
        have j2 : ((s[k].toNat : Int) == C) = false := by rw [beq_eq_false_iff_ne]; intro e; apply h10; apply UInt8.toNat_inj.1; rw [← HC.out] at e; omega
        clear h10
        go_wp2_with fail
        go_roundw
        case rel => exact ⟨k + 1, f, P, by omega, by omega, by omega, by go_num, rfl, HB, HR, HI2⟩
        case measure => simp [intOf]; omega
end Go.Proofs.YtdcjnklagklckaaDoor
