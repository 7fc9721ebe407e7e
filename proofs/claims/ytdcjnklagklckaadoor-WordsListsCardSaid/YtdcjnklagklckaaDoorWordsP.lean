/- The reference's Quote, quoted and Unquote return the same plain functions as those of words. -/
import Derived.Test.YtdcjnklagklckaaDoorWordsO
import Derived.Deep.DeepCutAuto
namespace Go.Proofs.YtdcjnklagklckaaDoor
open Go.RowKit
set_option linter.unusedVariables false

theorem strCells_bv (l : List UInt8) : Lib.strCells ⟨l.toArray⟩ = l.map bv := by simp [Lib.strCells, bv]

set_option maxRecDepth 20000 in
set_option maxHeartbeats 400000 in
theorem rquote_any (s : ByteArray) (w : World) (hs : s.size ≤ 35184372088000) :
    Calls Tryd.prog 22 #[.string s] w fun e w' => e = .returned (.string ⟨(quoteL s.data.toList).toArray⟩) ∧ Below w.heap.size w w' := by
  obtain ⟨i0, hi, hz0, hz1, hz2⟩ := info_parts info_u8
  go_enter Tryd.func22, Tryd.ntmps22
  go_wp2_with fail
  go_loopw [3, 4] (fun v i wr => ∃ k : Nat, k ≤ s.size ∧ i = .int .i64 k ∧ Hid (Below w.heap.size w wr) ∧ ∃ L : List UInt8, Hid (L = 34 :: (s.data.toList.take k).flatMap esc) ∧ Hid (Row w.heap.size wr v L)) (fun _ i _ => s.size - (intOf i).toNat)
  case atStart =>
    exact ⟨0, by omega, rfl, Lib.hid ((Below.refl _ _).alloc (Nat.le_refl _) _), [34], Lib.hid rfl, Lib.hid (Row_new _ _ [34] _ (Nat.le_refl _) rfl (by decide))⟩
  case round =>
    obtain ⟨k, hk, rfl, HB, L, HL, HR⟩ := hrel
    have hlen : L.length ≤ 140737488355000 := by
      have := flat_len (s.data.toList.take k)
      rw [List.length_take, len_data] at this; rw [HL.out, List.length_cons]; omega
    by_cases hlt : k < s.size
    · have hel := esc_len s[k]
      have hes : (⟨(esc s[k]).toArray⟩ : ByteArray).size = (esc s[k]).length := by show (esc s[k]).toArray.size = _; simp
      have HES := Lib.hid hes; clear hes
      go_wp2_with fail
      refine (rescaped_any _ _).mono ?_
      rintro e w' ⟨rfl, hb'⟩
      have HB' := Lib.hid hb'; clear hb'
      have HR' := Lib.hid (HR.out.later HB'.out)
      have hr' : World.ownsRow _ _ _ _ _ _ _ := HR'.out
      have E3 : L.length + (⟨(esc s[k]).toArray⟩ : ByteArray).size ≤ maxLen := by rw [HES.out]; unfold maxLen; omega
      have E4 : L.length + (⟨(esc s[k]).toArray⟩ : ByteArray).size ≤ 140737488355328 := by rw [HES.out]; omega
      have E5 : w.heap.size ≤ w'.heap.size := by have := HB.out.size; have := HB'.out.size; omega
      go_wp2_with (at_builtin; refine Lib.wpList_append_own_string _ rfl _ _ 38 9 rfl w.heap.size 5 i0 Tryd.underlying38 Tryd.underlying9 hi hz0 hz1 hz2 _ _ _ rfl hr' _ rfl E3 E4 E5 ?_)
      intro v' w1 hown hgrow _
      rw [strCells_bv] at hown
      go_wp2
      go_roundw
      case rel =>
        refine ⟨k + 1, by omega, by go_num, Lib.hid ((bl_call HB.out HB'.out).grown hgrow (by have := HB.out.size; have := HB'.out.size; omega) (fun k e => (HR'.out.lt k e).1)), L ++ esc s[k], Lib.hid (by rw [HL.out, take_snoc' s k hlt, flat_snoc]; rfl), Lib.hid ?_⟩
        unfold Row; rw [List.length_append, List.map_append]; exact hown
      case measure => simp [intOf]; omega
    · have hr : World.ownsRow _ _ _ _ _ _ _ := HR.out
      have hq : L ++ [34] = quoteL s.data.toList := by
        rw [HL.out, List.take_of_length_le (by rw [len_data]; omega)]; rfl
      have HQ := Lib.hid hq; clear hq
      go_wp2_with (at_builtin; refine wpList_append_own _ rfl _ _ 38 rfl w.heap.size 5 i0 (.int .u8 0) 1 1 Tryd.underlying38 hi hz0 hz1 hz2 rfl (by decide) _ _ _ rfl (hr.alloc _) ⟨_, 0, none⟩ 1 1 [bv 34] rfl rfl ?c1 ?c2 ?c3 ?c4 ?c5 ?_)
      case c1 => exact cells_new _ _ [bv 34]
      case c2 => simp [Value.oneCell', bv]
      case c3 => unfold maxLen; omega
      case c4 => omega
      case c5 => have := HB.out.size; simp; omega
      intro v' w1 hown hgrow _
      have hcv := conv_row (B := w.heap.size) (l := L ++ [34]) (v := v') (W := w1) (by
        unfold Row; rw [List.length_append, List.map_append]; exact hown)
      go_wp2
      go_ret
      exact ⟨ret_str (by rw [← HQ.out]), (HB.out.alloc HB.out.size _).grown hgrow (by have := HB.out.size; simp; omega) (fun k e => (HR.out.lt k e).1)⟩
end Go.Proofs.YtdcjnklagklckaaDoor
