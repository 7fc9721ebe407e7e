/- The reference's Unquote; words.bareSize and the reference's bare; what the fields of a line are. -/
import Derived.Test.YtdcjnklagklckaaDoorWordsQ
namespace Go.Proofs.YtdcjnklagklckaaDoor
open Go.RowKit
set_option linter.unusedVariables false

set_option maxRecDepth 20000 in
set_option maxHeartbeats 400000 in
theorem runquote_any (s : ByteArray) (w : World) (hs : s.size ≤ 35184372088000) :
    Calls Tryd.prog 20 #[.string s] w fun e w' => e = .returned (.tuple #[.string ⟨(unqL s.data.toList).1.toArray⟩, .int .i64 (unqL s.data.toList).2]) ∧ Below w.heap.size w w' := by
  have hle := qT_le s.data.toList
  rw [len_data] at hle
  have HU : Hid (unqL s.data.toList = if (qT s.data.toList).2 = s.size ∧ (qT s.data.toList).2 ≠ 0 then ((qT s.data.toList).1, 0) else ([], 6)) := Lib.hid (by unfold unqL; rw [len_data])
  have HC := Lib.hid (rquoted_any s w hs)
  unfold QPost at HC
  generalize qT s.data.toList = r at *
  obtain ⟨T, n⟩ := r
  simp only at hle HU HC
  by_cases h0 : n = 0
  · have HE := Lib.hid (HU.out.trans (if_neg (by simp [h0])))
    have hz : ((n : Int) == 0) = true := beq_iff_eq.2 (by omega)
    clear h0
    cases hn : ((n : Int) != (s.size : Int))
    all_goals
      go_enter Tryd.func20, Tryd.ntmps20
      go_wp2_with (go_at_call 44; refine HC.out.mono ?_; rintro e w' ⟨rfl, hb⟩)
      go_ret2
      exact ⟨ret_str2 (l := []) rfl HE.out, hb⟩
  · have hz : ((n : Int) == 0) = false := beq_eq_false_iff_ne.2 (by omega)
    by_cases h1 : n < s.size
    · have HE := Lib.hid (HU.out.trans (if_neg (by rintro ⟨h, _⟩; omega)))
      have hn : ((n : Int) != (s.size : Int)) = true := by rw [bne_iff_ne]; omega
      clear h0
      go_enter Tryd.func20, Tryd.ntmps20
      go_wp2_with (go_at_call 44; refine HC.out.mono ?_; rintro e w' ⟨rfl, hb⟩)
      go_ret2
      exact ⟨ret_str2 (l := []) rfl HE.out, hb⟩
    · have HE := Lib.hid (HU.out.trans (if_pos ⟨by omega, h0⟩))
      have hn : ((n : Int) != (s.size : Int)) = false := by rw [bne_eq_false_iff_eq]; omega
      clear h0
      go_enter Tryd.func20, Tryd.ntmps20
      go_wp2_with (go_at_call 44; refine HC.out.mono ?_; rintro e w' ⟨rfl, hb⟩)
      go_ret2
      exact ⟨ret_str2 rfl HE.out, hb⟩

/-! ### Bare fields -/
def bareC (c : UInt8) : Bool := isPlain c.toNat && !((c.toNat : Int) == 32)
theorem takeWhile_all (p : UInt8 → Bool) : ∀ l : List UInt8, l.all p = true → l.takeWhile p = l
  | [], _ => rfl
  | c :: r, h => by
    simp only [List.all_cons, Bool.and_eq_true] at h
    rw [List.takeWhile_cons, if_pos h.1, takeWhile_all p r h.2]
def bareN (l : List UInt8) : Nat := (l.takeWhile bareC).length
theorem bareN_stop (s : ByteArray) (k : Nat) (h : k < s.size) (hx : (s.data.toList.take k).all bareC = true) (hk : bareC s[k] = false) : bareN s.data.toList = k := by
  have e0 : s.data.toList.drop k = s[k] :: s.data.toList.drop (k + 1) := by rw [List.drop_eq_getElem_cons (by rw [len_data]; exact h)]; rfl
  have e : s.data.toList = s.data.toList.take k ++ s[k] :: s.data.toList.drop (k + 1) := by rw [← e0]; exact (List.take_append_drop _ _).symm
  unfold bareN; rw [e, List.takeWhile_append_of_pos (List.all_eq_true.1 hx), List.takeWhile_cons, hk]
  simp [List.length_take]; omega
theorem bareN_all (s : ByteArray) (k : Nat) (h : ¬ k < s.size) (hx : (s.data.toList.take k).all bareC = true) : bareN s.data.toList = s.size := by
  rw [List.take_of_length_le (by rw [len_data]; omega)] at hx
  unfold bareN; rw [takeWhile_all _ _ hx, len_data]
theorem bareN_le (l : List UInt8) : bareN l ≤ l.length := by unfold bareN; exact (List.takeWhile_prefix _).length_le

theorem ret_i64 {a b : Int} (h : a = b) : Ending.returned (.int .i64 a) = .returned (.int .i64 b) := by rw [h]

set_option maxHeartbeats 400000 in
theorem bareSize_any (s : ByteArray) (w : World) (hs : s.size ≤ maxLen) :
    Calls Tryd.prog 50 #[.string s] w fun e w' => e = .returned (.int .i64 (bareN s.data.toList)) ∧ w = w' := by
  unfold maxLen at hs
  go_enter Tryd.func50, Tryd.ntmps50
  go_wp2
  go_loop [3] (fun i => ∃ k : Nat, k ≤ s.size ∧ i = .int .i64 k ∧ Hid ((s.data.toList.take k).all bareC = true)) (fun i => s.size - (intOf i).toNat)
  case atStart => exact ⟨0, by omega, rfl, Lib.hid rfl⟩
  case round =>
    obtain ⟨k, hk, rfl, HX⟩ := hrel
    by_cases hlt : k < s.size
    · cases hA : isPlain (s[k].toNat : Int) <;> cases hB : ((s[k].toNat : Int) == 32)
      all_goals
        have HO : Hid (bareC s[k] = (_ && !_)) := Lib.hid (by unfold bareC; rw [hA, hB])
        go_wp2_with (go_at_call 66; refine (itself_any _ _).mono ?_; rintro e w' ⟨rfl, rfl⟩)
      all_goals first
        | (go_ret; exact ⟨ret_i64 (by rw [bareN_stop s k hlt HX.out HO.out]), rfl⟩)
        | (go_round
           case rel => exact ⟨k + 1, by omega, by go_num, Lib.hid (all_step bareC s k hlt HX.out HO.out)⟩
           case measure => simp [intOf]; omega)
    · go_wp2
      go_ret
      exact ⟨ret_i64 (by rw [bareN_all s k hlt HX.out]), rfl⟩

/-- The reference's bare: at least one byte, and only such bytes. -/
def bareB (l : List UInt8) : Bool := !l.isEmpty && l.all bareC
set_option maxHeartbeats 400000 in
theorem rbare_any (s : ByteArray) (w : World) (hs : s.size ≤ maxLen) :
    Calls Tryd.prog 49 #[.string s] w fun e w' => e = .returned (.bool (bareB s.data.toList)) ∧ w = w' := by
  unfold maxLen at hs
  have hem : s.data.toList.isEmpty = decide (s.size = 0) := by rw [← isEmpty_size, ByteArray.toList_eq]
  have HEM := Lib.hid hem; clear hem
  go_enter Tryd.func49, Tryd.ntmps49
  go_wp2
  go_loop [3] (fun i => ∃ k : Nat, k ≤ s.size ∧ i = .int .i64 k ∧ Hid ((s.data.toList.take k).all bareC = true)) (fun i => s.size - (intOf i).toNat)
  case atStart => exact ⟨0, by omega, rfl, Lib.hid rfl⟩
  case round =>
    obtain ⟨k, hk, rfl, HX⟩ := hrel
    by_cases hlt : k < s.size
    · cases hA : isPlain (s[k].toNat : Int) <;> cases hB : ((s[k].toNat : Int) == 32)
      all_goals
        have HO : Hid (bareC s[k] = (_ && !_)) := Lib.hid (by unfold bareC; rw [hA, hB])
        go_wp2_with (go_at_call 67; refine (rplain_any _ _).mono ?_; rintro e w' ⟨rfl, rfl⟩)
      all_goals first
        | (go_ret; exact ⟨ret_bool (by unfold bareB; rw [all_bad bareC s k hlt HO.out]; simp), rfl⟩)
        | (go_round
           case rel => exact ⟨k + 1, by omega, by go_num, Lib.hid (all_step bareC s k hlt HX.out HO.out)⟩
           case measure => simp [intOf]; omega)
    · go_wp2
      go_ret
      exact ⟨ret_bool (by unfold bareB; rw [all_done bareC s k hlt HX.out, HEM.out, Bool.eq_iff_iff]; simp only [Bool.and_true, Bool.not_eq_true', decide_eq_true_eq, decide_eq_false_iff_not]; omega), rfl⟩
end Go.Proofs.YtdcjnklagklckaaDoor
