/- Names and decimal forms: words.Name, words.natural and the reference's Name, decimal return what a plain Lean function over the list of bytes says. -/
import Derived.Test.YtdcjnklagklckaaDoorWordsA
namespace Go.Proofs.YtdcjnklagklckaaDoor
open Go.RowKit Go.Lib
set_option linter.unusedVariables false

def okName (c : UInt8) : Bool := isLetter c.toNat || isDigit c.toNat || !((c.toNat : Int) != 45)
def nameB (l : List UInt8) : Bool := !l.isEmpty && decide (l.length ≤ 16) && (l.take 1).all (fun c => isLetter c.toNat) && (l.drop 1).all okName

theorem take_snoc' (s : ByteArray) (k : Nat) (h : k < s.size) : s.data.toList.take (k + 1) = s.data.toList.take k ++ [s[k]] := by
  rw [List.take_succ_eq_append_getElem (by simpa using h)]; rfl
theorem isEmpty_size (s : ByteArray) : s.toList.isEmpty = decide (s.size = 0) := by
  rw [ByteArray.toList_eq, Bool.eq_iff_iff]; simp only [List.isEmpty_iff, decide_eq_true_eq]
  rw [← List.length_eq_zero_iff]; simp
theorem nonempty_of (s : ByteArray) (h : 0 < s.size) : s.toList.isEmpty = false := by
  rw [isEmpty_size]; exact decide_eq_false (by omega)
theorem take_one (s : ByteArray) (h : 0 < s.size) : s.data.toList.take 1 = [s[0]] := by
  have := take_snoc' s 0 h; simpa using this

theorem okName_of (c : UInt8) {a b d r : Bool} (h1 : isLetter c.toNat = a) (h2 : isDigit c.toNat = b) (h3 : ((c.toNat : Int) != 45) = d) (h : (a || b || !d) = r) : okName c = r := by subst h1 h2 h3; exact h

theorem name_step (s : ByteArray) (k : Nat) (h : k < s.size) (h1 : 1 ≤ k) (hx : ((s.data.toList.take k).drop 1).all okName = true) (hk : okName s[k] = true) :
    ((s.data.toList.take (k + 1)).drop 1).all okName = true := by
  have hl : (s.data.toList.take k).length = k := by simp; omega
  rw [take_snoc' s k h, List.drop_append_of_le_length (by omega), List.all_append, hx]; simp [hk]

theorem name_bad (s : ByteArray) (k : Nat) (h : k < s.size) (h1 : 1 ≤ k) (hk : okName s[k] = false) : nameB s.data.toList = false := by
  have : (s.data.toList.drop 1).all okName = false := by
    rw [List.all_eq_false]
    refine ⟨s[k], ?_, by simp [hk]⟩
    rw [List.mem_iff_getElem]
    refine ⟨k - 1, by simp; omega, ?_⟩
    rw [List.getElem_drop]
    simp only [show 1 + (k - 1) = k from by omega]; rfl
  unfold nameB; rw [this]; simp

theorem name_good (s : ByteArray) (h0 : 0 < s.size) (h : s.size ≤ 16) (hl : isLetter (s[0].toNat : Int) = true) (hx : ((s.data.toList.take s.size).drop 1).all okName = true) : nameB s.data.toList = true := by
  have e : s.data.toList.isEmpty = false := by have := nonempty_of s h0; rwa [ByteArray.toList_eq] at this
  rw [List.take_of_length_le (by simp)] at hx
  simp only [nameB, e, take_one s h0, hx]; simp [hl, h]

set_option maxHeartbeats 400000 in
theorem name_any (s : ByteArray) (w : World) (hs : s.size ≤ maxLen) :
    Calls Tryd.prog 15 #[.string s] w fun e w' => e = .returned (.bool (nameB s.data.toList)) ∧ w = w' := by
  unfold maxLen at hs
  by_cases h0 : 0 < s.size
  case neg =>
    have hem : s.toList.isEmpty = true := by rw [isEmpty_size]; exact decide_eq_true (by omega)
    go_enter Tryd.func15, Tryd.ntmps15
    go_wp2
    go_ret
    exact ⟨ret_bool (by rw [ByteArray.toList_eq] at hem; simp [nameB, hem]), rfl⟩
  case pos =>
    have hem := nonempty_of s h0
    by_cases h16 : s.size ≤ 16
    case neg =>
      go_enter Tryd.func15, Tryd.ntmps15
      go_wp2
      go_ret
      exact ⟨ret_bool (by simp [nameB]; omega), rfl⟩
    case pos =>
      cases hl : isLetter (s[0].toNat : Int)
      case false =>
        go_enter Tryd.func15, Tryd.ntmps15
        go_wp2_with (go_at_call 38; refine (letter_any _ _).mono ?_; rintro e w' ⟨rfl, rfl⟩)
        go_ret
        exact ⟨ret_bool (by simp [nameB, take_one s h0, hl]), rfl⟩
      case true =>
        go_enter Tryd.func15, Tryd.ntmps15
        go_wp2_with (go_at_call 38; refine (letter_any _ _).mono ?_; rintro e w' ⟨rfl, rfl⟩)
        go_loop [3] (fun i => ∃ k : Nat, 1 ≤ k ∧ k ≤ s.size ∧ i = .int .i64 k ∧ Hid (((s.data.toList.take k).drop 1).all okName = true)) (fun i => s.size - (intOf i).toNat)
        case atStart => exact ⟨1, by omega, by omega, rfl, Lib.hid (by rw [take_one s h0]; rfl)⟩
        case round =>
          obtain ⟨k, hk1, hk, rfl, HX⟩ := hrel
          by_cases hlt : k < s.size
          · cases hA : isLetter (s[k].toNat : Int) <;> cases hB : isDigit (s[k].toNat : Int) <;> cases hC : ((s[k].toNat : Int) != 45)
            all_goals
              have HO := Lib.hid (okName_of s[k] hA hB hC rfl)
              go_wp2_with (first | (go_at_call 38; refine (letter_any _ _).mono ?_; rintro e w' ⟨rfl, rfl⟩) | (go_at_call 39; refine (digit_any _ _).mono ?_; rintro e w' ⟨rfl, rfl⟩))
            all_goals first
              | (go_ret; exact ⟨ret_bool (name_bad s k hlt hk1 HO.out).symm, rfl⟩)
              | (go_round
                 case rel => exact ⟨k + 1, by omega, by omega, by go_num, Lib.hid (name_step s k hlt hk1 HX.out HO.out)⟩
                 case measure => simp [intOf]; omega)
          · go_wp2
            go_ret
            exact ⟨ret_bool (name_good s h0 h16 hl (by rw [show s.size = k from by omega]; exact HX.out)).symm, rfl⟩
end Go.Proofs.YtdcjnklagklckaaDoor
