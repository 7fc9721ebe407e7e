/- Decimal forms: words.natural and the reference's decimal return what a plain Lean function over the list of bytes says. -/
import Derived.Test.YtdcjnklagklckaaDoorWordsB
namespace Go.Proofs.YtdcjnklagklckaaDoor
open Go.RowKit Go.Lib
set_option linter.unusedVariables false

def dgt (c : UInt8) : Bool := isDigit c.toNat
def natB (l : List UInt8) : Bool := !l.isEmpty && (!((l.headD 0).toNat == 48) || l == [48]) && l.all dgt
def intB (l : List UInt8) : Bool := natB l || ((l.headD 0).toNat == 45 && natB l.tail && !(l.tail == [48]))

theorem all_step (p : UInt8 → Bool) (s : ByteArray) (k : Nat) (h : k < s.size) (hx : (s.data.toList.take k).all p = true) (hk : p s[k] = true) : (s.data.toList.take (k + 1)).all p = true := by
  rw [take_snoc' s k h, List.all_append, hx]; simp [hk]
theorem all_bad (p : UInt8 → Bool) (s : ByteArray) (k : Nat) (h : k < s.size) (hk : p s[k] = false) : s.data.toList.all p = false := by
  rw [List.all_eq_false]; exact ⟨s[k], by rw [List.mem_iff_getElem]; exact ⟨k, by simpa using h, rfl⟩, by simp [hk]⟩
theorem all_done (p : UInt8 → Bool) (s : ByteArray) (k : Nat) (h : ¬ k < s.size) (hx : (s.data.toList.take k).all p = true) : s.data.toList.all p = true := by
  rwa [List.take_of_length_le (by simp; omega)] at hx

theorem natB_at (s : ByteArray) (h0 : 0 < s.size) : natB s.data.toList = ((!((s[0].toNat : Int) == 48) || s.toList == [48]) && s.data.toList.all dgt) := by
  have e : s.data.toList.isEmpty = false := by have := nonempty_of s h0; rwa [ByteArray.toList_eq] at this
  have e1 : s.data.toList.headD 0 = s[0] := by
    rw [List.headD_eq_head?_getD, List.head?_eq_getElem?, List.getElem?_eq_getElem (by simpa using h0)]; rfl
  have e2 : (s[0].toNat == 48) = ((s[0].toNat : Int) == 48) := by rw [Bool.eq_iff_iff]; simp; omega
  unfold natB; rw [e, e1, e2, ByteArray.toList_eq]; rfl
theorem natB_nil (s : ByteArray) (h0 : ¬ 0 < s.size) : natB s.data.toList = false := by
  have : s.toList.isEmpty = true := by rw [isEmpty_size]; exact decide_eq_true (by omega)
  rw [ByteArray.toList_eq] at this; simp [natB, this]

set_option maxHeartbeats 400000 in
theorem natural_any (s : ByteArray) (w : World) (hs : s.size ≤ maxLen) :
    Calls Tryd.prog 61 #[.string s] w fun e w' => e = .returned (.bool (natB s.data.toList)) ∧ w = w' := by
  unfold maxLen at hs
  by_cases h0 : 0 < s.size
  case neg =>
    have hem : s.toList.isEmpty = true := by rw [isEmpty_size]; exact decide_eq_true (by omega)
    go_enter Tryd.func61, Tryd.ntmps61
    go_wp2
    go_ret
    exact ⟨ret_bool (natB_nil s h0).symm, rfl⟩
  case pos =>
  have hem := nonempty_of s h0
  have HN := Lib.hid (natB_at s h0)
  cases hz : ((s[0].toNat : Int) == 48) <;> cases hq : (s.toList == [48])
  case true.false =>
    go_enter Tryd.func61, Tryd.ntmps61
    go_wp2
    go_ret
    exact ⟨ret_bool (by rw [HN.out, hz, hq]; rfl), rfl⟩
  all_goals
    go_enter Tryd.func61, Tryd.ntmps61
    go_wp2
    go_loop [3] (fun i => ∃ k : Nat, k ≤ s.size ∧ i = .int .i64 k ∧ Hid ((s.data.toList.take k).all dgt = true)) (fun i => s.size - (intOf i).toNat)
    case atStart => exact ⟨0, by omega, rfl, Lib.hid rfl⟩
    case round =>
      obtain ⟨k, hk, rfl, HX⟩ := hrel
      by_cases hlt : k < s.size
      · cases hd : isDigit (s[k].toNat : Int)
        all_goals
          have HD : Hid (dgt s[k] = _) := hd
          go_wp2_with (go_at_call 39; refine (digit_any _ _).mono ?_; rintro e w' ⟨rfl, rfl⟩)
        · go_ret
          exact ⟨ret_bool (by rw [HN.out, all_bad dgt s k hlt HD.out]; simp), rfl⟩
        · go_round
          case rel => exact ⟨k + 1, by omega, by go_num, Lib.hid (all_step dgt s k hlt HX.out HD.out)⟩
          case measure => simp [intOf]; omega
      · go_wp2
        go_ret
        exact ⟨ret_bool (by rw [HN.out, hz, hq, all_done dgt s k hlt HX.out]; rfl), rfl⟩
end Go.Proofs.YtdcjnklagklckaaDoor
