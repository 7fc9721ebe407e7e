/- words.integer returns the same plain function of the bytes as the reference's decimal; the reference's Name the same as words.Name. -/
import Derived.Test.YtdcjnklagklckaaDoorWordsD
import Derived.Test.YtdcjnklagklckaaDoorShelf
namespace Go.Proofs.YtdcjnklagklckaaDoor
open Go.RowKit
set_option linter.unusedVariables false

theorem hasPrefix_dash (s : ByteArray) (h0 : 0 < s.size) : Lib.hasPrefix s.data.toList [45] = ((s[0].toNat : Int) == 45) := by
  rw [data_cons s h0, Lib.hasPrefix]
  rw [Bool.eq_iff_iff]; simp [List.isPrefixOf]
  constructor
  · intro h; rw [← h]; rfl
  · intro h; apply UInt8.toNat_inj.1; have : (45 : UInt8).toNat = 45 := rfl; omega

theorem name_bad' (s : ByteArray) (k : Nat) (h0 : 0 < s.size) (hl : isLetter (s[0].toNat : Int) = true) (h : k < s.size) (hk : okName s[k] = false) : nameB s.data.toList = false := by
  by_cases h1 : 1 ≤ k
  · exact name_bad s k h h1 hk
  · obtain rfl : k = 0 := by omega
    rw [okName_of s[0] hl rfl rfl rfl] at hk; simp at hk
theorem all_sub {p : UInt8 → Bool} {s : ByteArray} (h : s.data.toList.all p = true) : ((s.data.toList.take s.size).drop 1).all p = true := by
  rw [List.all_eq_true] at h ⊢; exact fun x hx => h x (List.mem_of_mem_take (List.mem_of_mem_drop hx))

/-- What words.integer asks of what is behind a minus sign is what the reference's decimal asks. -/
theorem intB_integer (s : ByteArray) : intB s.data.toList = (natB (Lib.trimPrefix s.data.toList [45]) && !(Lib.hasPrefix s.data.toList [45] && Lib.trimPrefix s.data.toList [45] == [48])) := by
  by_cases h0 : 0 < s.size
  case neg =>
    have : s.data.toList = [] := List.eq_nil_of_length_eq_zero (by rw [len_data]; omega)
    rw [this]; rfl
  case pos =>
  have hp := hasPrefix_dash s h0
  have e2 : ((s.data.toList.headD 0).toNat == 45) = ((s[0].toNat : Int) == 45) := by rw [cons_head s h0, Bool.eq_iff_iff]; simp; omega
  unfold intB Lib.trimPrefix
  rw [e2, hp]
  cases hA : ((s[0].toNat : Int) == 45)
  · simp
  · have hd : dgt s[0] = false := by unfold dgt isDigit; simp at hA; rw [show s[0].toNat = 45 from by omega]; rfl
    rw [natB_at s h0, not_all_of_head s h0 dgt hd]
    simp

set_option maxHeartbeats 400000 in
theorem integer_any (s : ByteArray) (w : World) (hs : s.size ≤ maxLen) :
    Calls Tryd.prog 35 #[.string s] w fun e w' => e = .returned (.bool (intB s.data.toList)) ∧ w = w' := by
  have HN := Lib.hid (intB_integer s)
  obtain ⟨T, hT⟩ : ∃ T : ByteArray, T = ⟨(Lib.trimPrefix s.data.toList [45]).toArray⟩ := ⟨_, rfl⟩
  have hTl : T.data.toList = Lib.trimPrefix s.data.toList [45] := by rw [hT]
  have hts : T.size ≤ maxLen := by
    rw [← len_data, hTl]; unfold Lib.trimPrefix; split
    · rw [List.length_drop, len_data]; omega
    · rw [len_data]; exact hs
  rw [← hTl, ← ByteArray.toList_eq T] at HN
  have HT := Lib.hid hT; clear hT hTl
  cases hb : Lib.hasPrefix s.data.toList [45] <;> cases hq : (T.toList == [48]) <;> cases hn : natB T.toList
  all_goals
    rw [hb, hq, hn] at HN
    have HB := Lib.hid hb; clear hb
    have HNN := Lib.hid hn; clear hn
    go_enter Tryd.func35, Tryd.ntmps35
    go_wp2_with (first
      | (go_at_call 60; refine (Tryd.strings_CutPrefix _ _ _).mono ?_; rintro e w' ⟨rfl, hw⟩; obtain rfl : w = w' := hw.symm; simp only [← HT.out, HB.out])
      | (go_at_call 61; refine (natural_any _ _ hts).mono ?_; rintro e w' ⟨rfl, rfl⟩; rw [← ByteArray.toList_eq, HNN.out]))
    go_ret
    exact ⟨ret_bool (by rw [HN.out]; rfl), rfl⟩

set_option maxHeartbeats 400000 in
theorem rname_any (s : ByteArray) (w : World) (hs : s.size ≤ maxLen) :
    Calls Tryd.prog 16 #[.string s] w fun e w' => e = .returned (.bool (nameB s.data.toList)) ∧ w = w' := by
  unfold maxLen at hs
  by_cases h0 : 0 < s.size
  case neg =>
    have h1 : (s.size : Int) < 1 := by omega
    have hn : Hid (nameB s.data.toList = false) := by
      have : s.data.toList = [] := List.eq_nil_of_length_eq_zero (by rw [len_data]; omega)
      rw [this]; exact Lib.hid rfl
    go_enter Tryd.func16, Tryd.ntmps16
    go_wp2
    go_ret
    exact ⟨ret_bool hn.out.symm, rfl⟩
  case pos =>
    by_cases h16 : s.size ≤ 16
    case neg =>
      go_enter Tryd.func16, Tryd.ntmps16
      go_wp2
      go_ret
      exact ⟨ret_bool (by simp [nameB]; omega), rfl⟩
    case pos =>
      cases hl : isLetter (s[0].toNat : Int)
      case false =>
        go_enter Tryd.func16, Tryd.ntmps16
        go_wp2_with (go_at_call 40; refine (rlower_any _ _).mono ?_; rintro e w' ⟨rfl, rfl⟩)
        go_ret
        exact ⟨ret_bool (by simp [nameB, take_one s h0, hl]), rfl⟩
      case true =>
        go_enter Tryd.func16, Tryd.ntmps16
        go_wp2_with (go_at_call 40; refine (rlower_any _ _).mono ?_; rintro e w' ⟨rfl, rfl⟩)
        go_loop [3] (fun i => ∃ k : Nat, k ≤ s.size ∧ i = .int .i64 k ∧ Hid ((s.data.toList.take k).all okName = true)) (fun i => s.size - (intOf i).toNat)
        case atStart => exact ⟨0, by omega, rfl, Lib.hid rfl⟩
        case round =>
          obtain ⟨k, hk, rfl, HX⟩ := hrel
          by_cases hlt : k < s.size
          · cases hA : isLetter (s[k].toNat : Int) <;> cases hB : isDigit (s[k].toNat : Int) <;> cases hC : ((s[k].toNat : Int) != 45)
            all_goals
              have HO := Lib.hid (okName_of s[k] hA hB hC rfl)
              go_wp2_with (first | (go_at_call 40; refine (rlower_any _ _).mono ?_; rintro e w' ⟨rfl, rfl⟩) | (go_at_call 41; refine (rdigit_any _ _).mono ?_; rintro e w' ⟨rfl, rfl⟩))
            all_goals first
              | (go_ret; exact ⟨ret_bool (name_bad' s k h0 hl hlt HO.out).symm, rfl⟩)
              | (go_round
                 case rel => exact ⟨k + 1, by omega, by go_num, Lib.hid (all_step okName s k hlt HX.out HO.out)⟩
                 case measure => simp [intOf]; omega)
          · go_wp2
            go_ret
            exact ⟨ret_bool (name_good s h0 h16 hl (all_sub (all_done okName s k hlt HX.out))).symm, rfl⟩
end Go.Proofs.YtdcjnklagklckaaDoor
