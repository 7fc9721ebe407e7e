/- The reference's decimal returns the same plain function of the bytes as words.integer. -/
import Derived.Test.YtdcjnklagklckaaDoorWordsC
import Derived.Lib.Strings
import Derived.Lib.IndexBytes
namespace Go.Proofs.YtdcjnklagklckaaDoor
open Go.RowKit Go.Lib
set_option linter.unusedVariables false

theorem len_data (s : ByteArray) : s.data.toList.length = s.size := by simp
theorem data_cons (s : ByteArray) (h0 : 0 < s.size) : s.data.toList = s[0] :: s.data.toList.drop 1 := by
  conv => lhs; rw [← List.take_append_drop 1 s.data.toList]
  rw [take_one s h0]; rfl
theorem drop_one (s : ByteArray) : s.data.toList.drop 1 = (s.extract 1 s.size).data.toList := by
  rw [Lib.extract_data]; simp [List.take_of_length_le]
theorem cons_head (s : ByteArray) (h0 : 0 < s.size) : (s.data.toList.headD 0) = s[0] := by rw [data_cons s h0]; rfl
theorem cons_tail (s : ByteArray) : s.data.toList.tail = (s.extract 1 s.size).data.toList := by rw [← drop_one]; simp
theorem not_all_of_head (s : ByteArray) (h0 : 0 < s.size) (p : UInt8 → Bool) (h : p s[0] = false) : s.data.toList.all p = false := all_bad p s 0 h0 h

theorem intB_B (s : ByteArray) (h0 : 1 < s.size) (ha : ((s[0].toNat : Int) == 45) = true) (h1 : 0 < (s.extract 1 s.size).size) (hb : (((s.extract 1 s.size)[0].toNat : Int) == 48) = false) :
    intB s.data.toList = (s.extract 1 s.size).data.toList.all dgt := by
  have hd : dgt s[0] = false := by unfold dgt isDigit; simp at ha; rw [show s[0].toNat = 45 from by omega]; rfl
  have e1 : natB s.data.toList = false := by rw [natB_at s (by omega), not_all_of_head s (by omega) dgt hd]; simp
  have e2 : ((s.data.toList.headD 0).toNat == 45) = true := by rw [cons_head s (by omega)]; simp at ha ⊢; omega
  have e3 : ((s.extract 1 s.size).data.toList == [48]) = false := by
    rw [data_cons _ h1]; simp only [beq_eq_false_iff_ne, ne_eq, List.cons.injEq]; rintro ⟨h, _⟩; rw [h] at hb; simp at hb
  unfold intB; rw [e1, e2, cons_tail, natB_at _ h1, hb, e3]; simp

theorem intB_C (s : ByteArray) (h0 : 0 < s.size) (h : s.size = 1 ∨ ((s[0].toNat : Int) == 45) = false ∨ ∃ h1 : 0 < (s.extract 1 s.size).size, (((s.extract 1 s.size)[0].toNat : Int) == 48) = true) :
    intB s.data.toList = ((!((s[0].toNat : Int) == 48) || s.toList == [48]) && s.data.toList.all dgt) := by
  rw [← natB_at s h0]
  unfold intB
  rcases h with h | h | ⟨h1, h⟩
  · have : (s.extract 1 s.size).data.toList = [] := by rw [← drop_one]; apply List.drop_eq_nil_of_le; rw [len_data]; omega
    rw [cons_tail, this]; simp [natB]
  · have e2 : ((s.data.toList.headD 0).toNat == 45) = false := by rw [cons_head s h0]; simp at h ⊢; omega
    rw [e2]; simp
  · rw [cons_tail, natB_at _ h1, h, ByteArray.toList_eq]
    cases ((s.extract 1 s.size).data.toList == [48]) <;> simp

set_option maxHeartbeats 400000 in
theorem decimal_any (s : ByteArray) (w : World) (hs : s.size ≤ maxLen) :
    Calls Tryd.prog 37 #[.string s] w fun e w' => e = .returned (.bool (intB s.data.toList)) ∧ w = w' := by
  unfold maxLen at hs
  by_cases h0 : 0 < s.size
  case neg =>
    have hn : Hid (intB s.data.toList = false) := by
      have : s.data.toList = [] := List.eq_nil_of_length_eq_zero (by rw [len_data]; omega)
      rw [this]; exact Lib.hid rfl
    have h1 : (s.size : Int) ≤ 1 := by omega
    have h2 : ((s.size : Int) == 0) = true := beq_iff_eq.2 (by omega)
    go_enter Tryd.func37, Tryd.ntmps37
    go_wp2
    all_goals go_ret
    all_goals exact ⟨ret_bool hn.out.symm, rfl⟩
  case pos =>
  by_cases h1 : 1 < s.size
  case neg =>
    have HN := Lib.hid (intB_C s h0 (.inl (by omega)))
    have h2 : ((s.size : Int) == 0) = false := beq_eq_false_iff_ne.2 (by omega)
    have hq : Hid ((!((s[0].toNat : Int) == 48) || s.toList == [48]) = true) := by
      refine Lib.hid ?_
      rw [ByteArray.toList_eq, data_cons s h0, List.drop_eq_nil_of_le (by rw [len_data]; omega)]
      cases hh : ((s[0].toNat : Int) == 48)
      · rfl
      · have : s[0] = 48 := by apply UInt8.toNat_inj.1; simp at hh ⊢; omega
        rw [this]; rfl
    go_enter Tryd.func37, Tryd.ntmps37
    go_wp2
    go_loop [3] (fun i => ∃ k : Nat, k ≤ s.size ∧ i = .int .i64 k ∧ Hid ((s.data.toList.take k).all dgt = true)) (fun i => s.size - (intOf i).toNat)
    case atStart => exact ⟨0, by omega, rfl, Lib.hid rfl⟩
    case round =>
      obtain ⟨k, hk, rfl, HX⟩ := hrel
      by_cases hlt : k < s.size
      · cases hd : isDigit (s[k].toNat : Int)
        all_goals
          have HD : Hid (dgt s[k] = _) := hd
          go_wp2_with (go_at_call 41; refine (rdigit_any _ _).mono ?_; rintro e w' ⟨rfl, rfl⟩)
        · go_ret
          exact ⟨ret_bool (by rw [HN.out, all_bad dgt s k hlt HD.out]; simp), rfl⟩
        · go_round
          case rel => exact ⟨k + 1, by omega, by go_num, Lib.hid (all_step dgt s k hlt HX.out HD.out)⟩
          case measure => simp [intOf]; omega
      · go_wp2
        go_ret
        exact ⟨ret_bool (by rw [HN.out, hq.out, all_done dgt s k hlt HX.out]; rfl), rfl⟩
  case pos =>
  have h2 : ((s.size : Int) == 0) = false := beq_eq_false_iff_ne.2 (by omega)
  have he : (s.extract 1 s.size).size = s.size - 1 := by simp
  have h3 : 0 < (s.extract 1 s.size).size := by omega
  clear he
  have h4 : ((s[1].toNat : Int) == 48) = (((s.extract 1 s.size)[0].toNat : Int) == 48) := by simp [ByteArray.getElem_extract]
  have HQ : Hid ((s.toList == [48]) = false) := by
    refine Lib.hid ?_
    rw [beq_eq_false_iff_ne]; intro e
    have := congrArg List.length e; rw [ByteArray.toList_eq, len_data] at this; simp at this; omega
  by_cases hcase : ((s[0].toNat : Int) == 45) = true ∧ ((s[1].toNat : Int) == 48) = false
  case pos =>
    obtain ⟨hA, hM⟩ := hcase
    have hM' : ((s[1].toNat : Int) != 48) = true := by rw [bne, hM]; rfl
    have hT : (((s.extract 1 s.size)[0].toNat : Int) == 48) = false := by rw [← h4]; exact hM
    clear h4
    have HN := Lib.hid (intB_B s h1 hA h3 hT)
    have hlen : Hid ((s.extract 1 s.size).size = s.size - 1) := Lib.hid (by simp)
    have h7 : ((↑(s.size - 1) : Int) == 0) = false := beq_eq_false_iff_ne.2 (by omega)
    go_enter Tryd.func37, Tryd.ntmps37
    go_wp2
    all_goals
      go_loop [3] (fun i => ∃ k : Nat, k ≤ s.size - 1 ∧ i = .int .i64 k ∧ Hid (((s.extract 1 s.size).data.toList.take k).all dgt = true)) (fun i => s.size - (intOf i).toNat)
      case atStart => exact ⟨0, by omega, rfl, Lib.hid rfl⟩
      case round =>
        obtain ⟨k, hk, rfl, HX⟩ := hrel
        by_cases hlt : k < s.size - 1
        · have hkt : k < (s.extract 1 s.size).size := by rw [hlen.out]; exact hlt
          cases hd : isDigit ((s.extract 1 s.size)[k].toNat : Int)
          all_goals
            have HD : Hid (dgt (s.extract 1 s.size)[k] = _) := hd
            go_wp2_with (go_at_call 41; refine (rdigit_any _ _).mono ?_; rintro e w' ⟨rfl, rfl⟩)
          · go_ret
            exact ⟨ret_bool (by rw [HN.out, all_bad dgt _ k hkt HD.out]), rfl⟩
          · go_round
            case rel => exact ⟨k + 1, by omega, by go_num, Lib.hid (all_step dgt _ k hkt HX.out HD.out)⟩
            case measure => simp [intOf]; omega
        · go_wp2
          go_ret
          exact ⟨ret_bool (by rw [HN.out, all_done dgt _ k (by rw [hlen.out]; exact hlt) HX.out]), rfl⟩
  case neg =>
    have HN := Lib.hid (intB_C s h0 (.inr (by
      cases hA : ((s[0].toNat : Int) == 45)
      · exact .inl rfl
      · refine .inr ⟨h3, ?_⟩
        rw [← h4]
        cases hM : ((s[1].toNat : Int) == 48)
        · exact absurd ⟨hA, hM⟩ hcase
        · rfl)))
    clear h4
    cases hz : ((s[0].toNat : Int) == 48)
    case true =>
      have hA : ((s[0].toNat : Int) == 45) = false := by simp at hz ⊢; omega
      clear hcase
      go_enter Tryd.func37, Tryd.ntmps37
      go_wp2
      go_ret
      exact ⟨ret_bool (by rw [HN.out, hz, HQ.out]; rfl), rfl⟩
    case false =>
      have hq : Hid ((!((s[0].toNat : Int) == 48) || s.toList == [48]) = true) := Lib.hid (by rw [hz]; rfl)
      cases hA : ((s[0].toNat : Int) == 45)
      case false =>
        clear hcase
        go_enter Tryd.func37, Tryd.ntmps37
        go_wp2
        go_loop [3] (fun i => ∃ k : Nat, k ≤ s.size ∧ i = .int .i64 k ∧ Hid ((s.data.toList.take k).all dgt = true)) (fun i => s.size - (intOf i).toNat)
        case atStart => exact ⟨0, by omega, rfl, Lib.hid rfl⟩
        case round =>
          obtain ⟨k, hk, rfl, HX⟩ := hrel
          by_cases hlt : k < s.size
          · cases hd : isDigit (s[k].toNat : Int)
            all_goals
              have HD : Hid (dgt s[k] = _) := hd
              go_wp2_with (go_at_call 41; refine (rdigit_any _ _).mono ?_; rintro e w' ⟨rfl, rfl⟩)
            · go_ret
              exact ⟨ret_bool (by rw [HN.out, hq.out, all_bad dgt s k hlt HD.out]; simp), rfl⟩
            · go_round
              case rel => exact ⟨k + 1, by omega, by go_num, Lib.hid (all_step dgt s k hlt HX.out HD.out)⟩
              case measure => simp [intOf]; omega
          · go_wp2
            go_ret
            exact ⟨ret_bool (by rw [HN.out, hq.out, all_done dgt s k hlt HX.out]; rfl), rfl⟩
      case true =>
        have hM : ((s[1].toNat : Int) != 48) = false := by
          cases hM : ((s[1].toNat : Int) == 48)
          · exact absurd ⟨hA, hM⟩ hcase
          · rw [bne, hM]; rfl
        clear hcase
        go_enter Tryd.func37, Tryd.ntmps37
        go_wp2
        go_loop [3] (fun i => ∃ k : Nat, k ≤ s.size ∧ i = .int .i64 k ∧ Hid ((s.data.toList.take k).all dgt = true)) (fun i => s.size - (intOf i).toNat)
        case atStart => exact ⟨0, by omega, rfl, Lib.hid rfl⟩
        case round =>
          obtain ⟨k, hk, rfl, HX⟩ := hrel
          by_cases hlt : k < s.size
          · cases hd : isDigit (s[k].toNat : Int)
            all_goals
              have HD : Hid (dgt s[k] = _) := hd
              go_wp2_with (go_at_call 41; refine (rdigit_any _ _).mono ?_; rintro e w' ⟨rfl, rfl⟩)
            · go_ret
              exact ⟨ret_bool (by rw [HN.out, hq.out, all_bad dgt s k hlt HD.out]; simp), rfl⟩
            · go_round
              case rel => exact ⟨k + 1, by omega, by go_num, Lib.hid (all_step dgt s k hlt HX.out HD.out)⟩
              case measure => simp [intOf]; omega
          · go_wp2
            go_ret
            exact ⟨ret_bool (by rw [HN.out, hq.out, all_done dgt s k hlt HX.out]; rfl), rfl⟩
end Go.Proofs.YtdcjnklagklckaaDoor
