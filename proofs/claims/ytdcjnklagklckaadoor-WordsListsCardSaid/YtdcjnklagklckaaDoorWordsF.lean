/- words.Int returns what a plain Lean function of the bytes says: the value of a decimal form that is in the range. -/
import Derived.Test.YtdcjnklagklckaaDoorWordsE
import Derived.Lib.ParseIntB
import Derived.Lib.SmallJoins
namespace Go.Proofs.YtdcjnklagklckaaDoor
open Go.RowKit
set_option linter.unusedVariables false

def valFrom (a : Nat) (l : List UInt8) : Nat := l.foldl (fun a c => a * 10 + (c.toNat - 48)) a
def intV (l : List UInt8) : Int := if (l.headD 0).toNat = 45 then -(valFrom 0 l.tail : Int) else valFrom 0 l
def intSp (l : List UInt8) (low high : Int) : Int × Int := if intB l = true then (if low ≤ intV l ∧ intV l ≤ high then (intV l, 0) else (0, 7)) else (0, 6)

theorem valFrom_le : ∀ (l : List UInt8) (a : Nat), a ≤ valFrom a l
  | [], a => Nat.le_refl _
  | c :: r, a => by have := valFrom_le r (a * 10 + (c.toNat - 48)); simp only [valFrom, List.foldl_cons] at this ⊢; omega
theorem dgt_iff (c : UInt8) : dgt c = true ↔ 48 ≤ c.toNat ∧ c.toNat ≤ 57 := by simp [dgt, isDigit]; omega

theorem parseUintM_dgt : ∀ (l : List UInt8) (acc : Nat), l.all dgt = true → acc ≤ 18446744073709551615 →
    Lib.parseUintM 18446744073709551615 acc l = if valFrom acc l ≤ 18446744073709551615 then .ok (valFrom acc l) else .range
  | [], acc, _, ha => by simp [Lib.parseUintM, valFrom, ha]
  | c :: r, acc, h, ha => by
    simp only [List.all_cons, Bool.and_eq_true] at h
    have hc := (dgt_iff c).1 h.1
    have hv : valFrom acc (c :: r) = valFrom (acc * 10 + (c.toNat - 48)) r := rfl
    have hle := valFrom_le r (acc * 10 + (c.toNat - 48))
    rw [Lib.parseUintM, if_pos hc, hv]
    by_cases h1 : 1844674407370955162 ≤ acc
    · rw [if_pos h1, if_neg (by omega)]
    · rw [if_neg h1]
      by_cases h2 : 18446744073709551615 < acc * 10 + (c.toNat - 48)
      · rw [if_pos h2, if_neg (by omega)]
      · rw [if_neg h2, parseUintM_dgt r _ h.2 (by omega)]

theorem parseUintB_dgt (l : List UInt8) (h : l.all dgt = true) (hn : l ≠ []) : Lib.parseUintB 64 l = if valFrom 0 l ≤ 18446744073709551615 then .ok (valFrom 0 l) else .range := by
  rw [Lib.parseUintB, if_neg hn]; exact parseUintM_dgt l 0 h (by omega)
theorem natB_all {l : List UInt8} (h : natB l = true) : l.all dgt = true ∧ l ≠ [] := by
  simp only [natB, Bool.and_eq_true] at h; exact ⟨h.2, by rintro rfl; simp at h⟩

theorem intV_neg {c : UInt8} {r : List UInt8} (hc : c.toNat = 45) : intV (c :: r) = -(valFrom 0 r : Int) := if_pos hc
theorem intV_pos {c : UInt8} {r : List UInt8} (hc : ¬ c.toNat = 45) : intV (c :: r) = valFrom 0 (c :: r) := if_neg hc
theorem parseIntB_int (l : List UInt8) (h : intB l = true) :
    Lib.parseIntB 64 l = if -9223372036854775808 ≤ intV l ∧ intV l ≤ 9223372036854775807 then .ok (intV l) else .range := by
  match l, h with
  | [], h => simp [intB, natB] at h
  | c :: r, h =>
    simp only [Lib.parseIntB]
    by_cases hc : c.toNat = 45
    · have hn : natB (c :: r) = false := by
        simp [natB, dgt, isDigit, hc]
      have hr : natB r = true := by simp [intB, hn] at h; exact h.1.2
      obtain ⟨ha, hne⟩ := natB_all hr
      rw [if_pos (.inr hc), parseUintB_dgt r ha hne, intV_neg hc]
      by_cases hv : valFrom 0 r ≤ 18446744073709551615
      · rw [if_pos hv]
        simp only [hc, not_true, false_and, if_false, true_and, if_true, Nat.reducePow, Nat.reduceSub]
        by_cases h2 : 9223372036854775808 < valFrom 0 r
        · rw [if_pos h2, if_neg (by omega)]
        · rw [if_neg h2, if_pos (by omega)]
      · rw [if_neg hv, if_neg (by omega)]
    · have hn : natB (c :: r) = true := by simpa [intB, hc] using h
      obtain ⟨ha, hne⟩ := natB_all hn
      have hp : ¬ (c.toNat = 43 ∨ c.toNat = 45) := by
        have : dgt c = true := by simp only [List.all_cons, Bool.and_eq_true] at ha; exact ha.1
        rw [dgt_iff] at this; omega
      rw [if_neg hp, parseUintB_dgt _ ha hne, intV_pos hc]
      by_cases hv : valFrom 0 (c :: r) ≤ 18446744073709551615
      · rw [if_pos hv]
        simp only [hc, not_false_eq_true, true_and, false_and, if_false, Nat.reducePow, Nat.reduceSub]
        by_cases h2 : 9223372036854775808 ≤ valFrom 0 (c :: r)
        · rw [if_pos h2, if_neg (by omega)]
        · rw [if_neg h2, if_pos (by omega)]
      · rw [if_neg hv, if_neg (by omega)]

theorem intSp_no {l : List UInt8} {low high : Int} (h : intB l = false) : intSp l low high = (0, 6) := by simp [intSp, h]
theorem intSp_in {l : List UInt8} {low high : Int} (h : intB l = true) (h1 : low ≤ intV l) (h2 : intV l ≤ high) : intSp l low high = (intV l, 0) := by simp [intSp, h, h1, h2]
theorem intSp_out {l : List UInt8} {low high : Int} (h : intB l = true) (h1 : intV l < low ∨ high < intV l) : intSp l low high = (0, 7) := by
  rw [intSp, if_pos h, if_neg (by omega)]

theorem ret_pair {a b c d : Value} (h1 : a = c) (h2 : b = d) : Ending.returned (.tuple #[a, b]) = .returned (.tuple #[c, d]) := by rw [h1, h2]

set_option maxHeartbeats 400000 in
theorem int_any (s : ByteArray) (low high : Int) (w : World) (hs : s.size ≤ 281474976710656) (hl : -9223372036854775808 ≤ low) (hh : high ≤ 9223372036854775807)
    (hvar : ∃ tp p, w.var? Tryd.prog "strconv.ErrRange" = some #[.iface tp p]) :
    Calls Tryd.prog 13 #[.string s, .int .i64 low, .int .i64 high] w fun e w' =>
      e = .returned (.tuple #[.int .i64 (intSp s.data.toList low high).1, .int .i64 (intSp s.data.toList low high).2]) ∧ Below w.heap.size w w' := by
  have hsm : s.size ≤ maxLen := by unfold maxLen; omega
  obtain ⟨tp, p, hv⟩ := hvar
  have HV := Lib.hid hv; clear hv
  cases hb : intB s.data.toList
  case false =>
    have HE := Lib.hid (intSp_no (low := low) (high := high) hb)
    have HB := Lib.hid hb; clear hb
    go_enter Tryd.func13, Tryd.ntmps13
    go_wp2_with (go_at_call 35; refine (integer_any _ _ hsm).mono ?_; rintro e w' ⟨rfl, rfl⟩; rw [HB.out])
    go_ret2
    exact ⟨by rw [HE.out]; rfl, Below.refl _ _⟩
  case true =>
    have hp := parseIntB_int _ hb
    have HB := Lib.hid hb; clear hb
    obtain ⟨v, hv⟩ : ∃ v, v = intV s.data.toList := ⟨_, rfl⟩
    rw [← hv] at hp
    by_cases hf : -9223372036854775808 ≤ v ∧ v ≤ 9223372036854775807
    · rw [if_pos hf] at hp
      have HP := Lib.hid hp; clear hp
      obtain ⟨hf1, hf2⟩ := hf
      by_cases h1 : v < low
      case pos =>
        have HE := Lib.hid (intSp_out (low := low) (high := high) HB.out (by rw [← hv]; omega))
        have HVV := Lib.hid hv; clear hv
        go_enter Tryd.func13, Tryd.ntmps13
        go_wp2_with (first
          | (go_at_call 35; refine (integer_any _ _ hsm).mono ?_; rintro e w' ⟨rfl, rfl⟩; rw [HB.out])
          | (go_at_call 36; refine (Tryd.strconv_ParseInt_10_at64_ok s (by omega) v HP.out _).mono ?_; rintro e w' ⟨rfl, hw⟩; have HW := Lib.hid hw; clear hw))
        go_ret2
        refine ⟨by rw [HE.out]; rfl, ?_⟩
        rcases HW.out with rfl | ⟨t, rfl⟩
        · exact Below.refl _ _
        · exact Joins.below_bytesWorld _ _ _ _ (Nat.le_refl _)
      case neg =>
        by_cases h2 : high < v
        case pos =>
          have HE := Lib.hid (intSp_out (low := low) (high := high) HB.out (by rw [← hv]; omega))
          have HVV := Lib.hid hv; clear hv
          go_enter Tryd.func13, Tryd.ntmps13
          go_wp2_with (first
            | (go_at_call 35; refine (integer_any _ _ hsm).mono ?_; rintro e w' ⟨rfl, rfl⟩; rw [HB.out])
            | (go_at_call 36; refine (Tryd.strconv_ParseInt_10_at64_ok s (by omega) v HP.out _).mono ?_; rintro e w' ⟨rfl, hw⟩; have HW := Lib.hid hw; clear hw))
          go_ret2
          refine ⟨by rw [HE.out]; rfl, ?_⟩
          rcases HW.out with rfl | ⟨t, rfl⟩
          · exact Below.refl _ _
          · exact Joins.below_bytesWorld _ _ _ _ (Nat.le_refl _)
        case neg =>
          have HE := Lib.hid (intSp_in (low := low) (high := high) HB.out (by rw [← hv]; omega) (by rw [← hv]; omega))
          have HVV := Lib.hid hv; clear hv
          go_enter Tryd.func13, Tryd.ntmps13
          go_wp2_with (first
            | (go_at_call 35; refine (integer_any _ _ hsm).mono ?_; rintro e w' ⟨rfl, rfl⟩; rw [HB.out])
            | (go_at_call 36; refine (Tryd.strconv_ParseInt_10_at64_ok s (by omega) v HP.out _).mono ?_; rintro e w' ⟨rfl, hw⟩; have HW := Lib.hid hw; clear hw))
          go_ret2
          refine ⟨by rw [HE.out, ← HVV.out]; rfl, ?_⟩
          rcases HW.out with rfl | ⟨t, rfl⟩
          · exact Below.refl _ _
          · exact Joins.below_bytesWorld _ _ _ _ (Nat.le_refl _)
    · rw [if_neg hf] at hp
      have HP := Lib.hid hp; clear hp
      have HE := Lib.hid (intSp_out (low := low) (high := high) HB.out (by rw [← hv]; omega))
      clear hf hv
      go_enter Tryd.func13, Tryd.ntmps13
      go_wp2_with (first
          | (go_at_call 35; refine (integer_any _ _ hsm).mono ?_; rintro e w' ⟨rfl, rfl⟩; rw [HB.out])
          | (go_at_call 36; refine (Tryd.strconv_ParseInt_10_at64_range_var s hs HP.out tp p _ HV.out).mono ?_; rintro e w' ⟨N, rfl, hN, hc, hb⟩; have HW := Lib.hid hb; clear hb hc))
      go_ret2
      exact ⟨by rw [HE.out]; rfl, HW.out⟩
end Go.Proofs.YtdcjnklagklckaaDoor
