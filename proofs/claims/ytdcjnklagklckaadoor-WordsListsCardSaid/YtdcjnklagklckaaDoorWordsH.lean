/- The reference's Int returns the same plain function of the bytes as words.Int. -/
import Derived.Test.YtdcjnklagklckaaDoorWordsG
namespace Go.Proofs.YtdcjnklagklckaaDoor
open Go.RowKit
set_option linter.unusedVariables false

/-- The value of digits, a minus sign passed over. -/
def accV (a : Nat) (l : List UInt8) : Nat := l.foldl (fun a c => if c.toNat = 45 then a else a * 10 + (c.toNat - 48)) a
theorem accV_snoc (a : Nat) (l : List UInt8) (c : UInt8) : accV a (l ++ [c]) = if c.toNat = 45 then accV a l else accV a l * 10 + (c.toNat - 48) := by
  simp [accV, List.foldl_append]
theorem accV_le : ∀ (l : List UInt8) (a : Nat), a ≤ accV a l
  | [], a => Nat.le_refl _
  | c :: r, a => by
    have := accV_le r (if c.toNat = 45 then a else a * 10 + (c.toNat - 48))
    simp only [accV, List.foldl_cons] at this ⊢; split at this <;> simp_all <;> omega
theorem accV_append (a : Nat) (l m : List UInt8) : accV a (l ++ m) = accV (accV a l) m := by simp [accV, List.foldl_append]
theorem accV_dgt : ∀ (l : List UInt8) (a : Nat), l.all dgt = true → accV a l = valFrom a l
  | [], _, _ => rfl
  | c :: r, a, h => by
    simp only [List.all_cons, Bool.and_eq_true] at h
    have hc := (dgt_iff c).1 h.1
    have := accV_dgt r (a * 10 + (c.toNat - 48)) h.2
    simp only [accV, valFrom, List.foldl_cons] at this ⊢
    rw [if_neg (by omega)]; exact this

theorem intB_cases {l : List UInt8} (h : intB l = true) : (natB l = true ∧ (l.headD 0).toNat ≠ 45) ∨ (natB l.tail = true ∧ (l.headD 0).toNat = 45) := by
  match l, h with
  | [], h => simp [intB, natB] at h
  | c :: r, h =>
    by_cases hc : c.toNat = 45
    · have hn : natB (c :: r) = false := by simp [natB, dgt, isDigit, hc]
      simp [intB, hn] at h; exact .inr ⟨h.1.2, hc⟩
    · exact .inl ⟨by simpa [intB, hc] using h, hc⟩
theorem intB_ne {l : List UInt8} (h : intB l = true) : l ≠ [] := by rintro rfl; simp [intB, natB] at h

theorem intV_acc {l : List UInt8} (h : intB l = true) : intV l = if (l.headD 0).toNat = 45 then -(accV 0 l : Int) else accV 0 l := by
  match l, intB_ne h with
  | c :: r, _ =>
    rcases intB_cases h with ⟨hn, hc⟩ | ⟨hn, hc⟩
    · have hc' : ¬ c.toNat = 45 := hc
      rw [intV_pos hc', accV_dgt _ _ (natB_all hn).1]; exact (if_neg hc).symm
    · have hc' : c.toNat = 45 := hc
      have : accV 0 (c :: r) = accV 0 r := by simp [accV, hc']
      have hn' : natB r = true := hn
      rw [intV_neg hc', this, accV_dgt _ _ (natB_all hn').1]; exact (if_pos hc).symm

theorem intB_mem {l : List UInt8} (h : intB l = true) : ∀ c ∈ l, c.toNat = 45 ∨ (48 ≤ c.toNat ∧ c.toNat ≤ 57) := by
  intro c hc
  match l, intB_ne h with
  | d :: r, _ =>
    rcases intB_cases h with ⟨hn, _⟩ | ⟨hn, hd⟩
    · have := List.all_eq_true.1 (natB_all hn).1 c hc; exact .inr ((dgt_iff c).1 this)
    · rcases List.mem_cons.1 hc with rfl | hc
      · exact .inl hd
      · have := List.all_eq_true.1 (natB_all hn).1 c hc; exact .inr ((dgt_iff c).1 this)

theorem lt_tdiv (n d : Int) (h0 : 0 ≤ d) (h1 : d ≤ 9) : (n < (-9223372036854775808 + d).tdiv 10) ↔ 10 * n - d < -9223372036854775808 := by
  obtain ⟨m, hm⟩ : ∃ m : Int, -9223372036854775808 + d = -m := ⟨9223372036854775808 - d, by omega⟩
  rw [hm, Int.neg_tdiv, Int.tdiv_eq_ediv_of_nonneg (by omega)]; omega

theorem head_at (s : ByteArray) (h0 : 0 < s.size) : (s.data.toList.headD 0).toNat = s[0].toNat := by rw [cons_head s h0]

theorem accV_take (s : ByteArray) (k : Nat) (hk : k < s.size) : accV 0 (s.data.toList.take (k + 1)) ≤ accV 0 s.data.toList := by
  conv => rhs; rw [← List.take_append_drop (k + 1) s.data.toList]
  rw [accV_append]; exact accV_le _ _

theorem rint_over (s : ByteArray) (low high : Int) (k v : Nat) (hb : intB s.data.toList = true) (h0 : 0 < s.size) (hl : -9223372036854775808 ≤ low) (hh : high ≤ 9223372036854775807) (hk : k < s.size)
    (h45 : ((s[k].toNat : Int) == 45) = false) (hd0 : 48 ≤ (s[k].toNat : Int)) (hd1 : (s[k].toNat : Int) ≤ 57) (hv : v = accV 0 (s.data.toList.take k)) (ho : (-(v : Int)) < (-9223372036854775808 + ((s[k].toNat : Int) - 48)).tdiv 10) :
    intSp s.data.toList low high = (0, 7) := by
  rw [lt_tdiv _ _ (by omega) (by omega)] at ho
  have h1 := accV_take s k hk
  rw [take_snoc' s k hk, accV_snoc, if_neg (by omega), ← hv] at h1
  refine intSp_out hb ?_
  rw [intV_acc hb]; split
  · exact .inl (by omega)
  · exact .inr (by omega)

theorem rint_step (s : ByteArray) (k v : Nat) (hk : k < s.size) (h45 : ((s[k].toNat : Int) == 45) = false) (hd0 : 48 ≤ (s[k].toNat : Int)) (hd1 : (s[k].toNat : Int) ≤ 57) (hv : v = accV 0 (s.data.toList.take k))
    (ho : ¬ (-(v : Int)) < (-9223372036854775808 + ((s[k].toNat : Int) - 48)).tdiv 10) :
    ∃ v' : Nat, v' ≤ 9223372036854775808 ∧ Value.int .i64 (wrap64 (wrap64 (10 * -(v : Int)) - ((s[k].toNat : Int) - 48))) = .int .i64 (-(v' : Int)) ∧ Hid (v' = accV 0 (s.data.toList.take (k + 1))) := by
  rw [lt_tdiv _ _ (by omega) (by omega)] at ho
  refine ⟨v * 10 + (s[k].toNat - 48), by omega, ?_, Lib.hid ?_⟩
  · rw [IntWalk.wrap64_in (10 * -(v : Int)) ⟨by omega, by omega⟩, IntWalk.wrap64_in _ ⟨by omega, by omega⟩]
    congr 1; omega
  · rw [take_snoc' s k hk, accV_snoc, if_neg (by omega), ← hv]
theorem rint_dash (s : ByteArray) (k v : Nat) (hk : k < s.size) (h45 : ((s[k].toNat : Int) == 45) = true) (hv : v = accV 0 (s.data.toList.take k)) : v = accV 0 (s.data.toList.take (k + 1)) := by
  simp at h45
  rw [take_snoc' s k hk, accV_snoc, if_pos (by omega), ← hv]

theorem rint_digit (s : ByteArray) (k : Nat) (hk : k < s.size) (hb : intB s.data.toList = true) (h45 : ((s[k].toNat : Int) == 45) = false) : 48 ≤ (s[k].toNat : Int) ∧ (s[k].toNat : Int) ≤ 57 := by
  have hm : s[k] ∈ s.data.toList := by rw [List.mem_iff_getElem]; exact ⟨k, by simpa using hk, rfl⟩
  have := intB_mem hb _ hm; simp at h45; omega

theorem rint_end (s : ByteArray) (k v : Nat) (hk : ¬ k < s.size) (h0 : 0 < s.size) (hb : intB s.data.toList = true) (hv : v = accV 0 (s.data.toList.take k)) {b : Bool} (h45 : ((s[0].toNat : Int) == 45) = b) :
    intV s.data.toList = if b then -(v : Int) else v := by
  rw [List.take_of_length_le (by rw [len_data]; omega)] at hv
  rw [intV_acc hb, head_at s h0, ← hv]
  cases b <;> simp at h45 ⊢ <;> omega

set_option maxRecDepth 20000 in
set_option maxHeartbeats 1000000 in
theorem rint_any (s : ByteArray) (low high : Int) (w : World) (hs : s.size ≤ 281474976710656) (hl : -9223372036854775808 ≤ low) (hh : high ≤ 9223372036854775807) :
    Calls Tryd.prog 14 #[.string s, .int .i64 low, .int .i64 high] w fun e w' =>
      e = .returned (.tuple #[.int .i64 (intSp s.data.toList low high).1, .int .i64 (intSp s.data.toList low high).2]) ∧ w = w' := by
  have hsm : s.size ≤ maxLen := by unfold maxLen; omega
  cases hb : intB s.data.toList
  case false =>
    have HE := Lib.hid (intSp_no (low := low) (high := high) hb)
    have HB := Lib.hid hb; clear hb
    go_enter Tryd.func14, Tryd.ntmps14
    go_wp2_with (go_at_call 37; refine (decimal_any _ _ hsm).mono ?_; rintro e w' ⟨rfl, rfl⟩; rw [HB.out])
    go_ret2
    exact ⟨by rw [HE.out]; rfl, rfl⟩
  case true =>
  have HB := Lib.hid hb
  have h0 : 0 < s.size := by
    have := intB_ne hb; rcases Nat.eq_zero_or_pos s.size with h | h
    · exact absurd (List.eq_nil_of_length_eq_zero (by rw [len_data]; exact h)) this
    · exact h
  clear hb
  cases hm : ((s[0].toNat : Int) == 45)
  case false =>
    have HM := Lib.hid hm
    go_enter Tryd.func14, Tryd.ntmps14
    go_wp2_with (go_at_call 37; refine (decimal_any _ _ hsm).mono ?_; rintro e w' ⟨rfl, rfl⟩; rw [HB.out])
    go_loop [9, 10, 11] (fun n i _ => ∃ k : Nat, k ≤ s.size ∧ i = .int .i64 k ∧ ∃ v : Nat, v ≤ 9223372036854775808 ∧ n = .int .i64 (-(v : Int)) ∧ Hid (v = accV 0 (s.data.toList.take k))) (fun _ i _ => s.size - (intOf i).toNat)
    case atStart => exact ⟨0, by omega, rfl, 0, by omega, rfl, Lib.hid rfl⟩
    case round =>
      obtain ⟨k, hk, rfl, v, hv, rfl, HV⟩ := hrel
      by_cases hlt : k < s.size
      · cases h45 : ((s[k].toNat : Int) == 45)
        · obtain ⟨hd0, hd1⟩ := rint_digit s k hlt HB.out h45
          by_cases ho : (-(v : Int)) < (-9223372036854775808 + ((s[k].toNat : Int) - 48)).tdiv 10
          · have HE := Lib.hid (rint_over s low high k v HB.out h0 hl hh hlt h45 hd0 hd1 HV.out ho)
            go_wp2
            go_ret2
            exact ⟨by rw [HE.out]; rfl, rfl⟩
          · have HS := Lib.hid (rint_step s k v hlt h45 hd0 hd1 HV.out ho)
            go_wp2
            go_round
            case rel => exact ⟨k + 1, by omega, by go_num, HS.out⟩
            case measure => simp [intOf]; omega
        · have HS := Lib.hid (rint_dash s k v hlt h45 HV.out)
          go_wp2
          go_round
          case rel => exact ⟨k + 1, by omega, by go_num, v, hv, rfl, HS⟩
          case measure => simp [intOf]; omega
      · have HI := Lib.hid (rint_end s k v hlt h0 HB.out HV.out HM.out)
        by_cases cm : v = 9223372036854775808
        · have HE := Lib.hid (intSp_out (low := low) (high := high) HB.out (by rw [HI.out]; simp; omega))
          have cb : (-(v : Int) == -9223372036854775808) = true := beq_iff_eq.2 (by omega)
          clear cm
          go_wp2
          go_ret2
          exact ⟨by rw [HE.out]; rfl, rfl⟩
        have cb : (-(v : Int) == -9223372036854775808) = false := beq_eq_false_iff_ne.2 (by omega)
        have hw : wrap64 (v : Int) = v := IntWalk.wrap64_in _ ⟨by omega, by omega⟩
        have cm' : v < 9223372036854775808 := by omega
        clear cm
        by_cases c1 : (v : Int) < low
        · have HE := Lib.hid (intSp_out (low := low) (high := high) HB.out (by rw [HI.out]; simp; omega))
          go_wp2
          go_ret2
          exact ⟨by rw [HE.out]; rfl, rfl⟩
        · by_cases c2 : high < (v : Int)
          · have HE := Lib.hid (intSp_out (low := low) (high := high) HB.out (by rw [HI.out]; simp; omega))
            go_wp2
            go_ret2
            exact ⟨by rw [HE.out]; rfl, rfl⟩
          · have HE := Lib.hid (intSp_in (low := low) (high := high) HB.out (by rw [HI.out]; simp; omega) (by rw [HI.out]; simp; omega))
            go_wp2
            go_ret2
            exact ⟨by rw [HE.out, HI.out]; rfl, rfl⟩
  case true =>
    have HM := Lib.hid hm
    go_enter Tryd.func14, Tryd.ntmps14
    go_wp2_with (go_at_call 37; refine (decimal_any _ _ hsm).mono ?_; rintro e w' ⟨rfl, rfl⟩; rw [HB.out])
    go_loop [9, 10, 11] (fun n i _ => ∃ k : Nat, k ≤ s.size ∧ i = .int .i64 k ∧ ∃ v : Nat, v ≤ 9223372036854775808 ∧ n = .int .i64 (-(v : Int)) ∧ Hid (v = accV 0 (s.data.toList.take k))) (fun _ i _ => s.size - (intOf i).toNat)
    case atStart => exact ⟨0, by omega, rfl, 0, by omega, rfl, Lib.hid rfl⟩
    case round =>
      obtain ⟨k, hk, rfl, v, hv, rfl, HV⟩ := hrel
      by_cases hlt : k < s.size
      · cases h45 : ((s[k].toNat : Int) == 45)
        · obtain ⟨hd0, hd1⟩ := rint_digit s k hlt HB.out h45
          by_cases ho : (-(v : Int)) < (-9223372036854775808 + ((s[k].toNat : Int) - 48)).tdiv 10
          · have HE := Lib.hid (rint_over s low high k v HB.out h0 hl hh hlt h45 hd0 hd1 HV.out ho)
            go_wp2
            go_ret2
            exact ⟨by rw [HE.out]; rfl, rfl⟩
          · have HS := Lib.hid (rint_step s k v hlt h45 hd0 hd1 HV.out ho)
            go_wp2
            go_round
            case rel => exact ⟨k + 1, by omega, by go_num, HS.out⟩
            case measure => simp [intOf]; omega
        · have HS := Lib.hid (rint_dash s k v hlt h45 HV.out)
          go_wp2
          go_round
          case rel => exact ⟨k + 1, by omega, by go_num, v, hv, rfl, HS⟩
          case measure => simp [intOf]; omega
      · have HI := Lib.hid (rint_end s k v hlt h0 HB.out HV.out HM.out)
        by_cases c1 : (-(v : Int)) < low
        · have HE := Lib.hid (intSp_out (low := low) (high := high) HB.out (by rw [HI.out]; simp; omega))
          go_wp2
          go_ret2
          exact ⟨by rw [HE.out]; rfl, rfl⟩
        · by_cases c2 : high < (-(v : Int))
          · have HE := Lib.hid (intSp_out (low := low) (high := high) HB.out (by rw [HI.out]; simp; omega))
            go_wp2
            go_ret2
            exact ⟨by rw [HE.out]; rfl, rfl⟩
          · have HE := Lib.hid (intSp_in (low := low) (high := high) HB.out (by rw [HI.out]; simp; omega) (by rw [HI.out]; simp; omega))
            go_wp2
            go_ret2
            exact ⟨by rw [HE.out, HI.out]; rfl, rfl⟩
end Go.Proofs.YtdcjnklagklckaaDoor
