/- Decimal forms and numbers: the mathematics. -/
import Derived.Test.YtdcjnklagklckaaDoorParseA
import Derived.Test.YtdcjnklagklckaaDoorWordsF
namespace Go.Proofs.YtdcjnklagklckaaDoor
open Go.RowKit Go.Shelf
set_option linter.unusedVariables false

theorem dig_of (d : Nat) (h : d < 10) : (UInt8.ofNat (48 + d)).toNat = 48 + d := by simp; omega
theorem dgt_of (d : Nat) (h : d < 10) : dgt (UInt8.ofNat (48 + d)) = true := by rw [dgt_iff, dig_of d h]; omega
theorem dd_small {n : Nat} (h : n < 10) : Lib.decDigits n = [UInt8.ofNat (48 + n)] := by rw [Lib.decDigits, dif_pos h]
theorem dd_big {n : Nat} (h : ¬ n < 10) : Lib.decDigits n = Lib.decDigits (n / 10) ++ [UInt8.ofNat (48 + n % 10)] := by rw [Lib.decDigits, dif_neg h]
theorem dd_ne (n : Nat) : Lib.decDigits n ≠ [] := by
  by_cases h : n < 10
  · rw [dd_small h]; simp
  · rw [dd_big h]; simp
theorem valFrom_snoc (a : Nat) (l : List UInt8) (c : UInt8) : valFrom a (l ++ [c]) = valFrom a l * 10 + (c.toNat - 48) := by simp [valFrom, List.foldl_append]
theorem valFrom_append (a : Nat) (l m : List UInt8) : valFrom a (l ++ m) = valFrom (valFrom a l) m := by simp [valFrom, List.foldl_append]
theorem dd_val (n : Nat) : valFrom 0 (Lib.decDigits n) = n := by
  induction n using Nat.strongRecOn with
  | _ n ih =>
    by_cases h : n < 10
    · rw [dd_small h]; show 0 * 10 + _ = n; rw [dig_of n h]; omega
    · rw [dd_big h, valFrom_snoc, ih (n / 10) (by omega), dig_of _ (by omega)]; omega
theorem dd_dgt (n : Nat) : (Lib.decDigits n).all dgt = true := by
  induction n using Nat.strongRecOn with
  | _ n ih =>
    by_cases h : n < 10
    · rw [dd_small h, List.all_cons, dgt_of n h]; rfl
    · rw [dd_big h, List.all_append, ih (n / 10) (by omega), List.all_cons, dgt_of (n % 10) (by omega)]; rfl
theorem dd_head (n : Nat) (h0 : n ≠ 0) : ((Lib.decDigits n).headD 0).toNat ≠ 48 := by
  induction n using Nat.strongRecOn with
  | _ n ih =>
    by_cases h : n < 10
    · rw [dd_small h]; show (UInt8.ofNat (48 + n)).toNat ≠ 48; rw [dig_of n h]; omega
    · rw [dd_big h]
      have hn := dd_ne (n / 10)
      have := ih (n / 10) (by omega) (by omega)
      cases hd : Lib.decDigits (n / 10) with
      | nil => exact absurd hd hn
      | cons a b => rw [hd] at this; exact this
theorem natB_dd (n : Nat) : natB (Lib.decDigits n) = true := by
  unfold natB
  rw [dd_dgt, Bool.and_true]
  have hn := dd_ne n
  have he : (Lib.decDigits n).isEmpty = false := by
    cases hd : Lib.decDigits n with
    | nil => exact absurd hd hn
    | cons a b => rfl
  rw [he]
  by_cases h0 : n = 0
  · subst h0; rw [dd_small (by omega)]; rfl
  · have := dd_head n h0
    have h2 : (((Lib.decDigits n).headD 0).toNat == 48) = false := beq_eq_false_iff_ne.2 this
    rw [h2]; rfl

theorem natB_init {r : List UInt8} {c : UInt8} (h : natB (r ++ [c]) = true) (hr : r ≠ []) : natB r = true ∧ r ≠ [48] := by
  unfold natB at h ⊢
  cases r with
  | nil => exact absurd rfl hr
  | cons a b =>
    rw [List.all_append] at h
    simp only [List.cons_append, List.isEmpty_cons, Bool.not_false, Bool.true_and, List.headD_cons, Bool.and_eq_true, Bool.or_eq_true, Bool.not_eq_true', beq_iff_eq] at h ⊢
    obtain ⟨h1, h2, h3⟩ := h
    have hne : ¬ (a :: (b ++ [c]) = [48]) := by intro e; have := congrArg List.length e; simp at this
    have ha : (a.toNat == 48) = false := h1.resolve_right hne
    refine ⟨⟨.inl ha, h2⟩, ?_⟩
    intro e
    have : a = 48 := (List.cons.injEq _ _ _ _ ▸ e).1
    subst this; cases ha
theorem dgt_back {c : UInt8} (h : dgt c = true) : UInt8.ofNat (48 + (c.toNat - 48)) = c := by
  rw [dgt_iff] at h
  apply UInt8.toNat_inj.1; rw [dig_of _ (by omega)]; omega
/-- A decimal form without a sign is that of its number. -/
theorem dd_of_natB : ∀ (n : Nat) (l : List UInt8), l.length = n → natB l = true → Lib.decDigits (valFrom 0 l) = l
  | 0, l, hl, h => by
    have : l = [] := List.eq_nil_of_length_eq_zero hl
    subst this; simp [natB] at h
  | n + 1, l, hl, h => by
    obtain ⟨r, c, rfl⟩ : ∃ r c, l = r ++ [c] := by
      rcases List.eq_nil_or_concat l with e | ⟨r, c, e⟩
      · subst e; simp at hl
      · exact ⟨r, c, by rw [e, List.concat_eq_append]⟩
    have hc : dgt c = true := by
      have := (natB_all h).1; rw [List.all_append] at this; simp at this; exact this.2
    have hc2 := (dgt_iff c).1 hc
    rw [valFrom_snoc]
    by_cases hr : r = []
    · subst hr
      show Lib.decDigits (0 * 10 + (c.toNat - 48)) = [c]
      rw [dd_small (by omega), Nat.zero_mul, Nat.zero_add, dgt_back hc]
    · obtain ⟨h1, h2⟩ := natB_init h hr
      have ih := dd_of_natB n r (by simp at hl; omega) h1
      have hv : valFrom 0 r ≠ 0 := by
        intro e; rw [e, dd_small (by omega)] at ih; exact h2 ih.symm
      rw [dd_big (by omega), show (valFrom 0 r * 10 + (c.toNat - 48)) / 10 = valFrom 0 r by omega, show (valFrom 0 r * 10 + (c.toNat - 48)) % 10 = c.toNat - 48 by omega, ih, dgt_back hc]
theorem dd_natB {l : List UInt8} (h : natB l = true) : Lib.decDigits (valFrom 0 l) = l := dd_of_natB _ l rfl h
theorem natB_inj {a b : List UInt8} (ha : natB a = true) (hb : natB b = true) (h : valFrom 0 a = valFrom 0 b) : a = b := by rw [← dd_natB ha, ← dd_natB hb, h]

/-! ### The next number -/
theorem nines_snoc (r : List UInt8) : ninesN (r ++ [57]) = ninesN r + 1 := by unfold ninesN; simp
theorem nines_other (r : List UInt8) (c : UInt8) (h : c ≠ 57) : ninesN (r ++ [c]) = 0 := by unfold ninesN; simp [h]
theorem nines_le (r : List UInt8) : ninesN r ≤ r.length := by
  unfold ninesN; have := (List.takeWhile_prefix (· == (57 : UInt8)) (l := r.reverse)).length_le; rwa [List.length_reverse] at this
theorem succL_other (r : List UInt8) (c : UInt8) (h : c ≠ 57) : succL (r ++ [c]) = r ++ [c + 1] := by
  unfold succL
  rw [nines_other r c h, if_neg (by simp)]
  simp
theorem succL_nine (r : List UInt8) : succL (r ++ [57]) = succL r ++ [48] := by
  unfold succL
  have hn := nines_le r
  rw [nines_snoc]
  by_cases h : r.length ≤ ninesN r
  · rw [if_pos h, if_pos (by simp; omega), List.length_append, List.length_cons, List.length_nil, List.replicate_succ']; rfl
  · rw [if_neg h, if_neg (by simp; omega)]
    have e : (r ++ [57]).length - (ninesN r + 1) - 1 = r.length - ninesN r - 1 := by simp
    rw [e, List.take_append_of_le_length (by omega), List.replicate_succ']
    have e2 : (r ++ [57]).getD (r.length - ninesN r - 1) 0 = r.getD (r.length - ninesN r - 1) 0 := by
      rw [List.getD_eq_getElem?_getD, List.getD_eq_getElem?_getD, List.getElem?_append_left (by omega)]
    rw [e2]; simp
theorem succL_dd (n : Nat) : succL (Lib.decDigits n) = Lib.decDigits (n + 1) := by
  induction n using Nat.strongRecOn with
  | _ n ih =>
    by_cases h : n < 10
    · rw [dd_small h]
      by_cases h9 : n = 9
      · subst h9; rw [dd_big (by omega), dd_small (by omega)]; rfl
      · have hc : UInt8.ofNat (48 + n) ≠ 57 := by
          intro e; have := congrArg UInt8.toNat e; rw [dig_of n h] at this; have h57 : (57 : UInt8).toNat = 57 := rfl; omega
        have := succL_other [] _ hc
        rw [List.nil_append] at this
        rw [this, dd_small (by omega), List.nil_append]
        congr 1; apply UInt8.toNat_inj.1; rw [UInt8.toNat_add, dig_of n h, dig_of (n + 1) (by omega)]
        have h1 : (1 : UInt8).toNat = 1 := rfl
        omega
    · rw [dd_big h]
      by_cases h9 : n % 10 = 9
      · have e57 : UInt8.ofNat (48 + n % 10) = 57 := by rw [h9]; rfl
        rw [e57, succL_nine, ih (n / 10) (by omega), dd_big (n := n + 1) (by omega), show (n + 1) / 10 = n / 10 + 1 by omega, show (n + 1) % 10 = 0 by omega]; rfl
      · have hc : UInt8.ofNat (48 + n % 10) ≠ 57 := by
          intro e; have := congrArg UInt8.toNat e; rw [dig_of _ (by omega)] at this; have h57 : (57 : UInt8).toNat = 57 := rfl; omega
        rw [succL_other _ _ hc, dd_big (n := n + 1) (by omega), show (n + 1) / 10 = n / 10 by omega, show (n + 1) % 10 = n % 10 + 1 by omega]
        congr 2; apply UInt8.toNat_inj.1; rw [UInt8.toNat_add, dig_of _ (by omega), dig_of (n % 10 + 1) (by omega)]
        have h1 : (1 : UInt8).toNat = 1 := rfl
        omega

/-! ### Which number is less -/
theorem valFrom_bounds : ∀ (l : List UInt8) (a : Nat), l.all dgt = true → a * 10 ^ l.length ≤ valFrom a l ∧ valFrom a l < (a + 1) * 10 ^ l.length
  | [], a, _ => by simp [valFrom]
  | c :: r, a, h => by
    rw [List.all_cons, Bool.and_eq_true] at h
    have hc := (dgt_iff c).1 h.1
    obtain ⟨i1, i2⟩ := valFrom_bounds r (a * 10 + (c.toNat - 48)) h.2
    have e : valFrom a (c :: r) = valFrom (a * 10 + (c.toNat - 48)) r := rfl
    rw [e, List.length_cons, Nat.pow_succ]
    have k1 : a * 10 * 10 ^ r.length ≤ (a * 10 + (c.toNat - 48)) * 10 ^ r.length := Nat.mul_le_mul_right _ (by omega)
    have k2 : (a * 10 + (c.toNat - 48) + 1) * 10 ^ r.length ≤ (a + 1) * 10 * 10 ^ r.length := Nat.mul_le_mul_right _ (by omega)
    rw [Nat.mul_comm (10 ^ r.length) 10, ← Nat.mul_assoc, ← Nat.mul_assoc]; omega
theorem lex_val : ∀ (a b : List UInt8) (x : Nat), a.length = b.length → a.all dgt = true → b.all dgt = true → (a < b ↔ valFrom x a < valFrom x b)
  | [], [], x, _, _, _ => by simp [valFrom]
  | c :: a, d :: b, x, hl, ha, hb => by
    rw [List.all_cons, Bool.and_eq_true] at ha hb
    have hc := (dgt_iff c).1 ha.1
    have hd := (dgt_iff d).1 hb.1
    have hl' : a.length = b.length := by simpa using hl
    have e1 : valFrom x (c :: a) = valFrom (x * 10 + (c.toNat - 48)) a := rfl
    have e2 : valFrom x (d :: b) = valFrom (x * 10 + (d.toNat - 48)) b := rfl
    rw [e1, e2, List.cons_lt_cons_iff]
    obtain ⟨p1, p2⟩ := valFrom_bounds a (x * 10 + (c.toNat - 48)) ha.2
    obtain ⟨q1, q2⟩ := valFrom_bounds b (x * 10 + (d.toNat - 48)) hb.2
    rw [hl'] at p1 p2
    rcases Nat.lt_trichotomy c.toNat d.toNat with h | h | h
    · have k : (x * 10 + (c.toNat - 48) + 1) * 10 ^ b.length ≤ (x * 10 + (d.toNat - 48)) * 10 ^ b.length := Nat.mul_le_mul_right _ (by omega)
      exact ⟨fun _ => by omega, fun _ => .inl (UInt8.lt_iff_toNat_lt.2 h)⟩
    · have e : c = d := UInt8.toNat_inj.1 h
      subst e
      rw [← lex_val a b _ hl' ha.2 hb.2]
      exact ⟨fun hh => hh.elim (fun hh => absurd hh (UInt8.lt_irrefl _)) (fun hh => hh.2), fun hh => .inr ⟨rfl, hh⟩⟩
    · have k : (x * 10 + (d.toNat - 48) + 1) * 10 ^ b.length ≤ (x * 10 + (c.toNat - 48)) * 10 ^ b.length := Nat.mul_le_mul_right _ (by omega)
      refine ⟨fun hh => hh.elim (fun hh => ?_) (fun hh => ?_), fun hh => by omega⟩
      · have := UInt8.lt_iff_toNat_lt.1 hh; omega
      · rw [hh.1] at h; omega
theorem natB_ge {l : List UInt8} (h : natB l = true) (hl : 2 ≤ l.length) : 10 ^ (l.length - 1) ≤ valFrom 0 l := by
  match l, h, hl with
  | c :: r, h, hl =>
    have ha := (natB_all h).1
    rw [List.all_cons, Bool.and_eq_true] at ha
    have hc := (dgt_iff c).1 ha.1
    have hc48 : c.toNat ≠ 48 := by
      intro e
      unfold natB at h
      have e2 : ((c :: r) == ([48] : List UInt8)) = false := by
        rw [beq_eq_false_iff_ne]; intro e; have := congrArg List.length e; simp at this; subst this; simp at hl
      rw [e2] at h
      simp [e] at h
    obtain ⟨i1, _⟩ := valFrom_bounds r (0 * 10 + (c.toNat - 48)) ha.2
    have e : valFrom 0 (c :: r) = valFrom (0 * 10 + (c.toNat - 48)) r := rfl
    have k : 1 * 10 ^ r.length ≤ (0 * 10 + (c.toNat - 48)) * 10 ^ r.length := Nat.mul_le_mul_right _ (by omega)
    rw [e]; simp only [List.length_cons, Nat.add_sub_cancel]; omega
theorem natB_lt {l : List UInt8} (h : natB l = true) : valFrom 0 l < 10 ^ l.length := by
  have := (valFrom_bounds l 0 (natB_all h).1).2; rwa [Nat.zero_add, Nat.one_mul] at this
theorem lessL_val {a b : List UInt8} (ha : natB a = true) (hb : natB b = true) : lessL a b = decide (valFrom 0 a < valFrom 0 b) := by
  have gen : ∀ {a b : List UInt8}, natB a = true → natB b = true → a.length < b.length → valFrom 0 a < valFrom 0 b := by
    intro a b ha hb h
    have h1 := natB_lt ha
    have ha1 : 1 ≤ a.length := by have := (natB_all ha).2; cases a with
      | nil => exact absurd rfl this
      | cons _ _ => simp
    have h2 := natB_ge hb (by omega)
    have h3 : 10 ^ a.length ≤ 10 ^ (b.length - 1) := Nat.pow_le_pow_right (by omega) (by omega)
    omega
  unfold lessL
  by_cases hl : a.length = b.length
  · rw [if_neg (by simp [hl])]
    rw [Bool.eq_iff_iff, decide_eq_true_eq, decide_eq_true_eq]
    exact lex_val a b 0 hl (natB_all ha).1 (natB_all hb).1
  · rw [if_pos hl, Bool.eq_iff_iff, decide_eq_true_eq, decide_eq_true_eq]
    rcases Nat.lt_or_ge a.length b.length with h | h
    · exact ⟨fun _ => gen ha hb h, fun _ => h⟩
    · have := gen hb ha (by omega); exact ⟨fun hh => by omega, fun hh => by omega⟩

/-! ### Numbers of either sign -/
theorem headD_dd (n : Nat) : ((Lib.decDigits n).headD 0).toNat ≠ 45 := by
  have h := dd_dgt n
  have hn := dd_ne n
  cases hd : Lib.decDigits n with
  | nil => exact absurd hd hn
  | cons a b => rw [hd, List.all_cons, Bool.and_eq_true] at h; have := (dgt_iff a).1 h.1; show a.toNat ≠ 45; omega
theorem itoa_nat (n : Int) (h : 0 ≤ n) : Lib.itoa n = Lib.decDigits n.toNat := by unfold Lib.itoa; rw [if_neg (by omega)]
theorem intV_itoa (n : Int) : intB (Lib.itoa n) = true ∧ intV (Lib.itoa n) = n := by
  by_cases h : n < 0
  · have e : Lib.itoa n = 45 :: Lib.decDigits n.natAbs := by unfold Lib.itoa; rw [if_pos h]
    rw [e]
    refine ⟨?_, ?_⟩
    · unfold intB
      have h48 : (Lib.decDigits n.natAbs == ([48] : List UInt8)) = false := by
        rw [beq_eq_false_iff_ne]; intro e2
        have := dd_val n.natAbs; rw [e2] at this
        have : (0 : Nat) = n.natAbs := this
        omega
      rw [List.tail_cons, natB_dd, h48]; simp
    · have h45 : (45 : UInt8).toNat = 45 := rfl
      rw [intV_neg h45, dd_val]; omega
  · rw [itoa_nat n (by omega)]
    refine ⟨?_, ?_⟩
    · unfold intB; rw [natB_dd]; rfl
    · unfold intV; rw [if_neg (headD_dd _), dd_val]; omega
theorem itoa_intV {l : List UInt8} (h : intB l = true) : Lib.itoa (intV l) = l := by
  unfold intB at h
  cases hn : natB l
  · rw [hn, Bool.false_or] at h
    simp only [Bool.and_eq_true, beq_iff_eq, Bool.not_eq_true'] at h
    obtain ⟨⟨h1, h2⟩, h3⟩ := h
    cases l with
    | nil => simp at h1
    | cons c r =>
      have hc : c.toNat = 45 := h1
      have hc2 : c = 45 := UInt8.toNat_inj.1 hc
      subst hc2
      rw [List.tail_cons] at h2 h3
      rw [intV_neg hc]
      have hv : valFrom 0 r ≠ 0 := by
        intro e
        have := dd_natB h2; rw [e, dd_small (by omega)] at this
        rw [← this] at h3; simp at h3
      unfold Lib.itoa
      rw [if_pos (by omega), Int.natAbs_neg, Int.natAbs_natCast, dd_natB h2]
  · cases l with
    | nil => simp [natB] at hn
    | cons c r =>
      have hc : ¬ c.toNat = 45 := by
        have := (natB_all hn).1; rw [List.all_cons, Bool.and_eq_true] at this; have := (dgt_iff c).1 this.1; omega
      rw [intV_pos hc, itoa_nat _ (by omega), Int.toNat_natCast, dd_natB hn]
theorem int_digits (n low high : Int) (h1 : low ≤ n) (h2 : n ≤ high) : intSp (Lib.itoa n) low high = (n, 0) := by
  obtain ⟨a, b⟩ := intV_itoa n
  rw [intSp_in a (by rw [b]; exact h1) (by rw [b]; exact h2), b]
theorem digits_int {l : List UInt8} {low high k : Int} (h : intSp l low high = (k, 0)) : Lib.itoa k = l := by
  unfold intSp at h
  split at h
  · rename_i hb
    split at h
    · simp only [Prod.mk.injEq, and_true] at h; rw [← h]; exact itoa_intV hb
    · simp at h
  · simp at h
theorem intB_natB {l : List UInt8} (h : natB l = true) : intB l = true ∧ intV l = valFrom 0 l := by
  refine ⟨by unfold intB; rw [h]; rfl, ?_⟩
  unfold intV; rw [if_neg]
  intro e
  cases l with
  | nil => simp [natB] at h
  | cons c r => have := (natB_all h).1; rw [List.all_cons, Bool.and_eq_true] at this; have := (dgt_iff c).1 this.1; have e' : c.toNat = 45 := e; omega
theorem intSp_nat {l : List UInt8} (h : natB l = true) : intSp l 0 1000000000 = if valFrom 0 l ≤ 1000000000 then ((valFrom 0 l : Int), 0) else (0, 7) := by
  obtain ⟨a, b⟩ := intB_natB h
  by_cases hv : valFrom 0 l ≤ 1000000000
  · rw [if_pos hv, intSp_in a (by rw [b]; omega) (by rw [b]; omega), b]
  · rw [if_neg hv, intSp_out a (.inr (by rw [b]; omega))]
end Go.Proofs.YtdcjnklagklckaaDoor
