/- Plain mathematics: what is written is read, and what is read is written. -/
import Derived.Test.YtkidgijoopdidaaIntsY
namespace Go.Proofs.Ytkidgijoopdidaa
open Go.RowKit
set_option linter.unusedVariables false

/-! ### big-endian -/
theorem gN_be (n k : Nat) : gN (beL n k) = n % 256 ^ k := by
  induction k generalizing n with
  | zero => simp [beL, gN, Nat.mod_one]
  | succ k ih =>
    rw [beL, gN_snoc, ih, Int.toNat_natCast, Nat.pow_succ, Nat.mul_comm (256 ^ k) 256, Nat.mod_mul]
    omega
theorem be_gN : ∀ (k : Nat) (ys : List Int), BY ys → ys.length = k → beL (gN ys) k = ys := by
  intro k
  induction k with
  | zero => intro ys _ h; rw [List.eq_nil_of_length_eq_zero h]; rfl
  | succ k ih =>
    intro ys hb h
    have hne : ys ≠ [] := by intro e; subst e; simp at h
    have hd := List.dropLast_concat_getLast hne
    rw [← hd] at hb ⊢
    have hl : (ys.dropLast).length = k := by simp; omega
    have hx := hb (ys.getLast hne) (List.mem_append_right _ (by simp))
    have hbd : BY ys.dropLast := fun x hx => hb x (List.mem_append_left _ hx)
    rw [gN_snoc, beL]
    have e1 : (gN ys.dropLast * 256 + (ys.getLast hne).toNat) / 256 = gN ys.dropLast := by omega
    have e2 : (((gN ys.dropLast * 256 + (ys.getLast hne).toNat) % 256 : Nat) : Int) = ys.getLast hne := by omega
    rw [e1, e2, ih _ hbd hl]
theorem pow8 (k : Nat) : 2 ^ (8 * k) = 256 ^ k := by rw [Nat.pow_mul]
theorem put_get {xs : List Int} {k : Nat} (hb : BY xs) (hk : k ≤ xs.length) : fitB (gN (xs.take k)) (8 * k) = true ∧ beL (gN (xs.take k)) k = xs.take k := by
  have hl : (xs.take k).length = k := by rw [List.length_take]; omega
  refine ⟨fitB_yes ?_, be_gN k _ (hb.take k) hl⟩
  rw [pow8]
  have := gN_lt (hb.take k)
  rw [hl] at this; exact this
theorem get_put {n k : Nat} {xs : List Int} (h : fitB n (8 * k) = true) : gN ((beL n k ++ xs).take k) = n ∧ (beL n k ++ xs).drop k = xs := by
  have hl := beL_len n k
  have hf := fitB_lt h
  rw [pow8] at hf
  constructor
  · rw [List.take_append_of_le_length (by omega), List.take_of_length_le (by omega), gN_be, Nat.mod_eq_of_lt hf]
  · rw [List.drop_append_of_le_length (by omega), List.drop_of_length_le (by omega), List.nil_append]

/-! ### variable length -/
theorem varN_varL : ∀ n : Nat, varN (varL n) = n := by
  intro n
  induction n using Nat.strongRecOn with
  | _ n ih =>
    by_cases h : n < 128
    · rw [varL_lo h]; simp [varN]; omega
    · rw [varL_hi h, varN, ih (n / 128) (by omega), Int.toNat_natCast]; omega
theorem gv_varL (xs : List Int) : ∀ (n j : Nat), j ≤ 9 → n * 2 ^ (7 * j) < 18446744073709551616 → (j = 0 ∨ 1 ≤ n) → gv (varL n ++ xs) j = (0, j + (varL n).length - 1) := by
  intro n
  induction n using Nat.strongRecOn with
  | _ n ih =>
    intro j hj hn h1
    by_cases h : n < 128
    · rw [varL_lo h]
      show gv ((n : Int) :: ([] ++ xs)) j = _
      rw [gv, if_neg, if_neg (by omega), if_neg (by omega)]
      · simp
      · rintro ⟨rfl, h2⟩
        have e : 2 ^ (7 * 9) = 9223372036854775808 := by decide
        rw [e] at hn; omega
    · have hj8 : j ≤ 8 := by
        rcases Nat.lt_or_ge 8 j with h9 | h9
        · have : j = 9 := by omega
          subst this
          have e : 2 ^ (7 * 9) = 9223372036854775808 := by decide
          rw [e] at hn; omega
        · exact h9
      rw [varL_hi h]
      show gv (((n % 128 + 128 : Nat) : Int) :: (varL (n / 128) ++ xs)) j = _
      rw [gv, if_neg (by omega), if_pos (by omega)]
      have e : 2 ^ (7 * (j + 1)) = 128 * 2 ^ (7 * j) := by rw [show 7 * (j + 1) = 7 + 7 * j by omega, Nat.pow_add]
      have hq : n / 128 * (128 * 2 ^ (7 * j)) ≤ n * 2 ^ (7 * j) := by rw [← Nat.mul_assoc]; exact Nat.mul_le_mul_right _ (by omega)
      rw [ih (n / 128) (by omega) (j + 1) (by omega) (by rw [e]; omega) (.inr (by omega))]
      have := varL_len 1000 (n / 128)
      have hp : 1 ≤ (varL (n / 128)).length := by
        by_cases h3 : n / 128 < 128
        · rw [varL_lo h3]; simp
        · rw [varL_hi h3]; simp
      simp <;> omega
theorem getvar_put {n : Nat} (xs : List Int) (hn : n < 18446744073709551616) : gvV (varL n ++ xs) = n ∧ gvR (varL n ++ xs) = xs ∧ (gv (varL n ++ xs) 0).1 = 0 := by
  have h := gv_varL xs n 0 (by omega) (by simpa using hn) (.inl rfl)
  have hl := (varL_ten hn).1
  have e : 0 + (varL n).length - 1 + 1 = (varL n).length := by omega
  unfold gvV gvR
  rw [h]
  simp only [if_true, e]
  refine ⟨?_, ?_, trivial⟩
  · rw [List.take_append_of_le_length (Nat.le_refl _), List.take_of_length_le (Nat.le_refl _), varN_varL]
  · rw [List.drop_append_of_le_length (Nat.le_refl _), List.drop_of_length_le (Nat.le_refl _), List.nil_append]
/-- What GetVar accepts is what is written. -/
theorem gv_shape : ∀ (ys : List Int) (j l : Nat), BY ys → gv ys j = (0, l) → ∃ m : Nat, l = j + m ∧ m < ys.length ∧ varL (varN (ys.take (m + 1))) = ys.take (m + 1) ∧ (0 < j → 1 ≤ varN (ys.take (m + 1))) := by
  intro ys
  induction ys with
  | nil => intro j l _ h; simp [gv] at h
  | cons x ys ih =>
    intro j l hb h
    have hx := hb x (List.mem_cons_self ..)
    have hbt : BY ys := fun z hz => hb z (List.mem_cons_of_mem _ hz)
    rw [gv] at h
    by_cases h7 : j = 9 ∧ 1 < x
    · rw [if_pos h7] at h; simp at h
    · rw [if_neg h7] at h
      by_cases hm : 128 ≤ x
      · rw [if_pos hm] at h
        obtain ⟨m, e1, e2, e3, e4⟩ := ih (j + 1) l hbt h
        refine ⟨m + 1, by omega, by simp; omega, ?_, ?_⟩
        · have h1 := e4 (by omega)
          rw [List.take_succ_cons, varN, varL_hi (by omega)]
          have q1 : (x.toNat % 128 + 128 * varN (ys.take (m + 1))) / 128 = varN (ys.take (m + 1)) := by omega
          rw [q1, e3]
          congr 1; omega
        · intro _; rw [List.take_succ_cons, varN]; have := e4 (by omega); omega
      · rw [if_neg hm] at h
        by_cases h0 : x = 0 ∧ 0 < j
        · rw [if_pos h0] at h; simp at h
        · rw [if_neg h0] at h
          simp at h
          refine ⟨0, by omega, by simp, ?_, ?_⟩
          · show varL (varN [x]) = [x]
            simp only [varN]
            rw [varL_lo (by omega)]
            congr 1; omega
          · intro hj; show 1 ≤ varN [x]; simp only [varN]; omega
theorem putvar_get {xs : List Int} (hb : BY xs) (h : (gv xs 0).1 = 0) : varL (gvV xs) ++ gvR xs = xs := by
  rcases hg : gv xs 0 with ⟨r, l⟩
  rw [hg] at h
  have h' : r = 0 := h
  subst h'
  obtain ⟨m, e1, e2, e3, _⟩ := gv_shape xs 0 l hb hg
  obtain rfl : l = m := by omega
  unfold gvV gvR
  rw [hg, if_pos rfl, if_pos rfl, e3, List.take_append_drop]

theorem gv_top : ∀ (ys : List Int) (j l : Nat), BY ys → j ≤ 9 → gv ys j = (0, l) → varN (ys.take (l - j + 1)) * 2 ^ (7 * j) < 18446744073709551616 := by
  intro ys
  induction ys with
  | nil => intro j l _ _ h; simp [gv] at h
  | cons x ys ih =>
    intro j l hb hj h
    have hx := hb x (List.mem_cons_self ..)
    have hbt : BY ys := fun z hz => hb z (List.mem_cons_of_mem _ hz)
    have hsh := gv_shape (x :: ys) j l hb h
    obtain ⟨m, e1, _, _, _⟩ := hsh
    rw [gv] at h
    have hp : 2 ^ (7 * j) ≤ 2 ^ 63 := pw_le (by omega)
    have e63 : 2 ^ 63 = 9223372036854775808 := by decide
    by_cases h7 : j = 9 ∧ 1 < x
    · rw [if_pos h7] at h; simp at h
    · rw [if_neg h7] at h
      by_cases hm : 128 ≤ x
      · rw [if_pos hm] at h
        have hj8 : j ≤ 8 := by omega
        have hsh2 := gv_shape ys (j + 1) l hbt h
        obtain ⟨m2, e2, _, _, _⟩ := hsh2
        have h1 := ih (j + 1) l hbt (by omega) h
        have ex : l - j + 1 = (l - (j + 1) + 1) + 1 := by omega
        rw [ex, List.take_succ_cons, varN]
        generalize varN (ys.take (l - (j + 1) + 1)) = T at *
        have e : 2 ^ (7 * (j + 1)) = 128 * 2 ^ (7 * j) := by rw [show 7 * (j + 1) = 7 + 7 * j by omega, Nat.pow_add]
        rw [e] at h1
        obtain ⟨q, hq⟩ : ∃ q, 7 * j + q = 57 := ⟨57 - 7 * j, by omega⟩
        have hPQ : 2 ^ (7 * j) * 2 ^ q = 144115188075855872 := by rw [← Nat.pow_add, hq]
        have hQ : 0 < 2 ^ q := pw_pos q
        have hP : 0 < 2 ^ (7 * j) := pw_pos _
        generalize 2 ^ (7 * j) = P at *
        generalize 2 ^ q = Q at *
        have hTQ : T < Q := by
          rcases Nat.lt_or_ge T Q with h2 | h2
          · exact h2
          · exfalso
            have : Q * (128 * P) ≤ T * (128 * P) := Nat.mul_le_mul_right _ h2
            have e3 : Q * (128 * P) = 128 * (P * Q) := by rw [Nat.mul_comm, Nat.mul_assoc]
            omega
        have h3 : (x.toNat % 128 + 128 * T) ≤ 128 * Q - 1 := by omega
        have h4 : (x.toNat % 128 + 128 * T) * P ≤ (128 * Q - 1) * P := Nat.mul_le_mul_right _ h3
        have e4 : (128 * Q - 1) * P = 128 * (P * Q) - P := by rw [Nat.sub_mul, Nat.mul_assoc, Nat.mul_comm Q P, Nat.one_mul]
        omega
      · rw [if_neg hm] at h
        by_cases h0 : x = 0 ∧ 0 < j
        · rw [if_pos h0] at h; simp at h
        · rw [if_neg h0] at h
          simp at h
          subst h
          rw [Nat.sub_self]
          show varN [x] * _ < _
          simp only [varN]
          by_cases h9 : j = 9
          · subst h9
            have e : 2 ^ (7 * 9) = 9223372036854775808 := by decide
            rw [e]; omega
          · have e1 : 2 ^ (7 * j) ≤ 2 ^ 56 := pw_le (by omega)
            have e2 : 2 ^ 56 = 72057594037927936 := by decide
            have : (x.toNat % 128 + 128 * 0) * 2 ^ (7 * j) ≤ 127 * 72057594037927936 := Nat.mul_le_mul (by omega) (by omega)
            omega
theorem gvV_lt {xs : List Int} {z : Nat} (hb : BY xs) (hz : gvV xs = z) : z < 18446744073709551616 := by
  subst hz
  unfold gvV
  rcases hg : gv xs 0 with ⟨r, l⟩
  show (if r = 0 then _ else _) < _
  by_cases h : r = 0
  · subst h
    rw [if_pos rfl]
    have := gv_top xs 0 l hb (by omega) hg
    simpa using this
  · rw [if_neg h]; omega

/-! ### in a number of bits -/
theorem widen_fit {x b : Int} {s : Bool} (h : fErr x b s = 0) : ∃ m : Nat, fVal x b s = m ∧ m < 18446744073709551616 ∧ wVal m b s = x ∧ wErr m b s = 0 := by
  have hf : fOk x b s = true := by
    cases hc : fOk x b s
    · unfold fErr at h; rw [hc] at h; simp at h
    · rfl
  have hf2 := hf
  unfold fOk at hf2
  simp only [Bool.and_eq_true, decide_eq_true_eq] at hf2
  obtain ⟨⟨h1, h2⟩, h3⟩ := hf2
  refine ⟨fV x b, by unfold fVal; rw [hf, if_pos rfl], ?_, by unfold wVal; rw [h2, if_pos rfl, h3], by unfold wErr; rw [h2, if_pos rfl]⟩
  have := fV_lt x b
  unfold inB at h1
  simp at h1
  have := pw_le64 (k := b.toNat) (by omega)
  omega
theorem fV_wV {n : Nat} {b : Int} {s : Bool} (h : wOk n b s = true) : fV (wV n b s) b = n := by
  unfold wOk at h
  simp only [Bool.and_eq_true] at h
  have hl := fitB_lt h.1.2
  unfold fV wV
  generalize 2 ^ b.toNat = P at *
  split
  · have : ((n : Int) - (P : Int)) % (P : Int) = n := by
      rw [show (n : Int) - P = n + P * (-1) by omega, Int.add_mul_emod_self_left, Int.emod_eq_of_lt (by omega) (by omega)]
    rw [this, Int.toNat_natCast]
  · rw [Int.emod_eq_of_lt (by omega) (by omega), Int.toNat_natCast]
theorem wV_range {n : Nat} {b : Int} {s : Bool} (h : wOk n b s = true) : -9223372036854775808 ≤ wV n b s ∧ wV n b s ≤ 9223372036854775807 := by
  have h' := h
  unfold wOk inB at h
  simp only [Bool.and_eq_true, Bool.or_eq_true, decide_eq_true_eq] at h
  obtain ⟨⟨⟨h1, h2⟩, h3⟩, h4⟩ := h
  obtain ⟨k, rfl⟩ : ∃ k : Nat, b = k := ⟨b.toNat, by omega⟩
  rw [Int.toNat_natCast] at h3
  cases s
  · rw [wV_false]; simp at h4; omega
  · have := wV_bd (k := k) (by omega) (fitB_lt h3)
    have h63 := pw_le63 (k := k - 1) (by omega)
    omega
theorem fit_widen {n : Nat} {b : Int} {s : Bool} (h : wErr n b s = 0) : -9223372036854775808 ≤ wVal n b s ∧ wVal n b s ≤ 9223372036854775807 ∧ fVal (wVal n b s) b s = n ∧ fErr (wVal n b s) b s = 0 := by
  have hw : wOk n b s = true := by
    cases hc : wOk n b s
    · unfold wErr at h; rw [hc] at h; simp at h
    · rfl
  have e : wVal n b s = wV n b s := by unfold wVal; rw [hw, if_pos rfl]
  have hin : inB b = true := by unfold wOk at hw; simp only [Bool.and_eq_true] at hw; exact hw.1.1
  have hf : fOk (wV n b s) b s = true := by unfold fOk; rw [hin, fV_wV hw, hw]; simp
  rw [e]
  obtain ⟨r1, r2⟩ := wV_range hw
  refine ⟨r1, r2, by unfold fVal; rw [hf, if_pos rfl, fV_wV hw], by unfold fErr; rw [hf, if_pos rfl]⟩
end Go.Proofs.Ytkidgijoopdidaa
