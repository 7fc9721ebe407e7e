/- The text of a time: the mathematics. -/
import Derived.Lib.ItoaNum
namespace Go.Proofs.YtnmgcfpemmejlaaDoor
set_option linter.unusedVariables false

/-- The number that digits read as, behind a. -/
def rd (a : Nat) (l : List UInt8) : Nat := l.foldl (fun a c => a * 10 + (c.toNat - 48)) a
def chD (d : Nat) : UInt8 := UInt8.ofNat (48 + d)
theorem chD_nat {d : Nat} (h : d < 10) : (chD d).toNat = 48 + d := by unfold chD; simp; omega
theorem rd_snoc (a : Nat) (l : List UInt8) (c : UInt8) : rd a (l ++ [c]) = rd a l * 10 + (c.toNat - 48) := by simp [rd, List.foldl_append]
theorem ddT_small {n : Nat} (h : n < 10) : Lib.decDigits n = [chD n] := by rw [Lib.decDigits, dif_pos h]; rfl
theorem ddT_big {n : Nat} (h : ¬ n < 10) : Lib.decDigits n = Lib.decDigits (n / 10) ++ [chD (n % 10)] := by rw [Lib.decDigits, dif_neg h]; rfl
theorem rd_dd (n : Nat) : rd 0 (Lib.decDigits n) = n := by
  induction n using Nat.strongRecOn with
  | _ n ih =>
    by_cases h : n < 10
    · rw [ddT_small h]; show 0 * 10 + ((chD n).toNat - 48) = n; rw [chD_nat h]; omega
    · rw [ddT_big h, rd_snoc, ih (n / 10) (by omega), chD_nat (by omega)]; omega
def isD (c : UInt8) : Bool := decide (48 ≤ c.toNat) && decide (c.toNat ≤ 57)
theorem isD_ch {d : Nat} (h : d < 10) : isD (chD d) = true := by unfold isD; rw [chD_nat h]; simp; omega
theorem ddT_all (n : Nat) : (Lib.decDigits n).all isD = true := by
  induction n using Nat.strongRecOn with
  | _ n ih =>
    by_cases h : n < 10
    · rw [ddT_small h]; simp [isD_ch h]
    · rw [ddT_big h, List.all_append, ih (n / 10) (by omega)]; simp [isD_ch (show n % 10 < 10 by omega)]
theorem ddT_len : ∀ (k n : Nat), n < 10 ^ (k + 1) → 1 ≤ (Lib.decDigits n).length ∧ (Lib.decDigits n).length ≤ k + 1
  | 0, n, h => by rw [ddT_small (by simpa using h)]; simp
  | k + 1, n, h => by
    by_cases h0 : n < 10
    · rw [ddT_small h0]; simp
    · rw [ddT_big h0, List.length_append]
      have h1 : n / 10 < 10 ^ (k + 1) := by
        rw [Nat.pow_succ] at h
        exact Nat.div_lt_of_lt_mul (by rw [Nat.mul_comm]; exact h)
      have := ddT_len k (n / 10) h1
      simp only [List.length_singleton]; omega
/-- Two digits. -/
def twoD (n : Nat) : List UInt8 := [chD (n / 10), chD (n % 10)]
theorem twoD_len (n : Nat) : (twoD n).length = 2 := rfl
theorem rd_two {n : Nat} (h : n < 100) : rd 0 (twoD n) = n := by
  show (0 * 10 + ((chD (n / 10)).toNat - 48)) * 10 + ((chD (n % 10)).toNat - 48) = n
  rw [chD_nat (by omega), chD_nat (by omega)]; omega
theorem two_all {n : Nat} (h : n < 100) : (twoD n).all isD = true := by
  unfold twoD; simp [isD_ch (show n / 10 < 10 by omega), isD_ch (show n % 10 < 10 by omega)]
/-- The reference's two digits. -/
theorem two_dd {n : Nat} (h : n < 100) : Lib.decDigits (n / 10) ++ Lib.decDigits (n % 10) = twoD n := by
  rw [ddT_small (show n / 10 < 10 by omega), ddT_small (show n % 10 < 10 by omega)]; rfl

/-- The text of a time. -/
def textT (t : Nat) : List UInt8 :=
  Lib.decDigits (t / 86400) ++ 100 :: (twoD (t % 86400 / 3600) ++ 58 :: (twoD (t % 86400 / 60 % 60) ++ 58 :: twoD (t % 86400 % 60)))
theorem textT_len (t : Nat) : (textT t).length = (Lib.decDigits (t / 86400)).length + 9 := by
  unfold textT; simp [twoD_len]
/-- What a text of nine bytes more than n reads as. -/
structure Reads (l : List UInt8) (n d h m s : Nat) : Prop where
  len : l.length = n + 9
  day : rd 0 (l.take n) = d
  dd : l.getD n 0 = 100
  hour : rd 0 ((l.drop (n + 1)).take 2) = h
  c1 : l.getD (n + 3) 0 = 58
  min : rd 0 ((l.drop (n + 4)).take 2) = m
  c2 : l.getD (n + 6) 0 = 58
  sec : rd 0 ((l.drop (n + 7)).take 2) = s
  dig : ∀ i, i < l.length → i ≠ n → i ≠ n + 3 → i ≠ n + 6 → isD (l.getD i 0) = true
theorem drop_app (a b : List UInt8) (k : Nat) : (a ++ b).drop (a.length + k) = b.drop k := by
  rw [List.drop_append, List.drop_eq_nil_of_le (by omega)]; simp
theorem getD_app (a b : List UInt8) (k : Nat) : (a ++ b).getD (a.length + k) 0 = b.getD k 0 := by
  rw [List.getD_eq_getElem?_getD, List.getElem?_append_right (by omega), List.getD_eq_getElem?_getD]; congr 2; omega
theorem getD_left (a b : List UInt8) {k : Nat} (h : k < a.length) : (a ++ b).getD k 0 = a.getD k 0 := by
  rw [List.getD_eq_getElem?_getD, List.getElem?_append_left h, List.getD_eq_getElem?_getD]
theorem all_getD {l : List UInt8} (h : l.all isD = true) {i : Nat} (hi : i < l.length) : isD (l.getD i 0) = true := by
  rw [List.getD_eq_getElem?_getD, List.getElem?_eq_getElem hi]
  exact List.all_eq_true.1 h _ (List.getElem_mem hi)
theorem textT_reads (t : Nat) : Reads (textT t) (Lib.decDigits (t / 86400)).length (t / 86400) (t % 86400 / 3600) (t % 86400 / 60 % 60) (t % 86400 % 60) := by
  have hh : t % 86400 / 3600 < 100 := by omega
  have hm : t % 86400 / 60 % 60 < 100 := by omega
  have hs : t % 86400 % 60 < 100 := by omega
  have hD := ddT_all (t / 86400)
  obtain ⟨D, eD⟩ : ∃ D, Lib.decDigits (t / 86400) = D := ⟨_, rfl⟩
  obtain ⟨a1, a2, eh⟩ : ∃ x y, twoD (t % 86400 / 3600) = [x, y] := ⟨_, _, rfl⟩
  obtain ⟨b1, b2, em⟩ : ∃ x y, twoD (t % 86400 / 60 % 60) = [x, y] := ⟨_, _, rfl⟩
  obtain ⟨c1, c2, es⟩ : ∃ x y, twoD (t % 86400 % 60) = [x, y] := ⟨_, _, rfl⟩
  have vd := rd_dd (t / 86400)
  have vh := rd_two hh
  have vm := rd_two hm
  have vs := rd_two hs
  have ah := two_all hh
  have am := two_all hm
  have as' := two_all hs
  rw [eD] at vd hD
  rw [eh] at vh ah; rw [em] at vm am; rw [es] at vs as'
  have e : textT t = D ++ [100, a1, a2, 58, b1, b2, 58, c1, c2] := by unfold textT; rw [eD, eh, em, es]; rfl
  rw [e, eD]
  simp only [List.all_cons, List.all_nil, Bool.and_true, Bool.and_eq_true] at ah am as'
  refine ⟨by simp, ?_, ?_, ?_, ?_, ?_, ?_, ?_, ?_⟩
  · rw [List.take_left']; exact vd; rfl
  · have := getD_app D [100, a1, a2, 58, b1, b2, 58, c1, c2] 0; rw [Nat.add_zero] at this; rw [this]; rfl
  · rw [drop_app]; exact vh
  · rw [getD_app]; rfl
  · rw [drop_app]; exact vm
  · rw [getD_app]; rfl
  · rw [drop_app]; exact vs
  · intro i hi n0 n3 n6
    rcases Nat.lt_or_ge i D.length with h | h
    · rw [getD_left _ _ h]; exact all_getD hD h
    · obtain ⟨k, rfl⟩ : ∃ k, i = D.length + k := ⟨i - D.length, by omega⟩
      rw [getD_app]
      simp only [List.length_append, List.length_cons, List.length_nil] at hi
      have hk : k = 1 ∨ k = 2 ∨ k = 4 ∨ k = 5 ∨ k = 7 ∨ k = 8 := by omega
      rcases hk with rfl | rfl | rfl | rfl | rfl | rfl
      · exact ah.1
      · exact ah.2
      · exact am.1
      · exact am.2
      · exact as'.1
      · exact as'.2
theorem Reads.one {l : List UInt8} {n d h m s n' d' h' m' s' : Nat} (r : Reads l n d h m s) (q : Reads l n' d' h' m' s') : n = n' ∧ d = d' ∧ h = h' ∧ m = m' ∧ s = s' := by
  have e : n = n' := by have := r.len; have := q.len; omega
  subst e
  exact ⟨rfl, r.day.symm.trans q.day, r.hour.symm.trans q.hour, r.min.symm.trans q.min, r.sec.symm.trans q.sec⟩
theorem time_of (t : Nat) : t / 86400 * 86400 + t % 86400 / 3600 * 3600 + t % 86400 / 60 % 60 * 60 + t % 86400 % 60 = t := by omega
/-- Different times have different texts. -/
theorem textT_one {t u : Nat} (h : textT t = textT u) : t = u := by
  have r := textT_reads t
  rw [h] at r
  obtain ⟨_, h1, h2, h3, h4⟩ := r.one (textT_reads u)
  rw [← time_of t, ← time_of u, h1, h2, h3, h4]
/-- What a text that is a time's reads as is this time. -/
theorem Reads.time {t n d h m s : Nat} (r : Reads (textT t) n d h m s) : d * 86400 + h * 3600 + m * 60 + s = t := by
  obtain ⟨_, h1, h2, h3, h4⟩ := r.one (textT_reads t)
  rw [h1, h2, h3, h4]; exact time_of t
open Classical in
/-- What Parse returns. -/
noncomputable def parseT (l : List UInt8) : Int × Int := if h : ∃ t : Nat, t ≤ 9223372036854775807 ∧ l = textT t then ((h.choose : Int), 0) else (0, 6)
theorem parseT_text {t : Nat} (h : t ≤ 9223372036854775807) : parseT (textT t) = ((t : Int), 0) := by
  have hh : ∃ u : Nat, u ≤ 9223372036854775807 ∧ textT t = textT u := ⟨t, h, rfl⟩
  unfold parseT
  rw [dif_pos hh]
  have := textT_one hh.choose_spec.2
  rw [← this]
theorem parseT_no {l : List UInt8} (h : ∀ t : Nat, t ≤ 9223372036854775807 → l ≠ textT t) : parseT l = (0, 6) := by
  unfold parseT
  rw [dif_neg]
  rintro ⟨t, h1, h2⟩
  exact h t h1 h2
theorem parseT_cases (l : List UInt8) : (∃ t : Nat, t ≤ 9223372036854775807 ∧ l = textT t ∧ parseT l = ((t : Int), 0)) ∨ ((∀ t : Nat, t ≤ 9223372036854775807 → l ≠ textT t) ∧ parseT l = (0, 6)) := by
  by_cases h : ∃ t : Nat, t ≤ 9223372036854775807 ∧ l = textT t
  · obtain ⟨t, h1, rfl⟩ := h
    exact .inl ⟨t, h1, rfl, parseT_text h1⟩
  · have h' : ∀ t : Nat, t ≤ 9223372036854775807 → l ≠ textT t := fun t h1 h2 => h ⟨t, h1, h2⟩
    exact .inr ⟨h', parseT_no h'⟩
theorem textT_days {t : Nat} (h : t ≤ 9223372036854775807) : 1 ≤ (Lib.decDigits (t / 86400)).length ∧ (Lib.decDigits (t / 86400)).length ≤ 15 := ddT_len 14 _ (by omega)
end Go.Proofs.YtnmgcfpemmejlaaDoor
