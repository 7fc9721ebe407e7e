/- The reference's Parse: the mathematics of its loop. -/
import Derived.Test.YtnmgcfpemmejlaaDoorTimesP
namespace Go.Proofs.YtnmgcfpemmejlaaDoor
set_option linter.unusedVariables false

theorem rd_take (m : List UInt8) {j : Nat} (h : j < m.length) : rd 0 (m.take (j + 1)) = rd 0 (m.take j) * 10 + ((m.getD j 0).toNat - 48) := by
  rw [List.take_succ_eq_append_getElem h, rd_snoc, List.getD_eq_getElem?_getD, List.getElem?_eq_getElem h]; rfl
theorem rd_lt : ∀ (l : List UInt8) (a k : Nat), l.all isD = true → a < 10 ^ k → rd a l < 10 ^ (k + l.length)
  | [], a, k, _, h => by simpa [rd] using h
  | c :: l, a, k, h, ha => by
    rw [List.all_cons, Bool.and_eq_true] at h
    have hc : 48 ≤ c.toNat ∧ c.toNat ≤ 57 := by have := h.1; unfold isD at this; simpa using this
    have h1 : a * 10 + (c.toNat - 48) < 10 ^ (k + 1) := by rw [Nat.pow_succ]; omega
    have := rd_lt l (a * 10 + (c.toNat - 48)) (k + 1) h.2 h1
    rw [List.length_cons, show k + (l.length + 1) = k + 1 + l.length by omega]
    exact this
theorem rd_bound {l : List UInt8} (h : l.all isD = true) : rd 0 l < 10 ^ l.length := by
  have := rd_lt l 0 0 h (by simp)
  rwa [Nat.zero_add] at this
theorem all_of {m : List UInt8} {j : Nat} (h : ∀ i, i < j → i < m.length → isD (m.getD i 0) = true) : (m.take j).all isD = true := by
  rw [List.all_eq_true]
  intro x hx
  obtain ⟨i, hi, e⟩ := List.mem_take_iff_getElem.1 hx
  have := h i (by omega) (by omega)
  rwa [List.getD_eq_getElem?_getD, List.getElem?_eq_getElem (by omega), Option.getD_some, e] at this
theorem getD_drop (l : List UInt8) (a i : Nat) : (l.drop a).getD i 0 = l.getD (a + i) 0 := by
  rw [List.getD_eq_getElem?_getD, List.getD_eq_getElem?_getD, List.getElem?_drop]
/-- After k of the bytes. -/
structure PI (l : List UInt8) (n k D H M S : Nat) : Prop where
  day : rd 0 (l.take (min k n)) = D
  hour : rd 0 ((l.drop (n + 1)).take (min (k - (n + 1)) 2)) = H
  min' : rd 0 ((l.drop (n + 4)).take (min (k - (n + 4)) 2)) = M
  sec : rd 0 ((l.drop (n + 7)).take (min (k - (n + 7)) 2)) = S
  dig : ∀ i, i < k → i ≠ n → i ≠ n + 3 → i ≠ n + 6 → isD (l.getD i 0) = true
theorem PI.start (l : List UInt8) (n : Nat) : PI l n 0 0 0 0 0 :=
  ⟨by simp [rd], by simp [rd], by simp [rd], by simp [rd], fun i h => by omega⟩
section
variable {l : List UInt8} {n k D H M S : Nat}
theorem PI.digs (h : PI l n k D H M S) (hd : k = n ∨ k = n + 3 ∨ k = n + 6 ∨ isD (l.getD k 0) = true) : ∀ i, i < k + 1 → i ≠ n → i ≠ n + 3 → i ≠ n + 6 → isD (l.getD i 0) = true := fun i hi h1 h2 h3 => by
  rcases Nat.lt_or_ge i k with h4 | h4
  · exact h.dig i h4 h1 h2 h3
  · obtain rfl : i = k := by omega
    rcases hd with h | h | h | h
    · exact absurd h h1
    · exact absurd h h2
    · exact absurd h h3
    · exact h
theorem PI.skip (h : PI l n k D H M S) (hk : k = n ∨ k = n + 3 ∨ k = n + 6) : PI l n (k + 1) D H M S :=
  ⟨by rw [show min (k + 1) n = min k n by omega]; exact h.day, by rw [show min (k + 1 - (n + 1)) 2 = min (k - (n + 1)) 2 by omega]; exact h.hour, by rw [show min (k + 1 - (n + 4)) 2 = min (k - (n + 4)) 2 by omega]; exact h.min', by rw [show min (k + 1 - (n + 7)) 2 = min (k - (n + 7)) 2 by omega]; exact h.sec, h.digs (by omega)⟩
theorem PI.dayS (h : PI l n k D H M S) (hk : k < n) (hl : k < l.length) {c : UInt8} (hc : l.getD k 0 = c) (hd : isD c = true) : PI l n (k + 1) (D * 10 + (c.toNat - 48)) H M S :=
  ⟨by rw [show min (k + 1) n = k + 1 by omega, rd_take l hl, hc]; have := h.day; rw [show min k n = k by omega] at this; rw [this], by rw [show min (k + 1 - (n + 1)) 2 = min (k - (n + 1)) 2 by omega]; exact h.hour, by rw [show min (k + 1 - (n + 4)) 2 = min (k - (n + 4)) 2 by omega]; exact h.min', by rw [show min (k + 1 - (n + 7)) 2 = min (k - (n + 7)) 2 by omega]; exact h.sec, h.digs (by rw [hc]; exact .inr (.inr (.inr hd)))⟩
theorem part_step {a k X : Nat} (h : rd 0 ((l.drop a).take (min (k - a) 2)) = X) (h1 : a ≤ k) (h2 : k < a + 2) (hl : k < l.length) {c : UInt8} (hc : l.getD k 0 = c) : rd 0 ((l.drop a).take (min (k + 1 - a) 2)) = X * 10 + (c.toNat - 48) := by
  rw [show min (k + 1 - a) 2 = (k - a) + 1 by omega, rd_take _ (by rw [List.length_drop]; omega), getD_drop, show a + (k - a) = k by omega, hc]
  rw [show min (k - a) 2 = k - a by omega] at h
  rw [h]
theorem PI.hourS (h : PI l n k D H M S) (h1 : n + 1 ≤ k) (h2 : k < n + 3) (hl : k < l.length) {c : UInt8} (hc : l.getD k 0 = c) (hd : isD c = true) : PI l n (k + 1) D (H * 10 + (c.toNat - 48)) M S :=
  ⟨by rw [show min (k + 1) n = min k n by omega]; exact h.day, part_step h.hour h1 (by omega) hl hc, by rw [show min (k + 1 - (n + 4)) 2 = min (k - (n + 4)) 2 by omega]; exact h.min', by rw [show min (k + 1 - (n + 7)) 2 = min (k - (n + 7)) 2 by omega]; exact h.sec, h.digs (by rw [hc]; exact .inr (.inr (.inr hd)))⟩
theorem PI.minS (h : PI l n k D H M S) (h1 : n + 4 ≤ k) (h2 : k < n + 6) (hl : k < l.length) {c : UInt8} (hc : l.getD k 0 = c) (hd : isD c = true) : PI l n (k + 1) D H (M * 10 + (c.toNat - 48)) S :=
  ⟨by rw [show min (k + 1) n = min k n by omega]; exact h.day, by rw [show min (k + 1 - (n + 1)) 2 = min (k - (n + 1)) 2 by omega]; exact h.hour, part_step h.min' h1 (by omega) hl hc, by rw [show min (k + 1 - (n + 7)) 2 = min (k - (n + 7)) 2 by omega]; exact h.sec, h.digs (by rw [hc]; exact .inr (.inr (.inr hd)))⟩
theorem PI.secS (h : PI l n k D H M S) (h1 : n + 7 ≤ k) (h2 : k < n + 9) (hl : k < l.length) {c : UInt8} (hc : l.getD k 0 = c) (hd : isD c = true) : PI l n (k + 1) D H M (S * 10 + (c.toNat - 48)) :=
  ⟨by rw [show min (k + 1) n = min k n by omega]; exact h.day, by rw [show min (k + 1 - (n + 1)) 2 = min (k - (n + 1)) 2 by omega]; exact h.hour, by rw [show min (k + 1 - (n + 4)) 2 = min (k - (n + 4)) 2 by omega]; exact h.min', part_step h.sec h1 (by omega) hl hc, h.digs (by rw [hc]; exact .inr (.inr (.inr hd)))⟩
theorem PI.done (h : PI l n k D H M S) (hk : k = n + 9) (hl : l.length = n + 9) (hd : l.getD n 0 = 100) (h1 : l.getD (n + 3) 0 = 58) (h2 : l.getD (n + 6) 0 = 58) : Reads l n D H M S := by
  subst hk
  refine ⟨hl, ?_, hd, ?_, h1, ?_, h2, ?_, fun i hi a b c => h.dig i (by omega) a b c⟩
  · have := h.day; rwa [show min (n + 9) n = n by omega] at this
  · have := h.hour; rwa [show min (n + 9 - (n + 1)) 2 = 2 by omega] at this
  · have := h.min'; rwa [show min (n + 9 - (n + 4)) 2 = 2 by omega] at this
  · have := h.sec; rwa [show min (n + 9 - (n + 7)) 2 = 2 by omega] at this
theorem PI.dayB (h : PI l n k D H M S) (hn : n ≤ 15) (hl : l.length = n + 9) : D < 1000000000000000 := by
  have h1 := rd_bound (l := l.take (min k n)) (all_of fun i hi _ => h.dig i (by omega) (by omega) (by omega) (by omega))
  rw [h.day] at h1
  have h2 : (l.take (min k n)).length ≤ 15 := by rw [List.length_take]; omega
  exact Nat.lt_of_lt_of_le h1 (Nat.pow_le_pow_right (by omega) h2)
theorem part_b {a X : Nat} (e : rd 0 ((l.drop a).take (min (k - a) 2)) = X) (hd : ∀ i, i < min (k - a) 2 → isD (l.getD (a + i) 0) = true) : X < 100 := by
  have h1 := rd_bound (l := (l.drop a).take (min (k - a) 2)) (all_of fun i hi _ => by rw [getD_drop]; exact hd i hi)
  rw [e] at h1
  have h2 : ((l.drop a).take (min (k - a) 2)).length ≤ 2 := by rw [List.length_take]; omega
  exact Nat.lt_of_lt_of_le h1 (Nat.pow_le_pow_right (by omega) h2)
theorem PI.restB (h : PI l n k D H M S) : H < 100 ∧ M < 100 ∧ S < 100 :=
  ⟨part_b h.hour fun i hi => h.dig _ (by omega) (by omega) (by omega) (by omega), part_b h.min' fun i hi => h.dig _ (by omega) (by omega) (by omega) (by omega), part_b h.sec fun i hi => h.dig _ (by omega) (by omega) (by omega) (by omega)⟩
end
/-- What has not the form of a text. -/
theorem no_form {l : List UInt8} {n : Nat} (hl : l.length = n + 9) (h : n < 1 ∨ 15 < n ∨ l.getD n 0 ≠ 100 ∨ l.getD (n + 3) 0 ≠ 58 ∨ l.getD (n + 6) 0 ≠ 58) : parseT l = (0, 6) := by
  refine parseT_no fun t ht e => ?_
  subst e
  have hd := textT_days ht
  have r := textT_reads t
  have e1 : (Lib.decDigits (t / 86400)).length = n := by have := r.len; omega
  rw [e1] at r hd
  rcases h with h | h | h | h | h
  · omega
  · omega
  · exact h r.dd
  · exact h r.c1
  · exact h r.c2
theorem no_short {l : List UInt8} (h : l.length < 10) : parseT l = (0, 6) := by
  refine parseT_no fun t ht e => ?_
  subst e
  have hd := textT_days ht
  have r := (textT_reads t).len
  omega
theorem no_digit {l : List UInt8} {n i : Nat} (hl : l.length = n + 9) (hi : i < l.length) (h1 : i ≠ n) (h2 : i ≠ n + 3) (h3 : i ≠ n + 6) (hd : isD (l.getD i 0) = false) : parseT l = (0, 6) := by
  refine parseT_no fun t ht e => ?_
  subst e
  have r := textT_reads t
  have e1 : (Lib.decDigits (t / 86400)).length = n := by have := r.len; omega
  rw [e1] at r
  rw [r.dig i hi h1 h2 h3] at hd
  cases hd
theorem no_time {l : List UInt8} {n D H M S : Nat} (r : Reads l n D H M S) (h : 9223372036854775807 < D * 86400 + H * 3600 + M * 60 + S) : parseT l = (0, 6) := by
  refine parseT_no fun t ht e => ?_
  subst e
  have := r.time
  omega
theorem no_text {l : List UInt8} {n D H M S : Nat} (r : Reads l n D H M S) (h : textT (D * 86400 + H * 3600 + M * 60 + S) ≠ l) : parseT l = (0, 6) := by
  refine parseT_no fun t ht e => ?_
  subst e
  rw [r.time] at h
  exact h rfl
theorem is_text {l : List UInt8} {t : Nat} (ht : t ≤ 9223372036854775807) (h : textT t = l) : parseT l = ((t : Int), 0) := by
  subst h; exact parseT_text ht
end Go.Proofs.YtnmgcfpemmejlaaDoor
