/- The lines of a text, and the parts of a string: the mathematics. -/
import Derived.Test.YtdcjnklagklckaaDoorParseA
import Derived.Test.YtdcjnklagklckaaDoorWordsW
import Derived.Lib.SplitLaws
namespace Go.Proofs.YtdcjnklagklckaaDoor
open Go.RowKit Go.Shelf
set_option linter.unusedVariables false

theorem cutAt_snoc (c : UInt8) : ∀ b : List UInt8, cutAt c (b ++ [c]) = cutAt c b ++ [[]]
  | [] => by simp [cutAt]
  | x :: b => by
    have ih := cutAt_snoc c b
    rw [List.cons_append, cutAt, cutAt]
    split
    · rw [ih]; rfl
    · rw [ih]
      cases h : cutAt c b with
      | nil => exact absurd h (cutAt_ne c b)
      | cons p ps => rfl
theorem cutAt_len (c : UInt8) : ∀ l : List UInt8, (cutAt c l).length = l.count c + 1
  | [] => by simp [cutAt]
  | x :: r => by
    have ih := cutAt_len c r
    rw [cutAt, List.count_cons]
    split
    · rename_i h; subst h; simp [ih]
    · rename_i h
      have hb : (x == c) = false := beq_eq_false_iff_ne.2 h
      rw [hb]
      cases hc : cutAt c r with
      | nil => exact absurd hc (cutAt_ne c r)
      | cons p ps => rw [hc] at ih; simpa using ih
theorem index_one (c : UInt8) : ∀ l : List UInt8, (Lib.index l [c] = -1 ∧ ∀ x ∈ l, x ≠ c) ∨ ∃ i : Nat, Lib.index l [c] = i ∧ i < l.length ∧ l = l.take i ++ c :: l.drop (i + 1) ∧ ∀ x ∈ l.take i, x ≠ c
  | [] => .inl ⟨rfl, fun x h => by cases h⟩
  | b :: l => by
    have ih := index_one c l
    unfold Lib.index
    by_cases h : b = c
    · subst h
      right
      refine ⟨0, by simp [List.isPrefixOf], by simp, by simp, fun x h => by simp at h⟩
    · have hp : ([c].isPrefixOf (b :: l)) = false := by simp [List.isPrefixOf, Ne.symm h]
      rw [hp]
      rcases ih with ⟨h1, h2⟩ | ⟨i, h1, h2, h3, h4⟩
      · left; rw [h1]
        refine ⟨rfl, fun x hx => ?_⟩
        rcases List.mem_cons.1 hx with rfl | hx
        · exact h
        · exact h2 x hx
      · right
        have hne : (Lib.index l [c] == -1) = false := beq_eq_false_iff_ne.2 (by omega)
        rw [hne, h1]
        refine ⟨i + 1, by simp, by simp; omega, by rw [List.take_succ_cons, List.drop_succ_cons, List.cons_append, ← h3], fun x hx => ?_⟩
        rw [List.take_succ_cons] at hx
        rcases List.mem_cons.1 hx with rfl | hx
        · exact h
        · exact h4 x hx
theorem split_cut (c : UInt8) : ∀ (n : Nat) (l : List UInt8), l.length ≤ n → Lib.splitK [c] 0 (Lib.count l [c]) l = cutAt c l := by
  intro n
  induction n with
  | zero =>
    intro l h
    have : l = [] := List.eq_nil_of_length_eq_zero (by omega)
    subst this; rfl
  | succ n ih =>
    intro l h
    rcases index_one c l with ⟨h1, h2⟩ | ⟨i, h1, h2, h3, h4⟩
    · rw [Lib.count_miss h1, cutAt_none c l h2]; rfl
    · have hc : Lib.count l [c] = 1 + Lib.count (l.drop (i + 1)) [c] := by
        have := Lib.count_hit (s := l) (sub := [c]) (i := i) (by simp) h1
        simpa using this
      rw [hc, Nat.add_comm, Lib.splitK]
      have hne : (Lib.index l [c] == -1) = false := beq_eq_false_iff_ne.2 (by omega)
      rw [hne, if_neg (by simp), h1]
      simp only [Int.toNat_natCast, Nat.add_zero, List.length_cons, List.length_nil, Nat.zero_add]
      rw [ih _ (by rw [List.length_drop]; omega)]
      conv => rhs; rw [h3, cutAt_app c _ _ h4]
theorem splitB_cut (s : ByteArray) (c : UInt8) : (Lib.splitB ⟨#[c]⟩ 0 (Lib.countB s ⟨#[c]⟩) s).map (·.data.toList) = cutAt c s.data.toList := by
  rw [Lib.splitB_data]
  exact split_cut c _ _ (Nat.le_refl _)

/-- What Lines returns. -/
def linesL (l : List UInt8) : List (List UInt8) × Int :=
  if 1048576 < l.length then ([], 3) else if l.isEmpty then ([], 0) else if !Lib.hasSuffix l [10] then ([], 6)
  else if 5000 < l.count 10 then ([], 3) else (cutAt 10 (l.take (l.length - 1)), 0)

/-- The slice v reads as the strings ps. -/
def SSl (W : World) (v : Value) (ps : List (List UInt8)) : Prop :=
  (v = .slice none 0 0 ∧ ps = []) ∨
  ∃ g off cap, v = .slice (some ⟨g, off, none⟩) ps.length cap ∧ g < W.heap.size ∧ ps.length ≤ maxLen ∧ ∀ i (h : i < ps.length), W.cell? ⟨g, off + i, none⟩ = some (.string ⟨ps[i].toArray⟩)
theorem SSl.later {W W' : World} {v : Value} {ps : List (List UInt8)} (h : SSl W v ps) (hb : Below W.heap.size W W') : SSl W' v ps := by
  rcases h with h | ⟨g, off, cap, h1, h2, h3, h4⟩
  · exact .inl h
  · exact .inr ⟨g, off, cap, h1, Nat.lt_of_lt_of_le h2 hb.size, h3, fun i hi => (hb.cell (p := ⟨g, _, none⟩) h2).trans (h4 i hi)⟩
def scells (ps : List (List UInt8)) : List Value := ps.map fun p => .string ⟨p.toArray⟩
theorem SSl_of_row {B : Nat} {W : World} {v : Value} {ps : List (List UInt8)} (h : W.ownsRow B 9 1 v ps.length (scells ps)) : SSl W v ps := by
  rcases h with ⟨hl, ⟨rfl, hn⟩ | ⟨g, cap, cur, rfl, hg, hc, hm, h3, h4, h5⟩⟩
  · exact .inl ⟨rfl, List.eq_nil_of_length_eq_zero hn⟩
  · refine .inr ⟨g, 0, cap, rfl, (Array.getElem?_eq_some_iff.1 hc).1, by omega, fun i hi => ?_⟩
    have hq : (scells ps)[i]? = some (.string ⟨ps[i].toArray⟩) := by unfold scells; rw [List.getElem?_map, List.getElem?_eq_getElem hi]; rfl
    rw [← h5, List.getElem?_take_of_lt (by omega), Array.getElem?_toList] at hq
    rw [cell_of_row W g _ cur _ _ hc, Nat.zero_add]; exact hq

/-- Between two bytes: the parts so far, and what stands behind the last cut. -/
def CutInv (c : UInt8) (L : List UInt8) (f k : Nat) (P : List (List UInt8)) : Prop := f ≤ k ∧ k ≤ L.length ∧ (∀ x ∈ (L.drop f).take (k - f), x ≠ c) ∧ P ++ cutAt c (L.drop f) = cutAt c L
theorem cutinv_start (c : UInt8) (L : List UInt8) : CutInv c L 0 0 [] := ⟨Nat.le_refl _, Nat.zero_le _, fun x h => by simp at h, by simp⟩
theorem cutinv_skip {c : UInt8} {L : List UInt8} {f k : Nat} {P : List (List UInt8)} (h : CutInv c L f k P) (hk : k < L.length) (hc : L[k] ≠ c) : CutInv c L f (k + 1) P := by
  obtain ⟨h1, h2, h3, h4⟩ := h
  refine ⟨by omega, by omega, fun x hx => ?_, h4⟩
  have hlen : k - f < (L.drop f).length := by rw [List.length_drop]; omega
  rw [show k + 1 - f = (k - f) + 1 by omega, List.take_succ_eq_append_getElem hlen] at hx
  rcases List.mem_append.1 hx with hx | hx
  · exact h3 x hx
  · rw [List.mem_singleton] at hx
    subst hx
    rw [List.getElem_drop]
    simp only [show f + (k - f) = k by omega]; exact hc
theorem cutinv_cut {c : UInt8} {L : List UInt8} {f k : Nat} {P : List (List UInt8)} (h : CutInv c L f k P) (hk : k < L.length) (hc : L[k] = c) : CutInv c L (k + 1) (k + 1) (P ++ [(L.drop f).take (k - f)]) := by
  obtain ⟨h1, h2, h3, h4⟩ := h
  refine ⟨Nat.le_refl _, by omega, fun x hx => by simp at hx, ?_⟩
  have e : L.drop f = (L.drop f).take (k - f) ++ c :: L.drop (k + 1) := by
    conv => lhs; rw [← List.take_append_drop (k - f) (L.drop f)]
    rw [List.drop_drop, show f + (k - f) = k by omega, List.drop_eq_getElem_cons hk, hc]
  rw [e, cutAt_app c _ _ h3] at h4
  rw [List.append_assoc]; exact h4
/-- At the end: the last part. -/
theorem cutinv_end {c : UInt8} {L : List UInt8} {f k : Nat} {P : List (List UInt8)} (h : CutInv c L f k P) (hk : ¬ k < L.length) : P ++ [L.drop f] = cutAt c L := by
  obtain ⟨h1, h2, h3, h4⟩ := h
  have hk2 : k = L.length := by omega
  rw [List.take_of_length_le (by rw [List.length_drop]; omega)] at h3
  rw [cutAt_none c _ h3] at h4; exact h4
theorem cutinv_lines {L : List UInt8} {f k : Nat} {P : List (List UInt8)} (h : CutInv 10 L f k P) (hk : ¬ k < L.length) (h0 : 0 < L.length) (hl : L[L.length - 1] = 10) : P = cutAt 10 (L.take (L.length - 1)) ∧ P.length = L.count 10 := by
  have he := cutinv_end h hk
  have hL : L = L.take (L.length - 1) ++ [10] := by
    conv => lhs; rw [← List.take_append_drop (L.length - 1) L]
    rw [List.drop_eq_getElem_cons (by omega), hl, List.drop_eq_nil_of_le (by omega)]
  have hf : L.drop f = [] := by
    obtain ⟨h1, h2, h3, _⟩ := h
    by_cases hlt : f < L.length
    · exfalso
      refine h3 10 ?_ rfl
      rw [List.mem_iff_getElem]
      refine ⟨L.length - 1 - f, by rw [List.length_take, List.length_drop]; omega, ?_⟩
      rw [List.getElem_take, List.getElem_drop]
      simp only [show f + (L.length - 1 - f) = L.length - 1 by omega]; exact hl
    · exact List.drop_eq_nil_of_le (by omega)
  rw [hf] at he
  have hs : cutAt 10 L = cutAt 10 (L.take (L.length - 1)) ++ [[]] := by
    conv => lhs; rw [hL]
    exact cutAt_snoc 10 _
  have hP : P = cutAt 10 (L.take (L.length - 1)) := List.append_cancel_right (he.trans hs)
  refine ⟨hP, ?_⟩
  have := cutAt_len 10 L
  rw [← he] at this; simp at this; omega
theorem suffix_ten {L : List UInt8} (h0 : 0 < L.length) : Lib.hasSuffix L [10] = (L[L.length - 1] == 10) := by
  unfold Lib.hasSuffix
  rw [Bool.eq_iff_iff, List.isSuffixOf_iff_suffix, beq_iff_eq]
  have hL : L = L.take (L.length - 1) ++ [L[L.length - 1]] := by
    conv => lhs; rw [← List.take_append_drop (L.length - 1) L]
    rw [List.drop_eq_getElem_cons (by omega), List.drop_eq_nil_of_le (by omega)]
  constructor
  · rintro ⟨t, ht⟩
    rw [hL] at ht
    have := (List.append_inj' ht rfl).2
    simpa using this.symm
  · intro h
    refine ⟨L.take (L.length - 1), ?_⟩
    rw [← h]; exact hL.symm
end Go.Proofs.YtdcjnklagklckaaDoor
