/- Quoting and splitting are inverse to unquoting and joining: the mathematics. -/
import Derived.Test.YtkafcbiiponacaaDoorJoinA
import Derived.Test.YtkafcbiiponacaaDoorWordsM
import Derived.Test.YtkafcbiiponacaaDoorSplitM
namespace Go.Proofs.YtkafcbiiponacaaDoor
open Go.RowKit Go.Shelf
set_option linter.unusedVariables false

theorem esc_head (c : UInt8) (r : List UInt8) : (esc c ++ r).isEmpty = false ∧ (esc c ++ r).headD 0 ≠ 34 := by
  rcases esc_cases c with ⟨hp, h⟩ | ⟨_, _, x, h, _⟩ | ⟨_, _, h⟩ <;> rw [h]
  · refine ⟨rfl, ?_⟩
    show c ≠ 34
    rintro rfl; revert hp; decide
  · exact ⟨rfl, by show (92 : UInt8) ≠ 34; decide⟩
  · exact ⟨rfl, by show (92 : UInt8) ≠ 34; decide⟩

theorem rdQ_of (r : List UInt8) : ∀ (l : List UInt8) (F : Nat), l.length < F → rdQ F (l.flatMap esc ++ 34 :: r) = some (l, (l.flatMap esc).length + 1)
  | [], F, h => by
    cases F with
    | zero => omega
    | succ F => simp [rdQ]
  | c :: l, F, h => by
    cases F with
    | zero => omega
    | succ F =>
      have ih := rdQ_of r l F (by simp at h; omega)
      have hh := esc_head c (l.flatMap esc ++ 34 :: r)
      have hf : findE (esc c ++ (l.flatMap esc ++ 34 :: r)) = some c := findE_some (List.prefix_append _ _)
      rw [List.flatMap_cons, List.append_assoc, rdQ, if_neg (by rw [hh.1]; simp), if_neg hh.2, hf]
      simp only [List.drop_left, ih, Option.map_some, List.length_append]
      congr 2
theorem flat_len_ge (l : List UInt8) : l.length ≤ (l.flatMap esc).length := by
  induction l with
  | nil => simp
  | cons c r ih => have := esc_ne_nil c; simp only [List.flatMap_cons, List.length_append, List.length_cons]; omega
theorem qT_quote (l r : List UInt8) : qT (quoteL l ++ r) = (l, (quoteL l).length) := by
  have e : quoteL l ++ r = 34 :: (l.flatMap esc ++ 34 :: r) := by simp [quoteL]
  unfold qT quotedL
  rw [e]
  have hl := flat_len_ge l
  have := rdQ_of r l (34 :: (l.flatMap esc ++ 34 :: r)).length (by rw [List.length_cons, List.length_append, List.length_cons]; omega)
  rw [List.headD_cons, if_pos rfl, List.drop_one, List.tail_cons, this]
  simp [quoteL]; omega
theorem rdQ_inv : ∀ (F : Nat) (l : List UInt8) (T : List UInt8) (n : Nat), rdQ F l = some (T, n) → l.take n = T.flatMap esc ++ [34]
  | 0, l, T, n, h => by simp [rdQ] at h
  | F + 1, l, T, n, h => by
    rw [rdQ] at h
    split at h
    · cases h
    · rename_i he
      split at h
      · rename_i h34
        cases h
        cases l with
        | nil => simp at he
        | cons a b => have : a = 34 := h34; subst this; rfl
      · split at h
        · cases h
        · rename_i d hd
          simp only [Option.map_eq_some_iff] at h
          obtain ⟨⟨T', n'⟩, hq, h⟩ := h
          have h1 := rdQ_inv F _ T' n' hq
          have h2 : esc d <+: l := by
            unfold findE at hd; exact List.isPrefixOf_iff_prefix.1 (List.find?_some (p := fun c => (esc c).isPrefixOf l) hd)
          obtain ⟨t, rfl⟩ := h2
          rw [List.drop_left] at h1
          simp only [Prod.mk.injEq] at h
          obtain ⟨rfl, rfl⟩ := h
          rw [List.take_length_add_append, h1]; simp
theorem qT_inv {l : List UInt8} {T : List UInt8} {n : Nat} (h : qT l = (T, n)) (hn : n ≠ 0) : l.take n = quoteL T := by
  unfold qT quotedL at h
  split at h
  · rename_i h34
    cases l with
    | nil => simp at h34
    | cons a b =>
      have : a = 34 := h34
      subst this
      rw [List.drop_one, List.tail_cons] at h
      cases hq : rdQ (34 :: b).length b with
      | none => rw [hq] at h; simp at h; omega
      | some p =>
        rw [hq] at h
        obtain ⟨T', n'⟩ := p
        simp only [Option.map_some, Option.getD_some, Prod.mk.injEq] at h
        obtain ⟨rfl, rfl⟩ := h
        have := rdQ_inv _ _ _ _ hq
        rw [Nat.add_comm, List.take_succ_cons, this]; rfl
  · simp at h; omega

theorem unq_quote (l : List UInt8) : unqL (quoteL l) = (l, 0) := by
  have h := qT_quote l []
  rw [List.append_nil] at h
  unfold unqL; rw [h]; simp [quoteL]
theorem quote_unq {l : List UInt8} {T : List UInt8} (h : unqL l = (T, 0)) : quoteL T = l := by
  unfold unqL at h
  split at h
  · rename_i hc
    obtain ⟨T', hT⟩ : ∃ T', T' = (qT l).1 := ⟨_, rfl⟩
    have := qT_inv (l := l) (T := (qT l).1) (n := (qT l).2) rfl hc.2
    rw [hc.1, List.take_of_length_le (Nat.le_refl _)] at this
    simp only [Prod.mk.injEq, and_true] at h
    rw [← h]; exact this.symm
  · simp at h

/-! ### Fields -/
theorem writL_q (f : FD) (h : f.2 = true) : writL f = quoteL f.1.data.toList := by unfold writL; rw [if_pos h]
theorem writL_b (f : FD) (h : f.2 = false) : writL f = f.1.data.toList := by unfold writL; rw [h]; rfl
theorem ba_eta (s : ByteArray) : (⟨s.data.toList.toArray⟩ : ByteArray) = s := by apply WideShapes.bytes_inj; simp

/-- The first field of a line is the field that was written first. -/
theorem oneF_writ (f : FD) (b : List UInt8) (h : okF f = true) (he : b = [] ∨ b.headD 0 = 32) : oneF (writL f ++ b) = (f.1, f.2, (writL f).length) ∧ (writL f).length ≠ 0 := by
  obtain ⟨s, q⟩ := f
  cases q with
  | true =>
    rw [writL_q _ rfl]
    refine ⟨?_, by simp [quoteL]⟩
    rw [oneF_quoted (by simp [quoteL]), qT_quote, ba_eta]
  | false =>
    rw [writL_b _ rfl]
    have hb : bareB s.data.toList = true := by simpa [okF] using h
    refine ⟨?_, ?_⟩
    · have := oneF_ab s.data.toList b hb he
      rw [this, ba_eta]
    · intro h0
      have : s.data.toList = [] := List.eq_nil_of_length_eq_zero h0
      simp [bareB, this] at hb

theorem lineL_cons (f : FD) (r : List FD) : lineL (f :: r) = writL f ++ (if r.isEmpty then [] else 32 :: lineL r) := by
  unfold lineL
  rw [List.map_cons]
  cases r with
  | nil => simp [Lib.join_one]
  | cons g r => simp [Lib.join_cons, Lib.joinTail]
theorem fGo_line : ∀ (fs : List FD) (F : Nat), fs ≠ [] → fs.all okF = true → (lineL fs).length < F → fGo F (lineL fs) = fs.map fun f => (f.1, f.2, true)
  | [], _, h, _, _ => absurd rfl h
  | f :: r, F, _, ho, hF => by
    cases F with
    | zero => omega
    | succ F =>
      rw [List.all_cons, Bool.and_eq_true] at ho
      rw [lineL_cons] at hF ⊢
      obtain ⟨b, hb⟩ : ∃ b, b = (if r.isEmpty then [] else 32 :: lineL r) := ⟨_, rfl⟩
      rw [← hb] at hF ⊢
      have he : b = [] ∨ b.headD 0 = 32 := by
        rw [hb]; split
        · exact .inl rfl
        · exact .inr rfl
      obtain ⟨h1, h2⟩ := oneF_writ f b ho.1 he
      have hbad : fBad (writL f ++ b) = false := by
        unfold fBad; rw [h1]
        simp only [List.drop_left]
        have hl : ((writL f).length == 0) = false := beq_eq_false_iff_ne.2 h2
        rw [hl]
        rcases he with rfl | he
        · rfl
        · rw [he]; simp
      rw [fGo, hbad, if_neg (by simp), h1]
      simp only [List.drop_left, List.map_cons]
      congr 1
      cases r with
      | nil => subst hb; simp
      | cons g r =>
        have hb' : b = 32 :: lineL (g :: r) := hb
        rw [hb', List.isEmpty_cons, if_neg (by simp), List.drop_length_add_append]
        exact fGo_line (g :: r) F (by simp) ho.2 (by rw [hb', List.length_append, List.length_cons] at hF; omega)
theorem lineL_ne {f : FD} {r : List FD} (h : okF f = true) : (lineL (f :: r)).isEmpty = false := by
  obtain ⟨_, h2⟩ := oneF_writ f [] h (.inl rfl)
  rw [lineL_cons]
  cases hw : writL f with
  | nil => rw [hw] at h2; exact absurd rfl h2
  | cons a b => rfl
theorem fields_line {fs : List FD} (h : fs.all okF = true) : fieldsY (lineL fs) = fs.map fun f => (f.1, f.2, true) := by
  unfold fieldsY
  cases fs with
  | nil => rfl
  | cons f r =>
    have ho := h
    rw [List.all_cons, Bool.and_eq_true] at ho
    rw [lineL_ne ho.1, if_neg (by simp)]
    exact fGo_line _ _ (by simp) h (by omega)
/-- Split of Join returns the fields. -/
theorem split_join {fs : List FD} {t : List UInt8} (h : joinL fs = (t, 0)) : splitL t = (fs, 0) := by
  unfold joinL at h
  cases ht : tooB fs
  · rw [ht] at h
    cases ho : fs.all okF
    · rw [ho] at h; simp at h
    · rw [ho] at h
      by_cases hl : 8192 < (lineL fs).length
      · rw [if_neg (by simp), if_neg (by simp), if_pos hl] at h; simp at h
      · rw [if_neg (by simp), if_neg (by simp), if_neg hl] at h
        simp only [Prod.mk.injEq, and_true] at h
        subst h
        have hm : (fs.map fun f => ((f.1, f.2, true) : FY)).map (fun x => (x.1, x.2.1)) = fs := by rw [List.map_map]; exact List.map_id _
        unfold splitL; rw [if_neg hl, fields_line ho, hm, ht]
        rw [if_neg (by simp), if_neg (by simp)]
  · rw [ht] at h; simp at h

theorem takeN_all (l : List UInt8) : (l.take (bareN l)).all bareC = true := by
  unfold bareN
  rw [(List.prefix_iff_eq_take.1 (List.takeWhile_prefix bareC (l := l))).symm]
  exact List.all_takeWhile
/-- The field that was read first is written as it stood. -/
theorem oneF_inv {l : List UInt8} {T : ByteArray} {q : Bool} {n : Nat} (h : oneF l = (T, q, n)) (hn : n ≠ 0) : writL (T, q) = l.take n ∧ okF (T, q) = true := by
  unfold oneF at h
  split at h
  · simp only [Prod.mk.injEq] at h
    obtain ⟨rfl, rfl, rfl⟩ := h
    refine ⟨?_, rfl⟩
    rw [writL_q _ rfl]; exact (qT_inv (l := l) (T := (qT l).1) (n := (qT l).2) rfl hn).symm
  · simp only [Prod.mk.injEq] at h
    obtain ⟨rfl, rfl, rfl⟩ := h
    refine ⟨by rw [writL_b _ rfl], ?_⟩
    have hle := bareN_le l
    show (false || bareB _) = true
    rw [Bool.false_or]; unfold bareB
    rw [show (ByteArray.mk (l.take (bareN l)).toArray).data.toList = l.take (bareN l) from rfl, takeN_all, Bool.and_true]
    cases hl : l.take (bareN l) with
    | nil =>
      have := congrArg List.length hl
      rw [List.length_take, List.length_nil] at this; omega
    | cons a b => rfl
theorem fGo_inv : ∀ (F : Nat) (l : List UInt8), l.length < F → (fGo F l).any (fun x => !x.2.2) = false → lineL ((fGo F l).map fun x => (x.1, x.2.1)) = l ∧ ((fGo F l).map fun x => ((x.1, x.2.1) : FD)).all okF = true
  | 0, l, h, _ => by omega
  | F + 1, l, h, ha => by
    rw [fGo] at ha ⊢
    cases hb : fBad l
    · rw [hb, if_neg (by simp)] at ha
      rw [if_neg (by simp)]
      obtain ⟨T, q, n, ho⟩ : ∃ T q n, oneF l = (T, q, n) := ⟨_, _, _, rfl⟩
      unfold fBad at hb
      rw [ho] at hb ha ⊢
      simp only [Bool.or_eq_false_iff, beq_eq_false_iff_ne, ne_eq] at hb
      obtain ⟨hn, hr⟩ := hb
      obtain ⟨w1, w2⟩ := oneF_inv ho hn
      have hle := oneF_le l
      rw [ho] at hle
      simp only at hle ha ⊢
      rw [List.map_cons, lineL_cons, List.all_cons, w2, w1]
      cases hd : l.drop n with
      | nil =>
        have hln : l.length ≤ n := List.drop_eq_nil_iff.1 hd
        simp [List.take_of_length_le hln]
      | cons c r =>
        rw [hd] at hr
        simp only [List.isEmpty_cons, List.headD_cons, Bool.not_false, Bool.true_and, Bool.not_eq_false', beq_iff_eq] at hr
        subst hr
        have hr2 : l.drop (n + 1) = r := by rw [← List.drop_drop, hd]; rfl
        rw [hd] at ha
        rw [hr2] at ha ⊢
        simp only [List.isEmpty_cons, Bool.false_eq_true, if_false] at ha ⊢
        rw [List.any_cons, Bool.or_eq_false_iff] at ha
        have hlen : r.length < l.length := by
          have := congrArg List.length hd
          rw [List.length_drop, List.length_cons] at this; omega
        obtain ⟨i1, i2⟩ := fGo_inv F r (by omega) ha.2
        have hne : ((fGo F r).map fun x => ((x.1, x.2.1) : FD)).isEmpty = false := by
          cases F with
          | zero => omega
          | succ F => rw [fGo]; split <;> rfl
        rw [hne, i1, i2]
        refine ⟨?_, rfl⟩
        rw [if_neg (by simp), ← hd]; exact List.take_append_drop n l
    · rw [hb, if_pos rfl] at ha; simp at ha
/-- Join of Split returns the line. -/
theorem join_split {l : List UInt8} {fs : List FD} (h : splitL l = (fs, 0)) : joinL fs = (l, 0) := by
  unfold splitL at h
  by_cases hl : 8192 < l.length
  · rw [if_pos hl] at h; simp at h
  · rw [if_neg hl] at h
    cases ha : (fieldsY l).any (fun x => !x.2.2)
    · rw [ha, if_neg (by simp)] at h
      cases ht : tooB ((fieldsY l).map fun x => (x.1, x.2.1))
      · rw [ht, if_neg (by simp)] at h
        simp only [Prod.mk.injEq, and_true] at h
        rw [h] at ht
        have hi : lineL fs = l ∧ fs.all okF = true := by
          rw [← h]
          unfold fieldsY at ha ⊢
          cases l with
          | nil => exact ⟨rfl, rfl⟩
          | cons a r =>
            rw [List.isEmpty_cons, if_neg (by simp)] at ha ⊢
            exact fGo_inv _ _ (by omega) ha
        unfold joinL; rw [ht, hi.2, hi.1, if_neg (by simp), if_neg (by simp), if_neg hl]
      · rw [ht, if_pos rfl] at h; simp at h
    · rw [ha, if_pos rfl] at h; simp at h

/-! ### Two lines -/
theorem lineL_append {l m : List FD} (hl : l ≠ []) (hm : m ≠ []) : lineL (l ++ m) = lineL l ++ [32] ++ lineL m := by
  induction l with
  | nil => exact absurd rfl hl
  | cons f r ih =>
    cases r with
    | nil =>
      cases m with
      | nil => exact absurd rfl hm
      | cons g m => simp [lineL_cons f]
    | cons g r =>
      rw [List.cons_append, lineL_cons f (g :: r ++ m), lineL_cons f (g :: r)]
      have := ih (by simp)
      simp only [List.cons_append, List.isEmpty_cons] at this ⊢
      rw [this]; simp
end Go.Proofs.YtkafcbiiponacaaDoor
