/- The reference's ends and set: the mathematics of their loops. -/
import Derived.Test.YtnmgcfpemmejlaaDoorTimesN
namespace Go.Proofs.YtnmgcfpemmejlaaDoor
set_option linter.unusedVariables false

theorem asc_get {l : List Int} (h : l.Pairwise (· < ·)) {i j : Nat} (hij : i < j) (hj : j < l.length) : l.getD i 0 < l.getD j 0 := by
  rw [List.getD_eq_getElem?_getD, List.getD_eq_getElem?_getD, List.getElem?_eq_getElem hj, List.getElem?_eq_getElem (Nat.lt_trans hij hj)]
  exact List.pairwise_iff_getElem.1 h i j _ hj hij
theorem mem_getD {l : List Int} {x : Int} : x ∈ l ↔ ∃ i, i < l.length ∧ l.getD i 0 = x := by
  rw [List.mem_iff_getElem]
  constructor
  · rintro ⟨i, hi, e⟩
    exact ⟨i, hi, by rw [List.getD_eq_getElem?_getD, List.getElem?_eq_getElem hi]; exact e⟩
  · rintro ⟨i, hi, e⟩
    exact ⟨i, hi, by rw [List.getD_eq_getElem?_getD, List.getElem?_eq_getElem hi] at e; exact e⟩
/-- The place before which x goes: all from there on are greater, the one before it is not. -/
structure PlaceE (x : Int) (l : List Int) (at' : Nat) : Prop where
  le : at' ≤ l.length
  gt : ∀ j, at' ≤ j → j < l.length → x < l.getD j 0
theorem PlaceE.start (x : Int) (l : List Int) : PlaceE x l l.length := ⟨Nat.le_refl _, fun j h1 h2 => by omega⟩
theorem PlaceE.step {x : Int} {l : List Int} {k : Nat} (h : PlaceE x l (k + 1)) (hx : x < l.getD k 0) : PlaceE x l k :=
  ⟨by have := h.le; omega, fun j h1 h2 => by
    rcases Nat.lt_or_ge k j with h3 | h3
    · exact h.gt j h3 h2
    · obtain rfl : j = k := by omega
      exact hx⟩
/-- It is there: nothing changes. -/
theorem PlaceE.there {x : Int} {l : List Int} {k : Nat} (h : PlaceE x l (k + 1)) (hx : l.getD k 0 = x) : insE x l = l := by
  unfold insE
  rw [if_pos (mem_getD.2 ⟨k, by have := h.le; omega, hx⟩)]
/-- It isn't there: it goes between. -/
theorem PlaceE.put {x : Int} {l : List Int} {k : Nat} (h : PlaceE x l k) (ha : l.Pairwise (· < ·)) (hk : k = 0 ∨ l.getD (k - 1) 0 < x) : insE x l = l.take k ++ x :: l.drop k := by
  have hle := h.le
  have lo : ∀ j, j < k → l.getD j 0 < x := by
    intro j hj
    rcases hk with hk | hk
    · omega
    · rcases Nat.lt_or_ge j (k - 1) with h1 | h1
      · have := asc_get ha h1 (by omega); omega
      · obtain rfl : j = k - 1 := by omega
        exact hk
  have no : x ∉ l := by
    intro hm
    obtain ⟨i, hi, e⟩ := mem_getD.1 hm
    rcases Nat.lt_or_ge i k with h1 | h1
    · have := lo i h1; omega
    · have := h.gt i h1 hi; omega
  have t1 : ∀ y ∈ l.take k, y < x := by
    intro y hy
    obtain ⟨i, hi, e⟩ := List.mem_take_iff_getElem.1 hy
    have hi2 : i < k := by omega
    have := lo i hi2
    rw [List.getD_eq_getElem?_getD, List.getElem?_eq_getElem (by omega)] at this
    rw [← e]; exact this
  have t2 : ∀ y ∈ l.drop k, x < y := by
    intro y hy
    obtain ⟨i, hi, e⟩ := List.mem_drop_iff_getElem.1 hy
    have := h.gt (k + i) (by omega) (by omega)
    rw [List.getD_eq_getElem?_getD, List.getElem?_eq_getElem (by omega)] at this
    rw [← e]; exact this
  unfold insE
  rw [if_neg no]
  have f1 : l.filter (· < x) = l.take k := by
    conv => lhs; rw [← List.take_append_drop k l]
    rw [List.filter_append, List.filter_eq_self.2 (fun y hy => by simpa using t1 y hy), List.filter_eq_nil_iff.2 (fun y hy => by have := t2 y hy; simp; omega), List.append_nil]
  have f2 : l.filter (x < ·) = l.drop k := by
    conv => lhs; rw [← List.take_append_drop k l]
    rw [List.filter_append, List.filter_eq_nil_iff.2 (fun y hy => by have := t1 y hy; simp; omega), List.filter_eq_self.2 (fun y hy => by simpa using t2 y hy), List.nil_append]
  rw [f1, f2]
/-- All ends of the spans of a list, in its order. -/
def endsOf (l : List Span) : List Int := l.flatMap fun s => [s.1, s.2]
/-- And ascending, each once. -/
def ascOf (l : List Int) : List Int := l.foldl (fun out x => insE x out) []
theorem ascOf_snoc (l : List Int) (x : Int) : ascOf (l ++ [x]) = insE x (ascOf l) := by unfold ascOf; rw [List.foldl_append]; rfl
theorem foldl_insE (l : List Int) : ∀ out : List Int, out.Pairwise (· < ·) → (l.foldl (fun out x => insE x out) out).Pairwise (· < ·) ∧ ∀ y, y ∈ l.foldl (fun out x => insE x out) out ↔ y ∈ l ∨ y ∈ out := by
  induction l with
  | nil => intro out h; exact ⟨h, fun y => by simp⟩
  | cons x l ih =>
    intro out h
    obtain ⟨h1, h2⟩ := ih (insE x out) (asc_insE h)
    refine ⟨h1, fun y => ?_⟩
    rw [List.foldl_cons, h2 y, mem_insE, List.mem_cons]
    constructor
    · rintro (h | h | h)
      · exact .inl (.inr h)
      · exact .inl (.inl h)
      · exact .inr h
    · rintro ((h | h) | h)
      · exact .inr (.inl h)
      · exact .inl h
      · exact .inr (.inr h)
theorem ascOf_asc (l : List Int) : (ascOf l).Pairwise (· < ·) := (foldl_insE l [] List.Pairwise.nil).1
theorem ascOf_mem (l : List Int) (y : Int) : y ∈ ascOf l ↔ y ∈ l := by
  have := (foldl_insE l [] List.Pairwise.nil).2 y
  unfold ascOf
  rw [this]; simp
theorem ascOf_len (l : List Int) : (ascOf l).length ≤ l.length := by
  have gen : ∀ (l out : List Int), (l.foldl (fun out x => insE x out) out).length ≤ l.length + out.length := by
    intro l
    induction l with
    | nil => intro out; simp
    | cons x l ih =>
      intro out
      have h1 := ih (insE x out)
      have h2 : (insE x out).length ≤ out.length + 1 := by
        unfold insE
        split
        · omega
        · have a := List.length_filter_le (fun y => decide (y < x)) out
          rw [List.length_append, List.length_cons]
          have b : (out.filter fun y => decide (y < x)).length + (out.filter fun y => decide (x < y)).length ≤ out.length := by
            clear h1 a
            induction out with
            | nil => simp
            | cons y r ihr =>
              have ih2 := ihr (by rename_i hn; intro hm; exact hn (by simp [hm]))
              simp only [List.filter_cons, List.length_cons]
              by_cases c1 : y < x
              · have c2 : ¬ x < y := by omega
                simp only [c1, c2, decide_true, decide_false, if_true, if_false, List.length_cons, Bool.false_eq_true]; omega
              · by_cases c2 : x < y
                · simp only [c1, c2, decide_true, decide_false, if_true, if_false, List.length_cons, Bool.false_eq_true]; omega
                · simp only [c1, c2, decide_false, if_false, Bool.false_eq_true]; omega
          omega
      rw [List.foldl_cons, List.length_cons]; omega
  have := gen l []
  unfold ascOf
  simpa using this
/-- All ends lie in the list of ends; between two that are next to each other lies none. -/
theorem ends_in {a : List Span} {E : List Int} (h : ∀ y, y ∈ endsOf a → y ∈ E) : ∀ s ∈ a, s.1 ∈ E ∧ s.2 ∈ E := fun s hs =>
  ⟨h _ (List.mem_flatMap.2 ⟨s, hs, by simp⟩), h _ (List.mem_flatMap.2 ⟨s, hs, by simp⟩)⟩
theorem next_end {E : List Int} (h : E.Pairwise (· < ·)) {i : Nat} (hi : i + 1 < E.length) : ∀ x ∈ E, x ≤ E.getD i 0 ∨ E.getD (i + 1) 0 ≤ x := by
  intro x hx
  obtain ⟨j, hj, rfl⟩ := mem_getD.1 hx
  rcases Nat.lt_or_ge j (i + 1) with h1 | h1
  · rcases Nat.lt_or_ge j i with h2 | h2
    · exact .inl (Int.le_of_lt (asc_get h h2 (by omega)))
    · obtain rfl : j = i := by omega
      exact .inl (Int.le_refl _)
  · rcases Nat.lt_or_ge (i + 1) j with h2 | h2
    · exact .inr (Int.le_of_lt (asc_get h h2 hj))
    · obtain rfl : j = i + 1 := by omega
      exact .inr (Int.le_refl _)
theorem first_end {E : List Int} (h : E.Pairwise (· < ·)) : ∀ x ∈ E, E.getD 0 0 ≤ x := by
  intro x hx
  obtain ⟨j, hj, rfl⟩ := mem_getD.1 hx
  rcases Nat.eq_zero_or_pos j with rfl | h1
  · exact Int.le_refl _
  · exact Int.le_of_lt (asc_get h h1 hj)
theorem last_end {E : List Int} (h : E.Pairwise (· < ·)) : ∀ x ∈ E, x ≤ E.getD (E.length - 1) 0 := by
  intro x hx
  obtain ⟨j, hj, rfl⟩ := mem_getD.1 hx
  rcases Nat.lt_or_ge j (E.length - 1) with h1 | h1
  · exact Int.le_of_lt (asc_get h h1 (by omega))
  · obtain rfl : j = E.length - 1 := by omega
    exact Int.le_refl _
/-- The ends of two lists, as set goes through them. -/
structure EndsOf (a b : List Span) (E : List Int) : Prop where
  asc : E.Pairwise (· < ·)
  ina : ∀ s ∈ a, s.1 ∈ E ∧ s.2 ∈ E
  inb : ∀ s ∈ b, s.1 ∈ E ∧ s.2 ∈ E
theorem EndsOf.made (a b : List Span) : EndsOf a b (ascOf (endsOf a ++ endsOf b)) :=
  ⟨ascOf_asc _, ends_in fun y hy => (ascOf_mem _ _).2 (by simp [hy]), ends_in fun y hy => (ascOf_mem _ _).2 (by simp [hy])⟩
section
variable {a b out : List Span} {E : List Int} {i : Nat}
theorem EndsOf.lt (h : EndsOf a b E) (hi : i + 1 < E.length) : E.getD i 0 < E.getD (i + 1) 0 := asc_get h.asc (Nat.lt_succ_self i) hi
theorem EndsOf.alikeA (h : EndsOf a b E) (hi : i + 1 < E.length) : ∀ t, E.getD i 0 ≤ t → t < E.getD (i + 1) 0 → (hasS a t ↔ hasS a (E.getD i 0)) := fun t h1 h2 => alike h.ina (next_end h.asc hi) h1 h2
theorem EndsOf.alikeB (h : EndsOf a b E) (hi : i + 1 < E.length) : ∀ t, E.getD i 0 ≤ t → t < E.getD (i + 1) 0 → (hasS b t ↔ hasS b (E.getD i 0)) := fun t h1 h2 => alike h.inb (next_end h.asc hi) h1 h2
theorem EndsOf.start (h : EndsOf a b E) : SetInv a b (E.getD 0 0) [] := SetInv.start fun s hs => first_end h.asc _ (h.ina s hs).1
theorem EndsOf.skip (h : EndsOf a b E) (hi : i + 1 < E.length) (k : SetInv a b (E.getD i 0) out) (hn : inB a (E.getD i 0) = false ∨ inB b (E.getD i 0) = true) : SetInv a b (E.getD (i + 1) 0) out :=
  k.skip (h.lt hi) (h.alikeA hi) (h.alikeB hi) (hn.elim (fun e => .inl ((inB_no _ _).1 e)) (fun e => .inr ((inB_iff _ _).1 e)))
theorem EndsOf.more (h : EndsOf a b E) (hi : i + 1 < E.length) (k : SetInv a b (E.getD i 0) out) (h1 : inB a (E.getD i 0) = true) (h2 : inB b (E.getD i 0) = false) (hl : ∀ l s, out = l ++ [s] → s.2 ≠ E.getD i 0) : SetInv a b (E.getD (i + 1) 0) (out ++ [(E.getD i 0, E.getD (i + 1) 0)]) :=
  k.more (h.lt hi) (h.alikeA hi) (h.alikeB hi) ⟨(inB_iff _ _).1 h1, (inB_no _ _).1 h2⟩ hl
theorem EndsOf.grow {x : Int} (h : EndsOf a b E) (hi : i + 1 < E.length) (k : SetInv a b (E.getD i 0) (out ++ [(x, E.getD i 0)])) (h1 : inB a (E.getD i 0) = true) (h2 : inB b (E.getD i 0) = false) : SetInv a b (E.getD (i + 1) 0) (out ++ [(x, E.getD (i + 1) 0)]) :=
  k.grow (h.lt hi) (h.alikeA hi) (h.alikeB hi) ⟨(inB_iff _ _).1 h1, (inB_no _ _).1 h2⟩
theorem EndsOf.done (h : EndsOf a b E) (k : SetInv a b (E.getD (E.length - 1) 0) out) : IsSet a b out := k.is fun s hs => last_end h.asc _ (h.ina s hs).2
end
/-- Spans of numbers of 64 bits. -/
theorem IsSet.bound {a b u : List Span} (h : IsSet a b u) {lo hi : Int} (ha : ∀ s ∈ a, lo ≤ s.1 ∧ s.2 ≤ hi) : ∀ s ∈ u, lo ≤ s.1 ∧ s.1 < s.2 ∧ s.2 ≤ hi := by
  intro s hs
  have ok := h.can.ok s hs
  obtain ⟨⟨r, hr, h1, _⟩, _⟩ := (h.mem s.1).1 ⟨s, hs, by omega, ok⟩
  obtain ⟨⟨q, hq, _, h2⟩, _⟩ := (h.mem (s.2 - 1)).1 ⟨s, hs, by omega, by omega⟩
  have := ha r hr
  have := ha q hq
  exact ⟨by omega, ok, by omega⟩
/-- Sums of the first spans stay below the last end. -/
theorem total_le : ∀ {l : List Span} {hi : Int}, Canon l → (∀ s ∈ l, 0 ≤ s.1 ∧ s.2 ≤ hi) → 0 ≤ hi → 0 ≤ totalS l ∧ totalS l ≤ hi := by
  intro l hi hc hb h0
  have h := total_cnt hc (fun s hs => (hb s hs).1) hi.toNat (fun s hs => by have := (hb s hs).2; omega)
  have hle : cntS (inB l) hi.toNat ≤ hi.toNat := by
    unfold cntS
    have := List.length_filter_le (fun t : Nat => inB l (t : Int)) (List.range hi.toNat)
    rwa [List.length_range] at this
  omega
theorem Canon.take {l : List Span} (h : Canon l) (k : Nat) : Canon (l.take k) := ⟨fun s hs => h.ok s (List.mem_of_mem_take hs), h.asc.sublist (List.take_sublist k l)⟩
end Go.Proofs.YtnmgcfpemmejlaaDoor
