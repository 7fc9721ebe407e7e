/- Sets of times as lists of spans: the mathematics. -/
import Derived.Lib.Hide
namespace Go.Proofs.YtnmgcfpemmejlaaDoor
set_option linter.unusedVariables false

abbrev Span := Int × Int
/-- A time lies in a span of the list. -/
def hasS (l : List Span) (t : Int) : Prop := ∃ s ∈ l, s.1 ≤ t ∧ t < s.2
/-- Ascending spans, none of which touches the next one. -/
structure Canon (l : List Span) : Prop where
  ok : ∀ s ∈ l, s.1 < s.2
  asc : l.Pairwise fun s r => s.2 < r.1
theorem hasS_nil (t : Int) : ¬ hasS [] t := by rintro ⟨s, h, _⟩; cases h
theorem hasS_cons (s : Span) (l : List Span) (t : Int) : hasS (s :: l) t ↔ (s.1 ≤ t ∧ t < s.2) ∨ hasS l t := by
  constructor
  · rintro ⟨r, hr, h⟩
    rcases List.mem_cons.1 hr with rfl | hr
    · exact .inl h
    · exact .inr ⟨r, hr, h⟩
  · rintro (h | ⟨r, hr, h⟩)
    · exact ⟨s, by simp, h⟩
    · exact ⟨r, by simp [hr], h⟩
theorem hasS_append (l m : List Span) (t : Int) : hasS (l ++ m) t ↔ hasS l t ∨ hasS m t := by
  constructor
  · rintro ⟨r, hr, h⟩
    rcases List.mem_append.1 hr with hr | hr
    · exact .inl ⟨r, hr, h⟩
    · exact .inr ⟨r, hr, h⟩
  · rintro (⟨r, hr, h⟩ | ⟨r, hr, h⟩)
    · exact ⟨r, by simp [hr], h⟩
    · exact ⟨r, by simp [hr], h⟩
theorem hasS_one (s : Span) (t : Int) : hasS [s] t ↔ s.1 ≤ t ∧ t < s.2 := by
  rw [hasS_cons]; exact ⟨fun h => h.elim id (fun h => absurd h (hasS_nil t)), .inl⟩
theorem hasS_perm {l m : List Span} (h : l.Perm m) (t : Int) : hasS l t ↔ hasS m t :=
  ⟨fun ⟨s, hs, h'⟩ => ⟨s, h.mem_iff.1 hs, h'⟩, fun ⟨s, hs, h'⟩ => ⟨s, h.mem_iff.2 hs, h'⟩⟩
theorem Canon.nil : Canon [] := ⟨by simp, List.Pairwise.nil⟩
theorem Canon.tail {s : Span} {l : List Span} (h : Canon (s :: l)) : Canon l := ⟨fun r hr => h.ok r (by simp [hr]), (List.pairwise_cons.1 h.asc).2⟩
theorem Canon.head {s : Span} {l : List Span} (h : Canon (s :: l)) : s.1 < s.2 ∧ ∀ r ∈ l, s.2 < r.1 := ⟨h.ok s (by simp), (List.pairwise_cons.1 h.asc).1⟩
theorem Canon.above {s : Span} {l : List Span} (h : Canon (s :: l)) {t : Int} (ht : hasS l t) : s.2 < t := by
  obtain ⟨r, hr, h1, _⟩ := ht
  have := h.head.2 r hr
  omega
theorem Canon.least {s : Span} {l : List Span} (h : Canon (s :: l)) {t : Int} (ht : hasS (s :: l) t) : s.1 ≤ t := by
  rcases (hasS_cons _ _ _).1 ht with h1 | h1
  · exact h1.1
  · have := h.above h1; have := h.head.1; omega
/-- The spans of a set of times are one list. -/
theorem canon_one : ∀ {u v : List Span}, Canon u → Canon v → (∀ t, hasS u t ↔ hasS v t) → u = v
  | [], [], _, _, _ => rfl
  | [], b :: v, _, hv, h => absurd ((h b.1).2 ((hasS_cons _ _ _).2 (.inl ⟨Int.le_refl _, hv.head.1⟩))) (hasS_nil _)
  | a :: u, [], hu, _, h => absurd ((h a.1).1 ((hasS_cons _ _ _).2 (.inl ⟨Int.le_refl _, hu.head.1⟩))) (hasS_nil _)
  | a :: u, b :: v, hu, hv, h => by
    have ha := hu.head.1
    have hb := hv.head.1
    have e1 : a.1 = b.1 := by
      have h1 := hv.least ((h a.1).1 ((hasS_cons _ _ _).2 (.inl ⟨Int.le_refl _, ha⟩)))
      have h2 := hu.least ((h b.1).2 ((hasS_cons _ _ _).2 (.inl ⟨Int.le_refl _, hb⟩)))
      omega
    have e2 : a.2 = b.2 := by
      rcases Int.lt_trichotomy a.2 b.2 with hlt | he | hlt
      · exfalso
        rcases (hasS_cons _ _ _).1 ((h a.2).2 ((hasS_cons _ _ _).2 (.inl ⟨by omega, hlt⟩))) with h1 | h1
        · omega
        · have := hu.above h1; omega
      · exact he
      · exfalso
        rcases (hasS_cons _ _ _).1 ((h b.2).1 ((hasS_cons _ _ _).2 (.inl ⟨by omega, hlt⟩))) with h1 | h1
        · omega
        · have := hv.above h1; omega
    have e : a = b := Prod.ext e1 e2
    subst e
    congr 1
    refine canon_one hu.tail hv.tail fun t => ⟨fun ht => ?_, fun ht => ?_⟩
    · rcases (hasS_cons _ _ _).1 ((h t).1 ((hasS_cons _ _ _).2 (.inr ht))) with h1 | h1
      · have := hu.above ht; omega
      · exact h1
    · rcases (hasS_cons _ _ _).1 ((h t).2 ((hasS_cons _ _ _).2 (.inr ht))) with h1 | h1
      · have := hv.above ht; omega
      · exact h1
theorem Canon.snoc {l : List Span} {s : Span} (h : Canon l) (hs : s.1 < s.2) (hl : ∀ r ∈ l, r.2 < s.1) : Canon (l ++ [s]) :=
  ⟨fun r hr => by
    rcases List.mem_append.1 hr with hr | hr
    · exact h.ok r hr
    · rw [List.mem_singleton.1 hr]; exact hs,
   List.pairwise_append.2 ⟨h.asc, List.pairwise_singleton _ _, fun r hr q hq => by rw [List.mem_singleton.1 hq]; exact hl r hr⟩⟩
theorem Canon.init {l : List Span} {s : Span} (h : Canon (l ++ [s])) : Canon l ∧ s.1 < s.2 ∧ ∀ r ∈ l, r.2 < s.1 :=
  ⟨⟨fun r hr => h.ok r (by simp [hr]), (List.pairwise_append.1 h.asc).1⟩, h.ok s (by simp), fun r hr => (List.pairwise_append.1 h.asc).2.2 r hr s (by simp)⟩
/-- The last span grows. -/
theorem Canon.grow {l : List Span} {x y z : Int} (h : Canon (l ++ [(x, y)])) (hz : y ≤ z) : Canon (l ++ [(x, z)]) := by
  obtain ⟨h1, h2, h3⟩ := h.init
  exact h1.snoc (by simp only at h2 ⊢; omega) h3

/-! ### Cutting at ends -/
/-- No end lies between p and q: all times of [p, q) lie in the same spans. -/
theorem alike {l : List Span} {E : List Int} (hE : ∀ s ∈ l, s.1 ∈ E ∧ s.2 ∈ E) {p q : Int} (hpq : ∀ x ∈ E, x ≤ p ∨ q ≤ x) {t : Int} (h1 : p ≤ t) (h2 : t < q) : hasS l t ↔ hasS l p := by
  constructor
  · rintro ⟨s, hs, a, b⟩
    have x := hpq _ (hE s hs).1
    have y := hpq _ (hE s hs).2
    exact ⟨s, hs, by omega, by omega⟩
  · rintro ⟨s, hs, a, b⟩
    have x := hpq _ (hE s hs).1
    have y := hpq _ (hE s hs).2
    exact ⟨s, hs, by omega, by omega⟩
/-- A number is put into an ascending list, if it is not there. -/
def insE (x : Int) (l : List Int) : List Int := if x ∈ l then l else l.filter (· < x) ++ x :: l.filter (x < ·)
theorem mem_insE (x y : Int) (l : List Int) : y ∈ insE x l ↔ y = x ∨ y ∈ l := by
  unfold insE
  split
  · rename_i h
    exact ⟨.inr, fun h' => h'.elim (fun e => e ▸ h) id⟩
  · rename_i h
    simp only [List.mem_append, List.mem_filter, List.mem_cons, decide_eq_true_eq]
    constructor
    · rintro (⟨h1, _⟩ | rfl | ⟨h1, _⟩)
      · exact .inr h1
      · exact .inl rfl
      · exact .inr h1
    · rintro (rfl | h1)
      · exact .inr (.inl rfl)
      · rcases Int.lt_trichotomy y x with h2 | h2 | h2
        · exact .inl ⟨h1, h2⟩
        · exact .inr (.inl h2)
        · exact .inr (.inr ⟨h1, h2⟩)
theorem asc_insE {x : Int} {l : List Int} (h : l.Pairwise (· < ·)) : (insE x l).Pairwise (· < ·) := by
  unfold insE
  split
  · exact h
  · refine List.pairwise_append.2 ⟨h.filter _, List.pairwise_cons.2 ⟨fun y hy => ?_, h.filter _⟩, fun a ha b hb => ?_⟩
    · simpa using (List.mem_filter.1 hy).2
    · have h1 : a < x := by simpa using (List.mem_filter.1 ha).2
      rcases List.mem_cons.1 hb with rfl | hb
      · exact h1
      · have h2 : x < b := by simpa using (List.mem_filter.1 hb).2
        omega
end Go.Proofs.YtnmgcfpemmejlaaDoor
