/- Sets of times: what a sweep over the ends keeps; how many times a list has. -/
import Derived.Test.YtnmgcfpemmejlaaDoorTimesM
namespace Go.Proofs.YtnmgcfpemmejlaaDoor
set_option linter.unusedVariables false

def inB (l : List Span) (t : Int) : Bool := l.any fun s => decide (s.1 ≤ t) && decide (t < s.2)
theorem inB_iff (l : List Span) (t : Int) : inB l t = true ↔ hasS l t := by
  unfold inB hasS
  simp [List.any_eq_true]
theorem inB_no (l : List Span) (t : Int) : inB l t = false ↔ ¬ hasS l t := by
  rw [← inB_iff]; simp

/-- The times below p that a has and b has not. -/
structure SetInv (a b : List Span) (p : Int) (out : List Span) : Prop where
  can : Canon out
  le : ∀ r ∈ out, r.2 ≤ p
  mem : ∀ t, hasS out t ↔ t < p ∧ hasS a t ∧ ¬ hasS b t
theorem SetInv.start {a b : List Span} {p : Int} (h : ∀ s ∈ a, p ≤ s.1) : SetInv a b p [] :=
  ⟨Canon.nil, by simp, fun t => ⟨fun h => absurd h (hasS_nil t), fun ⟨h1, ⟨s, hs, h2, _⟩, _⟩ => by have := h s hs; omega⟩⟩
section
variable {a b out : List Span} {p q x : Int}
theorem SetInv.skip (h : SetInv a b p out) (hpq : p < q) (ha : ∀ t, p ≤ t → t < q → (hasS a t ↔ hasS a p)) (hb : ∀ t, p ≤ t → t < q → (hasS b t ↔ hasS b p)) (hn : ¬ hasS a p ∨ hasS b p) : SetInv a b q out := by
  refine ⟨h.can, fun r hr => by have := h.le r hr; omega, fun t => ⟨fun ht => ?_, fun ⟨h1, h2, h3⟩ => ?_⟩⟩
  · obtain ⟨h1, h2⟩ := (h.mem t).1 ht
    exact ⟨by omega, h2⟩
  · rcases Int.lt_or_le t p with h4 | h4
    · exact (h.mem t).2 ⟨h4, h2, h3⟩
    · rw [ha t h4 h1] at h2
      rw [hb t h4 h1] at h3
      exact absurd h2 (hn.elim id (fun h => absurd h h3))
theorem SetInv.into (h : SetInv a b p out) (hpq : p < q) (ha : ∀ t, p ≤ t → t < q → (hasS a t ↔ hasS a p)) (hb : ∀ t, p ≤ t → t < q → (hasS b t ↔ hasS b p)) (hin : hasS a p ∧ ¬ hasS b p) (t : Int) : (hasS out t ∨ p ≤ t ∧ t < q) ↔ t < q ∧ hasS a t ∧ ¬ hasS b t := by
  constructor
  · rintro (ht | ⟨h1, h2⟩)
    · obtain ⟨h1, h2⟩ := (h.mem t).1 ht
      exact ⟨by omega, h2⟩
    · exact ⟨h2, (ha t h1 h2).2 hin.1, fun h3 => hin.2 ((hb t h1 h2).1 h3)⟩
  · rintro ⟨h1, h2⟩
    rcases Int.lt_or_le t p with h4 | h4
    · exact .inl ((h.mem t).2 ⟨h4, h2⟩)
    · exact .inr ⟨h4, h1⟩
/-- The last span ends before p: a new one. -/
theorem SetInv.more (h : SetInv a b p out) (hpq : p < q) (ha : ∀ t, p ≤ t → t < q → (hasS a t ↔ hasS a p)) (hb : ∀ t, p ≤ t → t < q → (hasS b t ↔ hasS b p)) (hin : hasS a p ∧ ¬ hasS b p) (hl : ∀ l s, out = l ++ [s] → s.2 ≠ p) : SetInv a b q (out ++ [(p, q)]) := by
  have hlt : ∀ r ∈ out, r.2 < p := by
    intro r hr
    have hle := h.le r hr
    rcases List.eq_nil_or_concat out with rfl | ⟨l, s, rfl⟩
    · cases hr
    · rw [List.concat_eq_append] at *
      have hs := hl l s rfl
      have hs2 := h.le s (by simp)
      rcases List.mem_append.1 hr with hr | hr
      · have h1 := h.can.init.2.2 r hr
        have h2 := h.can.init.2.1
        omega
      · rw [List.mem_singleton.1 hr]; omega
  refine ⟨h.can.snoc hpq hlt, fun r hr => ?_, fun t => ?_⟩
  · rcases List.mem_append.1 hr with hr | hr
    · have := h.le r hr; omega
    · rw [List.mem_singleton.1 hr]; exact Int.le_refl _
  · rw [hasS_append, hasS_one]; exact h.into hpq ha hb hin t
/-- The last span ends at p: it grows. -/
theorem SetInv.grow (h : SetInv a b p (out ++ [(x, p)])) (hpq : p < q) (ha : ∀ t, p ≤ t → t < q → (hasS a t ↔ hasS a p)) (hb : ∀ t, p ≤ t → t < q → (hasS b t ↔ hasS b p)) (hin : hasS a p ∧ ¬ hasS b p) : SetInv a b q (out ++ [(x, q)]) := by
  refine ⟨h.can.grow (by omega), fun r hr => ?_, fun t => ?_⟩
  · rcases List.mem_append.1 hr with hr | hr
    · have := h.le r (by simp [hr]); omega
    · rw [List.mem_singleton.1 hr]; exact Int.le_refl _
  · rw [← h.into hpq ha hb hin t, hasS_append, hasS_append, hasS_one, hasS_one]
    have hx := h.can.init.2.1
    simp only at hx ⊢
    constructor
    · rintro (h1 | ⟨h1, h2⟩)
      · exact .inl (.inl h1)
      · rcases Int.lt_or_le t p with h4 | h4
        · exact .inl (.inr ⟨h1, h4⟩)
        · exact .inr ⟨h4, h2⟩
    · rintro ((h1 | ⟨h1, h2⟩) | ⟨h1, h2⟩)
      · exact .inl h1
      · exact .inr ⟨h1, by omega⟩
      · exact .inr ⟨by omega, h2⟩
theorem SetInv.done (h : SetInv a b p out) (hp : ∀ s ∈ a, s.2 ≤ p) (t : Int) : hasS out t ↔ hasS a t ∧ ¬ hasS b t := by
  rw [h.mem t]
  exact ⟨fun h => h.2, fun h => ⟨by obtain ⟨⟨s, hs, _, h2⟩, _⟩ := h; have := hp s hs; omega, h⟩⟩
end

/-- The spans of the times that a has, and b has not. -/
structure IsSet (a b out : List Span) : Prop where
  can : Canon out
  mem : ∀ t, hasS out t ↔ hasS a t ∧ ¬ hasS b t
theorem SetInv.is {a b out : List Span} {p : Int} (h : SetInv a b p out) (hp : ∀ s ∈ a, s.2 ≤ p) : IsSet a b out := ⟨h.can, h.done hp⟩
theorem IsSet.one {a b u v : List Span} (h : IsSet a b u) (k : IsSet a b v) : u = v := canon_one h.can k.can fun t => (h.mem t).trans (k.mem t).symm
theorem IsSet.same {a b a' b' u v : List Span} (h : IsSet a b u) (k : IsSet a' b' v) (e : ∀ t, hasS a t ∧ ¬ hasS b t ↔ hasS a' t ∧ ¬ hasS b' t) : u = v := canon_one h.can k.can fun t => (h.mem t).trans ((e t).trans (k.mem t).symm)
/-- Union of Union is the same. -/
theorem IsSet.again {a u v : List Span} (h : IsSet a [] u) (k : IsSet u [] v) : u = v :=
  h.same k fun t => by rw [h.mem t]; simp [hasS_nil]

/-! ### How many times -/
def totalS (l : List Span) : Int := (l.map fun s => s.2 - s.1).sum
/-- How many of the times from 0 on, below n, a list has. -/
def cntS (f : Int → Bool) (n : Nat) : Nat := ((List.range n).filter fun t : Nat => f (t : Int)).length
theorem cntS_succ (f : Int → Bool) (n : Nat) : cntS f (n + 1) = cntS f n + (if f (n : Int) then 1 else 0) := by
  unfold cntS
  rw [List.range_succ, List.filter_append, List.length_append]
  by_cases h : f (n : Int) = true
  · rw [if_pos h]; simp [h]
  · rw [if_neg h]; simp [h]
theorem cntS_congr {f g : Int → Bool} (h : ∀ t : Int, f t = g t) (n : Nat) : cntS f n = cntS g n := by
  rw [show f = g from funext h]
theorem cntS_split (f g h : Int → Bool) (e : ∀ t, f t = (g t || h t)) (d : ∀ t, (g t && h t) = false) (n : Nat) : cntS f n = cntS g n + cntS h n := by
  induction n with
  | zero => rfl
  | succ n ih =>
    rw [cntS_succ, cntS_succ, cntS_succ, ih]
    have e1 := e (n : Int)
    have d1 := d (n : Int)
    cases hg : g (n : Int) <;> cases hh : h (n : Int) <;> rw [hg, hh] at e1 d1 <;> simp at e1 d1 <;> simp [e1] <;> omega
theorem cntS_span (s : Span) (h0 : 0 ≤ s.1) (h1 : s.1 ≤ s.2) (n : Nat) : (cntS (fun t => decide (s.1 ≤ t) && decide (t < s.2)) n : Int) = min (n : Int) s.2 - min (n : Int) s.1 := by
  induction n with
  | zero => simp only [cntS]; simp; omega
  | succ n ih =>
    rw [cntS_succ]
    by_cases h : s.1 ≤ (n : Int) ∧ (n : Int) < s.2
    · rw [if_pos (by simp [h.1, h.2])]; push_cast; omega
    · rw [if_neg (by simp; omega)]; push_cast; omega
theorem total_cnt : ∀ {l : List Span}, Canon l → (∀ s ∈ l, 0 ≤ s.1) → ∀ n : Nat, (∀ s ∈ l, s.2 ≤ n) → totalS l = cntS (inB l) n
  | [], _, _, n, _ => by
    have : cntS (inB []) n = 0 := by
      induction n with
      | zero => rfl
      | succ n ih => rw [cntS_succ, ih (by simp)]; simp [inB]
    rw [this]; rfl
  | s :: l, h, h0, n, hn => by
    have ih := total_cnt h.tail (fun r hr => h0 r (by simp [hr])) n (fun r hr => hn r (by simp [hr]))
    have h1 := h0 s (by simp)
    have h2 := hn s (by simp)
    have h3 := h.head.1
    have e : cntS (inB (s :: l)) n = cntS (fun t => decide (s.1 ≤ t) && decide (t < s.2)) n + cntS (inB l) n := by
      refine cntS_split _ _ _ (fun t => by simp [inB]) (fun t => ?_) n
      cases hl : inB l t with
      | false => simp
      | true =>
        have := h.above ((inB_iff l t).1 hl)
        simp; omega
    have c := cntS_span s h1 (by omega) n
    unfold totalS at ih ⊢
    rw [List.map_cons, List.sum_cons, ih, e]
    push_cast
    omega
/-- What is left and what is taken away are together all. -/
theorem total_parts {a b u m k : List Span} (hu : IsSet a [] u) (hm : IsSet a b m) (hk : IsSet a m k) (h0 : ∀ s ∈ a, 0 ≤ s.1) (n : Nat) (hn : ∀ s ∈ a, s.2 ≤ n) : totalS u = totalS m + totalS k := by
  have lo : ∀ {b v : List Span}, IsSet a b v → ∀ s ∈ v, 0 ≤ s.1 ∧ s.2 ≤ n := by
    intro b v hv s hs
    have ok := hv.can.ok s hs
    obtain ⟨⟨r, hr, h1, _⟩, _⟩ := (hv.mem s.1).1 ⟨s, hs, by omega, ok⟩
    obtain ⟨⟨q, hq, _, h2⟩, _⟩ := (hv.mem (s.2 - 1)).1 ⟨s, hs, by omega, by omega⟩
    have h3 := h0 r hr
    have h4 := hn q hq
    exact ⟨by omega, by omega⟩
  rw [total_cnt hu.can (fun s hs => (lo hu s hs).1) n (fun s hs => (lo hu s hs).2), total_cnt hm.can (fun s hs => (lo hm s hs).1) n (fun s hs => (lo hm s hs).2), total_cnt hk.can (fun s hs => (lo hk s hs).1) n (fun s hs => (lo hk s hs).2)]
  rw [cntS_split (inB u) (inB m) (inB k) ?_ ?_ n]
  · push_cast; rfl
  · intro t
    rw [Bool.eq_iff_iff, Bool.or_eq_true, inB_iff, inB_iff, inB_iff, hu.mem, hm.mem, hk.mem, hm.mem]
    have := hasS_nil t
    by_cases h1 : hasS a t <;> by_cases h2 : hasS b t <;> simp [h1, h2, this]
  · intro t
    have h1 := hk.mem t
    cases hx : inB m t with
    | false => rfl
    | true =>
      cases hy : inB k t with
      | false => rfl
      | true => exact absurd ((inB_iff m t).1 hx) ((h1.1 ((inB_iff k t).1 hy)).2)
end Go.Proofs.YtnmgcfpemmejlaaDoor
