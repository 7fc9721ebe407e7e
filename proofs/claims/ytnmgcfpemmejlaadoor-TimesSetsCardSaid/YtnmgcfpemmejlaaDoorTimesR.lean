/- Spans that are sorted by their beginnings are joined; what is left of a span without others: the mathematics. -/
import Derived.Test.YtnmgcfpemmejlaaDoorTimesQ
namespace Go.Proofs.YtnmgcfpemmejlaaDoor
set_option linter.unusedVariables false

theorem take_snocS {l : List Span} {k : Nat} {s : Span} (h : l[k]? = some s) : l.take (k + 1) = l.take k ++ [s] := by
  obtain ⟨hk, e⟩ := List.getElem?_eq_some_iff.1 h
  rw [List.take_succ_eq_append_getElem hk, e]

/-! ### Joining -/
/-- After k of the spans d. -/
structure JoinInv (d : List Span) (k : Nat) (out : List Span) : Prop where
  can : Canon out
  mem : ∀ t, hasS out t ↔ hasS (d.take k) t
  st : ∀ r ∈ out, ∃ s ∈ d.take k, r.1 = s.1
  en : ∀ r ∈ out, ∃ s ∈ d.take k, r.2 = s.2
  len : out.length ≤ k
theorem JoinInv.start (d : List Span) : JoinInv d 0 [] := ⟨Canon.nil, by simp, by simp, by simp, by simp⟩
theorem sorted_before {d : List Span} (hs : d.Pairwise fun s r => s.1 ≤ r.1) {k : Nat} {s r : Span} (h : d[k]? = some s) (hr : r ∈ d.take k) : r.1 ≤ s.1 := by
  obtain ⟨hk, e⟩ := List.getElem?_eq_some_iff.1 h
  obtain ⟨i, hi, e2⟩ := List.mem_take_iff_getElem.1 hr
  have := List.pairwise_iff_getElem.1 hs i k (by omega) hk (by omega)
  rw [e, e2] at this
  exact this
theorem JoinInv.more {d out : List Span} {k : Nat} {s : Span} (h : JoinInv d k out) (hk : d[k]? = some s) (ok : s.1 < s.2) (hl : ∀ o r, out = o ++ [r] → r.2 < s.1) : JoinInv d (k + 1) (out ++ [s]) := by
  have hlt : ∀ r ∈ out, r.2 < s.1 := by
    intro r hr
    rcases List.eq_nil_or_concat out with rfl | ⟨o, q, rfl⟩
    · cases hr
    · rw [List.concat_eq_append] at *
      have hq := hl o q rfl
      rcases List.mem_append.1 hr with hr | hr
      · have h1 := h.can.init.2.2 r hr
        have h2 := h.can.init.2.1
        omega
      · rw [List.mem_singleton.1 hr]; exact hq
  refine ⟨h.can.snoc ok hlt, fun t => ?_, fun r hr => ?_, fun r hr => ?_, by rw [List.length_append, List.length_singleton]; have := h.len; omega⟩
  · rw [take_snocS hk, hasS_append, hasS_append, h.mem t]
  · rw [take_snocS hk]
    rcases List.mem_append.1 hr with hr | hr
    · obtain ⟨q, hq, e⟩ := h.st r hr; exact ⟨q, List.mem_append_left _ hq, e⟩
    · rw [List.mem_singleton.1 hr]; exact ⟨s, by simp, rfl⟩
  · rw [take_snocS hk]
    rcases List.mem_append.1 hr with hr | hr
    · obtain ⟨q, hq, e⟩ := h.en r hr; exact ⟨q, List.mem_append_left _ hq, e⟩
    · rw [List.mem_singleton.1 hr]; exact ⟨s, by simp, rfl⟩
theorem JoinInv.grow {d o : List Span} {k : Nat} {s : Span} {x y : Int} (h : JoinInv d k (o ++ [(x, y)])) (hs : d.Pairwise fun s r => s.1 ≤ r.1) (hk : d[k]? = some s) (ok : s.1 < s.2) (hl : s.1 ≤ y) : JoinInv d (k + 1) (o ++ [(x, max y s.2)]) := by
  have hx : x ≤ s.1 := by
    obtain ⟨q, hq, e⟩ := h.st (x, y) (by simp)
    have := sorted_before hs hk hq
    simp only at e; omega
  have hxy : x < y := by have := h.can.init.2.1; exact this
  refine ⟨h.can.grow (by omega), fun t => ?_, fun r hr => ?_, fun r hr => ?_, by have := h.len; rw [List.length_append, List.length_singleton] at this ⊢; omega⟩
  · have hm := h.mem t
    rw [hasS_append, hasS_one] at hm
    rw [take_snocS hk, hasS_append, hasS_append, hasS_one, hasS_one, ← hm]
    simp only
    constructor
    · rintro (h1 | ⟨h1, h2⟩)
      · exact .inl (.inl h1)
      · rcases Int.lt_or_le t y with h3 | h3
        · exact .inl (.inr ⟨h1, h3⟩)
        · exact .inr (by omega)
    · rintro ((h1 | ⟨h1, h2⟩) | ⟨h1, h2⟩)
      · exact .inl h1
      · exact .inr (by omega)
      · exact .inr (by omega)
  · rw [take_snocS hk]
    rcases List.mem_append.1 hr with hr | hr
    · obtain ⟨q, hq, e⟩ := h.st r (by simp [hr]); exact ⟨q, List.mem_append_left _ hq, e⟩
    · rw [List.mem_singleton.1 hr]
      obtain ⟨q, hq, e⟩ := h.st (x, y) (by simp)
      exact ⟨q, List.mem_append_left _ hq, e⟩
  · rw [take_snocS hk]
    rcases List.mem_append.1 hr with hr | hr
    · obtain ⟨q, hq, e⟩ := h.en r (by simp [hr]); exact ⟨q, List.mem_append_left _ hq, e⟩
    · rw [List.mem_singleton.1 hr]
      rcases Int.le_total y s.2 with h1 | h1
      · exact ⟨s, by simp, by simp only; omega⟩
      · obtain ⟨q, hq, e⟩ := h.en (x, y) (by simp)
        exact ⟨q, List.mem_append_left _ hq, by simp only at e ⊢; omega⟩
theorem JoinInv.done {d out l : List Span} {k : Nat} (h : JoinInv d k out) (hk : ¬ k < d.length) (hp : d.Perm l) : IsSet l [] out :=
  ⟨h.can, fun t => by
    rw [h.mem t, List.take_of_length_le (by omega), hasS_perm hp]
    exact ⟨fun h => ⟨h, hasS_nil t⟩, fun h => h.1⟩⟩

/-! ### What is left of one span -/
/-- After k of the spans W: from is where what is left goes on. -/
structure LeftInv (L0 W : List Span) (s : Span) (k : Nat) (fr : Int) (out : List Span) : Prop where
  lo : s.1 ≤ fr
  above : ∀ x ∈ W.take k, x.2 ≤ fr
  src : fr = s.1 ∨ ∃ x ∈ W.take k, fr = x.2
  can : Canon out
  lt : ∀ r ∈ out, r.2 < fr
  mem : ∀ t, hasS out t ↔ hasS L0 t ∨ (s.1 ≤ t ∧ t < s.2 ∧ t < fr ∧ ¬ hasS W t)
  len : out.length ≤ L0.length + k
theorem LeftInv.start {L0 W : List Span} {s : Span} (hc : Canon L0) (hl : ∀ r ∈ L0, r.2 < s.1) : LeftInv L0 W s 0 s.1 L0 :=
  ⟨Int.le_refl _, by simp, .inl rfl, hc, hl, fun t => ⟨.inl, fun h => h.elim id fun h => by omega⟩, by simp⟩
section
variable {L0 W out : List Span} {s x : Span} {k : Nat} {fr : Int}
/-- Which times from fr on, below the end of W's next span, are in W. -/
theorem inW (hW : Canon W) (ha : ∀ y ∈ W.take k, y.2 ≤ fr) (hk : W[k]? = some x) {t : Int} (h1 : fr ≤ t) (h2 : t < x.2) : hasS W t ↔ x.1 ≤ t := by
  obtain ⟨hkl, e⟩ := List.getElem?_eq_some_iff.1 hk
  constructor
  · rintro ⟨y, hy, h3, h4⟩
    obtain ⟨j, hj, ey⟩ := List.mem_iff_getElem.1 hy
    rcases Nat.lt_trichotomy j k with h5 | h5 | h5
    · have := ha y (List.mem_take_iff_getElem.2 ⟨j, by omega, ey⟩)
      omega
    · subst h5; rw [e] at ey; rw [ey]; exact h3
    · have := List.pairwise_iff_getElem.1 hW.asc k j hkl hj h5
      rw [e, ey] at this; omega
  · intro h3
    exact ⟨x, List.mem_iff_getElem.2 ⟨k, hkl, e⟩, h3, h2⟩
theorem LeftInv.next (h : LeftInv L0 W s k fr out) (hW : Canon W) (hk : W[k]? = some x) (out' : List Span) (hc : Canon out') (hl : ∀ r ∈ out', r.2 < max fr x.2) (hlen : out'.length ≤ out.length + 1)
    (hm : ∀ t, hasS out' t ↔ hasS out t ∨ (fr ≤ t ∧ t < min x.1 s.2)) : LeftInv L0 W s (k + 1) (max fr x.2) out' := by
  have ok : x.1 < x.2 := hW.ok x (List.mem_of_getElem? hk)
  have hlo := h.lo
  refine ⟨by omega, fun y hy => ?_, ?_, hc, hl, fun t => ?_, by have := h.len; omega⟩
  · rw [take_snocS hk] at hy
    rcases List.mem_append.1 hy with hy | hy
    · have := h.above y hy; omega
    · rw [List.mem_singleton.1 hy]; omega
  · rw [take_snocS hk]
    rcases Int.le_total fr x.2 with h1 | h1
    · exact .inr ⟨x, by simp, by omega⟩
    · rw [show max fr x.2 = fr by omega]
      rcases h.src with h2 | ⟨y, hy, e⟩
      · exact .inl h2
      · exact .inr ⟨y, List.mem_append_left _ hy, e⟩
  · rw [hm t, h.mem t]
    constructor
    · rintro ((h1 | ⟨h1, h2, h3, h4⟩) | ⟨h1, h2⟩)
      · exact .inl h1
      · exact .inr ⟨h1, h2, by omega, h4⟩
      · refine .inr ⟨by omega, by omega, by omega, fun h5 => ?_⟩
        have := (inW hW h.above hk h1 (by omega)).1 h5
        omega
    · rintro (h1 | ⟨h1, h2, h3, h4⟩)
      · exact .inl (.inl h1)
      · rcases Int.lt_or_le t fr with h5 | h5
        · exact .inl (.inr ⟨h1, h2, h5, h4⟩)
        · have h6 : ¬ x.1 ≤ t := fun h6 => h4 ((inW hW h.above hk h5 (by omega)).2 h6)
          exact .inr (by omega)
theorem LeftInv.yes (h : LeftInv L0 W s k fr out) (hW : Canon W) (hk : W[k]? = some x) (hlt : fr < min x.1 s.2) : LeftInv L0 W s (k + 1) (max fr x.2) (out ++ [(fr, min x.1 s.2)]) := by
  have ok : x.1 < x.2 := hW.ok x (List.mem_of_getElem? hk)
  refine h.next hW hk _ (h.can.snoc hlt h.lt) (fun r hr => ?_) (by simp) (fun t => by rw [hasS_append, hasS_one])
  rcases List.mem_append.1 hr with hr | hr
  · have := h.lt r hr; omega
  · rw [List.mem_singleton.1 hr]; simp only; omega
theorem LeftInv.no (h : LeftInv L0 W s k fr out) (hW : Canon W) (hk : W[k]? = some x) (hlt : ¬ fr < min x.1 s.2) : LeftInv L0 W s (k + 1) (max fr x.2) out :=
  h.next hW hk _ h.can (fun r hr => by have := h.lt r hr; omega) (by simp) (fun t => ⟨.inl, fun h => h.elim id fun h => by omega⟩)
/-- What is left of s lies behind the others. -/
structure LeftOf (L0 W : List Span) (s : Span) (out : List Span) : Prop where
  can : Canon out
  mem : ∀ t, hasS out t ↔ hasS L0 t ∨ (s.1 ≤ t ∧ t < s.2 ∧ ¬ hasS W t)
  len : out.length ≤ L0.length + W.length + 1
theorem LeftInv.lastMem (h : LeftInv L0 W s k fr out) (hk : ¬ k < W.length) {t : Int} (h1 : fr ≤ t) : ¬ hasS W t := by
  rintro ⟨y, hy, h3, h4⟩
  have := h.above y (by rw [List.take_of_length_le (by omega)]; exact hy)
  omega
theorem LeftInv.endSome (h : LeftInv L0 W s k fr out) (hk : k = W.length) (hlt : fr < s.2) : LeftOf L0 W s (out ++ [(fr, s.2)]) := by
  have hlo := h.lo
  refine ⟨h.can.snoc hlt h.lt, fun t => ?_, by have := h.len; rw [List.length_append, List.length_singleton]; omega⟩
  rw [hasS_append, hasS_one, h.mem t]
  simp only
  constructor
  · rintro ((h1 | ⟨h1, h2, h3, h4⟩) | ⟨h1, h2⟩)
    · exact .inl h1
    · exact .inr ⟨h1, h2, h4⟩
    · exact .inr ⟨by omega, h2, h.lastMem (by omega) h1⟩
  · rintro (h1 | ⟨h1, h2, h3⟩)
    · exact .inl (.inl h1)
    · rcases Int.lt_or_le t fr with h5 | h5
      · exact .inl (.inr ⟨h1, h2, h5, h3⟩)
      · exact .inr ⟨h5, h2⟩
theorem LeftInv.endNone (h : LeftInv L0 W s k fr out) (hk : k = W.length) (hlt : ¬ fr < s.2) : LeftOf L0 W s out := by
  refine ⟨h.can, fun t => ?_, by have := h.len; omega⟩
  rw [h.mem t]
  constructor
  · rintro (h1 | ⟨h1, h2, h3, h4⟩)
    · exact .inl h1
    · exact .inr ⟨h1, h2, h4⟩
  · rintro (h1 | ⟨h1, h2, h3⟩)
    · exact .inl h1
    · exact .inr ⟨h1, h2, by omega, h3⟩
end

/-! ### What is left of all -/
structure MinusInv (U W : List Span) (k : Nat) (out : List Span) : Prop where
  can : Canon out
  mem : ∀ t, hasS out t ↔ hasS (U.take k) t ∧ ¬ hasS W t
  len : out.length ≤ k * (W.length + 1)
theorem MinusInv.start (U W : List Span) : MinusInv U W 0 [] := ⟨Canon.nil, fun t => by simp [hasS_nil], by simp⟩
theorem MinusInv.before {U W out : List Span} {k : Nat} {s : Span} (h : MinusInv U W k out) (hU : Canon U) (hk : U[k]? = some s) : ∀ r ∈ out, r.2 < s.1 := by
  intro r hr
  have ok := h.can.ok r hr
  obtain ⟨⟨u, hu, h1, h2⟩, _⟩ := (h.mem (r.2 - 1)).1 ⟨r, hr, by omega, by omega⟩
  obtain ⟨hkl, e⟩ := List.getElem?_eq_some_iff.1 hk
  obtain ⟨i, hi, e2⟩ := List.mem_take_iff_getElem.1 hu
  have := List.pairwise_iff_getElem.1 hU.asc i k (by omega) hkl (by omega)
  rw [e, e2] at this
  omega
theorem MinusInv.step {U W out out' : List Span} {k : Nat} {s : Span} (h : MinusInv U W k out) (hk : U[k]? = some s) (hl : LeftOf out W s out') : MinusInv U W (k + 1) out' := by
  refine ⟨hl.can, fun t => ?_, ?_⟩
  · rw [hl.mem t, h.mem t, take_snocS hk, hasS_append, hasS_one]
    constructor
    · rintro (⟨h1, h2⟩ | ⟨h1, h2, h3⟩)
      · exact ⟨.inl h1, h2⟩
      · exact ⟨.inr ⟨h1, h2⟩, h3⟩
    · rintro ⟨h1 | ⟨h1, h2⟩, h3⟩
      · exact .inl ⟨h1, h3⟩
      · exact .inr ⟨h1, h2, h3⟩
  · have h1 := hl.len; have h2 := h.len
    rw [Nat.succ_mul]; omega
theorem MinusInv.done {a b U W out : List Span} {k : Nat} (h : MinusInv U W k out) (hk : ¬ k < U.length) (hU : IsSet a [] U) (hW : IsSet b [] W) : IsSet a b out :=
  ⟨h.can, fun t => by
    have hn := hasS_nil t
    rw [h.mem t, List.take_of_length_le (by omega), hU.mem, hW.mem]
    simp [hn]⟩

/-! ### How many spans a set has -/
theorem nodup_le : ∀ {l m : List Int}, l.Nodup → (∀ x ∈ l, x ∈ m) → l.length ≤ m.length
  | [], _, _, _ => by simp
  | x :: l, m, hn, hs => by
    have hx := hs x (by simp)
    have hn' := List.nodup_cons.1 hn
    have ih := nodup_le (l := l) (m := m.erase x) hn'.2 (fun y hy => (List.mem_erase_of_ne (fun e => hn'.1 (by rw [← e]; exact hy))).2 (hs y (by simp [hy])))
    rw [List.length_erase_of_mem hx] at ih
    have := List.length_pos_of_mem hx
    rw [List.length_cons]; omega
/-- A set begins where a span of a begins, or where one of b ends. -/
theorem IsSet.begins {a b u : List Span} (h : IsSet a b u) : ∀ r ∈ u, r.1 ∈ a.map (·.1) ++ b.map (·.2) := by
  intro r hr
  have ok := h.can.ok r hr
  obtain ⟨h1, h2⟩ := (h.mem r.1).1 ⟨r, hr, by omega, ok⟩
  have h3 : ¬ hasS u (r.1 - 1) := by
    rintro ⟨q, hq, a1, a2⟩
    obtain ⟨i, hi, e1⟩ := List.mem_iff_getElem.1 hq
    obtain ⟨j, hj, e2⟩ := List.mem_iff_getElem.1 hr
    rcases Nat.lt_trichotomy i j with hij | hij | hij
    · have := List.pairwise_iff_getElem.1 h.can.asc i j hi hj hij
      rw [e1, e2] at this; omega
    · subst hij; rw [e1] at e2; subst e2; omega
    · have := List.pairwise_iff_getElem.1 h.can.asc j i hj hi hij
      rw [e1, e2] at this; omega
  by_cases ha : hasS a (r.1 - 1)
  · have hb : hasS b (r.1 - 1) := by
      by_cases hb : hasS b (r.1 - 1)
      · exact hb
      · exact absurd ((h.mem _).2 ⟨ha, hb⟩) h3
    obtain ⟨x, hx, x1, x2⟩ := hb
    refine List.mem_append_right _ (List.mem_map.2 ⟨x, hx, ?_⟩)
    rcases Int.lt_or_le r.1 x.2 with h4 | h4
    · exact absurd ⟨x, hx, by omega, h4⟩ h2
    · omega
  · obtain ⟨s, hs, s1, s2⟩ := h1
    refine List.mem_append_left _ (List.mem_map.2 ⟨s, hs, ?_⟩)
    rcases Int.lt_or_le s.1 r.1 with h4 | h4
    · exact absurd ⟨s, hs, by omega, by omega⟩ ha
    · omega
theorem Canon.nodup {u : List Span} (h : Canon u) : (u.map (·.1)).Nodup := by
  rw [List.Nodup, List.pairwise_map]
  refine List.Pairwise.imp_of_mem (fun {s r} hs hr hlt => ?_) h.asc
  have := h.ok s hs
  omega
theorem IsSet.count {a b u : List Span} (h : IsSet a b u) : u.length ≤ a.length + b.length := by
  have := nodup_le h.can.nodup (m := a.map (·.1) ++ b.map (·.2)) (fun x hx => by
    obtain ⟨r, hr, rfl⟩ := List.mem_map.1 hx
    exact h.begins r hr)
  simpa using this

/-! ### What is wrong with a list -/
def chkS (s : Span) : Int := if s.1 < 0 ∨ s.2 < 0 then 7 else if s.2 ≤ s.1 then 6 else 0
def lstS : List Span → Int
  | [] => 0
  | s :: l => if chkS s = 0 then lstS l else chkS s
theorem chkS_ok {s : Span} : chkS s = 0 ↔ 0 ≤ s.1 ∧ s.1 < s.2 := by
  unfold chkS
  split
  · constructor
    · intro h; cases h
    · intro h; omega
  · split
    · constructor
      · intro h; cases h
      · intro h; omega
    · constructor
      · intro _; omega
      · intro _; rfl
theorem lstS_ok : ∀ {l : List Span}, lstS l = 0 ↔ ∀ s ∈ l, 0 ≤ s.1 ∧ s.1 < s.2
  | [] => by simp [lstS]
  | s :: l => by
    rw [lstS]
    split
    · rename_i h
      rw [lstS_ok]
      have := chkS_ok.1 h
      simp [this]
    · rename_i h
      constructor
      · intro h2; exact absurd h2 h
      · intro h2; exact absurd (chkS_ok.2 (h2 s (by simp))) h
theorem lstS_step {l : List Span} {k : Nat} {s : Span} (h : l[k]? = some s) (h0 : lstS (l.take k) = 0) : chkS s = 0 → lstS (l.take (k + 1)) = 0 := by
  intro h1
  rw [lstS_ok] at h0 ⊢
  rw [take_snocS h]
  intro r hr
  rcases List.mem_append.1 hr with hr | hr
  · exact h0 r hr
  · rw [List.mem_singleton.1 hr]; exact chkS_ok.1 h1
theorem lstS_app : ∀ {l m : List Span}, lstS (l ++ m) = if lstS l = 0 then lstS m else lstS l
  | [], m => by simp [lstS]
  | s :: l, m => by
    rw [List.cons_append, lstS, lstS_app, lstS]
    by_cases h : chkS s = 0
    · rw [if_pos h, if_pos h]
    · rw [if_neg h, if_neg h, if_neg h]
theorem lstS_bad {l : List Span} {k : Nat} {s : Span} (h : l[k]? = some s) (h0 : lstS (l.take k) = 0) (h1 : chkS s ≠ 0) : lstS l = chkS s := by
  obtain ⟨hk, e⟩ := List.getElem?_eq_some_iff.1 h
  have : l = l.take k ++ s :: l.drop (k + 1) := by rw [← e, ← List.drop_eq_getElem_cons hk, List.take_append_drop]
  rw [this, lstS_app, if_pos h0, lstS, if_neg h1]
/-- What Minus returns as an error. -/
def errS (a b : List Span) : Int := if 200 < a.length ∨ 200 < b.length then 3 else if lstS a = 0 then lstS b else lstS a
theorem errS_ok {a b : List Span} : errS a b = 0 ↔ (a.length ≤ 200 ∧ b.length ≤ 200) ∧ (∀ s ∈ a, 0 ≤ s.1 ∧ s.1 < s.2) ∧ ∀ s ∈ b, 0 ≤ s.1 ∧ s.1 < s.2 := by
  unfold errS
  split
  · constructor
    · intro h; cases h
    · intro h; omega
  · rename_i h0
    have h0' : a.length ≤ 200 ∧ b.length ≤ 200 := by omega
    split
    · rename_i h
      have h1 := lstS_ok.1 h
      rw [lstS_ok]
      exact ⟨fun h2 => ⟨h0', h1, h2⟩, fun h2 => h2.2.2⟩
    · rename_i h
      constructor
      · intro h2; exact absurd h2 h
      · intro h2; exact absurd (lstS_ok.2 h2.2.1) h
end Go.Proofs.YtnmgcfpemmejlaaDoor
