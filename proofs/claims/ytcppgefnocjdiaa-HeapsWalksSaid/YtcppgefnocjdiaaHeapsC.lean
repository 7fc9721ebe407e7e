/- A queue in memory; Len, has, Less. -/
import Derived.Test.YtcppgefnocjdiaaHeapsB
import Derived.Laws.OwnMore
import Derived.Lib.SmallJoins
namespace Go.Proofs.Ytcppgefnocjdiaa
open Go.RowKit Go.Lib Go.Sort Go.Shelf
set_option linter.unusedVariables false

abbrev d0 : HItem := (0, 0)
theorem getD_some {xs : List HItem} {i : Nat} (h : i < xs.length) : xs[i]? = some (xs.getD i d0) := by
  rw [List.getD_eq_getElem?_getD, List.getElem?_eq_getElem h]; rfl
theorem getD_of {xs : List HItem} {i : Nat} {x : HItem} (h : xs[i]? = some x) : xs.getD i d0 = x := by
  rw [List.getD_eq_getElem?_getD, h]; rfl
/-- f says at which place the value with a handle is. -/
def Plc (xs : List HItem) (f : Int → Option Int) : Prop := ∀ h p, f h = some p ↔ ∃ i x, p = (i : Nat) ∧ xs[i]? = some x ∧ x.1 = h
theorem Plc.at {xs : List HItem} {f : Int → Option Int} (h : Plc xs f) {i : Nat} {x : HItem} (hi : xs[i]? = some x) : f x.1 = some (i : Int) := (h _ _).2 ⟨i, x, rfl, hi, rfl⟩
theorem Plc.inj {xs : List HItem} {f : Int → Option Int} (h : Plc xs f) {i j : Nat} {x y : HItem} (hi : xs[i]? = some x) (hj : xs[j]? = some y) (e : x.1 = y.1) : i = j := by
  have a := h.at hi
  have b := h.at hj
  rw [e, b] at a
  have := Option.some.inj a
  omega
theorem Plc.nil : Plc [] (fun _ => none) := fun h p => by simp
theorem Plc.none {xs : List HItem} {f : Int → Option Int} (h : Plc xs f) {k : Int} (hn : ∀ x ∈ xs, x.1 ≠ k) : f k = none := by
  cases hf : f k with
  | none => rfl
  | some p =>
    obtain ⟨i, x, _, hi, e⟩ := (h k p).1 hf
    exact absurd e (hn x (List.mem_of_getElem? hi))
theorem Plc.push {xs : List HItem} {f : Int → Option Int} (h : Plc xs f) {x : HItem} (hn : ∀ y ∈ xs, y.1 ≠ x.1) : Plc (xs ++ [x]) (upd f x.1 (some (xs.length : Nat))) := by
  intro k p
  by_cases e : k = x.1
  · subst e
    rw [upd_same]
    constructor
    · intro e
      exact ⟨xs.length, x, (Option.some.inj e).symm, by simp, rfl⟩
    · rintro ⟨i, y, rfl, hi, e⟩
      by_cases hl : i < xs.length
      · rw [List.getElem?_append_left hl] at hi
        exact absurd e (hn y (List.mem_of_getElem? hi))
      · have := (List.getElem?_eq_some_iff.1 hi).1
        simp at this
        rw [show i = xs.length by omega]
  · rw [upd_other _ _ e, h k p]
    constructor
    · rintro ⟨i, y, e1, hi, e2⟩
      exact ⟨i, y, e1, by rw [List.getElem?_append_left (List.getElem?_eq_some_iff.1 hi).1]; exact hi, e2⟩
    · rintro ⟨i, y, e1, hi, e2⟩
      by_cases hl : i < xs.length
      · rw [List.getElem?_append_left hl] at hi
        exact ⟨i, y, e1, hi, e2⟩
      · have := (List.getElem?_eq_some_iff.1 hi).1
        simp at this
        rw [show i = xs.length by omega] at hi
        simp at hi
        subst hi
        exact absurd e2.symm e
theorem Plc.pop {ys : List HItem} {x : HItem} {f : Int → Option Int} (h : Plc (ys ++ [x]) f) : Plc ys (upd f x.1 .none) := by
  intro k p
  have hx : (ys ++ [x])[ys.length]? = some x := by simp
  by_cases e : k = x.1
  · subst e
    rw [upd_same]
    constructor
    · intro e; cases e
    · rintro ⟨i, y, rfl, hi, e⟩
      have hl := (List.getElem?_eq_some_iff.1 hi).1
      have := h.inj (by rw [List.getElem?_append_left hl]; exact hi) hx e
      omega
  · rw [upd_other _ _ e, h k p]
    constructor
    · rintro ⟨i, y, e1, hi, e2⟩
      by_cases hl : i < ys.length
      · rw [List.getElem?_append_left hl] at hi
        exact ⟨i, y, e1, hi, e2⟩
      · have := (List.getElem?_eq_some_iff.1 hi).1
        simp at this
        rw [show i = ys.length by omega, hx] at hi
        cases hi
        exact absurd e2.symm e
    · rintro ⟨i, y, e1, hi, e2⟩
      exact ⟨i, y, e1, by rw [List.getElem?_append_left (List.getElem?_eq_some_iff.1 hi).1]; exact hi, e2⟩
theorem Plc.setv {xs : List HItem} {f : Int → Option Int} (h : Plc xs f) {i : Nat} {x : HItem} (hi : xs[i]? = some x) (v : Int) : Plc (xs.set i (x.1, v)) f := by
  intro k p
  rw [h k p]
  constructor
  · rintro ⟨j, y, e1, hj, e2⟩
    by_cases e : i = j
    · subst e
      rw [hi] at hj; cases hj
      exact ⟨i, (x.1, v), e1, by rw [List.getElem?_set_self (List.getElem?_eq_some_iff.1 hi).1], e2⟩
    · exact ⟨j, y, e1, by rw [List.getElem?_set_ne e]; exact hj, e2⟩
  · rintro ⟨j, y, e1, hj, e2⟩
    by_cases e : i = j
    · subst e
      rw [List.getElem?_set_self (List.getElem?_eq_some_iff.1 hi).1] at hj
      cases hj
      exact ⟨i, x, e1, hi, e2⟩
    · rw [List.getElem?_set_ne e] at hj
      exact ⟨j, y, e1, hj, e2⟩
theorem swapL_at {xs : List HItem} {i j : Nat} (hi : i < xs.length) (hj : j < xs.length) (k : Nat) : (swapL xs d0 i j)[k]? = if k = i then some (xs.getD j d0) else if k = j then some (xs.getD i d0) else xs[k]? := by
  unfold swapL
  rw [List.getElem?_set, List.getElem?_set, List.length_set]
  by_cases h1 : j = k
  · subst h1
    by_cases h2 : j = i
    · subst h2; simp [hj]
    · simp [hj, h2]
  · by_cases h2 : i = k
    · subst h2; simp [h1, hi]
    · simp [h1, h2, Ne.symm h1, Ne.symm h2]
theorem Plc.swap {xs : List HItem} {f : Int → Option Int} (h : Plc xs f) {i j : Nat} (hi : i < xs.length) (hj : j < xs.length) (hij : i ≠ j) :
    Plc (swapL xs d0 i j) (upd (upd f (xs.getD j d0).1 (some (i : Int))) (xs.getD i d0).1 (some (j : Int))) := by
  have ei := getD_some hi
  have ej := getD_some hj
  have hne : (xs.getD i d0).1 ≠ (xs.getD j d0).1 := fun e => hij (h.inj ei ej e)
  intro k p
  by_cases e1 : k = (xs.getD i d0).1
  · subst e1
    rw [upd_same]
    constructor
    · intro e
      exact ⟨j, xs.getD i d0, (Option.some.inj e).symm, by rw [swapL_at hi hj, if_neg (Ne.symm hij), if_pos rfl], rfl⟩
    · rintro ⟨m, y, rfl, hm, e⟩
      rw [swapL_at hi hj] at hm
      by_cases m1 : m = i
      · rw [if_pos m1] at hm; cases hm; exact absurd e.symm hne
      · by_cases m2 : m = j
        · rw [m2]
        · rw [if_neg m1, if_neg m2] at hm
          exact absurd (h.inj hm ei e) m1
  · rw [upd_other _ _ e1]
    by_cases e2 : k = (xs.getD j d0).1
    · subst e2
      rw [upd_same]
      constructor
      · intro e
        exact ⟨i, xs.getD j d0, (Option.some.inj e).symm, by rw [swapL_at hi hj, if_pos rfl], rfl⟩
      · rintro ⟨m, y, rfl, hm, e⟩
        rw [swapL_at hi hj] at hm
        by_cases m1 : m = i
        · rw [m1]
        · by_cases m2 : m = j
          · rw [if_neg m1, if_pos m2] at hm; cases hm; exact absurd e.symm e1
          · rw [if_neg m1, if_neg m2] at hm
            exact absurd (h.inj hm ej e) m2
    · rw [upd_other _ _ e2, h k p]
      constructor
      · rintro ⟨m, y, rfl, hm, e⟩
        have m1 : m ≠ i := fun e' => by rw [e', ei] at hm; cases hm; exact e1 e.symm
        have m2 : m ≠ j := fun e' => by rw [e', ej] at hm; cases hm; exact e2 e.symm
        exact ⟨m, y, rfl, by rw [swapL_at hi hj, if_neg m1, if_neg m2]; exact hm, e⟩
      · rintro ⟨m, y, rfl, hm, e⟩
        rw [swapL_at hi hj] at hm
        by_cases m1 : m = i
        · rw [if_pos m1] at hm; cases hm; exact absurd e.symm e2
        · by_cases m2 : m = j
          · rw [if_neg m1, if_pos m2] at hm; cases hm; exact absurd e.symm e1
          · rw [if_neg m1, if_neg m2] at hm
            exact ⟨m, y, rfl, hm, e⟩

/-- The cells of items. -/
def hC (l : List HItem) : List Value := l.flatMap encH
theorem hC_snoc (l : List HItem) (s : HItem) : hC (l ++ [s]) = hC l ++ encH s := by simp [hC]
theorem hC_len : ∀ l : List HItem, (hC l).length = l.length * 2
  | [] => rfl
  | s :: l => by
    have := hC_len l
    simp only [hC, List.flatMap_cons, List.length_append, List.length_cons] at this ⊢
    rw [this]; simp [encH]; omega
theorem hC_at : ∀ (l : List HItem) (i : Nat) (s : HItem), l[i]? = some s → (hC l)[i * 2]? = some (.int .i64 s.1) ∧ (hC l)[i * 2 + 1]? = some (.int .i64 s.2)
  | [], _, _, h => by simp at h
  | r :: l, 0, s, h => by simp at h; subst h; exact ⟨rfl, rfl⟩
  | r :: l, i + 1, s, h => by
    have := hC_at l i s (by simpa using h)
    simp only [hC, List.flatMap_cons] at this ⊢
    rw [show (i + 1) * 2 = i * 2 + 2 by omega]
    exact this
/-- A row of items of the call's own. -/
def OH (w : World) (B : Nat) (v : Value) (l : List HItem) : Prop := w.ownsRow B 64 2 v l.length (hC l)
theorem OH.nil (w : World) (B : Nat) : OH w B (.slice none 0 0) [] := ⟨rfl, Or.inl ⟨rfl, rfl⟩⟩
theorem OH.shape {W : World} {B : Nat} {v : Value} {l : List HItem} (h : OH W B v l) : (v = .slice none 0 0 ∧ l = []) ∨ ∃ g c, v = .slice (some ⟨g, 0, none⟩) l.length c ∧ B ≤ g ∧ g < W.heap.size := by
  have h' : W.ownsRow B 64 2 v l.length (hC l) := h
  rcases h'.2 with ⟨rfl, hn⟩ | ⟨g, cap, cur, rfl, hg, hc, hm, h3, h4, h5⟩
  · exact .inl ⟨rfl, List.eq_nil_of_length_eq_zero hn⟩
  · exact .inr ⟨g, cap, rfl, hg, (Array.getElem?_eq_some_iff.1 hc).1⟩
theorem OH.len {W : World} {B : Nat} {v : Value} {l : List HItem} (h : OH W B v l) : ∃ A c, v = .slice A l.length c := by
  rcases h.shape with ⟨rfl, rfl⟩ | ⟨g, c, rfl, _⟩
  · exact ⟨_, _, rfl⟩
  · exact ⟨_, _, rfl⟩
theorem OH.lt {W : World} {B : Nat} {v : Value} {l : List HItem} (h : OH W B v l) : ∀ k, v.ownBlock = some k → B ≤ k ∧ k < W.heap.size := World.ownsRow.lt h
theorem OH.same {W W' : World} {B : Nat} {v : Value} {l : List HItem} (h : OH W B v l) (hb : ∀ g, v.ownBlock = some g → W'.heap[g]? = W.heap[g]?) : OH W' B v l := by
  have h' : W.ownsRow B 64 2 v l.length (hC l) := h
  refine ⟨h'.1, ?_⟩
  rcases h'.2 with h0 | ⟨g, cap, cur, rfl, hg, hc, hm⟩
  · exact .inl h0
  · exact .inr ⟨g, cap, cur, rfl, hg, (hb g rfl).trans hc, hm⟩
/-- The cells of the item at a place. -/
theorem OH.item {W : World} {B : Nat} {v : Value} {l : List HItem} (h : OH W B v l) {i : Nat} {s : HItem} (hi : l[i]? = some s) :
    ∃ g c, v = .slice (some ⟨g, 0, none⟩) l.length c ∧ W.cell? ⟨g, i * 2, none⟩ = some (.int .i64 s.1) ∧ W.cell? ⟨g, i * 2 + 1, none⟩ = some (.int .i64 s.2) ∧ ∀ j, W.frozen? ⟨g, j, none⟩ = false := by
  have hil := (List.getElem?_eq_some_iff.1 hi).1
  rcases h.shape with ⟨rfl, rfl⟩ | ⟨g, c, rfl, hg, hlt⟩
  · simp at hi
  · have h' : W.ownsRow B 64 2 (.slice (some ⟨g, 0, none⟩) l.length c) l.length (hC l) := h
    obtain ⟨e0, e1⟩ := hC_at l i s hi
    exact ⟨g, c, rfl, by rw [h'.cellAt _ (by omega), e0], by rw [h'.cellAt _ (by omega), e1], fun j => h'.frozenAt j⟩

/-- A queue in memory: less F, the row v of items, the map of block mb. -/
structure QM (W : World) (B qb mb : Nat) (F v : Value) (nx : Int) (xs : List HItem) : Prop where
  c0 : W.cell? ⟨qb, 0, none⟩ = some (.pointer (some ⟨qb, 0, none⟩))
  c1 : W.cell? ⟨qb, 1, none⟩ = some (.int .i64 nx)
  c2 : W.cell? ⟨qb, 2, none⟩ = some F
  c3 : W.cell? ⟨qb, 3, none⟩ = some v
  c4 : W.cell? ⟨qb, 4, none⟩ = some (.map (some mb))
  fz : ∀ j, W.frozen? ⟨qb, j, none⟩ = false
  row : OH W B v xs
  map : ∃ f, PM W mb f ∧ Plc xs f
  lo : B ≤ qb ∧ B ≤ mb
  n1 : qb ≠ mb
  n2 : v.ownBlock ≠ some qb
  n3 : v.ownBlock ≠ some mb
  len : xs.length ≤ 100000
theorem QM.lt {W : World} {B qb mb : Nat} {F v : Value} {nx : Int} {xs : List HItem} (h : QM W B qb mb F v nx xs) : qb < W.heap.size ∧ mb < W.heap.size := by
  obtain ⟨f, hm, _⟩ := h.map
  exact ⟨World.block_lt_of_cell? W _ h.c0, hm.lt⟩
/-- The queue stays where its blocks stay. -/
theorem QM.same {W W' : World} {B qb mb : Nat} {F v : Value} {nx : Int} {xs : List HItem} (h : QM W B qb mb F v nx xs) (hb : ∀ g, (g = qb ∨ g = mb ∨ v.ownBlock = some g) → W'.heap[g]? = W.heap[g]?) : QM W' B qb mb F v nx xs := by
  have hc : ∀ j, W'.cell? ⟨qb, j, none⟩ = W.cell? ⟨qb, j, none⟩ := fun j => World.cell?_of_block (a := ⟨qb, j, none⟩) (hb qb (.inl rfl))
  have hf : ∀ j, W'.frozen? ⟨qb, j, none⟩ = W.frozen? ⟨qb, j, none⟩ := fun j => World.frozen?_of_block (a := ⟨qb, j, none⟩) (hb qb (.inl rfl))
  obtain ⟨f, hm, hp⟩ := h.map
  exact ⟨(hc 0).trans h.c0, (hc 1).trans h.c1, (hc 2).trans h.c2, (hc 3).trans h.c3, (hc 4).trans h.c4, fun j => (hf j).trans (h.fz j), h.row.same fun g hg => hb g (.inr (.inr hg)), ⟨f, hm.same (hb mb (.inr (.inl rfl))), hp⟩, h.lo, h.n1, h.n2, h.n3, h.len⟩
theorem QM.later {W W' : World} {B qb mb : Nat} {F v : Value} {nx : Int} {xs : List HItem} (h : QM W B qb mb F v nx xs) (hb : Go.RowKit.Below W.heap.size W W') : QM W' B qb mb F v nx xs := by
  have hl := h.lt
  refine h.same fun g hg => hb.block g ?_
  rcases hg with rfl | rfl | hg
  · exact hl.1
  · exact hl.2
  · exact (h.row.lt g hg).2
theorem QM.grew {W W' : World} {B qb mb : Nat} {F v : Value} {nx : Int} {xs : List HItem} (h : QM W B qb mb F v nx xs) (hb : Grew W W') : QM W' B qb mb F v nx xs := h.later hb.below
/-- Only the queue's blocks have turned, and the row may be a new one. -/
structure Onl (qb mb : Nat) (W : World) (v : Value) (W' : World) (v' : Value) : Prop where
  os : W'.os = W.os
  tape : W'.tape = W.tape
  output : W'.output = W.output
  size : W.heap.size ≤ W'.heap.size
  block : ∀ k, k < W.heap.size → k ≠ qb → k ≠ mb → v.ownBlock ≠ some k → W'.heap[k]? = W.heap[k]?
  new : ∀ g, v'.ownBlock = some g → v.ownBlock = some g ∨ W.heap.size ≤ g
theorem Onl.refl (qb mb : Nat) (W : World) (v : Value) : Onl qb mb W v W v := ⟨rfl, rfl, rfl, Nat.le_refl _, fun _ _ _ _ _ => rfl, fun _ h => .inl h⟩
theorem Onl.trans {qb mb : Nat} {W W' W'' : World} {v v' v'' : Value} (h : Onl qb mb W v W' v') (k : Onl qb mb W' v' W'' v'') : Onl qb mb W v W'' v'' := by
  refine ⟨k.os.trans h.os, k.tape.trans h.tape, k.output.trans h.output, Nat.le_trans h.size k.size, fun j hj h1 h2 h3 => ?_, fun g hg => ?_⟩
  · refine (k.block j (Nat.lt_of_lt_of_le hj h.size) h1 h2 fun e => ?_).trans (h.block j hj h1 h2 h3)
    rcases h.new j e with h4 | h4
    · exact h3 h4
    · omega
  · rcases k.new g hg with h4 | h4
    · exact h.new g h4
    · exact .inr (Nat.le_trans h.size h4)
theorem Onl.later {qb mb : Nat} {W W' : World} (v : Value) (hb : Go.RowKit.Below W.heap.size W W') : Onl qb mb W v W' v := ⟨hb.os, hb.tape, hb.output, hb.size, fun k hk _ _ _ => hb.block k hk, fun _ h => .inl h⟩
theorem Onl.grew {qb mb : Nat} {W W' : World} (v : Value) (hb : Grew W W') : Onl qb mb W v W' v := .later v hb.below
theorem Onl.below {W W' : World} {B qb mb : Nat} {F v v' : Value} {nx : Int} {xs : List HItem} (h : Onl qb mb W v W' v') (q : QM W B qb mb F v nx xs) : Go.RowKit.Below B W W' := by
  have hl := q.lt
  refine ⟨h.os, h.tape, h.output, h.size, fun k hk => h.block k (Nat.lt_of_lt_of_le hk (Nat.le_trans q.lo.1 (Nat.le_of_lt hl.1))) (by have := q.lo.1; omega) (by have := q.lo.2; omega) fun e => by have := (q.row.lt k e).1; omega⟩
end Go.Proofs.Ytcppgefnocjdiaa
