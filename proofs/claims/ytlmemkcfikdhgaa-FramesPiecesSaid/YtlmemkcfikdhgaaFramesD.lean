/- Rows of byte slices of one's own. -/
import Derived.Test.YtlmemkcfikdhgaaFramesC
namespace Go.Proofs.Ytlmemkcfikdhgaa
open Go.RowKit Go.Lib
set_option linter.unusedVariables false

theorem row_cells {W : World} {B : Nat} {e : TypeId} {z : Nat} {v : Value} {n : Nat} {xs : List Value} (h : W.ownsRow B e z v n xs) : ∀ j o, v.ownBlock = some j → W.heap[j]? = some o → o.isCells = true := by
  intro j o hj ho
  rcases h with ⟨_, ⟨rfl, _⟩ | ⟨g, cap, cur, rfl, _, hc, _⟩⟩
  · cases hj
  · cases hj; rw [hc] at ho; cases ho; rfl
theorem row_type {W : World} {B : Nat} {e : TypeId} {z : Nat} {v : Value} {n : Nat} {xs : List Value} (h : W.ownsRow B e z v n xs) {j : Nat} (hj : v.ownBlock = some j) : ∃ cs fr, W.heap[j]? = some (.cells cs e fr) := by
  rcases h with ⟨_, ⟨rfl, _⟩ | ⟨g, cap, cur, rfl, _, hc, _⟩⟩
  · cases hj
  · cases hj; exact ⟨_, _, hc⟩
theorem put_other {W : World} {k l : Nat} {o o' : Obj} (h : W.heap[k]? = some o) (hne : k ≠ l) : (W.putObj l o').heap[k]? = some o := (World.putObj_heap_other (by omega)).trans h
theorem below_put {n₀ : Nat} {a W : World} {l : Nat} (o : Obj) (h : Below n₀ a W) (hl : n₀ ≤ l) : Below n₀ a (W.putObj l o) :=
  h.trans ⟨rfl, rfl, rfl, by simp, fun k hk => World.putObj_heap_other (by omega)⟩
theorem heap_set_other {W : World} {B k : Nat} {o : Obj} (h : W.heap[k]? = some o) (hne : k ≠ B) (i : Nat) (u : Value) : (W.setCell ⟨B, i, none⟩ u).heap[k]? = some o := (Below.heap_setCell _ _ _ _ hne).trans h

/-- A row of one's own: each slice of it, and what it holds. -/
abbrev VB := Value × List Nat
def OL (w : World) (B : Nat) (v : Value) (L : List VB) : Prop := w.ownsRow B 22 1 v L.length (L.map (·.1)) ∧ ∀ x ∈ L, ON w B x.1 x.2
theorem OL.nil (w : World) (B : Nat) : OL w B (.slice none 0 0) [] := ⟨⟨rfl, Or.inl ⟨rfl, rfl⟩⟩, fun x h => by cases h⟩
theorem OL.len {w : World} {B : Nat} {v : Value} {L : List VB} (h : OL w B v L) : ∃ A c, v = .slice A L.length c := by
  have h' := h.1
  rcases h'.2 with ⟨rfl, h0⟩ | ⟨g, c, cur, rfl, _⟩
  · rw [h0]; exact ⟨_, _, rfl⟩
  · exact ⟨_, _, rfl⟩
theorem ownBlock_apart {W : World} {B B' : Nat} {e e' : TypeId} {z z' n n' : Nat} {v v' : Value} {xs xs' : List Value} (h : W.ownsRow B e z v n xs) (h' : W.ownsRow B' e' z' v' n' xs') (hne : e ≠ e') : v.ownBlock = none ∨ v.ownBlock ≠ v'.ownBlock := by
  rcases hv : v.ownBlock with _ | g
  · exact .inl rfl
  · refine .inr fun e0 => ?_
    obtain ⟨cs, fr, h1⟩ := row_type h hv
    obtain ⟨cs', fr', h2⟩ := row_type h' e0.symm
    rw [h1] at h2
    simp only [Option.some.injEq, Obj.cells.injEq] at h2
    exact hne h2.2.1
theorem OL.kept {W W' : World} {B : Nat} {v : Value} {L : List VB} {row : Option Nat} (h : OL W B v L) (hg : W.grownBy W' row) (hr : ∀ r, row = some r → r < B ∨ ∃ o, W.heap[r]? = some o ∧ o.isCells = false) : OL W' B v L := by
  have key : ∀ {e : TypeId} {z n : Nat} {u : Value} {xs : List Value}, W.ownsRow B e z u n xs → W'.ownsRow B e z u n xs := fun {e z n u xs} h0 => h0.kept hg (by
    rcases hv : u.ownBlock with _ | g
    · exact .inl rfl
    · refine .inr fun e0 => ?_
      rcases hr g e0.symm with hlt | ⟨o, ho, hc⟩
      · have := (h0.lt g hv).1; omega
      · have := row_cells h0 g o hv ho; rw [this] at hc; cases hc)
  exact ⟨key h.1, fun x hx => key (h.2 x hx)⟩
theorem OL.later {W W' : World} {B : Nat} {v : Value} {L : List VB} (h : OL W B v L) (hb : Below W.heap.size W W') : OL W' B v L := h.kept (row := none) (grow_bel hb) (fun r e => by cases e)
theorem OL.set {W : World} {B : Nat} {v : Value} {L : List VB} (h : OL W B v L) (p : Addr) (u : Value) (hp : p.block < B) : OL (W.setCell p u) B v L := h.kept (grow_set W p u) (fun r e => by cases e; exact .inl hp)
/-- One slice more. -/
theorem OL.more {W W' : World} {B : Nat} {v v' u : Value} {xs : List Nat} {L : List VB} (h : OL W B v L) (hu : ON W B u xs) (hown : W'.ownsRow B 22 1 v' (L.length + 1) (L.map (·.1) ++ [u])) (hg : W.grownBy W' v.ownBlock) : OL W' B v' (L ++ [(u, xs)]) := by
  refine ⟨by rw [List.length_append, List.map_append]; exact hown, fun x hx => ?_⟩
  have key : ∀ {u : Value} {xs : List Nat}, ON W B u xs → ON W' B u xs := fun {u xs} h0 => World.ownsRow.kept h0 hg (ownBlock_apart h0 h.1 (by decide))
  rcases List.mem_append.1 hx with hx | hx
  · exact key (h.2 x hx)
  · rw [List.mem_singleton] at hx; subst hx; exact key hu

/-- The slice v holds slices that read as the bytes ps. -/
def PN (w : World) (v : Value) (ps : List (List Nat)) : Prop :=
  (∃ A c, v = .slice A 0 c ∧ ps = []) ∨
  ∃ g off c, v = .slice (some ⟨g, off, none⟩) ps.length c ∧ g < w.heap.size ∧ 0 < ps.length ∧ ps.length ≤ c ∧ c ≤ maxLen ∧ ∀ i, i < ps.length → ∃ u, w.cell? ⟨g, off + i, none⟩ = some u ∧ RN w u (ps.getD i []) ∧ BB (ps.getD i [])
theorem PN.len {W : World} {v : Value} {ps : List (List Nat)} (h : PN W v ps) : ∃ A c, v = .slice A ps.length c := by
  rcases h with ⟨A, c, rfl, rfl⟩ | ⟨g, off, c, rfl, _⟩
  · exact ⟨A, c, rfl⟩
  · exact ⟨_, _, rfl⟩
theorem PN.later {W W' : World} {v : Value} {ps : List (List Nat)} (h : PN W v ps) (hb : Below W.heap.size W W') : PN W' v ps := by
  rcases h with h | ⟨g, off, c, rfl, h1, h0, h2, h3, h4⟩
  · exact .inl h
  · refine .inr ⟨g, off, c, rfl, Nat.lt_of_lt_of_le h1 hb.size, h0, h2, h3, fun i hi => ?_⟩
    obtain ⟨u, k1, k2, k3⟩ := h4 i hi
    exact ⟨u, (hb.cell (p := ⟨g, _, none⟩) h1).trans k1, k2.later hb, k3⟩
theorem PN.max {W : World} {v : Value} {ps : List (List Nat)} (h : PN W v ps) : ps.length ≤ maxLen := by
  rcases h with ⟨A, c, rfl, rfl⟩ | ⟨g, off, c, rfl, h1, h0, h2, h3, h4⟩
  · exact Nat.zero_le _
  · omega
theorem PN.at {W : World} {A : Option Addr} {n c : Nat} {ps : List (List Nat)} (h : PN W (.slice A n c) ps) (h0 : 0 < ps.length) : ∃ g off, A = some ⟨g, off, none⟩ ∧ n = ps.length ∧ n ≤ c ∧ c ≤ maxLen ∧ g < W.heap.size ∧ ∀ i, i < ps.length → ∃ u, W.cell? ⟨g, off + i, none⟩ = some u ∧ RN W u (ps.getD i []) ∧ BB (ps.getD i []) := by
  rcases h with ⟨A', c', e, rfl⟩ | ⟨g, off, c', e, hg, h0, h2, h3, h4⟩
  · simp at h0
  · cases e; exact ⟨g, off, rfl, rfl, h2, h3, hg, h4⟩
theorem OL.pn {w : World} {B : Nat} {v : Value} {L : List VB} (h : OL w B v L) (hb : ∀ x ∈ L, BB x.2) : PN w v (L.map (·.2)) := by
  have h' := h.1
  rcases h'.2 with ⟨rfl, h0⟩ | ⟨g, c, cur, rfl, hbg, hg, hc, hm, hs, ht⟩
  · obtain rfl : L = [] := List.eq_nil_of_length_eq_zero h0
    exact .inl ⟨_, _, rfl, rfl⟩
  · rcases Nat.eq_zero_or_pos L.length with h0 | h0
    · obtain rfl : L = [] := List.eq_nil_of_length_eq_zero h0
      exact .inl ⟨_, _, rfl, rfl⟩
    · refine .inr ⟨g, 0, c, by rw [List.length_map], (h'.lt g rfl).2, by rw [List.length_map]; exact h0, by rw [List.length_map]; exact hc, hm, fun i hi => ?_⟩
      rw [List.length_map] at hi
      have hmem := List.getElem_mem hi
      have e : (L.map (·.2)).getD i [] = L[i].2 := by rw [List.getD_eq_getElem?_getD, List.getElem?_map, List.getElem?_eq_getElem hi]; rfl
      refine ⟨L[i].1, ?_, by rw [e]; exact (h.2 _ hmem).rn, by rw [e]; exact hb _ hmem⟩
      rw [Nat.zero_add, h'.cellAt i (by omega), List.getElem?_map, List.getElem?_eq_getElem hi]
      rfl
theorem info_u8s : (Try.prog.info? 22).map (fun i => (i.zero, i.size, i.bytes)) = some (some (.slice none 0 0), 1, 24) := by kernel_rfl
end Go.Proofs.Ytlmemkcfikdhgaa
