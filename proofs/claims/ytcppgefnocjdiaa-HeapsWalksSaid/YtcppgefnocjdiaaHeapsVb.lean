/- Bytes as an argument. -/
import Derived.Test.YtcppgefnocjdiaaHeapsVa
namespace Go.Proofs.Ytcppgefnocjdiaa
open Go.RowKit Go.Lib Go.Sort Go.Shelf
set_option linter.unusedVariables false

/-- The slice v holds the bytes xs. -/
def RY (w : World) (v : Value) (xs : List Nat) : Prop :=
  (∃ A c, v = .slice A 0 c ∧ xs = []) ∨
  ∃ g off c, v = .slice (some ⟨g, off, none⟩) xs.length c ∧ g < w.heap.size ∧ ∀ i, i < xs.length → w.cell? ⟨g, off + i, none⟩ = some (.int .u8 (xs.getD i 0 : Nat))
theorem RY.later {W W' : World} {v : Value} {xs : List Nat} (h : RY W v xs) (hb : Go.RowKit.Below W.heap.size W W') : RY W' v xs := by
  rcases h with h | ⟨g, off, c, rfl, h1, h4⟩
  · exact .inl h
  · exact .inr ⟨g, off, c, rfl, Nat.lt_of_lt_of_le h1 hb.size, fun i hi => (hb.cell (p := ⟨g, _, none⟩) h1).trans (h4 i hi)⟩
theorem RY.len {W : World} {v : Value} {xs : List Nat} (h : RY W v xs) : ∃ A c, v = .slice A xs.length c := by
  rcases h with ⟨A, c, rfl, rfl⟩ | ⟨g, off, c, rfl, _⟩
  · exact ⟨A, c, rfl⟩
  · exact ⟨_, _, rfl⟩
theorem RY.cell {W : World} {A : Option Addr} {n c : Nat} {xs : List Nat} (h : RY W (.slice A n c) xs) {i : Nat} (hi : i < xs.length) : ∃ g off, A = some ⟨g, off, none⟩ ∧ W.cell? ⟨g, off + i, none⟩ = some (.int .u8 (xs.getD i 0 : Nat)) := by
  rcases h with ⟨A', c', e, rfl⟩ | ⟨g, off, c', e, hg, h4⟩
  · simp at hi
  · cases e; exact ⟨g, off, rfl, h4 i hi⟩
/-- The prefix and what is left. -/
theorem drop_one {L pre : List HItem} (h : pre <+: L) (hl : pre.length < L.length) : ∃ y T, L.drop pre.length = y :: T ∧ L.drop (pre.length + 1) = T ∧ ∀ x, (pre ++ [x] <+: L ↔ x = y) := by
  obtain ⟨t, rfl⟩ := h
  cases t with
  | nil => simp at hl
  | cons y T =>
    refine ⟨y, T, by simp, by simp, fun x => ?_⟩
    rw [List.prefix_append_right_inj]
    simp [List.cons_prefix_cons]
theorem MaR.bel {W wr : World} {qb mb : Nat} {odd : Bool} {l : List Int} {v : Value} (h : MaR W qb mb odd l v wr) : Go.RowKit.Below W.heap.size W wr := by
  obtain ⟨S, h1, h2, h3⟩ := h
  exact h3
theorem QS.base {W : World} {B B' qb mb : Nat} {F v : Value} {lt : Int → Int → Bool} {nx : Int} {S : List HItem} (h : QS W B qb mb F v lt nx S) (hb : B' ≤ B) : QS W B' qb mb F v lt nx S := by
  obtain ⟨⟨xs, h1, h2⟩, h3, h4, h5⟩ := h
  exact ⟨⟨xs, { h1 with row := h1.row.base hb, lo := ⟨Nat.le_trans hb h1.lo.1, Nat.le_trans hb h1.lo.2⟩ }, h2⟩, h3, h4, h5⟩
/-- The two queues that the law makes, at its loop. -/
theorem walks_start {N qb mb qp mp M : Nat} {odd : Bool} {l : List Int} {v0 v1 : Value} {w1 w2 w3 w4 : World} {bs : List Nat} (hN : w1.heap.size = N + 2) (h1 : MaR w1 qb mb odd l v0 w2) (h2 : MaR w2 qp mp odd l v1 w3) (hb : Go.RowKit.Below w3.heap.size w3 w4) (hM : w3.heap.size + 3 ≤ M)
    (hbs : bs = [N, N + 1, w3.heap.size, w3.heap.size + 1, w3.heap.size + 2]) :
    WkA M qb mb qp mp bs ∧ ∃ L, L.length = l.length ∧ (∀ hi, TwQ N M hi bs (ordF odd) (ordL odd) qb mb ((l.length : Int) + 1) L qp mp ((l.length : Int) + 1) L w4) ∧ ∃ v, QS w4 N qb mb (ordF odd) v (ordL odd) ((l.length : Int) + 1) L := by
  obtain ⟨S, s1, s2, s3⟩ := h1
  obtain ⟨T, t1, t2, t3⟩ := h2
  obtain ⟨xs, hq, i1⟩ := s1.mem
  obtain ⟨ys, hp, i2⟩ := t1.mem
  have hST : S = T := asc_same s1.wk i1.asc i2.asc (s2.trans t2.symm)
  subst hST
  have z1 := s3.size; have z2 := t3.size
  have l1 := hq.lt; have l2 := hp.lt; have o1 := hq.lo; have o2 := hp.lo
  have hrq : ∀ g, v0.ownBlock = some g → w1.heap.size ≤ g ∧ g < w2.heap.size := fun g hg => hq.row.lt g hg
  have hrp : ∀ g, v1.ownBlock = some g → w2.heap.size ≤ g ∧ g < w3.heap.size := fun g hg => hp.row.lt g hg
  have k1 : QS w4 N qb mb (ordF odd) v0 (ordL odd) ((l.length : Int) + 1) S := ((s1.later t3).later hb).base (by omega)
  have k2 : QS w4 N qp mp (ordF odd) v1 (ordL odd) ((l.length : Int) + 1) S := (t1.later hb).base (by omega)
  refine ⟨⟨by omega, by omega, by omega, by omega, fun b hb' => ?_, by omega⟩, S, by rw [s2.length_eq, itemsOf_len], fun hi => ⟨v0, v1, k1, k2, fun g hg => ?_, fun g hg => ?_, fun g hg e => ?_⟩, v0, k1⟩
  · rw [hbs] at hb'
    simp only [List.mem_cons, List.not_mem_nil, or_false] at hb'
    omega
  · have := hrq g hg
    refine ⟨.inl (by omega), fun hb' => ?_, by omega, by omega⟩
    rw [hbs] at hb'
    simp only [List.mem_cons, List.not_mem_nil, or_false] at hb'
    omega
  · have := hrp g hg
    refine ⟨.inl (by omega), fun hb' => ?_, by omega, by omega⟩
    rw [hbs] at hb'
    simp only [List.mem_cons, List.not_mem_nil, or_false] at hb'
    omega
  · have := hrq g hg
    have := hrp g e
    omega
end Go.Proofs.Ytcppgefnocjdiaa
