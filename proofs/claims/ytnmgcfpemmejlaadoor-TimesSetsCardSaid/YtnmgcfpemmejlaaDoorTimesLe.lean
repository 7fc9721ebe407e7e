/- Lists that are not too long, their sets and totals. -/
import Derived.Test.YtnmgcfpemmejlaaDoorTimesLd
namespace Go.Proofs.YtnmgcfpemmejlaaDoor
open Go.RowKit Go.Lib
set_option linter.unusedVariables false

structure Small (a : List Span) (n : Nat) : Prop where
  ok : ∀ s ∈ a, 0 ≤ s.1 ∧ s.1 < s.2
  hi : ∀ s ∈ a, s.2 ≤ 9223372036854775807
  len : a.length ≤ n
  n200 : n ≤ 200
theorem Small.nil : Small [] 0 := ⟨by simp, by simp, by simp, by omega⟩
theorem Small.s64 {a : List Span} {n : Nat} (h : Small a n) : ∀ s ∈ a, S64 s := fun s hs => by
  obtain ⟨h1, h2⟩ := h.ok s hs
  have h3 := h.hi s hs
  exact ⟨⟨by omega, by omega⟩, ⟨by omega, h3⟩⟩
theorem Small.err2 {a b : List Span} {n m : Nat} (h : Small a n) (k : Small b m) : errS a b = 0 :=
  errS_ok.2 ⟨⟨Nat.le_trans h.len h.n200, Nat.le_trans k.len k.n200⟩, h.ok, k.ok⟩
theorem Small.err1 {a : List Span} {n : Nat} (h : Small a n) : errS a [] = 0 := h.err2 Small.nil
theorem Small.rev {a : List Span} {n : Nat} (h : Small a n) : Small a.reverse n :=
  ⟨fun s hs => h.ok s (by simpa using hs), fun s hs => h.hi s (by simpa using hs), by simpa using h.len, h.n200⟩
theorem Small.set {a b u : List Span} {n m k : Nat} (ha : Small a n) (h : IsSet a b u) (hb : Small b m) (hk : n + m = k ∧ k ≤ 200 ∨ False := by omega) : Small u k := by
  rcases hk with ⟨rfl, h2⟩ | h0
  · have hb' := h.bound (lo := 0) (hi := 9223372036854775807) (fun s hs => ⟨(ha.ok s hs).1, ha.hi s hs⟩)
    exact ⟨fun s hs => ⟨(hb' s hs).1, (hb' s hs).2.1⟩, fun s hs => (hb' s hs).2.2, Nat.le_trans h.count (Nat.add_le_add ha.len hb.len), h2⟩
  · exact h0.elim
theorem err_left {a b : List Span} (h : errS a b = 0) : errS a [] = 0 := by
  obtain ⟨h1, h2, h3⟩ := errS_ok.1 h
  exact errS_ok.2 ⟨⟨h1.1, by simp⟩, h2, by simp⟩
theorem err_right {a b : List Span} (h : errS a b = 0) : errS b [] = 0 := by
  obtain ⟨h1, h2, h3⟩ := errS_ok.1 h
  exact errS_ok.2 ⟨⟨h1.2, by simp⟩, h3, by simp⟩
theorem small_of {a : List Span} (hf : a.length ≤ 60 ∨ 200 < a.length ∧ a.length ≤ 210) (he : errS a [] = 0) (h64 : ∀ s ∈ a, S64 s) : Small a 60 := by
  obtain ⟨h1, h2, h3⟩ := errS_ok.1 he
  exact ⟨h2, fun s hs => (h64 s hs).2.2, by omega, by omega⟩
theorem IsSet.turned {a u v : List Span} (h : IsSet a [] u) (k : IsSet a.reverse [] v) : u = v :=
  h.same k fun t => by rw [hasS_perm (List.reverse_perm a) t]
theorem IsSet.self {a b m k : List Span} (h : IsSet a b m) (q : IsSet m [] k) : m = k :=
  canon_one h.can q.can fun t => by rw [q.mem t]; simp [hasS_nil]
theorem tot_self {a b m : List Span} {n : Int} (h : IsSet a b m) (k : TotOf m n 0) : totalS m = n := by
  obtain ⟨u, h1, h2⟩ := k.yes rfl
  rw [h2, h.self h1]
theorem totals {a b u m g : List Span} {n : Nat} (ha : Small a n) (hu : IsSet a [] u) (hm : IsSet a b m) (hg : IsSet a m g) :
    ∃ tu tm tg : Int, (0 ≤ tm ∧ 0 ≤ tg ∧ tm + tg ≤ 9223372036854775807) ∧ tu = tm + tg ∧
      ((∀ n, TotOf a n 0 → tu = n) ∧ ∀ n, TotOf u n 0 → tu = n) ∧ (∀ n, TotOf m n 0 → tm = n) ∧ ∀ n, TotOf g n 0 → tg = n := by
  have hb : ∀ {b v : List Span}, IsSet a b v → 0 ≤ totalS v ∧ totalS v ≤ 9223372036854775807 := fun {b v} h =>
    total_le h.can (fun s hs => by
      have := h.bound (lo := 0) (hi := 9223372036854775807) (fun s hs => ⟨(ha.ok s hs).1, ha.hi s hs⟩) s hs
      exact ⟨this.1, this.2.2⟩) (by omega)
  have e := total_parts hu hm hg (fun s hs => (ha.ok s hs).1) 9223372036854775807 (fun s hs => by have := ha.hi s hs; omega)
  have b1 := hb hu; have b2 := hb hm; have b3 := hb hg
  refine ⟨totalS u, totalS m, totalS g, ⟨b2.1, b3.1, by omega⟩, e, ⟨fun n h => ?_, fun n h => tot_self hu h⟩, fun n h => tot_self hm h, fun n h => tot_self hg h⟩
  obtain ⟨u', h1, h2⟩ := h.yes rfl
  rw [h2, hu.one h1]
theorem drop_rev {a : List Span} {j : Nat} {s : Span} (h : a[j]? = some s) : (a.drop (j + 1)).reverse ++ [s] = (a.drop j).reverse := by
  obtain ⟨hj, e⟩ := List.getElem?_eq_some_iff.1 h
  rw [List.drop_eq_getElem_cons hj, List.reverse_cons, e]
/-- The list in another order, so far. -/
structure TM (wm wr : World) (v : Value) (out : List Span) : Prop where
  own : OS wr wm.heap.size v out
  bel : Below wm.heap.size wm wr
theorem TM.step {wm wr W : World} {v : Value} {out : List Span} (h : TM wm wr v out) (hb : Below wr.heap.size wr W) : TM wm W v out := ⟨h.own.later hb, bl_call h.bel hb⟩
theorem TM.more {wm wr w3 : World} {v v' : Value} {out out' : List Span} {s : Span} (h : TM wm wr v out) (e : out ++ [s] = out') (hn : OS w3 wm.heap.size v' (out ++ [s])) (hg : wr.grownBy w3 v.ownBlock) : TM wm w3 v' out' :=
  ⟨by rw [← e]; exact hn, h.bel.grown hg h.bel.size (fun j e => (h.own.lt j e).1)⟩
end Go.Proofs.YtnmgcfpemmejlaaDoor
