/- A queue: its heap and its list in order. Mathematics alone. -/
import Derived.Test.YtcppgefnocjdiaaHeapsN
namespace Go.Proofs.Ytcppgefnocjdiaa
set_option linter.unusedVariables false

/-- The first values come before x. -/
structure UpTo {α : Type} (lt : α → α → Prop) (S : List α) (k : Nat) (x : α) : Prop where
  le : k ≤ S.length
  lo : ∀ y ∈ S.take k, lt y x
theorem UpTo.start {α : Type} {lt : α → α → Prop} (S : List α) (x : α) : UpTo lt S 0 x := ⟨Nat.zero_le _, by simp⟩
theorem UpTo.step {α : Type} {lt : α → α → Prop} {S : List α} {k : Nat} {x y : α} (h : UpTo lt S k x) (hk : S[k]? = some y) (hl : lt y x) : UpTo lt S (k + 1) x := by
  obtain ⟨hk', e⟩ := List.getElem?_eq_some_iff.1 hk
  refine ⟨hk', fun z hz => ?_⟩
  rw [List.take_succ_eq_append_getElem hk', List.mem_append, List.mem_singleton] at hz
  rcases hz with hz | rfl
  · exact h.lo z hz
  · rw [e]; exact hl
/-- The place of x in a list in order. -/
structure PlaceP {α : Type} (lt : α → α → Prop) (S : List α) (k : Nat) (x : α) : Prop where
  up : UpTo lt S k x
  hi : ∀ z, S[k]? = some z → ¬ lt z x
theorem UpTo.end {α : Type} {lt : α → α → Prop} {S : List α} {k : Nat} {x : α} (h : UpTo lt S k x) (hk : ¬ k < S.length) : PlaceP lt S k x := ⟨h, fun z hz => by rw [List.getElem?_eq_none (by omega)] at hz; cases hz⟩
theorem UpTo.stop {α : Type} {lt : α → α → Prop} {S : List α} {k : Nat} {x y : α} (h : UpTo lt S k x) (hk : S[k]? = some y) (hl : ¬ lt y x) : PlaceP lt S k x := ⟨h, fun z hz => by rw [hk] at hz; cases hz; exact hl⟩

/-- A queue's heap, and the list of its values in order. -/
structure QI (less : Int → Int → Bool) (xs S : List HItem) (next : Int) : Prop where
  heap : HeapP (befI less) (fun i => xs.getD i (0, 0)) xs.length
  perm : xs.Perm S
  asc : S.Pairwise (befI less)
  low : ∀ x ∈ S, 1 ≤ x.1 ∧ x.1 < next
  one : (S.map (·.1)).Nodup
section
variable {less : Int → Int → Bool} {xs ys S : List HItem} {next : Int}
theorem QI.len (h : QI less xs S next) : xs.length = S.length := h.perm.length_eq
theorem QI.new (less : Int → Int → Bool) (next : Int) : QI less [] [] next := ⟨fun c _ h => by simp at h, List.Perm.refl _, List.Pairwise.nil, by simp, by simp⟩
/-- Whatever has the values of a list in order, and is a heap, is a queue with it. -/
theorem QI.of (hh : HeapP (befI less) (fun i => ys.getD i (0, 0)) ys.length) (hp : ys.Perm S) (ha : S.Pairwise (befI less)) (hl : ∀ x ∈ S, 1 ≤ x.1 ∧ x.1 < next) (h1 : (S.map (·.1)).Nodup) : QI less ys S next := ⟨hh, hp, ha, hl, h1⟩
/-- A list in order is a heap. -/
theorem sorted_heap (w : WeakB less) (hs : S.Pairwise (befI less)) : HeapP (befI less) (fun i => S.getD i (0, 0)) S.length := fun c h0 hc => by
  have hp := par_lt h0
  simp only [List.getD_eq_getElem?_getD, List.getElem?_eq_getElem hc, List.getElem?_eq_getElem (Nat.lt_trans hp hc), Option.getD_some]
  exact (befI_weak w).asymm (List.pairwise_iff_getElem.1 hs _ _ _ _ hp)
theorem QI.first (h : QI less xs S next) (w : WeakB less) {s : HItem} {l : List HItem} (e : S = s :: l) : xs[0]? = some s :=
  heap_head (befI_weak w) h.heap (by rw [← e]; exact h.asc) (by rw [← e]; exact h.perm)
theorem handle_mem {x : HItem} (h : x ∈ S) : x.1 ∈ S.map (·.1) := List.mem_map.2 ⟨x, h, rfl⟩
theorem nodup_perm {l m : List Int} (h : l.Perm m) (k : l.Nodup) : m.Nodup := h.nodup_iff.1 k
/-- One handle, one value. -/
theorem QI.same (h : QI less xs S next) {x y : HItem} (hx : x ∈ S) (hy : y ∈ S) (e : x.1 = y.1) : x = y := by
  obtain ⟨i, hi, ei⟩ := List.mem_iff_getElem.1 hx
  obtain ⟨j, hj, ej⟩ := List.mem_iff_getElem.1 hy
  have hn := List.nodup_iff_pairwise_ne.1 h.one
  rw [List.pairwise_map] at hn
  rcases Nat.lt_trichotomy i j with k | k | k
  · exact absurd (by rw [ei, ej]; exact e) (List.pairwise_iff_getElem.1 hn i j hi hj k)
  · subst k; rw [← ei, ← ej]
  · exact absurd (by rw [ei, ej]; exact e.symm) (List.pairwise_iff_getElem.1 hn j i hj hi k)
/-- A value is put into its place. -/
theorem put_in (w : WeakB less) {k : Nat} {x : HItem} (ha : S.Pairwise (befI less)) (h1 : (S.map (·.1)).Nodup) (hn : ∀ y ∈ S, y.1 ≠ x.1) (hk : PlaceP (befI less) S k x) :
    (putL S k x).Pairwise (befI less) ∧ ((putL S k x).map (·.1)).Nodup := by
  refine ⟨putL_sorted (befI_weak w) ha hk.up.lo hk.hi fun y hy => befI_total w (hn y hy), ?_⟩
  refine nodup_perm ((putL_perm S k x).map (·.1)).symm ?_
  rw [List.map_cons, List.nodup_cons]
  refine ⟨fun hm => ?_, h1⟩
  obtain ⟨y, hy, e⟩ := List.mem_map.1 hm
  exact hn y hy e
theorem QI.push (h : QI less xs S next) (w : WeakB less) {k : Nat} {v : Int} (h0 : 1 ≤ next) (hk : PlaceP (befI less) S k (next, v)) (hp : ys.Perm (xs ++ [(next, v)])) (hh : HeapP (befI less) (fun i => ys.getD i (0, 0)) ys.length) :
    QI less ys (putL S k (next, v)) (next + 1) := by
  obtain ⟨k1, k2⟩ := put_in w h.asc h.one (x := (next, v)) (fun y hy => by have := (h.low y hy).2; show y.1 ≠ next; omega) hk
  refine ⟨hh, ?_, k1, fun x hx => ?_, k2⟩
  · refine hp.trans ((List.perm_append_singleton _ _).trans ?_)
    exact (h.perm.cons _).trans (putL_perm S k _).symm
  · rcases List.mem_cons.1 ((putL_perm S k _).mem_iff.1 hx) with rfl | hx
    · exact ⟨h0, by show next < next + 1; omega⟩
    · have := h.low x hx; omega
theorem cut_of (ha : S.Pairwise (befI less)) (h1 : (S.map (·.1)).Nodup) (hl : ∀ x ∈ S, 1 ≤ x.1 ∧ x.1 < next) {k : Nat} {x : HItem} (hk : S[k]? = some x) :
    (S.eraseIdx k).Pairwise (befI less) ∧ ((S.eraseIdx k).map (·.1)).Nodup ∧ (∀ y ∈ S.eraseIdx k, 1 ≤ y.1 ∧ y.1 < next) ∧ ∀ y ∈ S.eraseIdx k, y.1 ≠ x.1 := by
  have hp := cut_perm hk
  have hn := nodup_perm (hp.map (·.1)) h1
  rw [List.map_cons, List.nodup_cons] at hn
  refine ⟨cut_sorted k ha, hn.2, fun y hy => hl y (hp.mem_iff.2 (by simp [hy])), fun y hy e => hn.1 (by rw [← e]; exact handle_mem hy)⟩
/-- A value is taken out. -/
theorem QI.remove (h : QI less xs S next) {k : Nat} {x : HItem} (hk : S[k]? = some x) (hp : (ys ++ [x]).Perm xs) (hh : HeapP (befI less) (fun i => ys.getD i (0, 0)) ys.length) : QI less ys (S.eraseIdx k) next := by
  obtain ⟨k1, k2, k3, _⟩ := cut_of h.asc h.one h.low hk
  refine ⟨hh, ?_, k1, k3, k2⟩
  have := (List.perm_append_singleton x ys).symm.trans (hp.trans (h.perm.trans (cut_perm hk)))
  exact (List.perm_cons x).1 this
/-- A value is set. -/
theorem QI.set (h : QI less xs S next) (w : WeakB less) {i k k' : Nat} {x : HItem} {v : Int} (hk : S[k]? = some x) (hi : xs[i]? = some x) (hk' : PlaceP (befI less) (S.eraseIdx k) k' (x.1, v))
    (hp : ys.Perm (xs.set i (x.1, v))) (hh : HeapP (befI less) (fun i => ys.getD i (0, 0)) ys.length) : QI less ys (putL (S.eraseIdx k) k' (x.1, v)) next := by
  obtain ⟨k1, k2, k3, k4⟩ := cut_of h.asc h.one h.low hk
  obtain ⟨q1, q2⟩ := put_in w k1 k2 (x := (x.1, v)) k4 hk'
  have hx := h.low x (List.mem_of_getElem? hk)
  refine ⟨hh, ?_, q1, fun y hy => ?_, q2⟩
  · obtain ⟨hi', e⟩ := List.getElem?_eq_some_iff.1 hi
    have hset : (xs.set i (x.1, v)).Perm ((x.1, v) :: xs.eraseIdx i) := by
      have := cut_perm (l := xs.set i (x.1, v)) (k := i) (x := (x.1, v)) (by simp [hi'])
      rwa [show (xs.set i (x.1, v)).eraseIdx i = xs.eraseIdx i by first | exact List.eraseIdx_set_eq | (rw [List.eraseIdx_eq_take_drop_succ, List.eraseIdx_eq_take_drop_succ]; simp)] at this
    have hrest : (xs.eraseIdx i).Perm (S.eraseIdx k) := (List.perm_cons x).1 ((cut_perm hi).symm.trans (h.perm.trans (cut_perm hk)))
    exact hp.trans (hset.trans ((hrest.cons _).trans (putL_perm _ _ _).symm))
  · rcases List.mem_cons.1 ((putL_perm _ k' _).mem_iff.1 hy) with rfl | hy
    · exact hx
    · exact k3 y hy
end
end Go.Proofs.Ytcppgefnocjdiaa
