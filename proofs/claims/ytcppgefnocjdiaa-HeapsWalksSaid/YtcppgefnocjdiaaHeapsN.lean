/- Heaps and lists in order: mathematics alone. -/
import Derived.Test.YtcppgefnocjdiaaHeapsM
namespace Go.Proofs.Ytcppgefnocjdiaa
set_option linter.unusedVariables false

section
variable {α : Type} {lt : α → α → Prop}
/-- A list in order is the only one of its values. -/
theorem sorted_one (w : Weak lt) : ∀ {l m : List α}, l.Pairwise lt → m.Pairwise lt → l.Perm m → l = m
  | [], m, _, _, h => (List.nil_perm.1 h).symm
  | s :: l, [], _, _, h => absurd h.length_eq (by simp)
  | s :: l, r :: m, hl, hm, h => by
    obtain ⟨h1, h2⟩ := List.pairwise_cons.1 hl
    obtain ⟨k1, k2⟩ := List.pairwise_cons.1 hm
    have e : s = r := by
      have a1 : s ∈ r :: m := h.mem_iff.1 (by simp)
      have a2 : r ∈ s :: l := h.mem_iff.2 (by simp)
      rcases List.mem_cons.1 a1 with e | a1
      · exact e
      · rcases List.mem_cons.1 a2 with e | a2
        · exact e.symm
        · exact absurd (h1 r a2) (w.asymm (k1 s a1))
    subst e
    rw [sorted_one w h2 k2 ((List.perm_cons s).1 h)]
/-- The first place of a heap has the first value of the list in order. -/
theorem heap_head (w : Weak lt) {xs l : List α} {s d : α} (h : HeapP lt (fun i => xs.getD i d) xs.length) (hs : (s :: l).Pairwise lt) (hp : xs.Perm (s :: l)) : xs[0]? = some s := by
  have hlen : 0 < xs.length := by rw [hp.length_eq]; simp
  rw [List.getElem?_eq_getElem hlen]
  have a1 : xs[0] ∈ s :: l := hp.mem_iff.1 (List.getElem_mem hlen)
  rcases List.mem_cons.1 a1 with e | a1
  · rw [e]
  · have k := (List.pairwise_cons.1 hs).1 _ a1
    obtain ⟨c, hc, e⟩ := List.mem_iff_getElem.1 (hp.mem_iff.2 (show s ∈ s :: l by simp))
    have := h.least w c hc
    simp only [List.getD_eq_getElem?_getD, List.getElem?_eq_getElem hc, List.getElem?_eq_getElem hlen, Option.getD_some, e] at this
    exact absurd k this
/-- A value is put into its place. -/
def putL (l : List α) (k : Nat) (x : α) : List α := l.take k ++ x :: l.drop k
theorem putL_perm (l : List α) (k : Nat) (x : α) : (putL l k x).Perm (x :: l) := by
  unfold putL
  have := List.perm_middle (a := x) (l₁ := l.take k) (l₂ := l.drop k)
  rwa [List.take_append_drop] at this
theorem putL_sorted (w : Weak lt) {l : List α} {k : Nat} {x : α} (hs : l.Pairwise lt) (h1 : ∀ y ∈ l.take k, lt y x) (h2 : ∀ z, l[k]? = some z → ¬ lt z x) (ht : ∀ y ∈ l, lt y x ∨ lt x y) : (putL l k x).Pairwise lt := by
  unfold putL
  have hd : ∀ y ∈ l.drop k, lt x y := by
    intro y hy
    by_cases hk : k < l.length
    · have e := List.drop_eq_getElem_cons hk
      have hz := h2 _ (List.getElem?_eq_getElem hk)
      have hxz := (ht l[k] (List.getElem_mem hk)).resolve_left hz
      rw [e] at hy
      rcases List.mem_cons.1 hy with e1 | hy
      · rw [e1]; exact hxz
      · have hp : (l.drop k).Pairwise lt := hs.sublist (List.drop_sublist k l)
        rw [e] at hp
        exact w.trans _ _ _ hxz ((List.pairwise_cons.1 hp).1 y hy)
    · rw [List.drop_eq_nil_of_le (by omega)] at hy; cases hy
  refine List.pairwise_append.2 ⟨hs.sublist (List.take_sublist k l), List.pairwise_cons.2 ⟨hd, hs.sublist (List.drop_sublist k l)⟩, fun a ha b hb => ?_⟩
  rcases List.mem_cons.1 hb with e | hb
  · rw [e]; exact h1 a ha
  · exact w.trans _ _ _ (h1 a ha) (hd b hb)
theorem cut_perm {l : List α} {k : Nat} {x : α} (h : l[k]? = some x) : l.Perm (x :: l.eraseIdx k) := by
  obtain ⟨hk, e⟩ := List.getElem?_eq_some_iff.1 h
  rw [List.eraseIdx_eq_take_drop_succ, ← e]
  have := List.perm_middle (a := l[k]) (l₁ := l.take k) (l₂ := l.drop (k + 1))
  rwa [← List.drop_eq_getElem_cons hk, List.take_append_drop] at this
theorem cut_sorted {l : List α} (k : Nat) (hs : l.Pairwise lt) : (l.eraseIdx k).Pairwise lt := hs.sublist (List.eraseIdx_sublist l k)
/-- Two values change their places. -/
def swapL (l : List α) (d : α) (i j : Nat) : List α := (l.set i (l.getD j d)).set j (l.getD i d)
theorem swapL_len (l : List α) (d : α) (i j : Nat) : (swapL l d i j).length = l.length := by simp [swapL]
theorem swapL_get (l : List α) (d : α) {i j : Nat} (hi : i < l.length) (hj : j < l.length) (k : Nat) (hk : k < l.length) : (swapL l d i j).getD k d = swapF (fun i => l.getD i d) i j k := by
  unfold swapL swapF
  simp only [List.getD_eq_getElem?_getD, List.getElem?_set, List.length_set]
  by_cases h1 : j = k
  · subst h1
    by_cases h2 : j = i
    · subst h2; simp [hj]
    · simp [hj, h2]
  · by_cases h2 : i = k
    · subst h2; simp [h1, hi, Ne.symm h1]
    · simp [h1, h2, Ne.symm h1, Ne.symm h2]
theorem swapL_perm (l : List α) (d : α) {i j : Nat} (hi : i < l.length) (hj : j < l.length) : (swapL l d i j).Perm l := by
  unfold swapL
  simp only [List.getD_eq_getElem?_getD, List.getElem?_eq_getElem hi, List.getElem?_eq_getElem hj, Option.getD_some]
  exact List.set_set_perm hi hj
end
/-- A value with its handle. -/
abbrev HItem := Int × Int
/-- A value comes before another one. -/
def befI (less : Int → Int → Bool) (a b : HItem) : Prop := less a.2 b.2 = true ∨ (less b.2 a.2 = false ∧ a.1 < b.1)
instance (less : Int → Int → Bool) (a b : HItem) : Decidable (befI less a b) := by unfold befI; infer_instance
def WeakB (less : Int → Int → Bool) : Prop := Weak fun a b => less a b = true
theorem befI_weak {less : Int → Int → Bool} (w : WeakB less) : Weak (befI less) where
  irrefl x := by
    rintro (h | ⟨_, h⟩)
    · exact w.irrefl _ h
    · omega
  trans x y z := by
    have nt : ∀ a b c, less a b = false → less b c = false → less a c = false := fun a b c h1 h2 => by
      have := w.ntrans a b c (by simp [h1]) (by simp [h2]); simpa using this
    rintro (h1 | ⟨h1, h2⟩) (k1 | ⟨k1, k2⟩)
    · exact .inl (w.trans _ _ _ h1 k1)
    · by_cases e : less x.2 z.2 = true
      · exact .inl e
      · have := nt _ _ _ (Bool.eq_false_iff.2 e) k1
        rw [h1] at this; cases this
    · by_cases e : less x.2 z.2 = true
      · exact .inl e
      · have := nt _ _ _ h1 (Bool.eq_false_iff.2 e)
        rw [k1] at this; cases this
    · exact .inr ⟨nt _ _ _ k1 h1, by omega⟩
  ntrans x y z h k := by
    have nt : ∀ a b c, less a b = false → less b c = false → less a c = false := fun a b c h1 h2 => by
      have := w.ntrans a b c (by simp [h1]) (by simp [h2]); simpa using this
    have h1 : less x.2 y.2 = false := Bool.eq_false_iff.2 fun e => h (.inl e)
    have k1 : less y.2 z.2 = false := Bool.eq_false_iff.2 fun e => k (.inl e)
    rintro (e | ⟨e1, e2⟩)
    · rw [nt _ _ _ h1 k1] at e; cases e
    · -- all three alike
      have a1 : less y.2 x.2 = false := nt _ _ _ k1 e1
      have a2 : less z.2 y.2 = false := nt _ _ _ e1 h1
      have b1 : ¬ x.1 < y.1 := fun e => h (.inr ⟨a1, e⟩)
      have b2 : ¬ y.1 < z.1 := fun e => k (.inr ⟨a2, e⟩)
      omega
theorem befI_total {less : Int → Int → Bool} (w : WeakB less) {a b : HItem} (h : a.1 ≠ b.1) : befI less a b ∨ befI less b a := by
  by_cases e1 : less a.2 b.2 = true
  · exact .inl (.inl e1)
  · by_cases e2 : less b.2 a.2 = true
    · exact .inr (.inl e2)
    · rcases Int.lt_or_gt_of_ne h with h1 | h1
      · exact .inl (.inr ⟨Bool.eq_false_iff.2 e2, h1⟩)
      · exact .inr (.inr ⟨Bool.eq_false_iff.2 e1, h1⟩)
/-- The two orders of the laws. -/
theorem lt_weak : WeakB fun a b => decide (a < b) := ⟨by simp, by simp; omega, by simp; omega⟩
theorem tens_weak : WeakB fun a b => decide (max a 0 % 10 > max b 0 % 10) := ⟨by simp, by simp; omega, by simp; omega⟩
end Go.Proofs.Ytcppgefnocjdiaa
