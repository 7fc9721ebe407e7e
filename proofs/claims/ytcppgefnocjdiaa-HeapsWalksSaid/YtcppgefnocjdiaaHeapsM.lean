/- Binary heaps: mathematics alone. -/
import Derived.Lib.Hide
namespace Go.Proofs.Ytcppgefnocjdiaa
set_option linter.unusedVariables false

/-- A strict weak order. -/
structure Weak {α : Type} (lt : α → α → Prop) : Prop where
  irrefl : ∀ x, ¬ lt x x
  trans : ∀ x y z, lt x y → lt y z → lt x z
  ntrans : ∀ x y z, ¬ lt x y → ¬ lt y z → ¬ lt x z
theorem Weak.asymm {α : Type} {lt : α → α → Prop} (h : Weak lt) {x y : α} (k : lt x y) : ¬ lt y x := fun k' => h.irrefl x (h.trans _ _ _ k k')
/-- The parent of a place. -/
def par (c : Nat) : Nat := (c - 1) / 2
theorem par_lt {c : Nat} (h : 0 < c) : par c < c := by unfold par; omega
theorem par_left (i : Nat) : par (2 * i + 1) = i := by unfold par; omega
theorem par_right (i : Nat) : par (2 * i + 2) = i := by unfold par; omega
theorem child_of {c i : Nat} (h : 0 < c) (e : par c = i) : c = 2 * i + 1 ∨ c = 2 * i + 2 := by unfold par at e; omega
section
variable {α : Type} (lt : α → α → Prop)
/-- No value is less than its parent. -/
def HeapP (a : Nat → α) (n : Nat) : Prop := ∀ c, 0 < c → c < n → ¬ lt (a c) (a (par c))
/-- All but what the place i takes part in; its children are not less than its parent. -/
structure Hole (a : Nat → α) (n i : Nat) : Prop where
  away : ∀ c, 0 < c → c < n → c ≠ i → par c ≠ i → ¬ lt (a c) (a (par c))
  over : ∀ c, 0 < c → c < n → par c = i → 0 < i → ¬ lt (a c) (a (par i))
/-- The children of the place i are not less than it. -/
def KidsOk (a : Nat → α) (n i : Nat) : Prop := ∀ c, 0 < c → c < n → par c = i → ¬ lt (a c) (a i)
/-- The place i is not less than its parent. -/
def ParOk (a : Nat → α) (i : Nat) : Prop := 0 < i → ¬ lt (a i) (a (par i))
/-- Two values change their places. -/
def swapF (a : Nat → α) (i j : Nat) : Nat → α := fun k => if k = i then a j else if k = j then a i else a k
variable {lt}
theorem swapF_l (a : Nat → α) (i j : Nat) : swapF a i j i = a j := by simp [swapF]
theorem swapF_r (a : Nat → α) (i j : Nat) : swapF a i j j = a i := by unfold swapF; by_cases h : j = i <;> simp [h]
theorem swapF_o (a : Nat → α) {i j k : Nat} (h1 : k ≠ i) (h2 : k ≠ j) : swapF a i j k = a k := by simp [swapF, h1, h2]
theorem Hole.heap {a : Nat → α} {n i : Nat} (h : Hole lt a n i) (k : KidsOk lt a n i) (p : ParOk lt a i) : HeapP lt a n := fun c h0 hc => by
  by_cases e : c = i
  · subst e; exact p h0
  · by_cases e2 : par c = i
    · rw [e2]; exact k c h0 hc e2
    · exact h.away c h0 hc e e2
theorem HeapP.hole {a b : Nat → α} {n i : Nat} (w : Weak lt) (h : HeapP lt a n) (hb : ∀ k, k ≠ i → k < n → b k = a k) (hi : i < n) : Hole lt b n i :=
  ⟨fun c h0 hc h1 h2 => by rw [hb c h1 hc, hb (par c) h2 (Nat.lt_trans (par_lt h0) hc)]; exact h c h0 hc,
   fun c h0 hc e hi0 => by
     have h1 : c ≠ i := by have := par_lt h0; omega
     have h2 : par i ≠ i := by have := par_lt hi0; omega
     rw [hb c h1 hc, hb (par i) h2 (Nat.lt_trans (par_lt hi0) hi)]
     have k1 := h c h0 hc
     rw [e] at k1
     exact w.ntrans _ _ _ k1 (h i hi0 hi)⟩
/-- up: the place goes to its parent's. -/
theorem Hole.up {a : Nat → α} {n j : Nat} (w : Weak lt) (h : Hole lt a n j) (k : KidsOk lt a n j) (hj0 : 0 < j) (hj : j < n) (hl : lt (a j) (a (par j))) :
    Hole lt (swapF a (par j) j) n (par j) ∧ KidsOk lt (swapF a (par j) j) n (par j) := by
  have hp := par_lt hj0
  refine ⟨⟨fun c h0 hc h1 h2 => ?_, fun c h0 hc e hp0 => ?_⟩, fun c h0 hc e => ?_⟩
  · by_cases e1 : c = j
    · exact absurd (e1 ▸ rfl) h2
    · rw [swapF_o a h1 e1]
      by_cases e2 : par c = j
      · rw [e2, swapF_r]
        exact h.over c h0 hc e2 hj0
      · rw [swapF_o a h2 e2]
        exact h.away c h0 hc e1 e2
  · have hpp := par_lt hp0
    rw [swapF_o a (show par (par j) ≠ par j by omega) (show par (par j) ≠ j by omega)]
    have k1 : ¬ lt (a (par j)) (a (par (par j))) := h.away (par j) hp0 (by omega) (by omega) (by omega)
    by_cases e1 : c = j
    · rw [e1, swapF_r]; exact k1
    · have h1 : c ≠ par j := by have := par_lt h0; omega
      rw [swapF_o a h1 e1]
      have k2 := h.away c h0 hc e1 (by omega)
      rw [e] at k2
      exact w.ntrans _ _ _ k2 k1
  · rw [swapF_l]
    by_cases e1 : c = j
    · rw [e1, swapF_r]; exact w.asymm hl
    · have h1 : c ≠ par j := by have := par_lt h0; omega
      rw [swapF_o a h1 e1]
      have k2 := h.away c h0 hc e1 (by omega)
      rw [e] at k2
      exact fun hc2 => k2 (w.trans _ _ _ hc2 hl)
/-- up ends. -/
theorem Hole.upEnd {a : Nat → α} {n j : Nat} (h : Hole lt a n j) (k : KidsOk lt a n j) (e : j = 0 ∨ ¬ lt (a j) (a (par j))) : HeapP lt a n :=
  h.heap k (fun h0 => e.elim (fun e => by omega) id)
/-- down: the place goes to its lesser child's. -/
theorem Hole.down {a : Nat → α} {n i j : Nat} (w : Weak lt) (h : Hole lt a n i) (hj0 : 0 < j) (hj : j < n) (e : par j = i) (hm : ∀ c, 0 < c → c < n → par c = i → ¬ lt (a c) (a j)) (hl : lt (a j) (a i)) :
    Hole lt (swapF a i j) n j ∧ ParOk lt (swapF a i j) j := by
  have hp := par_lt hj0
  have hij : i ≠ j := by omega
  refine ⟨⟨fun c h0 hc h1 h2 => ?_, fun c h0 hc e2 _ => ?_⟩, fun _ => ?_⟩
  · by_cases e1 : c = i
    · subst e1
      have hpc := par_lt h0
      rw [swapF_l, swapF_o a (show par c ≠ c by omega) (by omega)]
      exact h.over j hj0 hj e h0
    · rw [swapF_o a e1 h1]
      by_cases e2 : par c = i
      · rw [e2, swapF_l]; exact hm c h0 hc e2
      · rw [swapF_o a e2 h2]; exact h.away c h0 hc e1 e2
  · have h1 : c ≠ i := by have := par_lt h0; omega
    have h2 : c ≠ j := by have := par_lt h0; omega
    rw [swapF_o a h1 h2, e, swapF_l]
    have := h.away c h0 hc h1 (by omega)
    rwa [e2] at this
  · rw [swapF_r, e, swapF_l]; exact w.asymm hl
/-- down ends at a place without a child that is less. -/
theorem kids_none {a : Nat → α} {n i : Nat} (h : ¬ 2 * i + 1 < n) : KidsOk lt a n i := fun c h0 hc e => by have := child_of h0 e; omega
theorem kids_least {a : Nat → α} {n i j : Nat} (w : Weak lt) (hm : ∀ c, 0 < c → c < n → par c = i → ¬ lt (a c) (a j)) (hl : ¬ lt (a j) (a i)) : KidsOk lt a n i :=
  fun c h0 hc e => w.ntrans _ _ _ (hm c h0 hc e) hl
/-- Which child is the lesser one. -/
theorem least_one {a : Nat → α} {n i : Nat} (w : Weak lt) (h : ¬ 2 * i + 2 < n) : ∀ c, 0 < c → c < n → par c = i → ¬ lt (a c) (a (2 * i + 1)) := fun c h0 hc e => by
  rcases child_of h0 e with rfl | rfl
  · exact w.irrefl _
  · omega
theorem least_left {a : Nat → α} {n i : Nat} (w : Weak lt) (hl : ¬ lt (a (2 * i + 2)) (a (2 * i + 1))) : ∀ c, 0 < c → c < n → par c = i → ¬ lt (a c) (a (2 * i + 1)) := fun c h0 hc e => by
  rcases child_of h0 e with rfl | rfl
  · exact w.irrefl _
  · exact hl
theorem least_right {a : Nat → α} {n i : Nat} (w : Weak lt) (hl : lt (a (2 * i + 2)) (a (2 * i + 1))) : ∀ c, 0 < c → c < n → par c = i → ¬ lt (a c) (a (2 * i + 2)) := fun c h0 hc e => by
  rcases child_of h0 e with rfl | rfl
  · exact w.asymm hl
  · exact w.irrefl _
/-- The first place has the least value. -/
theorem HeapP.least {a : Nat → α} {n : Nat} (w : Weak lt) (h : HeapP lt a n) : ∀ c, c < n → ¬ lt (a c) (a 0) := by
  intro c
  induction c using Nat.strongRecOn with
  | _ c ih =>
    intro hc
    rcases Nat.eq_zero_or_pos c with rfl | h0
    · exact w.irrefl _
    · exact w.ntrans _ _ _ (h c h0 hc) (ih _ (par_lt h0) (Nat.lt_trans (par_lt h0) hc))
theorem HeapP.cut {a : Nat → α} {n m : Nat} (h : HeapP lt a n) (hm : m ≤ n) : HeapP lt a m := fun c h0 hc => h c h0 (Nat.lt_of_lt_of_le hc hm)
theorem HeapP.congr {a b : Nat → α} {n : Nat} (h : HeapP lt a n) (e : ∀ k, k < n → b k = a k) : HeapP lt b n := fun c h0 hc => by
  rw [e c hc, e (par c) (Nat.lt_trans (par_lt h0) hc)]; exact h c h0 hc
theorem Hole.congr {a b : Nat → α} {n i : Nat} (h : Hole lt a n i) (hi : i < n) (e : ∀ k, k < n → b k = a k) : Hole lt b n i :=
  ⟨fun c h0 hc h1 h2 => by rw [e c hc, e (par c) (Nat.lt_trans (par_lt h0) hc)]; exact h.away c h0 hc h1 h2,
   fun c h0 hc h1 h2 => by rw [e c hc, e (par i) (Nat.lt_trans (par_lt h2) hi)]; exact h.over c h0 hc h1 h2⟩
theorem KidsOk.congr {a b : Nat → α} {n i : Nat} (h : KidsOk lt a n i) (hi : i < n) (e : ∀ k, k < n → b k = a k) : KidsOk lt b n i :=
  fun c h0 hc h1 => by rw [e c hc, e i hi]; exact h c h0 hc h1
/-- A value at the end: all but it is a heap. -/
theorem HeapP.push {a : Nat → α} {n : Nat} (w : Weak lt) (h : HeapP lt a n) : Hole lt a (n + 1) n ∧ KidsOk lt a (n + 1) n :=
  ⟨⟨fun c h0 hc h1 h2 => h c h0 (by omega), fun c h0 hc e _ => by have := par_lt h0; omega⟩, fun c h0 hc e => by have := par_lt h0; omega⟩
end
end Go.Proofs.Ytcppgefnocjdiaa
