/- The loops of a heap: up and down. Mathematics alone. -/
import Derived.Test.YtcppgefnocjdiaaHeapsO
namespace Go.Proofs.Ytcppgefnocjdiaa
set_option linter.unusedVariables false

section
variable {α : Type} {lt : α → α → Prop} {d : α} {xs0 xs : List α} {n : Nat}
/-- The values as a function of the place. -/
def fnL (xs : List α) (d : α) : Nat → α := fun i => xs.getD i d
/-- What swaps among the first n places leave. -/
structure Kept (d : α) (xs0 xs : List α) (n : Nat) : Prop where
  perm : xs.Perm xs0
  le : n ≤ xs.length
  rest : ∀ k, n ≤ k → xs.getD k d = xs0.getD k d
theorem Kept.refl (d : α) {xs : List α} {n : Nat} (h : n ≤ xs.length) : Kept d xs xs n := ⟨List.Perm.refl _, h, fun _ _ => rfl⟩
theorem Kept.swap (h : Kept d xs0 xs n) {i j : Nat} (hi : i < n) (hj : j < n) : Kept d xs0 (swapL xs d i j) n := by
  have hl := h.le
  refine ⟨(swapL_perm xs d (by omega) (by omega)).trans h.perm, by rw [swapL_len]; exact hl, fun k hk => ?_⟩
  rw [← h.rest k hk]
  by_cases hkl : k < xs.length
  · rw [swapL_get xs d (by omega) (by omega) k hkl, swapF_o _ (by omega) (by omega)]
  · rw [List.getD_eq_getElem?_getD, List.getD_eq_getElem?_getD, List.getElem?_eq_none (by rw [swapL_len]; omega), List.getElem?_eq_none (by omega)]
theorem fnL_swap {i j : Nat} (hi : i < n) (hj : j < n) (hn : n ≤ xs.length) (k : Nat) (hk : k < n) : fnL (swapL xs d i j) d k = swapF (fnL xs d) i j k :=
  swapL_get xs d (by omega) (by omega) k (by omega)
/-- Before a round of up. -/
structure UpI (lt : α → α → Prop) (d : α) (xs0 xs : List α) (n j : Nat) : Prop where
  kept : Kept d xs0 xs n
  inn : j < n
  hole : Hole lt (fnL xs d) n j
  kids : KidsOk lt (fnL xs d) n j
theorem UpI.step (w : Weak lt) {j : Nat} (h : UpI lt d xs0 xs n j) (h0 : 0 < j) (hl : lt (xs.getD j d) (xs.getD (par j) d)) : UpI lt d xs0 (swapL xs d (par j) j) n (par j) := by
  have hp := par_lt h0
  have hj := h.inn
  obtain ⟨k1, k2⟩ := h.hole.up w h.kids h0 hj hl
  have e := fnL_swap (d := d) (show par j < n by omega) hj h.kept.le
  exact ⟨h.kept.swap (by omega) hj, by omega, k1.congr (by omega) e, k2.congr (by omega) e⟩
theorem UpI.done {j : Nat} (h : UpI lt d xs0 xs n j) (e : j = 0 ∨ ¬ lt (xs.getD j d) (xs.getD (par j) d)) : HeapP lt (fnL xs d) n := h.hole.upEnd h.kids e
/-- Before a round of down, which began at i0. -/
structure DownI (lt : α → α → Prop) (d : α) (xs0 xs : List α) (n i0 i : Nat) : Prop where
  kept : Kept d xs0 xs n
  le : i0 ≤ i
  hole : Hole lt (fnL xs d) n i
  par : i0 < i → ParOk lt (fnL xs d) i
theorem DownI.start {i : Nat} (hn : n ≤ xs.length) (h : Hole lt (fnL xs d) n i) : DownI lt d xs xs n i i := ⟨Kept.refl d hn, Nat.le_refl _, h, fun h => by omega⟩
theorem DownI.step (w : Weak lt) {i0 i j : Nat} (h : DownI lt d xs0 xs n i0 i) (hj0 : 0 < j) (hj : j < n) (e : Go.Proofs.Ytcppgefnocjdiaa.par j = i) (hm : ∀ c, 0 < c → c < n → Go.Proofs.Ytcppgefnocjdiaa.par c = i → ¬ lt (xs.getD c d) (xs.getD j d)) (hl : lt (xs.getD j d) (xs.getD i d)) :
    DownI lt d xs0 (swapL xs d i j) n i0 j := by
  have hp := par_lt hj0
  have hle := h.le
  obtain ⟨k1, k2⟩ := h.hole.down w hj0 hj e hm hl
  have ee := fnL_swap (d := d) (show i < n by omega) hj h.kept.le
  refine ⟨h.kept.swap (by omega) hj, by omega, k1.congr hj ee, fun _ _ => ?_⟩
  rw [ee j hj, ee (Go.Proofs.Ytcppgefnocjdiaa.par j) (by omega)]
  exact k2 hj0
/-- down ends where no child is less. -/
theorem DownI.moved {i0 i : Nat} (h : DownI lt d xs0 xs n i0 i) (k : KidsOk lt (fnL xs d) n i) (hi : i0 < i) : HeapP lt (fnL xs d) n := h.hole.heap k (h.par hi)
theorem DownI.top {i : Nat} (h : DownI lt d xs0 xs n 0 i) (k : KidsOk lt (fnL xs d) n i) : HeapP lt (fnL xs d) n := h.hole.heap k (by
  rcases Nat.eq_zero_or_pos i with rfl | hi
  · exact fun h0 => absurd h0 (by omega)
  · exact h.par hi)
theorem DownI.stay {i : Nat} (h : DownI lt d xs0 xs n i i) (k : KidsOk lt (fnL xs d) n i) (hi : i < n) : UpI lt d xs0 xs n i := ⟨h.kept, hi, h.hole, k⟩
/-- up's own beginning: a value behind a heap. -/
theorem UpI.start (w : Weak lt) {x : α} (h : HeapP lt (fnL xs d) xs.length) : UpI lt d (xs ++ [x]) (xs ++ [x]) (xs.length + 1) xs.length := by
  have e : ∀ k, k < xs.length → fnL (xs ++ [x]) d k = fnL xs d k := fun k hk => by
    unfold fnL
    rw [List.getD_eq_getElem?_getD, List.getD_eq_getElem?_getD, List.getElem?_append_left hk]
  obtain ⟨k1, k2⟩ := (h.congr e).push w
  exact ⟨Kept.refl d (by simp), by omega, k1, k2⟩
/-- The last value is taken off. -/
theorem take_last {x : α} (h : Kept d xs0 xs n) (hn : xs.length = n + 1) (hx : xs0.getD n d = x) (hh : HeapP lt (fnL xs d) n) : (xs.take n ++ [x]).Perm xs0 ∧ HeapP lt (fnL (xs.take n) d) (xs.take n).length := by
  have hl : (xs.take n).length = n := by rw [List.length_take]; omega
  constructor
  · have e : xs.take n ++ [x] = xs := by
      have hlt : n < xs.length := by omega
      have := h.rest n (Nat.le_refl _)
      rw [hx, List.getD_eq_getElem?_getD, List.getElem?_eq_getElem hlt, Option.getD_some] at this
      rw [← this, ← List.take_succ_eq_append_getElem hlt, List.take_of_length_le (by omega)]
    rw [e]; exact h.perm
  · rw [hl]
    exact hh.congr fun k hk => by
      unfold fnL
      rw [List.getD_eq_getElem?_getD, List.getD_eq_getElem?_getD, List.getElem?_take_of_lt hk]
/-- A place is changed with the last one: what is left of the heap has a hole there. -/
theorem HeapP.swapEnd (w : Weak lt) {i : Nat} (h : HeapP lt (fnL xs d) xs.length) (hn : xs.length = n + 1) (hi : i < n) : Hole lt (fnL (swapL xs d i n) d) n i ∧ (swapL xs d i n).getD n d = xs.getD i d ∧ (swapL xs d i n).Perm xs ∧ (swapL xs d i n).length = n + 1 := by
  refine ⟨(h.cut (show n ≤ xs.length by omega)).hole w (fun k h1 h2 => ?_) hi, ?_, swapL_perm xs d (by omega) (by omega), by rw [swapL_len, hn]⟩
  · show (swapL xs d i n).getD k d = xs.getD k d
    rw [swapL_get xs d (by omega) (by omega) k (by omega), swapF_o _ h1 (by omega)]
  · rw [swapL_get xs d (by omega) (by omega) n (by omega), swapF_r]
/-- A place's value is changed. -/
theorem HeapP.setHole (w : Weak lt) {i : Nat} {y : α} (h : HeapP lt (fnL xs d) xs.length) (hi : i < xs.length) : Hole lt (fnL (xs.set i y) d) (xs.set i y).length i := by
  rw [List.length_set]
  refine h.hole w (fun k h1 h2 => ?_) hi
  show (xs.set i y).getD k d = xs.getD k d
  rw [List.getD_eq_getElem?_getD, List.getD_eq_getElem?_getD, List.getElem?_set_ne (by omega)]
end
end Go.Proofs.Ytcppgefnocjdiaa
