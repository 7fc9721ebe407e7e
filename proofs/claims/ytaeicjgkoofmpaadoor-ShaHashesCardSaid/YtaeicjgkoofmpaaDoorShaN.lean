/- Plain mathematics: bytes that are taken in parts, the padding, the digest. -/
import Derived.Test.YtaeicjgkoofmpaaDoorShaM
namespace Go.Proofs.YtaeicjgkoofmpaaDoor
open Go.RowKit
set_option linter.unusedVariables false

theorem BB.app {l m : List Nat} (h : BB l) (k : BB m) : BB (l ++ m) := fun x hx => (List.mem_append.1 hx).elim (h x) (k x)
theorem BB.take {l : List Nat} (h : BB l) (k : Nat) : BB (l.take k) := fun x hx => h x (List.mem_of_mem_take hx)
theorem BB.drop {l : List Nat} (h : BB l) (k : Nat) : BB (l.drop k) := fun x hx => h x (List.mem_of_mem_drop hx)
theorem BB.nil : BB [] := fun x hx => by cases hx
def foldB (m : List Nat) : Nat → List Nat
  | 0 => hL
  | k + 1 => blockL (foldB m k) ((m.drop (64 * k)).take 64)
theorem foldB_len (m : List Nat) : ∀ k, (foldB m k).length = 8
  | 0 => rfl
  | k + 1 => blockL_len _ (foldB_len m k)
theorem foldB_ww (m : List Nat) : ∀ k, WW (foldB m k)
  | 0 => hL_ww
  | k + 1 => blockL_ww _ _
theorem foldB_app (m xs : List Nat) : ∀ k, 64 * k ≤ m.length → foldB (m ++ xs) k = foldB m k
  | 0, _ => rfl
  | k + 1, h => by
    rw [foldB, foldB, foldB_app m xs k (by omega), List.drop_append_of_le_length (by omega), List.take_append_of_le_length (by rw [List.length_drop]; omega)]

/-- What is known of the bytes m. -/
structure Rep (m : List Nat) (n : Nat) (st last : List Nat) : Prop where
  size : n = m.length
  fold : st = foldB m (m.length / 64)
  len : last.length = 64
  byte : BB last
  rest : last.take (m.length % 64) = m.drop (64 * (m.length / 64))
theorem Rep.st8 {m : List Nat} {n : Nat} {st last : List Nat} (h : Rep m n st last) : st.length = 8 := by rw [h.fold]; exact foldB_len _ _
theorem Rep.ww {m : List Nat} {n : Nat} {st last : List Nat} (h : Rep m n st last) : WW st := by rw [h.fold]; exact foldB_ww _ _
theorem Rep.nil : Rep [] 0 hL (List.replicate 64 0) := ⟨rfl, rfl, rfl, fun x hx => by rw [List.eq_of_mem_replicate hx]; decide, rfl⟩
/-- ys put into the row from place o on. -/
def put (last : List Nat) (o : Nat) (ys : List Nat) : List Nat := last.take o ++ ys ++ last.drop (o + ys.length)
theorem put_len {last ys : List Nat} {o : Nat} (h : last.length = 64) (ho : o + ys.length ≤ 64) : (put last o ys).length = 64 := by simp [put]; omega
theorem put_bb {last ys : List Nat} {o : Nat} (h : BB last) (hy : BB ys) : BB (put last o ys) := ((h.take o).app hy).app (h.drop _)
theorem put_take {last ys : List Nat} {o : Nat} (h : last.length = 64) (ho : o + ys.length ≤ 64) : (put last o ys).take (o + ys.length) = last.take o ++ ys := by
  unfold put
  rw [List.take_append_of_le_length (by simp; omega), List.take_of_length_le (by simp; omega)]
theorem Rep.more {m : List Nat} {n : Nat} {st last : List Nat} (h : Rep m n st last) {ys : List Nat} (hy : BB ys) (h0 : 0 < ys.length) (hlt : n % 64 + ys.length < 64) : Rep (m ++ ys) (n + ys.length) st (put last (n % 64) ys) := by
  obtain ⟨rfl, rfl, hl, hb, hr⟩ := h
  have hq : (m ++ ys).length / 64 = m.length / 64 := by rw [List.length_append]; omega
  have ho : (m ++ ys).length % 64 = m.length % 64 + ys.length := by rw [List.length_append]; omega
  refine ⟨by simp, ?_, put_len hl (by omega), put_bb hb hy, ?_⟩
  · rw [hq, foldB_app _ _ _ (by omega)]
  · rw [hq, ho, put_take hl (by omega), hr, List.drop_append_of_le_length (by omega)]
theorem Rep.block {m : List Nat} {n : Nat} {st last : List Nat} (h : Rep m n st last) {ys : List Nat} (hy : BB ys) (heq : n % 64 + ys.length = 64) : Rep (m ++ ys) (n + ys.length) (blockL st (put last (n % 64) ys)) (put last (n % 64) ys) := by
  obtain ⟨rfl, rfl, hl, hb, hr⟩ := h
  have hq : (m ++ ys).length / 64 = m.length / 64 + 1 := by rw [List.length_append]; omega
  have ho : (m ++ ys).length % 64 = 0 := by rw [List.length_append]; omega
  have hp : put last (m.length % 64) ys = m.drop (64 * (m.length / 64)) ++ ys := by
    unfold put
    rw [hr, List.drop_of_length_le (l := last) (by omega), List.append_nil]
  refine ⟨by simp, ?_, put_len hl (by omega), put_bb hb hy, ?_⟩
  · rw [hq, foldB, foldB_app _ _ _ (by omega), hp, List.drop_append_of_le_length (by omega), List.take_of_length_le (by simp; omega)]
  · rw [hq, ho, List.take_zero, List.drop_of_length_le (by simp; omega)]

/-! ### the padding -/
def be8 (x : Nat) : List Nat := [x / 2 ^ 56 % 256, x / 2 ^ 48 % 256, x / 2 ^ 40 % 256, x / 2 ^ 32 % 256, x / 2 ^ 24 % 256, x / 2 ^ 16 % 256, x / 2 ^ 8 % 256, x % 256]
def zeros (n : Nat) : Nat := (119 - n % 64) % 64
def padL (n : Nat) : List Nat := 128 :: (List.replicate (zeros n) 0 ++ be8 (8 * n))
theorem be8_bb (x : Nat) : BB (be8 x) := fun y hy => by
  simp only [be8, List.mem_cons, List.not_mem_nil, or_false] at hy
  rcases hy with rfl | rfl | rfl | rfl | rfl | rfl | rfl | rfl <;> exact Nat.mod_lt _ (by decide)
theorem padL_bb (n : Nat) : BB (padL n) := fun y hy => by
  simp only [padL, List.mem_cons, List.mem_append] at hy
  rcases hy with rfl | hy | hy
  · decide
  · rw [List.eq_of_mem_replicate hy]; decide
  · exact be8_bb _ y hy
theorem padL_len (n : Nat) : (padL n).length = zeros n + 9 := by simp [padL, be8]
theorem padL_mod (n : Nat) : (n + (padL n).length) % 64 = 0 := by rw [padL_len]; unfold zeros; omega
theorem padL_le (n : Nat) : 9 ≤ (padL n).length ∧ (padL n).length ≤ 72 := by rw [padL_len]; unfold zeros; omega

/-! ### the digest -/
def be4 (x : Nat) : List Nat := [x / 2 ^ 24 % 256, x / 2 ^ 16 % 256, x / 2 ^ 8 % 256, x % 256]
def digL (st : List Nat) : List Nat := st.flatMap be4
def allL (m : List Nat) : List Nat := m ++ padL m.length
def shaL (m : List Nat) : List Nat := digL (foldB (allL m) ((allL m).length / 64))
theorem be4_len (x : Nat) : (be4 x).length = 4 := rfl
theorem digL_len {st : List Nat} (h : st.length = 8) : (digL st).length = 32 := by
  obtain ⟨a, b, c, d, e, f, g, i, rfl⟩ := len8 h; rfl
theorem digL_bb (st : List Nat) : BB (digL st) := fun y hy => by
  simp only [digL, List.mem_flatMap] at hy
  obtain ⟨x, _, hy⟩ := hy
  simp only [be4, List.mem_cons, List.not_mem_nil, or_false] at hy
  rcases hy with rfl | rfl | rfl | rfl <;> exact Nat.mod_lt _ (by decide)
theorem digL_get {st : List Nat} (h : st.length = 8) {i j : Nat} (hi : i < 8) (hj : j < 4) : (digL st).getD (4 * i + j) 0 = st.getD i 0 / 2 ^ (24 - 8 * j) % 256 := by
  obtain ⟨a, b, c, d, e, f, g, k, rfl⟩ := len8 h
  have hi' : i = 0 ∨ i = 1 ∨ i = 2 ∨ i = 3 ∨ i = 4 ∨ i = 5 ∨ i = 6 ∨ i = 7 := by omega
  have hj' : j = 0 ∨ j = 1 ∨ j = 2 ∨ j = 3 := by omega
  rcases hi' with rfl | rfl | rfl | rfl | rfl | rfl | rfl | rfl <;> rcases hj' with rfl | rfl | rfl | rfl <;> simp [digL, be4]
theorem shaL_len (m : List Nat) : (shaL m).length = 32 := digL_len (foldB_len _ _)
theorem shaL_bb (m : List Nat) : BB (shaL m) := digL_bb _
theorem Rep.whole {m : List Nat} {n : Nat} {st last : List Nat} (h : Rep (allL m) n st last) : digL st = shaL m := by rw [h.fold]; rfl
end Go.Proofs.YtaeicjgkoofmpaaDoor
