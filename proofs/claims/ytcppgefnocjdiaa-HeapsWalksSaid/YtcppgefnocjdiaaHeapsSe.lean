/- Sorting a row of items by a method value: a comparison, an exchange; heaps in a range; siftDown. -/
import Derived.Test.YtcppgefnocjdiaaHeapsSb
namespace Go.Proofs.Ytcppgefnocjdiaa
open Go.RowKit Go.Lib Go.Sort Go.Shelf
set_option linter.unusedVariables false

theorem w64 {x : Int} {m : Nat} (h : x = m) (hm : m < 4000000000000) : IntKind.i64.wrap x = (m : Int) := by subst h; exact IntWalk.i64_in _ (by omega)
/-- A comparison of two items of the row. -/
theorem SE.test {W0 : World} {B g n c qb : Nat} {F : Value} {lt : Int → Int → Bool} {d : List HItem} {wr : World} (h : SE W0 qb g F lt) (m : SM W0 B g n c d wr) {i j : Nat} (hi : i < n) (hj : j < n) :
    ∃ xh xv yh yv r, Hid (r < 0 ↔ befI lt (d.getD i d0) (d.getD j d0)) ∧
      (∀ N os, (grow (wr.drewN N) os).cell? ⟨g, i * 2, none⟩ = some (.int .i64 xh)) ∧ (∀ N os, (grow (wr.drewN N) os).cell? ⟨g, i * 2 + 1, none⟩ = some (.int .i64 xv)) ∧
      (∀ N os, (grow (wr.drewN N) os).cell? ⟨g, j * 2, none⟩ = some (.int .i64 yh)) ∧ (∀ N os, (grow (wr.drewN N) os).cell? ⟨g, j * 2 + 1, none⟩ = some (.int .i64 yv)) ∧
      ∀ N os, Calls Try.prog 60 #[.pointer (some ⟨qb, 2, none⟩), .agg #[.int .i64 xh, .int .i64 xv], .agg #[.int .i64 yh, .int .i64 yv]] (grow (wr.drewN N) os) fun e w'' => e = .returned (.int .i64 r) ∧ ∃ p : GrownBy, w'' = grow (wr.drewN p.n) p.os := by
  obtain ⟨c0, c1, _⟩ := m.cells hi
  obtain ⟨e0, e1, _⟩ := m.cells hj
  have kc := fun N os => h.cmp m (d.getD i d0) (d.getD j d0) N os
  exact ⟨_, _, _, _, _, Lib.hid cmpI_neg, grown_cell c0, grown_cell c1, grown_cell e0, grown_cell e1, kc⟩
/-- The exchange of two items of the row. -/
theorem SM.exch {W0 : World} {B g n c : Nat} {d : List HItem} {wr : World} (m : SM W0 B g n c d wr) {i j : Nat} (hi : i < n) (hj : j < n) :
    ∃ xh xv yh yv, wr.cell? ⟨g, i * 2, none⟩ = some (.int .i64 xh) ∧ wr.cell? ⟨g, i * 2 + 1, none⟩ = some (.int .i64 xv) ∧ wr.cell? ⟨g, j * 2, none⟩ = some (.int .i64 yh) ∧ wr.cell? ⟨g, j * 2 + 1, none⟩ = some (.int .i64 yv) ∧
      wr.frozen? ⟨g, i * 2, none⟩ = false ∧ wr.frozen? ⟨g, i * 2 + 1, none⟩ = false ∧ wr.frozen? ⟨g, j * 2, none⟩ = false ∧ wr.frozen? ⟨g, j * 2 + 1, none⟩ = false ∧
      Hid (SM W0 B g n c (swapL d d0 i j) ((((wr.setCell ⟨g, i * 2, none⟩ (.int .i64 yh)).setCell ⟨g, i * 2 + 1, none⟩ (.int .i64 yv)).setCell ⟨g, j * 2, none⟩ (.int .i64 xh)).setCell ⟨g, j * 2 + 1, none⟩ (.int .i64 xv)).drew) := by
  obtain ⟨c0, c1, hz⟩ := m.cells hi
  obtain ⟨e0, e1, _⟩ := m.cells hj
  exact ⟨_, _, _, _, c0, c1, e0, e1, hz _, hz _, hz _, hz _, Lib.hid (m.swapped hi hj rfl rfl).drew⟩
/-- What a range held stands in it still. -/
theorem PR.mid {a b : Nat} {d d' : List HItem} (h : PR a b d d') (hab : a ≤ b) (hb : b ≤ d.length) : ((d'.drop a).take (b - a)).Perm ((d.drop a).take (b - a)) := by
  have hl := h.len
  have e1 : d'.take a = d.take a := by
    refine List.ext_getElem (by simp [hl]) fun k h1 h2 => ?_
    simp only [List.length_take] at h1 h2
    have := h.out k (.inl (by omega))
    simp only [List.getD_eq_getElem?_getD] at this
    rw [List.getElem?_eq_getElem (by omega), List.getElem?_eq_getElem (by omega)] at this
    simpa using this
  have e2 : d'.drop b = d.drop b := by
    refine List.ext_getElem (by simp [hl]) fun k h1 h2 => ?_
    simp only [List.length_drop] at h1 h2
    have := h.out (b + k) (.inr (by omega))
    simp only [List.getD_eq_getElem?_getD] at this
    rw [List.getElem?_eq_getElem (by omega), List.getElem?_eq_getElem (by omega)] at this
    simpa using this
  have s : ∀ l : List HItem, l = l.take a ++ ((l.drop a).take (b - a) ++ l.drop b) := fun l => by
    have : l.drop b = (l.drop a).drop (b - a) := by rw [List.drop_drop, show a + (b - a) = b by omega]
    rw [this, List.take_append_drop, List.take_append_drop]
  have p := h.perm
  rw [s d', s d, e1, e2] at p
  exact (List.perm_append_right_iff _).1 ((List.perm_append_left_iff _).1 p)
theorem PR.src {a b : Nat} {d d' : List HItem} (h : PR a b d d') (hb : b ≤ d.length) {p : Nat} (hp : a ≤ p) (hpb : p < b) : ∃ q, a ≤ q ∧ q < b ∧ d'.getD p d0 = d.getD q d0 := by
  have hl := h.len
  have m1 : d'.getD p d0 ∈ (d'.drop a).take (b - a) := by
    rw [List.mem_iff_getElem?]
    refine ⟨p - a, ?_⟩
    rw [List.getElem?_take_of_lt (by omega), List.getElem?_drop, show a + (p - a) = p by omega]
    exact getD_some (by omega)
  obtain ⟨k, hk⟩ := List.mem_iff_getElem?.1 ((h.mid (by omega) hb).mem_iff.1 m1)
  have hkb : k < b - a := by
    have := (List.getElem?_eq_some_iff.1 hk).1
    simp at this; omega
  rw [List.getElem?_take_of_lt hkb, List.getElem?_drop] at hk
  exact ⟨a + k, by omega, by omega, (getD_of hk).symm⟩
/-- What holds of all in a range, or of all outside it, does so behind its turning. -/
theorem PR.any {a b : Nat} {d d' : List HItem} (h : PR a b d d') (hb : b ≤ d.length) {P : HItem → Prop} {a' b' : Nat} (ha' : a' ≤ a) (hb' : b ≤ b') (k : ∀ p, a' ≤ p → p < b' → P (d.getD p d0)) : ∀ p, a' ≤ p → p < b' → P (d'.getD p d0) := by
  intro p h1 h2
  by_cases hp : a ≤ p ∧ p < b
  · obtain ⟨q, q1, q2, e⟩ := h.src hb hp.1 hp.2
    rw [e]; exact k q (by omega) (by omega)
  · rw [h.out p (by omega)]; exact k p h1 h2

/-- A heap with the greatest at its top, from the node lo on. -/
def HF (lt : Int → Int → Bool) (f lo m : Nat) (d : List HItem) : Prop := ∀ k, 1 ≤ k → k < m → lo ≤ (k - 1) / 2 → befI lt (d.getD (f + k) d0) (d.getD (f + (k - 1) / 2) d0)
structure SiftI (lt : Int → Int → Bool) (f lo m r : Nat) (d : List HItem) : Prop where
  rest : ∀ k, 1 ≤ k → k < m → lo ≤ (k - 1) / 2 → (k - 1) / 2 ≠ r → befI lt (d.getD (f + k) d0) (d.getD (f + (k - 1) / 2) d0)
  gp : ∀ k, 1 ≤ k → k < m → (k - 1) / 2 = r → 1 ≤ r → lo ≤ (r - 1) / 2 → befI lt (d.getD (f + k) d0) (d.getD (f + (r - 1) / 2) d0)
theorem SiftI.start {lt : Int → Int → Bool} {f lo m : Nat} {d : List HItem} (h : HF lt f (lo + 1) m d) : SiftI lt f lo m lo d :=
  ⟨fun k h1 h2 h3 h4 => h k h1 h2 (by omega), fun k h1 h2 h3 h4 h5 => by omega⟩
theorem SiftI.leaf {lt : Int → Int → Bool} {f lo m r : Nat} {d : List HItem} (h : SiftI lt f lo m r d) (hr : m ≤ 2 * r + 1) : HF lt f lo m d := fun k h1 h2 h3 => h.rest k h1 h2 h3 (by omega)
/-- The greater child. -/
def BigC (lt : Int → Int → Bool) (f m r c : Nat) (d : List HItem) : Prop := c < m ∧ 1 ≤ c ∧ (c - 1) / 2 = r ∧ ∀ k, 1 ≤ k → k < m → (k - 1) / 2 = r → k ≠ c → befI lt (d.getD (f + k) d0) (d.getD (f + c) d0)
theorem BigC.one {lt : Int → Int → Bool} {f m r : Nat} {d : List HItem} (h : 2 * r + 1 < m) (h2 : m ≤ 2 * r + 2) : BigC lt f m r (2 * r + 1) d := ⟨h, by omega, by omega, fun k h1 h2 h3 h4 => by omega⟩
theorem BigC.right {lt : Int → Int → Bool} {f m r : Nat} {d : List HItem} (h : 2 * r + 2 < m) (hb : befI lt (d.getD (f + (2 * r + 1)) d0) (d.getD (f + (2 * r + 2)) d0)) : BigC lt f m r (2 * r + 2) d :=
  ⟨h, by omega, by omega, fun k h1 h2 h3 h4 => by have : k = 2 * r + 1 := by omega
                                                  subst this; exact hb⟩
theorem BigC.left {lt : Int → Int → Bool} (hw : WeakB lt) {f m r : Nat} {d : List HItem} (hd : DH d) (hl : f + m ≤ d.length) (h : 2 * r + 2 < m) (hb : ¬ befI lt (d.getD (f + (2 * r + 1)) d0) (d.getD (f + (2 * r + 2)) d0)) : BigC lt f m r (2 * r + 1) d :=
  ⟨by omega, by omega, by omega, fun k h1 h2 h3 h4 => by have : k = 2 * r + 2 := by omega
                                                         subst this; exact hd.total hw (by omega) (by omega) (by omega) hb⟩
theorem SiftI.stop {lt : Int → Int → Bool} (hw : WeakB lt) {f lo m r c : Nat} {d : List HItem} (h : SiftI lt f lo m r d) (hd : DH d) (hl : f + m ≤ d.length) (hc : BigC lt f m r c d) (hb : ¬ befI lt (d.getD (f + r) d0) (d.getD (f + c) d0)) : HF lt f lo m d := by
  obtain ⟨c1, c2, c3, c4⟩ := hc
  have hcr : befI lt (d.getD (f + c) d0) (d.getD (f + r) d0) := hd.total hw (by omega) (by omega) (by omega) hb
  intro k h1 h2 h3
  by_cases e : (k - 1) / 2 = r
  · rw [e]
    by_cases ek : k = c
    · subst ek; exact hcr
    · exact (befI_weak hw).trans _ _ _ (c4 k h1 h2 e ek) hcr
  · exact h.rest k h1 h2 h3 e
theorem SiftI.step {lt : Int → Int → Bool} {f lo m r c : Nat} {d : List HItem} (h : SiftI lt f lo m r d) (hl : f + m ≤ d.length) (hlo : lo ≤ r) (hc : BigC lt f m r c d) (hb : befI lt (d.getD (f + r) d0) (d.getD (f + c) d0)) : SiftI lt f lo m c (swapL d d0 (f + r) (f + c)) := by
  obtain ⟨c1, c2, c3, c4⟩ := hc
  have e := swapL_getD (d := d) (i := f + r) (j := f + c) (by omega) (by omega)
  refine ⟨fun k h1 h2 h3 h4 => ?_, fun k h1 h2 h3 h4 h5 => ?_⟩
  · rw [e (f + k), e (f + (k - 1) / 2)]
    by_cases ek : k = r
    · subst ek
      rw [if_pos rfl, if_neg (by omega), if_neg (by omega)]
      exact h.gp c c2 c1 c3 h1 h3
    · by_cases ec : k = c
      · subst ec
        rw [if_neg (by omega), if_pos rfl, if_pos (by omega)]
        exact hb
      · rw [if_neg (by omega), if_neg (by omega)]
        by_cases ep : (k - 1) / 2 = r
        · rw [if_pos (by omega)]; exact c4 k h1 h2 ep ec
        · rw [if_neg (by omega), if_neg (by omega)]; exact h.rest k h1 h2 h3 ep
  · rw [e (f + k), e (f + (c - 1) / 2), if_neg (by omega), if_neg (by omega), if_pos (by omega)]
    have := h.rest k h1 h2 (by omega) (by omega)
    rw [h3] at this
    exact this
end Go.Proofs.Ytcppgefnocjdiaa
