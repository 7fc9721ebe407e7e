/- Fields at the beginning of a line: the mathematics of the reference's Split. -/
import Derived.Test.YtdcjnklagklckaaDoorWordsV
import Derived.Test.YtdcjnklagklckaaDoorWordsQ
import Derived.Test.YtdcjnklagklckaaDoorWordsR
namespace Go.Proofs.YtdcjnklagklckaaDoor
open Go.RowKit Go.Shelf
set_option linter.unusedVariables false

theorem bareC_32 : bareC 32 = false := by kernel_rfl
theorem bareC_34 : bareC 34 = false := by kernel_rfl
theorem tw_stop {b : List UInt8} (he : b = [] ∨ b.headD 0 = 32) : b.takeWhile bareC = [] := by
  rcases b with _ | ⟨c, r⟩
  · rfl
  · rcases he with h | h
    · cases h
    · obtain rfl : c = 32 := h
      rw [List.takeWhile_cons, bareC_32]; rfl
theorem oneF_ab (a b : List UInt8) (hb : bareB a = true) (he : b = [] ∨ b.headD 0 = 32) : oneF (a ++ b) = (⟨a.toArray⟩, false, a.length) := by
  unfold bareB at hb
  rw [Bool.and_eq_true] at hb
  obtain ⟨h1, h2⟩ := hb
  rcases a with _ | ⟨c, r⟩
  · cases h1
  · have hc : c ≠ 34 := by rintro rfl; rw [List.all_cons, bareC_34] at h2; cases h2
    have hN : bareN (c :: r ++ b) = (c :: r).length := by
      unfold bareN; rw [List.takeWhile_append_of_pos (List.all_eq_true.1 h2), tw_stop he, List.append_nil]
    rw [oneF_bare (l := c :: r ++ b) hc, hN, List.take_left]
theorem bad_ab (a b : List UInt8) (hsp : a.all (· != 32) = true) (hb : bareB a = false) (he : b = [] ∨ b.headD 0 = 32) (hq : (qT (a ++ b)).2 = 0) : fBad (a ++ b) = true := by
  unfold fBad
  by_cases h34 : (a ++ b).headD 0 = 34
  · rw [oneF_quoted h34, hq]; rfl
  · rw [oneF_bare h34]
    by_cases hm : bareN (a ++ b) = 0
    · rw [hm]; rfl
    · have hN : bareN (a ++ b) = (a.takeWhile bareC).length ∧ (a.takeWhile bareC).length < a.length := by
        unfold bareN at hm ⊢
        by_cases hal : a.all bareC = true
        · exfalso
          rw [List.takeWhile_append_of_pos (List.all_eq_true.1 hal), tw_stop he, List.append_nil] at hm
          apply hm
          unfold bareB at hb
          rw [hal, Bool.and_true] at hb
          rcases a with _ | ⟨c, r⟩
          · rfl
          · cases hb
        · have hlt : (a.takeWhile bareC).length ≠ a.length := fun e => hal (by
            have := List.takeWhile_append_dropWhile (p := bareC) (l := a)
            have hd : a.dropWhile bareC = [] := by
              have h2 := congrArg List.length this
              rw [List.length_append, e] at h2
              exact List.eq_nil_of_length_eq_zero (by omega)
            rw [hd, List.append_nil] at this
            rw [← this]; exact List.all_takeWhile)
          have hle : (a.takeWhile bareC).length ≤ a.length := (List.takeWhile_prefix _).length_le
          rw [List.takeWhile_append, if_neg hlt]
          exact ⟨rfl, by omega⟩
      obtain ⟨e, hlt⟩ := hN
      rw [e]
      dsimp only
      rw [List.drop_append_of_le_length (by omega)]
      rcases hd : a.drop (a.takeWhile bareC).length with _ | ⟨x, r⟩
      · have := congrArg List.length hd; simp at this; omega
      · have hx : x ∈ a := List.mem_of_mem_drop (by rw [hd]; exact List.mem_cons_self)
        have := List.all_eq_true.1 hsp x hx
        have hx2 : (x == 32) = false := by simpa using this
        show (_ || (!false && !(x == 32))) = true
        rw [hx2]; simp

theorem qT_head {l : List UInt8} (h : (qT l).2 ≠ 0) : l.headD 0 = 34 := by
  by_cases hh : l.headD 0 = 34
  · exact hh
  · exfalso; apply h; unfold qT quotedL; rw [if_neg hh]; rfl

def Todo (L : List UInt8) (k : Nat) (pre : List FY) : Prop := ∃ F, L.length - k < F ∧ fieldsY L = pre ++ fGo F (L.drop k)
theorem todo_end {L : List UInt8} {k : Nat} {pre : List FY} (h : Todo L k pre) (hb : fBad (L.drop k) = true) : (fieldsY L).any (fun x => !x.2.2) = true := by
  obtain ⟨F, hF, h⟩ := h
  cases F with
  | zero => omega
  | succ F => rw [h, fGo, if_pos hb, List.any_append]; simp
theorem todo_next {L : List UInt8} {k n : Nat} {pre : List FY} {T : ByteArray} {q : Bool} (h : Todo L k pre) (ho : oneF (L.drop k) = (T, q, n)) (hn : n ≠ 0) :
    (k + n = L.length → fieldsY L = pre ++ [((T, q, true) : FY)]) ∧
    (k + n < L.length → L.getD (k + n) 0 ≠ 32 → (fieldsY L).any (fun x => !x.2.2) = true) ∧
    (k + n < L.length → L.getD (k + n) 0 = 32 → Todo L (k + n + 1) (pre ++ [((T, q, true) : FY)])) := by
  have hbad : fBad (L.drop k) = (!((L.drop k).drop n).isEmpty && !(((L.drop k).drop n).headD 0 == 32)) := by
    unfold fBad; rw [ho]; simp [hn]
  rw [List.drop_drop] at hbad
  refine ⟨fun e => ?_, fun hl hx => ?_, fun hl hx => ?_⟩
  · obtain ⟨F, hF, h⟩ := h
    have hd : L.drop (k + n) = [] := List.drop_eq_nil_of_le (by omega)
    cases F with
    | zero => omega
    | succ F =>
      rw [h, fGo, hbad, hd, if_neg (by simp), ho]
      simp only [List.drop_drop, hd]; rfl
  · refine todo_end h ?_
    have hd : L.drop (k + n) = L[k + n] :: L.drop (k + n + 1) := List.drop_eq_getElem_cons hl
    rw [List.getD_eq_getElem?_getD, List.getElem?_eq_getElem hl] at hx
    rw [hbad, hd]
    show (!false && !(L[k + n] == 32)) = true
    rw [show (L[k + n] == 32) = false from beq_eq_false_iff_ne.2 hx]; rfl
  · obtain ⟨F, hF, h⟩ := h
    have hd : L.drop (k + n) = L[k + n] :: L.drop (k + n + 1) := List.drop_eq_getElem_cons hl
    rw [List.getD_eq_getElem?_getD, List.getElem?_eq_getElem hl] at hx
    cases F with
    | zero => omega
    | succ F =>
      refine ⟨F, by omega, ?_⟩
      rw [h, fGo, hbad, hd, if_neg (by show ¬ (!false && !(L[k + n] == 32)) = true; rw [show (L[k + n] == 32) = true from beq_iff_eq.2 hx]; simp), ho]
      simp only [List.drop_drop, hd, List.isEmpty_cons]
      simp [Nat.add_assoc]

theorem cells_new2 (w : World) (o : Obj) (t : TypeId) (vs : List Value) : ∀ (j : Nat) (u : Value), vs[j]? = some u → ((w.alloc o).alloc (.cells vs.toArray t)).cell? ((⟨w.heap.size + 1, 0, none⟩ : Addr).add j) = some u := by
  have h : (w.alloc o).heap.size = w.heap.size + 1 := by simp
  rw [← h]; exact cells_new _ _ _

end Go.Proofs.YtdcjnklagklckaaDoor
