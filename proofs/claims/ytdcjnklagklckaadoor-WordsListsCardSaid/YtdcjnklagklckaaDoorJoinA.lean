/- What Join returns: the line of fields, and the error's number; the mathematics of it. -/
import Derived.Test.YtdcjnklagklckaaDoorWordsW
import Derived.Test.YtdcjnklagklckaaDoorWordsR
namespace Go.Proofs.YtdcjnklagklckaaDoor
open Go.RowKit Go.Shelf
set_option linter.unusedVariables false

/-- A field as a line has it. -/
def writL (f : FD) : List UInt8 := if f.2 then quoteL f.1.data.toList else f.1.data.toList
def okF (f : FD) : Bool := f.2 || bareB f.1.data.toList
def lineL (fs : List FD) : List UInt8 := Lib.join (fs.map writL) [32]
/-- What Join returns. -/
def joinL (fs : List FD) : List UInt8 × Int :=
  if tooB fs then ([], 3) else if !fs.all okF then ([], 6) else if 8192 < (lineL fs).length then ([], 3) else (lineL fs, 0)

theorem join_snoc (xs : List (List UInt8)) (x sep : List UInt8) : Lib.join (xs ++ [x]) sep = if xs.isEmpty then x else Lib.join xs sep ++ sep ++ x := by
  cases xs with
  | nil => simp [Lib.join_one]
  | cons y r => simp [Lib.join_cons, Lib.joinTail, List.append_assoc]
theorem quoteL_len (l : List UInt8) : (quoteL l).length ≤ 4 * l.length + 2 := by
  have := flat_len l; unfold quoteL; rw [List.length_append, List.length_cons, List.length_cons, List.length_nil]; omega
theorem writL_len {f : FD} (h : f.1.size ≤ 2000) : (writL f).length ≤ 8002 := by
  unfold writL; split
  · have := quoteL_len f.1.data.toList; rw [len_data] at this; omega
  · rw [len_data]; omega
theorem tooB_no {fs : List FD} (h : tooB fs = false) : fs.length ≤ 64 ∧ ∀ f ∈ fs, f.1.size ≤ 2000 := by
  unfold tooB at h
  rw [Bool.or_eq_false_iff, List.any_eq_false] at h
  obtain ⟨h1, h2⟩ := h
  refine ⟨by simpa using h2, fun f hf => ?_⟩
  have := h1 f hf; simpa using this
theorem lineL_len {fs : List FD} (h : tooB fs = false) : (lineL fs).length ≤ 512192 := by
  obtain ⟨h1, h2⟩ := tooB_no h
  have := join_len [32] 8002 (fs.map writL) (fun x hx => by
    obtain ⟨f, hf, rfl⟩ := List.mem_map.1 hx; exact writL_len (h2 f hf))
  unfold lineL
  rw [List.length_map] at this
  simp only [List.length_cons, List.length_nil] at this
  omega
theorem lineL_take {fs : List FD} (k : Nat) (h : tooB fs = false) : (lineL (fs.take k)).length ≤ 512192 := by
  refine lineL_len ?_
  obtain ⟨h1, h2⟩ := tooB_no h
  unfold tooB
  rw [Bool.or_eq_false_iff, List.any_eq_false]
  exact ⟨fun f hf => by have := h2 f (List.mem_of_mem_take hf); simp; omega, by simp; omega⟩
theorem lineL_step {fs : List FD} {k : Nat} (hk : k < fs.length) : lineL (fs.take (k + 1)) = if k = 0 then writL fs[k] else lineL (fs.take k) ++ [32] ++ writL fs[k] := by
  unfold lineL
  rw [List.take_succ_eq_append_getElem hk, List.map_append, List.map_cons, List.map_nil, join_snoc]
  cases k with
  | zero => simp
  | succ k =>
    have : ((fs.take (k + 1)).map writL).isEmpty = false := by
      cases fs with
      | nil => simp at hk
      | cons a r => rfl
    rw [this, if_neg (by simp), if_neg (by omega)]
theorem okF_bad {fs : List FD} {k : Nat} (hk : k < fs.length) (h : okF fs[k] = false) : fs.all okF = false := by
  rw [List.all_eq_false]; exact ⟨fs[k], List.getElem_mem hk, by simp [h]⟩
theorem okF_step {fs : List FD} {k : Nat} (hk : k < fs.length) (hx : (fs.take k).all okF = true) (h : okF fs[k] = true) : (fs.take (k + 1)).all okF = true := by
  rw [List.take_succ_eq_append_getElem hk, List.all_append, hx]; simp [h]
theorem joinL_bad {fs : List FD} (h : tooB fs = false) (hb : fs.all okF = false) : joinL fs = ([], 6) := by
  unfold joinL; rw [h, hb]; rfl
theorem joinL_end {fs : List FD} (h : tooB fs = false) (hb : fs.all okF = true) : joinL fs = if 8192 < (lineL fs).length then ([], 3) else (lineL fs, 0) := by
  unfold joinL; rw [h, hb]; rfl
/-- A field that is not quoted: its bytes are those of a bare field if the bytes before the first that is none are all. -/
theorem bareB_N (s : ByteArray) : bareB s.data.toList = (!decide (s.size = 0) && decide (bareN s.data.toList = s.size)) := by
  have hem : s.data.toList.isEmpty = decide (s.size = 0) := by rw [← isEmpty_size, ByteArray.toList_eq]
  unfold bareB; rw [hem]; congr 1
  rw [Bool.eq_iff_iff, decide_eq_true_eq]
  constructor
  · intro h; unfold bareN; rw [takeWhile_all _ _ h, len_data]
  · intro h
    have h2 : s.data.toList.takeWhile bareC = s.data.toList := by
      have hp := List.takeWhile_prefix bareC (l := s.data.toList)
      exact hp.eq_of_length (by rw [len_data]; exact h)
    rw [← h2]; exact List.all_takeWhile
end Go.Proofs.YtdcjnklagklckaaDoor
