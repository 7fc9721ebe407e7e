/- Slices of bytes; what is known of bytes, in memory. -/
import Derived.Test.YtipcanphkdodaaaDoorShaD
import Derived.Test.YtipcanphkdodaaaDoorShaN
import Derived.Laws.CopyOwn
namespace Go.Proofs.YtipcanphkdodaaaDoor
open Go.RowKit Go.Lib
set_option linter.unusedVariables false

/-- The slice v reads as the bytes xs. -/
def RN (w : World) (v : Value) (xs : List Nat) : Prop :=
  (∃ A c, v = .slice A 0 c ∧ xs = [] ∧ (A = none → c = 0)) ∨
  ∃ g off c, v = .slice (some ⟨g, off, none⟩) xs.length c ∧ g < w.heap.size ∧ 0 < xs.length ∧ xs.length ≤ c ∧ c ≤ maxLen ∧ ∀ i, i < xs.length → w.cell? ⟨g, off + i, none⟩ = some (.int .u8 (xs.getD i 0 : Nat))
theorem RN.later {W W' : World} {v : Value} {xs : List Nat} (h : RN W v xs) (hb : Below W.heap.size W W') : RN W' v xs := by
  rcases h with h | ⟨g, off, c, rfl, h1, h0, h2, h3, h4⟩
  · exact .inl h
  · exact .inr ⟨g, off, c, rfl, Nat.lt_of_lt_of_le h1 hb.size, h0, h2, h3, fun i hi => (hb.cell (p := ⟨g, _, none⟩) h1).trans (h4 i hi)⟩
theorem RN.nil (w : World) : RN w (.slice none 0 0) [] := .inl ⟨none, 0, rfl, rfl, fun _ => rfl⟩
theorem RN.drawn {W : World} {v : Value} {xs : List Nat} (h : RN W v xs) (n : Nat) : RN (W.drewN n) v xs := h
theorem RN.len {W : World} {v : Value} {xs : List Nat} (h : RN W v xs) : ∃ A c, v = .slice A xs.length c := by
  rcases h with ⟨A, c, rfl, rfl, _⟩ | ⟨g, off, c, rfl, _⟩
  · exact ⟨A, c, rfl⟩
  · exact ⟨_, _, rfl⟩
def yL (l : List Nat) : List Value := l.map fun (x : Nat) => Value.int .u8 x
def uL (l : List Nat) : List Value := l.map fun (x : Nat) => Value.int .u32 x
theorem yL_len (l : List Nat) : (yL l).length = l.length := by simp [yL]
theorem uL_len (l : List Nat) : (uL l).length = l.length := by simp [uL]
theorem yL_one (l : List Nat) : ∀ v ∈ yL l, v.oneCell' = true := by intro v hv; unfold yL at hv; obtain ⟨x, _, rfl⟩ := List.mem_map.1 hv; rfl
theorem uL_one (l : List Nat) : ∀ v ∈ uL l, v.oneCell' = true := by intro v hv; unfold uL at hv; obtain ⟨x, _, rfl⟩ := List.mem_map.1 hv; rfl
theorem yL_take (l : List Nat) (k : Nat) : yL (l.take k) = (yL l).take k := by simp [yL, List.map_take]
theorem yL_drop (l : List Nat) (k : Nat) : yL (l.drop k) = (yL l).drop k := by simp [yL, List.map_drop]
theorem yL_app (l m : List Nat) : yL (l ++ m) = yL l ++ yL m := by simp [yL]

/-- The cells of what is known of bytes. -/
def tL (n : Nat) (st last : List Nat) : List Value := .int .u64 n :: (uL st ++ yL last)
def tV (n : Nat) (st last : List Nat) : Array Value := (tL n st last).toArray
theorem tL_len {st last : List Nat} (n : Nat) (h : st.length = 8) (h2 : last.length = 64) : (tL n st last).length = 73 := by simp [tL, uL_len, yL_len, h, h2]
theorem tV_size {st last : List Nat} (n : Nat) (h : st.length = 8) (h2 : last.length = 64) : (tV n st last).size = 73 := by simp [tV, tL_len n h h2]
theorem tV_one (n : Nat) (st last : List Nat) : (tV n st last).all (·.oneCell') = true := by
  rw [Array.all_eq_true_iff_forall_mem]
  intro v hv
  simp only [tV, tL, List.mem_toArray, List.mem_cons, List.mem_append] at hv
  rcases hv with rfl | hv | hv
  · rfl
  · exact uL_one _ v hv
  · exact yL_one _ v hv
theorem tL_st {st last : List Nat} (n : Nat) (h : st.length = 8) : ((tL n st last).drop 1).take 8 = uL st := by
  show (uL st ++ yL last).take 8 = _
  rw [List.take_append_of_le_length (by rw [uL_len, h]; omega), List.take_of_length_le (by rw [uL_len, h]; omega)]
theorem tL_last {st last : List Nat} (n : Nat) (h : st.length = 8) (h2 : last.length = 64) : ((tL n st last).drop 9).take 64 = yL last := by
  show ((uL st ++ yL last).drop 8).take 64 = _
  rw [List.drop_append_of_le_length (by rw [uL_len, h]; omega), List.drop_of_length_le (by rw [uL_len, h]; omega), List.nil_append, List.take_of_length_le (by rw [yL_len, h2]; omega)]
theorem tL_setN (n m : Nat) (st last : List Nat) : (tL n st last).set 0 (.int .u64 m) = tL m st last := rfl
theorem tL_setS {st st' last : List Nat} (n : Nat) (h : st.length = 8) (h2 : st'.length = 8) : splice (tL n st last) 1 (uL st') = tL n st' last := by
  unfold splice tL
  rw [uL_len, h2, List.take_succ_cons, List.take_zero, show 1 + 8 = 8 + 1 from rfl, List.drop_succ_cons, List.drop_append_of_le_length (by rw [uL_len, h]; omega), List.drop_of_length_le (by rw [uL_len, h]; omega)]
  simp
theorem tL_setL {st last ys : List Nat} (n o : Nat) (h : st.length = 8) (h2 : last.length = 64) (ho : o + ys.length ≤ 64) : splice (tL n st last) (9 + o) (yL ys) = tL n st (put last o ys) := by
  unfold splice tL put
  rw [yL_len, yL_app, yL_app, yL_take, yL_drop, show 9 + o = (8 + o) + 1 by omega, List.take_succ_cons, show 8 + o + 1 + ys.length = (8 + o + ys.length) + 1 by omega, List.drop_succ_cons, List.take_append, List.drop_append, uL_len, h, List.take_of_length_le (by rw [uL_len, h]; omega), List.drop_of_length_le (by rw [uL_len, h]; omega), show 8 + o - 8 = o by omega, show 8 + o + ys.length - 8 = o + ys.length by omega]
  simp

section
variable {P : Program} {w : World} {ops : Array Oper} {rest : List Oper} {o : Oper} {a : Act} {Q : Exit → Act → World → Prop}
/-- A row is read out of the middle of a block that is known whole. -/
theorem wpList_load_at (hgd : o.guard = none) (ty : TypeId) (x : Operand) (ho : o.op = .load ty x) (g off n : Nat) (hx : a.eval x = .pointer (some ⟨g, off, none⟩)) (t : TypeId) (old cs : List Value) (d : TypeDesc) (hg : w.heap[g]? = some (.cells old.toArray t (0, 0)))
    (hc : (old.drop off).take n = cs) (hn : cs.length = n) (hu : P.underlying ty = some d) (hd : d.isRow = true) (hi : (P.info? ty).map (·.size) = some n)
    (h : wpList P ops Q rest (a.put o.dst (.agg cs.toArray)) w) : wpList P ops Q (o :: rest) a w := by
  subst hn
  refine wpList_load_mid hgd ty x ho g off hx cs d (fun j v hv => ?_) hu hd hi h
  rw [cell_of_row w g (off + j) _ t (0, 0) hg, List.getElem?_toArray, ← hv]
  have hj : j < cs.length := (List.getElem?_eq_some_iff.1 hv).1
  conv => rhs; rw [← hc]
  rw [List.getElem?_take, if_pos hj, List.getElem?_drop]
/-- A row is written into the middle of a block that is known whole. -/
theorem wpList_store_at (hgd : o.guard = none) (ty : TypeId) (x y : Operand) (ho : o.op = .store ty x y) (g off : Nat) (cells : List Value) (hx : a.eval x = .pointer (some ⟨g, off, none⟩)) (hy : a.eval y = .agg cells.toArray)
    (t : TypeId) (old : List Value) (hg : w.heap[g]? = some (.cells old.toArray t (0, 0))) (hi : (P.info? ty).map (·.size) = some cells.length) (hfit : off + cells.length ≤ old.length) (h1 : ∀ v ∈ cells, v.oneCell' = true)
    (h : wpList P ops Q rest (a.put o.dst undef) (w.setRow g (splice old off cells).toArray)) : wpList P ops Q (o :: rest) a w := by
  refine wpList_plain hgd fun K hK => ?_
  have hr := run_storeCells_at P g off t cells 0 old.toArray w hg (by simpa using hfit) h1
  rw [Nat.add_zero] at hr
  have hv : (storeVar ty ⟨g, off, none⟩ (.agg cells.toArray)).run P w = .ok () (w.setRow g (splice old off cells).toArray) := by
    cases hq : P.info? ty with
    | none => simp [hq] at hi
    | some i =>
      have hs : cells.length = i.size := by simp [hq] at hi; omega
      have e : (splice old off cells).toArray = (old.toArray.toList.take off ++ cells ++ old.toArray.toList.drop (off + cells.length)).toArray := by simp [splice]
      rw [e, ← hr]
      simp [storeVar, sizeOf, typeInfo, hq, Value.cells, hs]
  unfold Oper.wp execOp
  simp only [ho, hx, hy, Instr.storeAt, Instr.sureAddr, Sem.run_bind, Sem.run_pure, Result.andThen_ok, hv]
  exact hK _ _ h
end
end Go.Proofs.YtipcanphkdodaaaDoor
