/- Words for memory: blocks that are known whole, arrays by value, slices of bytes. -/
import Derived.Test.YtipcanphkdodaaaDoorShaA
import Derived.Laws.BytesArg
import Derived.Laws.AppendOwn
import Derived.Laws.AppendOwnNone
import Derived.Laws.OwnMore
import Derived.Laws.Rows
import Derived.Deep.MidRow
import Derived.Deep.WholeRow
import Derived.Deep.DeepCutAuto
import Derived.Deep.RegionHeld3
import Derived.StillTailTactics
import Derived.ChangeSlices
import Derived.Deep.Slices
namespace Go.Proofs.YtipcanphkdodaaaDoor
open Go.RowKit Go.Lib
set_option linter.unusedVariables false

theorem bl_alloc {w W : World} (o : Obj) (h : Below w.heap.size w W) : Below w.heap.size w (W.alloc o) := h.alloc h.size o
theorem bl_drewN {w W : World} (n : Nat) (h : Below w.heap.size w W) : Below w.heap.size w (W.drewN n) := h.trans ⟨rfl, rfl, rfl, Nat.le_refl _, fun _ _ => rfl⟩
theorem bl_call {w W W' : World} (h : Below w.heap.size w W) (k : Below W.heap.size W W') : Below w.heap.size w W' := h.trans (k.mono h.size)
theorem bl_set {w W : World} {p : Addr} (v : Value) (h : Below w.heap.size w W) (hp : w.heap.size ≤ p.block) : Below w.heap.size w (W.setCell p v) := h.setCell hp v

/-- Block g is this row of cells, and may be written. -/
def AR (w : World) (g : Nat) (t : TypeId) (cs : Array Value) : Prop := w.heap[g]? = some (.cells cs t (0, 0))
section
variable {w W : World} {g : Nat} {t : TypeId} {cs : Array Value}
theorem AR.inside (h : AR w g t cs) : g < w.heap.size := (Array.getElem?_eq_some_iff.1 h).1
theorem AR.at (h : AR w g t cs) {i : Nat} {v : Value} (hv : cs[i]? = some v) : w.cell? ⟨g, i, none⟩ = some v := (cell_of_row w g i cs t (0, 0) h).trans hv
theorem AR.free (h : AR w g t cs) (i : Nat) : w.frozen? ⟨g, i, none⟩ = false := frozen_of_row w g i cs t h
theorem AR.made (w : World) (t : TypeId) (cs : Array Value) : AR (w.alloc (.cells cs t)) w.heap.size t cs := heap_alloc_new w _
theorem AR.more (h : AR w g t cs) (o : Obj) : AR (w.alloc o) g t cs := ((Below.refl w.heap.size w).alloc (Nat.le_refl _) o |>.block g h.inside).trans h
theorem AR.drawn (h : AR w g t cs) (n : Nat) : AR (w.drewN n) g t cs := h
theorem AR.put (h : AR w g t cs) (i : Nat) (v : Value) : AR (w.setCell ⟨g, i, none⟩ v) g t (cs.setIfInBounds i v) := heap_setCell_same w g i cs t v h
theorem AR.kept (h : AR w g t cs) {a : Addr} (hne : g ≠ a.block) (v : Value) : AR (w.setCell a v) g t cs := (heap_setCell_other w a g v hne).trans h
theorem AR.later (h : AR w g t cs) {B : Nat} (hb : Below B w W) (hg : g < B) : AR W g t cs := (hb.block g hg).trans h
theorem AR.step (h : AR w g t cs) (hb : Below w.heap.size w W) : AR W g t cs := h.later hb h.inside
theorem AR.row (h : AR w g t cs) (c' : Array Value) : AR (w.setRow g c') g t c' := setRow_heap w g cs c' t (0, 0) h
theorem AR.apart (h : AR w g t cs) {k : Nat} (hne : g ≠ k) (c' : Array Value) : AR (w.setRow k c') g t cs := (setRow_other w k g c' hne).trans h
end
theorem bl_row {w W : World} {g : Nat} (cs : Array Value) (h : Below w.heap.size w W) (hg : w.heap.size ≤ g) : Below w.heap.size w (W.setRow g cs) :=
  h.trans ⟨rfl, rfl, rfl, by simp, fun b hb => setRow_other W g b cs (by omega)⟩

/-- Numbers as the cells of an array. -/
def uV (l : List Nat) : Array Value := (l.map fun (x : Nat) => Value.int .u32 x).toArray
def yV (l : List Nat) : Array Value := (l.map fun (x : Nat) => Value.int .u8 x).toArray
theorem uV_size (l : List Nat) : (uV l).size = l.length := by simp [uV]
theorem yV_size (l : List Nat) : (yV l).size = l.length := by simp [yV]
theorem uV_get {l : List Nat} {i x : Nat} (h : l[i]? = some x) : (uV l)[i]? = some (.int .u32 x) := by simp [uV, h]
theorem yV_get {l : List Nat} {i x : Nat} (h : l[i]? = some x) : (yV l)[i]? = some (.int .u8 x) := by simp [yV, h]
theorem uV_set (l : List Nat) (i x : Nat) : (uV l).setIfInBounds i (.int .u32 x) = uV (l.set i x) := by simp [uV, List.map_set]
theorem yV_set (l : List Nat) (i x : Nat) : (yV l).setIfInBounds i (.int .u8 x) = yV (l.set i x) := by simp [yV, List.map_set]
theorem uV_one (l : List Nat) : (uV l).all (·.oneCell') = true := by rw [Array.all_eq_true_iff_forall_mem]; intro v hv; simp [uV] at hv; obtain ⟨x, _, rfl⟩ := hv; rfl
theorem yV_one (l : List Nat) : (yV l).all (·.oneCell') = true := by rw [Array.all_eq_true_iff_forall_mem]; intro v hv; simp [yV] at hv; obtain ⟨x, _, rfl⟩ := hv; rfl

/-- An element of an array by value, of a type of one cell. -/
theorem run_index_one {P : Program} {w : World} {t e : TypeId} {n : Nat} {cs : Array Value} {d : TypeDesc} {i : Nat} {v : Value} (h : P.underlying t = some (.array n e)) (hd : P.underlying e = some d) (hr : d.isRow = false) (hs : (P.info? e).map (·.size) = some 1)
    (hi : i < n) (hv : cs[i]? = some v) : (Instr.index t (.agg cs) (.int .i64 i)).run P w = .ok v w := by
  cases hq : P.info? e with
  | none => simp [hq] at hs
  | some z =>
    have hz : z.size = 1 := by simpa [hq] using hs
    have hagg : (isAgg e).run P w = .ok false w := by
      unfold isAgg
      rw [Sem.run_bind, run_underlying hd w]
      cases d <;> simp_all
    have hc : (0 : Int) ≤ (i : Int) ∧ (i : Int) < (n : Int) := by omega
    simp [Instr.index, asIntOf, run_underlying h, sizeOf, typeInfo, hq, hz, part, hagg, hv, hc, go_sem]
    omega
/-- Is this the operation? (A guard of an arm.) -/
theorem atOp {P : Program} {ops : Array Oper} {rest : List Oper} (o : Oper) {a : Act} {w : World} {Q : Exit → Act → World → Prop} (h : wpList P ops Q (o :: rest) a w) : wpList P ops Q (o :: rest) a w := h
/-- A whole row is read, in a region whose head only reads. -/
theorem still_load_row {P : Program} {ops : Array Oper} {rest : List Oper} {o : Oper} {a : Act} {w : World} {Q : Act → Prop} (hw : Region.wanted o (yielded ops a.tmps) = true) (ty : TypeId) (x : Operand) (ho : o.op = .load ty x)
    (g : Nat) (hx : a.eval x = .pointer (some ⟨g, 0, none⟩)) (t : TypeId) (cs : Array Value) (fr : Nat × Nat) (d : TypeDesc) (hg : w.heap[g]? = some (.cells cs t fr))
    (hu : P.underlying ty = some d) (hd : (match d with | .struct _ | .array _ _ => true | _ => false) = true) (hi : (P.info? ty).map (·.size) = some cs.size)
    (h : wpStill P ops w Q rest (a.put o.dst (.agg cs))) : wpStill P ops w Q (o :: rest) a := by
  unfold wpStill
  rw [if_pos hw]
  unfold Oper.still execOp
  simp only [ho, hx, Instr.loadAt, Instr.sureAddr, Sem.run_bind, Sem.run_pure, Result.andThen_ok, run_loadVar_row w g t ty cs fr d hg hu hd hi]
  exact ⟨rfl, h⟩
end Go.Proofs.YtipcanphkdodaaaDoor
