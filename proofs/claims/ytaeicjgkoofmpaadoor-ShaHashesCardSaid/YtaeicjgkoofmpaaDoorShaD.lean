/- The contracts of the program's functions over words. Words for memory: blocks that are known whole, arrays by value, slices of bytes. The contract of the program's step. The contract of the program's schedule. The contract of the program's Block. -/
import Derived.Test.YtaeicjgkoofmpaaDoorChecked
import Derived.Test.YtaeicjgkoofmpaaDoorShaM
import Derived.WalkKit
import Derived.WalkSpells
import Derived.WalkLawsBesides
import Derived.Outline
import Derived.Lib.Hide
import Derived.Deep.QuietTactic
import Derived.BigQuiet
import Derived.Laws.BytesArg
import Derived.Laws.AppendOwn
import Derived.Laws.AppendOwnNone
import Derived.Laws.OwnMore
import Derived.Laws.Rows
import Derived.Deep.MidRow
import Derived.Deep.WholeRow
import Derived.Deep.DeepCutAuto
import Derived.Deep.RegionHeld3
import Derived.StillTailTactics
import Derived.ChangeSlices
import Derived.Deep.Slices
namespace Go.Proofs.YtaeicjgkoofmpaaDoor
open Go.RowKit Go.Lib
set_option linter.unusedVariables false

theorem ret_int {k : IntKind} {a b : Int} (h : a = b) : Ending.returned (.int k a) = .returned (.int k b) := by rw [h]
set_option maxHeartbeats 1000000 in
theorem rot_any (x n : Nat) (w : World) (hx : x < 4294967296) (h0 : 1 ≤ n) (h1 : n ≤ 31) : Calls Tryd.prog 80 #[.int .u32 x, .int .i64 n] w fun e w' => e = .returned (.int .u32 (rotN x n)) ∧ ∃ q, w' = w.drewN q := by
  obtain ⟨m, hm⟩ : ∃ m : Nat, (32 : Int) - n = m := ⟨32 - n, by omega⟩
  have hb := rot_bits (n := n) (m := m) hx (by omega)
  have HB := Lib.hid hb; clear hb
  go_enter Tryd.func80, Tryd.ntmps80
  go_wp2_with fail
  go_quiet (fail)
  go_wp2_with fail
  go_ret
  exact ⟨ret_int HB.out, _, rfl⟩
theorem shr_any (x n : Nat) (w : World) (hx : x < 4294967296) (h1 : n ≤ 31) : Calls Tryd.prog 81 #[.int .u32 x, .int .i64 n] w fun e w' => e = .returned (.int .u32 ((x / 2 ^ n : Nat) : Int)) ∧ w = w' := by
  go_enter Tryd.func81, Tryd.ntmps81
  go_wp2_with fail
  go_ret
  exact ⟨ret_int (cast_div x n), rfl⟩
theorem choose_any (x y z : Nat) (w : World) (hx : x < 4294967296) (hy : y < 4294967296) (hz : z < 4294967296) : Calls Tryd.prog 76 #[.int .u32 x, .int .u32 y, .int .u32 z] w fun e w' => e = .returned (.int .u32 (chN x y z)) ∧ w = w' := by
  have hsg : IntKind.u32.signed = false := rfl
  have HB := Lib.hid (ch_bits hx hy hz)
  go_enter Tryd.func76, Tryd.ntmps76
  go_wp2_with fail
  go_ret
  exact ⟨ret_int HB.out, rfl⟩
theorem majority_any (x y z : Nat) (w : World) (hx : x < 4294967296) (hy : y < 4294967296) (hz : z < 4294967296) : Calls Tryd.prog 78 #[.int .u32 x, .int .u32 y, .int .u32 z] w fun e w' => e = .returned (.int .u32 (mjN x y z)) ∧ w = w' := by
  go_enter Tryd.func78, Tryd.ntmps78
  go_wp2_with fail
  go_ret
  exact ⟨ret_int (mj_bits hx hy hz), rfl⟩
theorem rot_at (x n : Nat) (k : Int) (w : World) (hx : x < 4294967296) (hk : k = n) (h0 : 1 ≤ n) (h1 : n ≤ 31) : Calls Tryd.prog 80 #[.int .u32 x, .int .i64 k] w fun e w' => e = .returned (.int .u32 (rotN x n)) ∧ ∃ q, w' = w.drewN q := by
  subst hk; exact rot_any x n w hx h0 h1
theorem shr_at (x n : Nat) (k : Int) (w : World) (hx : x < 4294967296) (hk : k = n) (h1 : n ≤ 31) : Calls Tryd.prog 81 #[.int .u32 x, .int .i64 k] w fun e w' => e = .returned (.int .u32 ((x / 2 ^ n : Nat) : Int)) ∧ w = w' := by
  subst hk; exact shr_any x n w hx h1

set_option maxHeartbeats 1000000 in
theorem small0_any (x : Nat) (w : World) (hx : x < 4294967296) : Calls Tryd.prog 74 #[.int .u32 x] w fun e w' => e = .returned (.int .u32 (sm0 x)) ∧ ∃ q, w' = w.drewN q := by
  have HB := Lib.hid (xor3_bits (rotN_lt 7 hx) (rotN_lt 18 hx) (div_lt (n := 3) hx))
  have t1 : True := trivial; have t2 : True := trivial; have t3 : True := trivial
  go_enter Tryd.func74, Tryd.ntmps74
  go_wp2_with (first
    | (go_at_call 80; have _t := t1; (with_reducible refine (rot_at x 7 _ _ hx (by omega) (by omega) (by omega)).mono ?_); rintro e w' ⟨rfl, q, rfl⟩; clear t1 _t)
    | (go_at_call 80; have _t := t2; (with_reducible refine (rot_at x 18 _ _ hx (by omega) (by omega) (by omega)).mono ?_); rintro e w' ⟨rfl, q, rfl⟩; clear t2 _t)
    | (go_at_call 81; have _t := t3; (with_reducible refine (shr_at x 3 _ _ hx (by omega) (by omega)).mono ?_); rintro e w' ⟨rfl, rfl⟩; clear t3 _t))
  go_ret
  exact ⟨ret_int HB.out, _, rfl⟩

set_option maxHeartbeats 1000000 in
theorem small1_any (x : Nat) (w : World) (hx : x < 4294967296) : Calls Tryd.prog 73 #[.int .u32 x] w fun e w' => e = .returned (.int .u32 (sm1 x)) ∧ ∃ q, w' = w.drewN q := by
  have HB := Lib.hid (xor3_bits (rotN_lt 17 hx) (rotN_lt 19 hx) (div_lt (n := 10) hx))
  have t1 : True := trivial; have t2 : True := trivial; have t3 : True := trivial
  go_enter Tryd.func73, Tryd.ntmps73
  go_wp2_with (first
    | (go_at_call 80; have _t := t1; (with_reducible refine (rot_at x 17 _ _ hx (by omega) (by omega) (by omega)).mono ?_); rintro e w' ⟨rfl, q, rfl⟩; clear t1 _t)
    | (go_at_call 80; have _t := t2; (with_reducible refine (rot_at x 19 _ _ hx (by omega) (by omega) (by omega)).mono ?_); rintro e w' ⟨rfl, q, rfl⟩; clear t2 _t)
    | (go_at_call 81; have _t := t3; (with_reducible refine (shr_at x 10 _ _ hx (by omega) (by omega)).mono ?_); rintro e w' ⟨rfl, rfl⟩; clear t3 _t))
  go_ret
  exact ⟨ret_int HB.out, _, rfl⟩

set_option maxHeartbeats 1000000 in
theorem large0_any (x : Nat) (w : World) (hx : x < 4294967296) : Calls Tryd.prog 77 #[.int .u32 x] w fun e w' => e = .returned (.int .u32 (lg0 x)) ∧ ∃ q, w' = w.drewN q := by
  have HB := Lib.hid (xor3_bits (rotN_lt 2 hx) (rotN_lt 13 hx) (rotN_lt 22 hx))
  have t1 : True := trivial; have t2 : True := trivial; have t3 : True := trivial
  go_enter Tryd.func77, Tryd.ntmps77
  go_wp2_with (first
    | (go_at_call 80; have _t := t1; (with_reducible refine (rot_at x 2 _ _ hx (by omega) (by omega) (by omega)).mono ?_); rintro e w' ⟨rfl, q, rfl⟩; clear t1 _t)
    | (go_at_call 80; have _t := t2; (with_reducible refine (rot_at x 13 _ _ hx (by omega) (by omega) (by omega)).mono ?_); rintro e w' ⟨rfl, q, rfl⟩; clear t2 _t)
    | (go_at_call 80; have _t := t3; (with_reducible refine (rot_at x 22 _ _ hx (by omega) (by omega) (by omega)).mono ?_); rintro e w' ⟨rfl, q, rfl⟩; clear t3 _t))
  go_ret
  exact ⟨ret_int HB.out, _, rfl⟩

set_option maxHeartbeats 1000000 in
theorem large1_any (x : Nat) (w : World) (hx : x < 4294967296) : Calls Tryd.prog 75 #[.int .u32 x] w fun e w' => e = .returned (.int .u32 (lg1 x)) ∧ ∃ q, w' = w.drewN q := by
  have HB := Lib.hid (xor3_bits (rotN_lt 6 hx) (rotN_lt 11 hx) (rotN_lt 25 hx))
  have t1 : True := trivial; have t2 : True := trivial; have t3 : True := trivial
  go_enter Tryd.func75, Tryd.ntmps75
  go_wp2_with (first
    | (go_at_call 80; have _t := t1; (with_reducible refine (rot_at x 6 _ _ hx (by omega) (by omega) (by omega)).mono ?_); rintro e w' ⟨rfl, q, rfl⟩; clear t1 _t)
    | (go_at_call 80; have _t := t2; (with_reducible refine (rot_at x 11 _ _ hx (by omega) (by omega) (by omega)).mono ?_); rintro e w' ⟨rfl, q, rfl⟩; clear t2 _t)
    | (go_at_call 80; have _t := t3; (with_reducible refine (rot_at x 25 _ _ hx (by omega) (by omega) (by omega)).mono ?_); rintro e w' ⟨rfl, q, rfl⟩; clear t3 _t))
  go_ret
  exact ⟨ret_int HB.out, _, rfl⟩
end Go.Proofs.YtaeicjgkoofmpaaDoor
namespace Go.Proofs.YtaeicjgkoofmpaaDoor
open Go.RowKit Go.Lib
set_option linter.unusedVariables false

theorem bl_alloc {w W : World} (o : Obj) (h : Below w.heap.size w W) : Below w.heap.size w (W.alloc o) := h.alloc h.size o
theorem bl_drewN {w W : World} (n : Nat) (h : Below w.heap.size w W) : Below w.heap.size w (W.drewN n) := h.trans ⟨rfl, rfl, rfl, Nat.le_refl _, fun _ _ => rfl⟩
theorem bl_call {w W W' : World} (h : Below w.heap.size w W) (k : Below W.heap.size W W') : Below w.heap.size w W' := h.trans (k.mono h.size)
theorem bl_set {w W : World} {p : Addr} (v : Value) (h : Below w.heap.size w W) (hp : w.heap.size ≤ p.block) : Below w.heap.size w (W.setCell p v) := h.setCell hp v

/-- Block g is this row of cells, and may be written. -/
def AR (w : World) (g : Nat) (t : TypeId) (cs : Array Value) : Prop := w.heap[g]? = some (.cells cs t (0, 0))
section
variable {w W : World} {g : Nat} {t : TypeId} {cs : Array Value}
theorem AR.inside (h : AR w g t cs) : g < w.heap.size := (Array.getElem?_eq_some_iff.1 h).1
theorem AR.at (h : AR w g t cs) {i : Nat} {v : Value} (hv : cs[i]? = some v) : w.cell? ⟨g, i, none⟩ = some v := (cell_of_row w g i cs t (0, 0) h).trans hv
theorem AR.free (h : AR w g t cs) (i : Nat) : w.frozen? ⟨g, i, none⟩ = false := frozen_of_row w g i cs t h
theorem AR.made (w : World) (t : TypeId) (cs : Array Value) : AR (w.alloc (.cells cs t)) w.heap.size t cs := heap_alloc_new w _
theorem AR.more (h : AR w g t cs) (o : Obj) : AR (w.alloc o) g t cs := ((Below.refl w.heap.size w).alloc (Nat.le_refl _) o |>.block g h.inside).trans h
theorem AR.drawn (h : AR w g t cs) (n : Nat) : AR (w.drewN n) g t cs := h
theorem AR.put (h : AR w g t cs) (i : Nat) (v : Value) : AR (w.setCell ⟨g, i, none⟩ v) g t (cs.setIfInBounds i v) := heap_setCell_same w g i cs t v h
theorem AR.kept (h : AR w g t cs) {a : Addr} (hne : g ≠ a.block) (v : Value) : AR (w.setCell a v) g t cs := (heap_setCell_other w a g v hne).trans h
theorem AR.later (h : AR w g t cs) {B : Nat} (hb : Below B w W) (hg : g < B) : AR W g t cs := (hb.block g hg).trans h
theorem AR.step (h : AR w g t cs) (hb : Below w.heap.size w W) : AR W g t cs := h.later hb h.inside
theorem AR.row (h : AR w g t cs) (c' : Array Value) : AR (w.setRow g c') g t c' := setRow_heap w g cs c' t (0, 0) h
theorem AR.apart (h : AR w g t cs) {k : Nat} (hne : g ≠ k) (c' : Array Value) : AR (w.setRow k c') g t cs := (setRow_other w k g c' hne).trans h
end
theorem bl_row {w W : World} {g : Nat} (cs : Array Value) (h : Below w.heap.size w W) (hg : w.heap.size ≤ g) : Below w.heap.size w (W.setRow g cs) :=
  h.trans ⟨rfl, rfl, rfl, by simp, fun b hb => setRow_other W g b cs (by omega)⟩

/-- Numbers as the cells of an array. -/
def uV (l : List Nat) : Array Value := (l.map fun (x : Nat) => Value.int .u32 x).toArray
def yV (l : List Nat) : Array Value := (l.map fun (x : Nat) => Value.int .u8 x).toArray
theorem uV_size (l : List Nat) : (uV l).size = l.length := by simp [uV]
theorem yV_size (l : List Nat) : (yV l).size = l.length := by simp [yV]
theorem uV_get {l : List Nat} {i x : Nat} (h : l[i]? = some x) : (uV l)[i]? = some (.int .u32 x) := by simp [uV, h]
theorem yV_get {l : List Nat} {i x : Nat} (h : l[i]? = some x) : (yV l)[i]? = some (.int .u8 x) := by simp [yV, h]
theorem uV_set (l : List Nat) (i x : Nat) : (uV l).setIfInBounds i (.int .u32 x) = uV (l.set i x) := by simp [uV, List.map_set]
theorem yV_set (l : List Nat) (i x : Nat) : (yV l).setIfInBounds i (.int .u8 x) = yV (l.set i x) := by simp [yV, List.map_set]
theorem uV_one (l : List Nat) : (uV l).all (·.oneCell') = true := by rw [Array.all_eq_true_iff_forall_mem]; intro v hv; simp [uV] at hv; obtain ⟨x, _, rfl⟩ := hv; rfl
theorem yV_one (l : List Nat) : (yV l).all (·.oneCell') = true := by rw [Array.all_eq_true_iff_forall_mem]; intro v hv; simp [yV] at hv; obtain ⟨x, _, rfl⟩ := hv; rfl

/-- An element of an array by value, of a type of one cell. -/
theorem run_index_one {P : Program} {w : World} {t e : TypeId} {n : Nat} {cs : Array Value} {d : TypeDesc} {i : Nat} {v : Value} (h : P.underlying t = some (.array n e)) (hd : P.underlying e = some d) (hr : d.isRow = false) (hs : (P.info? e).map (·.size) = some 1)
    (hi : i < n) (hv : cs[i]? = some v) : (Instr.index t (.agg cs) (.int .i64 i)).run P w = .ok v w := by
  cases hq : P.info? e with
  | none => simp [hq] at hs
  | some z =>
    have hz : z.size = 1 := by simpa [hq] using hs
    have hagg : (isAgg e).run P w = .ok false w := by
      unfold isAgg
      rw [Sem.run_bind, run_underlying hd w]
      cases d <;> simp_all
    have hc : (0 : Int) ≤ (i : Int) ∧ (i : Int) < (n : Int) := by omega
    simp [Instr.index, asIntOf, run_underlying h, sizeOf, typeInfo, hq, hz, part, hagg, hv, hc, go_sem]
    omega
/-- Is this the operation? (A guard of an arm.) -/
theorem atOp {P : Program} {ops : Array Oper} {rest : List Oper} (o : Oper) {a : Act} {w : World} {Q : Exit → Act → World → Prop} (h : wpList P ops Q (o :: rest) a w) : wpList P ops Q (o :: rest) a w := h
/-- A whole row is read, in a region whose head only reads. -/
theorem still_load_row {P : Program} {ops : Array Oper} {rest : List Oper} {o : Oper} {a : Act} {w : World} {Q : Act → Prop} (hw : Region.wanted o (yielded ops a.tmps) = true) (ty : TypeId) (x : Operand) (ho : o.op = .load ty x)
    (g : Nat) (hx : a.eval x = .pointer (some ⟨g, 0, none⟩)) (t : TypeId) (cs : Array Value) (fr : Nat × Nat) (d : TypeDesc) (hg : w.heap[g]? = some (.cells cs t fr))
    (hu : P.underlying ty = some d) (hd : (match d with | .struct _ | .array _ _ => true | _ => false) = true) (hi : (P.info? ty).map (·.size) = some cs.size)
    (h : wpStill P ops w Q rest (a.put o.dst (.agg cs))) : wpStill P ops w Q (o :: rest) a := by
  unfold wpStill
  rw [if_pos hw]
  unfold Oper.still execOp
  simp only [ho, hx, Instr.loadAt, Instr.sureAddr, Sem.run_bind, Sem.run_pure, Result.andThen_ok, run_loadVar_row w g t ty cs fr d hg hu hd hi]
  exact ⟨rfl, h⟩
end Go.Proofs.YtaeicjgkoofmpaaDoor
namespace Go.Proofs.YtaeicjgkoofmpaaDoor
open Go.RowKit Go.Lib
set_option linter.unusedVariables false

/-- A callee's contract inside a quiet region that stands behind another one. -/
theorem qd_more {P : Program} {f : FuncId} {args : Array Value} {w : World} {i j : Nat} {v : Value} (h : Calls P f args (w.drewN (i + j)) fun e w' => e = .returned v ∧ ∃ m, w' = (w.drewN (i + j)).drewN m) :
    Calls P f args (w.drewN (i + j)) fun e w' => e = .returned v ∧ ∃ m, w' = w.drewN (i + m) :=
  Calls.mono h fun e w' hh => ⟨hh.1, by obtain ⟨m, hm⟩ := hh.2; exact ⟨j + m, by rw [hm, World.drewN_drewN, Nat.add_assoc]⟩⟩
theorem qd_same {P : Program} {f : FuncId} {args : Array Value} {w : World} {v : Value} (h : Calls P f args w fun e w' => e = .returned v ∧ w = w') : Calls P f args w fun e w' => e = .returned v ∧ ∃ m, w' = w.drewN m :=
  Calls.mono h fun e w' hh => ⟨hh.1, 0, hh.2.symm⟩

set_option maxRecDepth 20000 in
set_option maxHeartbeats 2000000 in
theorem step_any (a b c d e f g h k x : Nat) (w : World) (ha : a < 4294967296) (hb : b < 4294967296) (hc : c < 4294967296) (hd : d < 4294967296) (he : e < 4294967296) (hf : f < 4294967296) (hg : g < 4294967296) (hh : h < 4294967296) (hk : k < 4294967296) (hx : x < 4294967296) :
    Calls Tryd.prog 69 #[.agg #[.int .u32 a, .int .u32 b, .int .u32 c, .int .u32 d, .int .u32 e, .int .u32 f, .int .u32 g, .int .u32 h], .int .u32 k, .int .u32 x] w fun r w' =>
      r = .returned (.agg #[.int .u32 (addN (uN e f g h k x) (vN a b c)), .int .u32 a, .int .u32 b, .int .u32 c, .int .u32 (addN d (uN e f g h k x)), .int .u32 e, .int .u32 f, .int .u32 g]) ∧ Below w.heap.size w w' := by
  go_enter Tryd.func69, Tryd.ntmps69
  go_wp2_with fail
  go_quiet (first
    | (go_at_call 75; exact Calls.quiet_of (large1_any e _ he))
    | (go_at_call 76; exact Calls.quiet_of_same ((choose_any e f g _ he hf hg).mono fun _ _ h => ⟨h.1, h.2.symm⟩)))
  go_wp2_with fail
  go_quiet (first
    | (go_at_call 77; exact qd_more (large0_any a _ ha))
    | (go_at_call 78; exact qd_more (qd_same (majority_any a b c _ ha hb hc))))
  go_wp2_with fail
  refine bodyPost_ret (v := .agg #[.int .u32 (addN (uN e f g h k x) (vN a b c)), .int .u32 a, .int .u32 b, .int .u32 c, .int .u32 (addN d (uN e f g h k x)), .int .u32 e, .int .u32 f, .int .u32 g]) ?_ rfl ?_
  · simp [results, Tryd.results69, go_sem]
    unfold uN vN addN
    omega
  · refine ⟨rfl, ?_⟩
    iterate 8 (refine bl_set _ ?_ (by simp))
    exact bl_drewN _ (bl_alloc _ (bl_alloc _ (Below.refl _ _)))
end Go.Proofs.YtaeicjgkoofmpaaDoor
namespace Go.Proofs.YtaeicjgkoofmpaaDoor
open Go.RowKit Go.Lib
set_option linter.unusedVariables false

structure SchW (w : World) (bs l : List Nat) (W : World) : Prop where
  box : AR W w.heap.size 43 (yV bs)
  res : AR W (w.heap.size + 1) 107 (uV (List.replicate 64 0))
  row : AR W (w.heap.size + 1 + 1) 107 (uV (pre64 l))
  bel : Below w.heap.size w W
theorem SchW.drawn {w W : World} {bs l : List Nat} (h : SchW w bs l W) (n : Nat) : SchW w bs l (W.drewN n) := ⟨h.box, h.res, h.row, bl_drewN n h.bel⟩
theorem SchW.put {w W : World} {bs l : List Nat} (h : SchW w bs l W) (hl : l.length < 64) (x : Nat) {i : Nat} (hi : i = l.length) : SchW w bs (l ++ [x]) (W.setCell ⟨w.heap.size + 1 + 1, i, none⟩ (.int .u32 x)) := by
  subst hi
  refine ⟨h.box.kept (show w.heap.size ≠ w.heap.size + 1 + 1 by omega) _, h.res.kept (show w.heap.size + 1 ≠ w.heap.size + 1 + 1 by omega) _, ?_, bl_set _ h.bel (show w.heap.size ≤ w.heap.size + 1 + 1 by omega)⟩
  have := h.row.put l.length (.int .u32 x)
  rw [uV_set, pre64_set hl] at this
  exact this
theorem SchW.get {w W : World} {bs l : List Nat} (h : SchW w bs l W) {i : Nat} (hi : i < l.length) : W.cell? ⟨w.heap.size + 1 + 1, i, none⟩ = some (.int .u32 (l.getD i 0)) := h.row.at (uV_get (pre64_get hi))
theorem SchW.byte {w W : World} {bs l : List Nat} (h : SchW w bs l W) {i : Nat} (hi : i < bs.length) : W.cell? ⟨w.heap.size, i, none⟩ = some (.int .u8 (bs.getD i 0)) :=
  h.box.at (yV_get (by rw [List.getD_eq_getElem?_getD, List.getElem?_eq_getElem hi]; rfl))

theorem size_more (w : World) (o : Obj) : (w.alloc o).heap.size = w.heap.size + 1 := by simp
theorem SchW.start (w : World) (bs : List Nat) {Z Y : Array Value} (hZ : Z = uV (List.replicate 64 0)) (hY : Y = uV (List.replicate 64 0)) : SchW w bs [] (((w.alloc (.cells (yV bs) 43)).alloc (.cells Z 107)).alloc (.cells Y 107)) := by
  subst hZ hY
  refine ⟨((AR.made _ _ _).more _).more _, ?_, ?_, bl_alloc _ (bl_alloc _ (bl_alloc _ (Below.refl _ _)))⟩
  · have := AR.made (w.alloc (.cells (yV bs) 43)) 107 (uV (List.replicate 64 0))
    rw [size_more] at this
    exact this.more _
  · have := AR.made ((w.alloc (.cells (yV bs) 43)).alloc (.cells (uV (List.replicate 64 0)) 107)) 107 (uV (List.replicate 64 0))
    rw [size_more, size_more] at this
    exact this

theorem sched_info (bs : List Nat) : (Tryd.prog.info? 107).map (·.size) = some (uV (sched bs)).size := by rw [uV_size, sched_len]; kernel_rfl
theorem sched_same (bs : List Nat) : (uV (List.replicate 64 0)).size = (uV (sched bs)).size := by rw [uV_size, uV_size, sched_len]; rfl

set_option maxRecDepth 20000 in
set_option maxHeartbeats 2000000 in
theorem schedule_any (bs : List Nat) (w : World) (hbs : BB bs) (hlen : bs.length = 64) :
    Calls Tryd.prog 68 #[.agg (yV bs)] w fun r w' => r = .returned (.agg (uV (sched bs))) ∧ Below w.heap.size w w' := by
  have HL := Lib.hid hlen; clear hlen
  have HBB := Lib.hid hbs; clear hbs
  go_enter Tryd.func68, Tryd.ntmps68
  go_wp2_with fail
  go_loopw [6] (fun i wr => ∃ k : Nat, k ≤ 16 ∧ i = .int .i64 k ∧ Hid (SchW w bs ((List.range k).map (w0N bs)) wr)) (fun i _ => 16 - (intOf i).toNat)
  case atStart => exact ⟨0, by omega, rfl, Lib.hid (SchW.start w bs (by kernel_rfl) (by kernel_rfl))⟩
  case round =>
    obtain ⟨k, hk, rfl, HS⟩ := hrel
    by_cases hlt : k < 16
    · obtain ⟨p, hp⟩ : ∃ p : Nat, p = 4 * k := ⟨_, rfl⟩
      obtain ⟨p1, hp1⟩ : ∃ p1 : Nat, p1 = 4 * k + 1 := ⟨_, rfl⟩
      obtain ⟨p2, hp2⟩ : ∃ p2 : Nat, p2 = 4 * k + 2 := ⟨_, rfl⟩
      obtain ⟨p3, hp3⟩ : ∃ p3 : Nat, p3 = 4 * k + 3 := ⟨_, rfl⟩
      have g0 := HS.out.byte (i := p) (by have := HL.out; omega)
      have g1 := HS.out.byte (i := p1) (by have := HL.out; omega)
      have g2 := HS.out.byte (i := p2) (by have := HL.out; omega)
      have g3 := HS.out.byte (i := p3) (by have := HL.out; omega)
      obtain ⟨x0, hx0⟩ : ∃ x, bs.getD p 0 = x := ⟨_, rfl⟩
      obtain ⟨x1, hx1⟩ : ∃ x, bs.getD p1 0 = x := ⟨_, rfl⟩
      obtain ⟨x2, hx2⟩ : ∃ x, bs.getD p2 0 = x := ⟨_, rfl⟩
      obtain ⟨x3, hx3⟩ : ∃ x, bs.getD p3 0 = x := ⟨_, rfl⟩
      rw [hx0] at g0; rw [hx1] at g1; rw [hx2] at g2; rw [hx3] at g3
      have b0 : x0 < 256 := by rw [← hx0]; exact HBB.out.get _
      have b1 : x1 < 256 := by rw [← hx1]; exact HBB.out.get _
      have b2 : x2 < 256 := by rw [← hx2]; exact HBB.out.get _
      have b3 : x3 < 256 := by rw [← hx3]; exact HBB.out.get _
      have HX : (x0 * 2 ^ 24 ||| x1 * 2 ^ 16 ||| x2 * 2 ^ 8 ||| x3 = w0N bs k) := (by rw [← hx0, ← hx1, ← hx2, ← hx3, hp, hp1, hp2, hp3]; rfl)
      have EX := or4_wrap b0 b1 b2 b3
      rw [HX] at EX
      clear HX
      have e0 : IntKind.i64.wrap (4 * (k : Int)) = (p : Int) := by rw [IntKind.wrap_i64]; omega
      have e1 : IntKind.i64.wrap ((p : Int) + 1) = (p1 : Int) := by rw [IntKind.wrap_i64]; omega
      have e2 : IntKind.i64.wrap ((p : Int) + 2) = (p2 : Int) := by rw [IntKind.wrap_i64]; omega
      have e3 : IntKind.i64.wrap ((p : Int) + 3) = (p3 : Int) := by rw [IntKind.wrap_i64]; omega
      have q0 : (p : Int) < 64 := by omega
      have q1 : (p1 : Int) < 64 := by omega
      have q2 : (p2 : Int) < 64 := by omega
      have q3 : (p3 : Int) < 64 := by omega
      have qk : (k : Int) < 64 := by omega
      clear hp hp1 hp2 hp3 hx0 hx1 hx2 hx3
      go_wp2_with fail
      go_still_tail 31, (by kernel_rfl)
      change wpList _ _ _ _ _ wr.drew
      have gk := HS.out.row.at (i := k) (v := .int .u32 0) (uV_get (pre64_hole (by simp) (by omega)))
      have fk := HS.out.row.free k
      go_wp2_with fail
      go_roundw
      case rel => exact ⟨k + 1, by omega, by go_num, Lib.hid (by rw [range_map_succ]; exact (HS.out.drawn 1).put (by simp; omega) _ (by simp))⟩
      case measure => simp [intOf]; omega
    · have HK16 : Hid (k = 16) := Lib.hid (by omega)
      replace HS : Hid (SchW w bs (schN bs 0) wr) := Lib.hid (by have := HS.out; rw [HK16.out] at this; exact this)
      go_wp2_with fail
      go_loopw [5] (fun i wr => ∃ n : Nat, n ≤ 48 ∧ i = .int .i64 ((16 + n : Nat) : Int) ∧ Hid (SchW w bs (schN bs n) wr)) (fun i _ => 64 - (intOf i).toNat)
      case atStart => exact ⟨0, by omega, rfl, HS⟩
      case round =>
        obtain ⟨n, hn, rfl, HT⟩ := hrel
        have HSL := Lib.hid (schN_len bs n)
        by_cases hlt : n < 48
        · obtain ⟨j2, hj2⟩ : ∃ j : Nat, j = n + 14 := ⟨_, rfl⟩
          obtain ⟨j7, hj7⟩ : ∃ j : Nat, j = n + 9 := ⟨_, rfl⟩
          obtain ⟨j15, hj15⟩ : ∃ j : Nat, j = n + 1 := ⟨_, rfl⟩
          obtain ⟨j, hj⟩ : ∃ j : Nat, j = 16 + n := ⟨_, rfl⟩
          rw [← hj]
          obtain ⟨y2, hy2⟩ : ∃ y, (schN bs n).getD j2 0 = y := ⟨_, rfl⟩
          obtain ⟨y7, hy7⟩ : ∃ y, (schN bs n).getD j7 0 = y := ⟨_, rfl⟩
          obtain ⟨y15, hy15⟩ : ∃ y, (schN bs n).getD j15 0 = y := ⟨_, rfl⟩
          obtain ⟨y16, hy16⟩ : ∃ y, (schN bs n).getD n 0 = y := ⟨_, rfl⟩
          have hww := schN_ww HBB.out n
          have b2 : y2 < 4294967296 := by rw [← hy2]; exact hww.get _
          have b7 : y7 < 4294967296 := by rw [← hy7]; exact hww.get _
          have b15 : y15 < 4294967296 := by rw [← hy15]; exact hww.get _
          have b16 : y16 < 4294967296 := by rw [← hy16]; exact hww.get _
          have hget : ∀ W, SchW w bs (schN bs n) W → W.cell? ⟨w.heap.size + 1 + 1, j2, none⟩ = some (.int .u32 y2) ∧ W.cell? ⟨w.heap.size + 1 + 1, j7, none⟩ = some (.int .u32 y7) ∧ W.cell? ⟨w.heap.size + 1 + 1, j15, none⟩ = some (.int .u32 y15) ∧ W.cell? ⟨w.heap.size + 1 + 1, n, none⟩ = some (.int .u32 y16) := fun W h => by
            have hl := HSL.out
            have q2 := h.get (i := j2) (by omega); have q7 := h.get (i := j7) (by omega); have q15 := h.get (i := j15) (by omega); have q16 := h.get (i := n) (by omega)
            rw [hy2] at q2; rw [hy7] at q7; rw [hy15] at q15; rw [hy16] at q16
            exact ⟨q2, q7, q15, q16⟩
          have HX : Hid (addN (addN (addN (sm1 y2) y7) (sm0 y15)) y16 = extN (schN bs n)) := Lib.hid (by
            unfold extN
            rw [HSL.out, ← hy2, ← hy7, ← hy15, ← hy16, hj2, hj7, hj15, show 16 + n - 2 = n + 14 by omega, show 16 + n - 7 = n + 9 by omega, show 16 + n - 15 = n + 1 by omega, show 16 + n - 16 = n by omega])
          have e2 : IntKind.i64.wrap ((j : Int) - 2) = (j2 : Int) := by rw [IntKind.wrap_i64]; omega
          have e7 : IntKind.i64.wrap ((j : Int) - 7) = (j7 : Int) := by rw [IntKind.wrap_i64]; omega
          have e15 : IntKind.i64.wrap ((j : Int) - 15) = (j15 : Int) := by rw [IntKind.wrap_i64]; omega
          have e16 : IntKind.i64.wrap ((j : Int) - 16) = (n : Int) := by rw [IntKind.wrap_i64]; omega
          have r2 : (j2 : Int) < 64 := by omega
          have r7 : (j7 : Int) < 64 := by omega
          have r15 : (j15 : Int) < 64 := by omega
          have r16 : (n : Int) < 64 := by omega
          have rj : (j : Int) < 64 := by omega
          have HJ : Hid (j = 16 + n) := Lib.hid hj
          have HG := Lib.hid hget
          have gk := HT.out.row.at (i := j) (v := .int .u32 0) (uV_get (pre64_hole (by rw [HSL.out]; omega) (by omega)))
          have fk := HT.out.row.free j
          have HK : Hid (∀ (W : World) (v : Value), (W.cell? ⟨w.heap.size + 1 + 1, j2, none⟩ = some (.int .u32 y2) ∧ W.cell? ⟨w.heap.size + 1 + 1, j7, none⟩ = some (.int .u32 y7) ∧ W.cell? ⟨w.heap.size + 1 + 1, j15, none⟩ = some (.int .u32 y15) ∧ W.cell? ⟨w.heap.size + 1 + 1, n, none⟩ = some (.int .u32 y16)) → ((W.setCell ⟨w.heap.size + 1 + 1, j, none⟩ v).cell? ⟨w.heap.size + 1 + 1, j2, none⟩ = some (.int .u32 y2) ∧ (W.setCell ⟨w.heap.size + 1 + 1, j, none⟩ v).cell? ⟨w.heap.size + 1 + 1, j7, none⟩ = some (.int .u32 y7) ∧ (W.setCell ⟨w.heap.size + 1 + 1, j, none⟩ v).cell? ⟨w.heap.size + 1 + 1, j15, none⟩ = some (.int .u32 y15) ∧ (W.setCell ⟨w.heap.size + 1 + 1, j, none⟩ v).cell? ⟨w.heap.size + 1 + 1, n, none⟩ = some (.int .u32 y16))) := Lib.hid (fun W v h => by
            obtain ⟨h1, h2, h3, h4⟩ := h
            have ne : ∀ i : Nat, i ≠ j → (⟨w.heap.size + 1 + 1, j, none⟩ : Addr) ≠ ⟨w.heap.size + 1 + 1, i, none⟩ := fun i hi e => by injection e with _ e2; omega
            refine ⟨?_, ?_, ?_, ?_⟩
            · rw [World.cell?_setCell_other _ _ _ _ (ne j2 (by omega))]; exact h1
            · rw [World.cell?_setCell_other _ _ _ _ (ne j7 (by omega))]; exact h2
            · rw [World.cell?_setCell_other _ _ _ _ (ne j15 (by omega))]; exact h3
            · rw [World.cell?_setCell_other _ _ _ _ (ne n (by omega))]; exact h4)
          clear hj hj2 hj7 hj15 hy2 hy7 hy15 hy16 hww hget
          go_wp2_with fail
          go_region_held3 (fun W => W.cell? ⟨w.heap.size + 1 + 1, j2, none⟩ = some (.int .u32 y2) ∧ W.cell? ⟨w.heap.size + 1 + 1, j7, none⟩ = some (.int .u32 y7) ∧ W.cell? ⟨w.heap.size + 1 + 1, j15, none⟩ = some (.int .u32 y15) ∧ W.cell? ⟨w.heap.size + 1 + 1, n, none⟩ = some (.int .u32 y16)) (first | exact HG.out _ (HT.out.drawn 1) | exact HG.out _ (HT.out.drawn _) | exact HK.out _ _ (HG.out _ (HT.out.drawn _))) (first
            | (go_at_call 73; refine (small1_any y2 _ b2).mono ?_; rintro e w1 ⟨rfl, q1, rfl⟩)
            | (go_at_call 74; refine (small0_any y15 _ b15).mono ?_; rintro e w1 ⟨rfl, q1, rfl⟩))
          go_wp2_with fail
          go_roundw
          case rel => exact ⟨n + 1, by omega, by rw [HJ.out]; go_num, Lib.hid (by
            rw [add_bits, add_bits, add_bits, HX.out]
            exact (HT.out.drawn _).put (by rw [HSL.out]; omega) _ (by rw [HSL.out, HJ.out]))⟩
          case measure => simp [intOf]; omega
        · have HN : Hid (n = 48) := Lib.hid (by omega)
          have HF : Hid (SchW w bs (sched bs) wr) := Lib.hid (by have := HT.out; rw [HN.out] at this; exact this)
          have hrow := HF.out.row
          rw [pre64_full (sched_len bs)] at hrow
          have HR := Lib.hid hrow; clear hrow HT HN HSL
          go_wp2_with (first
            | ((with_reducible refine atOp ⟨some 68, _, _, _, _, _⟩ ?_); refine wpList_load_row rfl 107 _ rfl (w.heap.size + 1 + 1) rfl 107 (uV (sched bs)) (0, 0) _ HR.out Tryd.underlying107 rfl (sched_info bs) ?_)
            | ((with_reducible refine atOp ⟨none, .store 107 _ _, _, _, _, _⟩ ?_); refine wpList_store_row rfl 107 _ _ rfl (w.heap.size + 1) (uV (sched bs)) rfl rfl 107 (uV (List.replicate 64 0)) HF.out.res (sched_info bs) (sched_same bs) (uV_one _) ?_))
          refine bodyPost_ret (v := .agg (uV (sched bs))) (results_cell_row Tryd.results68 _ _ (w.heap.size + 1) 107 _ (0, 0) _ rfl (HF.out.res.row _) Tryd.underlying107 rfl (sched_info bs)) rfl ⟨rfl, bl_row _ HF.out.bel (by omega)⟩
end Go.Proofs.YtaeicjgkoofmpaaDoor
namespace Go.Proofs.YtaeicjgkoofmpaaDoor
open Go.RowKit Go.Lib
set_option linter.unusedVariables false

theorem stepL_any (st : List Nat) (k x : Nat) (w : World) (hl : st.length = 8) (hw : WW st) (hk : k < 4294967296) (hx : x < 4294967296) :
    Calls Tryd.prog 69 #[.agg (uV st), .int .u32 k, .int .u32 x] w fun r w' => r = .returned (.agg (uV (stepL st k x))) ∧ Below w.heap.size w w' := by
  obtain ⟨a, b, c, d, e, f, g, h, rfl⟩ := len8 hl
  have hm : ∀ z ∈ [a, b, c, d, e, f, g, h], z < 4294967296 := hw
  simp only [List.mem_cons, List.not_mem_nil, or_false] at hm
  exact step_any a b c d e f g h k x w (hm _ (by simp)) (hm _ (by simp)) (hm _ (by simp)) (hm _ (by simp)) (hm _ (by simp)) (hm _ (by simp)) (hm _ (by simp)) (hm _ (by simp)) hk hx

/-- What is read of the program's variables. -/
structure VK (W : World) : Prop where
  k : ∃ t fr, W.heap[0]? = some (.cells (uV kL) t fr)
  h : ∃ t fr, W.heap[1]? = some (.cells (uV hL) t fr)
theorem VK.below {W W' : World} (h : VK W) (hb : Below W.heap.size W W') : VK W' := by
  obtain ⟨⟨t, fr, h1⟩, u, gr, h2⟩ := h
  exact ⟨⟨t, fr, (hb.block _ (Array.getElem?_eq_some_iff.1 h1).1).trans h1⟩, u, gr, (hb.block _ (Array.getElem?_eq_some_iff.1 h2).1).trans h2⟩
theorem VK.cell {W : World} (h : VK W) {i : Nat} (hi : i < 64) : W.cell? ⟨0, i, none⟩ = some (.int .u32 (kL.getD i 0)) := by
  obtain ⟨⟨t, fr, h1⟩, _⟩ := h
  rw [cell_of_row W _ i _ t fr h1, uV_get (x := kL.getD i 0)]
  rw [List.getD_eq_getElem?_getD, List.getElem?_eq_getElem (show i < kL.length from hi)]; rfl

structure BlkW (w : World) (st bs s : List Nat) (W : World) : Prop where
  st : AR W w.heap.size 70 (uV st)
  bx : AR W (w.heap.size + 1) 43 (yV bs)
  rs : AR W (w.heap.size + 1 + 1) 70 (uV (List.replicate 8 0))
  sx : AR W (w.heap.size + 1 + 1 + 1) 106 (uV s)
  bel : Below w.heap.size w W
theorem BlkW.drawn {w W : World} {st bs s : List Nat} (h : BlkW w st bs s W) (n : Nat) : BlkW w st bs s (W.drewN n) := ⟨h.st, h.bx, h.rs, h.sx, bl_drewN n h.bel⟩
theorem BlkW.call {w W W' : World} {st bs s : List Nat} (h : BlkW w st bs s W) (hb : Below W.heap.size W W') : BlkW w st bs s W' := ⟨h.st.step hb, h.bx.step hb, h.rs.step hb, h.sx.step hb, bl_call h.bel hb⟩
theorem BlkW.putS {w W : World} {st bs s : List Nat} (h : BlkW w st bs s W) (i x : Nat) : BlkW w st bs (s.set i x) (W.setCell ⟨w.heap.size + 1 + 1 + 1, i, none⟩ (.int .u32 x)) := by
  refine ⟨h.st.kept (show w.heap.size ≠ w.heap.size + 1 + 1 + 1 by omega) _, h.bx.kept (show w.heap.size + 1 ≠ w.heap.size + 1 + 1 + 1 by omega) _, h.rs.kept (show w.heap.size + 1 + 1 ≠ w.heap.size + 1 + 1 + 1 by omega) _, ?_, bl_set _ h.bel (show w.heap.size ≤ w.heap.size + 1 + 1 + 1 by omega)⟩
  have := h.sx.put i (.int .u32 x)
  rw [uV_set] at this
  exact this
theorem BlkW.putT {w W : World} {st bs s : List Nat} (h : BlkW w st bs s W) (i x : Nat) : BlkW w (st.set i x) bs s (W.setCell ⟨w.heap.size, i, none⟩ (.int .u32 x)) := by
  refine ⟨?_, h.bx.kept (show w.heap.size + 1 ≠ w.heap.size by omega) _, h.rs.kept (show w.heap.size + 1 + 1 ≠ w.heap.size by omega) _, h.sx.kept (show w.heap.size + 1 + 1 + 1 ≠ w.heap.size by omega) _, bl_set _ h.bel (show w.heap.size ≤ w.heap.size by omega)⟩
  have := h.st.put i (.int .u32 x)
  rw [uV_set] at this
  exact this
theorem BlkW.rowS {w W : World} {st bs s : List Nat} (h : BlkW w st bs s W) (s' : List Nat) : BlkW w st bs s' (W.setRow (w.heap.size + 1 + 1 + 1) (uV s')) :=
  ⟨h.st.apart (show w.heap.size ≠ w.heap.size + 1 + 1 + 1 by omega) _, h.bx.apart (show w.heap.size + 1 ≠ w.heap.size + 1 + 1 + 1 by omega) _, h.rs.apart (show w.heap.size + 1 + 1 ≠ w.heap.size + 1 + 1 + 1 by omega) _, h.sx.row _, bl_row _ h.bel (show w.heap.size ≤ w.heap.size + 1 + 1 + 1 by omega)⟩
theorem BlkW.start (w : World) (st bs : List Nat) {Z Y : Array Value} (hZ : Z = uV (List.replicate 8 0)) (hY : Y = uV (List.replicate 8 0)) :
    BlkW w st bs (List.replicate 8 0) ((((w.alloc (.cells (uV st) 70)).alloc (.cells (yV bs) 43)).alloc (.cells Z 70)).alloc (.cells Y 106)) := by
  subst hZ hY
  refine ⟨(((AR.made _ _ _).more _).more _).more _, ?_, ?_, ?_, bl_alloc _ (bl_alloc _ (bl_alloc _ (bl_alloc _ (Below.refl _ _))))⟩
  · have := AR.made (w.alloc (.cells (uV st) 70)) 43 (yV bs)
    rw [size_more] at this
    exact (this.more _).more _
  · have := AR.made ((w.alloc (.cells (uV st) 70)).alloc (.cells (yV bs) 43)) 70 (uV (List.replicate 8 0))
    rw [size_more, size_more] at this
    exact this.more _
  · have := AR.made (((w.alloc (.cells (uV st) 70)).alloc (.cells (yV bs) 43)).alloc (.cells (uV (List.replicate 8 0)) 70)) 106 (uV (List.replicate 8 0))
    rw [size_more, size_more, size_more] at this
    exact this
theorem rep8 {k : Nat} (h : k < 8) : (List.replicate 8 0).getD k 0 = 0 := by rw [List.getD_eq_getElem?_getD, List.getElem?_replicate, if_pos h]; rfl
theorem index8 (l : List Nat) (h : l.length = 8) (i : Nat) (hi : i < 8) (w : World) : (Instr.index 70 (.agg (uV l)) (.int .i64 i)).run Tryd.prog w = .ok (.int .u32 (l.getD i 0)) w :=
  run_index_one Tryd.underlying70 Tryd.underlying67 rfl (by kernel_rfl) hi (uV_get (by rw [List.getD_eq_getElem?_getD, List.getElem?_eq_getElem (by omega)]; rfl))
theorem index8w (l : List Nat) (h : l.length = 8) (i : Nat) (hi : i < 8) (w : World) : (Instr.index 106 (.agg (uV l)) (.int .i64 i)).run Tryd.prog w = .ok (.int .u32 (l.getD i 0)) w :=
  run_index_one Tryd.underlying106 Tryd.underlying105 rfl (by kernel_rfl) hi (uV_get (by rw [List.getD_eq_getElem?_getD, List.getElem?_eq_getElem (by omega)]; rfl))
theorem index64w (l : List Nat) (h : l.length = 64) (i : Nat) (hi : i < 64) (w : World) : (Instr.index 107 (.agg (uV l)) (.int .i64 i)).run Tryd.prog w = .ok (.int .u32 (l.getD i 0)) w :=
  run_index_one Tryd.underlying107 Tryd.underlying105 rfl (by kernel_rfl) hi (uV_get (by rw [List.getD_eq_getElem?_getD, List.getElem?_eq_getElem (by omega)]; rfl))
theorem info8 (l : List Nat) (h : l.length = 8) : (Tryd.prog.info? 70).map (·.size) = some (uV l).size := by rw [uV_size, h]; kernel_rfl
theorem info8w (l : List Nat) (h : l.length = 8) : (Tryd.prog.info? 106).map (·.size) = some (uV l).size := by rw [uV_size, h]; kernel_rfl
theorem info64 (l : List Nat) (h : l.length = 64) : (Tryd.prog.info? 43).map (·.size) = some (yV l).size := by rw [yV_size, h]; kernel_rfl

set_option maxRecDepth 20000 in
set_option maxHeartbeats 4000000 in
theorem block_any (st bs : List Nat) (w : World) (hst : st.length = 8) (hsw : WW st) (hbs : BB bs) (hlen : bs.length = 64) (hV : VK w) :
    Calls Tryd.prog 62 #[.agg (uV st), .agg (yV bs)] w fun r w' => r = .returned (.agg (uV (blockL st bs))) ∧ Below w.heap.size w w' := by
  have HST := Lib.hid hst; have HL := Lib.hid hlen; have HBB := Lib.hid hbs; have HSW := Lib.hid hsw; have HVK := Lib.hid hV
  clear hst hlen hbs hsw hV
  go_enter Tryd.func62, Tryd.ntmps62
  go_wp2_with ((with_reducible refine atOp ⟨some 12, _, _, _, _, _⟩ ?_); refine wpList_load_row rfl 70 _ rfl w.heap.size rfl 70 (uV st) (0, 0) _ (BlkW.start w st bs (by kernel_rfl) (by kernel_rfl)).st Tryd.underlying70 rfl (info8 st HST.out) ?_)
  go_loopw [13] (fun i wr => ∃ k : Nat, k ≤ 8 ∧ i = .int .i64 k ∧ Hid (BlkW w st bs (mix st (List.replicate 8 0) k) wr)) (fun i _ => 8 - (intOf i).toNat)
  case atStart => exact ⟨0, by omega, rfl, Lib.hid (BlkW.start w st bs (by kernel_rfl) (by kernel_rfl))⟩
  case round =>
    obtain ⟨k, hk, rfl, HB⟩ := hrel
    by_cases hlt : k < 8
    · obtain ⟨x, hx⟩ : ∃ x, st.getD k 0 = x := ⟨_, rfl⟩
      have ix := index8 st HST.out k hlt
      rw [hx] at ix
      have hg := HB.out.sx.at (i := k) (v := .int .u32 0) (uV_get (by rw [mix_get (by rw [HST.out]; omega) (by simp; omega), rep8 hlt]))
      have hf := HB.out.sx.free k
      have rk : (k : Int) < 8 := by omega
      have HX := Lib.hid hx; clear hx
      go_wp2_with fail
      go_roundw
      case rel => exact ⟨k + 1, by omega, by go_num, Lib.hid (by
        have := HB.out.putS k x
        rw [← HX.out, mix_set (by rw [HST.out]; omega) (by simp; omega)] at this
        rw [← HX.out]
        exact this)⟩
      case measure => simp [intOf]; omega
    · have HK8 : Hid (k = 8) := Lib.hid (by omega)
      replace HB : Hid (BlkW w st bs st wr) := Lib.hid (by have := HB.out; rw [HK8.out, mix_full HST.out (by simp)] at this; exact this)
      go_wp2_with (first
        | ((with_reducible refine atOp ⟨some 21, _, _, _, _, _⟩ ?_); refine wpList_load_row rfl 43 _ rfl (w.heap.size + 1) rfl 43 (yV bs) (0, 0) _ HB.out.bx Tryd.underlying43 rfl (info64 bs HL.out) ?_)
        | (go_at_call 68; (with_reducible refine (schedule_any bs _ HBB.out HL.out).mono ?_); rintro e w1 ⟨rfl, hb⟩; replace HB := Lib.hid (HB.out.call hb); clear hb))
      go_loopw [23] (fun i wr => ∃ t : Nat, t ≤ 64 ∧ i = .int .i64 t ∧ Hid (BlkW w st bs (runL (sched bs) st t) wr)) (fun i _ => 64 - (intOf i).toNat)
      case atStart => exact ⟨0, by omega, rfl, HB⟩
      case round =>
        obtain ⟨t, ht, rfl, HT⟩ := hrel
        by_cases hlt2 : t < 64
        · obtain ⟨x, hx⟩ : ∃ x, (sched bs).getD t 0 = x := ⟨_, rfl⟩
          have ix := index64w (sched bs) (sched_len bs) t hlt2
          rw [hx] at ix
          have hx4 : x < 4294967296 := by rw [← hx]; exact (sched_ww HBB.out).get _
          obtain ⟨y, hy⟩ : ∃ y, kL.getD t 0 = y := ⟨_, rfl⟩
          have hy4 : y < 4294967296 := by rw [← hy]; exact kL_ww.get _
          have hc := (HVK.out.below HT.out.bel).cell hlt2
          rw [hy] at hc
          obtain ⟨s1, hs1⟩ : ∃ s1, runL (sched bs) st t = s1 := ⟨_, rfl⟩
          have h8 : s1.length = 8 := by rw [← hs1]; exact runL_len _ HST.out t
          have hw8 : WW s1 := by rw [← hs1]; exact runL_ww _ HST.out HSW.out t
          have hnext : runL (sched bs) st (t + 1) = stepL s1 y x := by rw [← hs1, ← hx, ← hy]; rfl
          rw [hs1] at HT
          have rt : (t : Int) < 64 := by omega
          have H8 := Lib.hid h8; have HW8 := Lib.hid hw8; have HN := Lib.hid hnext
          clear hx hy hs1 h8 hw8 hnext
          go_upto_region 10 with fail
          refine wp_region_still_tail 5 (by kernel_rfl) (by kernel_rfl) ?_
          simp only [List.take_succ_cons, List.take_zero, List.drop_succ_cons, List.drop_zero]
          refine still_load_row (by rfl) 106 (.tmp 5) rfl (w.heap.size + 1 + 1 + 1) rfl 106 (uV s1) (0, 0) _ (HT.out.drawn 1).sx Tryd.underlying106 rfl (info8w s1 H8.out) ?_
          repeat still_step
          try refine wpStill_nil ?_
          change wpList _ _ _ _ _ wr.drew
          go_wp2_with (first
              | (go_at_call 69; (with_reducible refine (stepL_any s1 y x _ H8.out HW8.out hy4 hx4).mono ?_); rintro e w2 ⟨rfl, hb⟩; have HB2 := Lib.hid ((HT.out.drawn 1).call hb); clear hb)
              | ((with_reducible refine atOp ⟨none, .store 106 _ _, _, _, _, _⟩ ?_); refine wpList_store_row rfl 106 (.tmp 5) (.tmp 32) rfl (w.heap.size + 1 + 1 + 1) (uV (stepL s1 y x)) rfl rfl 106 (uV s1) HB2.out.sx (info8w _ (stepL_len H8.out _ _)) (by rw [uV_size, uV_size, H8.out, stepL_len H8.out]) (uV_one _) ?_))
          go_roundw
          case rel => exact ⟨t + 1, by omega, by go_num, Lib.hid (by rw [HN.out]; exact HB2.out.rowS _)⟩
          case measure => simp [intOf]; omega
        · have HK64 : Hid (t = 64) := Lib.hid (by omega)
          obtain ⟨s8, hs8⟩ : ∃ s8, runL (sched bs) st 64 = s8 := ⟨_, rfl⟩
          have h8 : s8.length = 8 := by rw [← hs8]; exact runL_len _ HST.out 64
          replace HT : Hid (BlkW w st bs s8 wr) := Lib.hid (by have := HT.out; rw [HK64.out, hs8] at this; exact this)
          obtain ⟨tt, htt⟩ : ∃ tt, blockL st bs = tt := ⟨_, rfl⟩
          have hg8 : ∀ k, k < 8 → addN (st.getD k 0) (s8.getD k 0) = tt.getD k 0 := fun k hk => by rw [← htt, ← hs8]; exact (blockL_get HST.out hk).symm
          have ht8 : tt.length = 8 := by rw [← htt]; exact blockL_len _ HST.out
          have H8 := Lib.hid h8; have HG8 := Lib.hid hg8; have HT8 := Lib.hid ht8; have HTT := Lib.hid htt
          clear hs8 h8 hg8 ht8
          go_wp2_with ((with_reducible refine atOp ⟨some 34, _, _, _, _, _⟩ ?_); refine wpList_load_row rfl 106 _ rfl (w.heap.size + 1 + 1 + 1) rfl 106 (uV s8) (0, 0) _ HT.out.sx Tryd.underlying106 rfl (info8w s8 H8.out) ?_)
          go_loopw [35] (fun i wr => ∃ k : Nat, k ≤ 8 ∧ i = .int .i64 k ∧ Hid (BlkW w (mix tt st k) bs s8 wr)) (fun i _ => 8 - (intOf i).toNat)
          case atStart => exact ⟨0, by omega, rfl, HT⟩
          case round =>
            obtain ⟨k2, hk2, rfl, HU⟩ := hrel
            by_cases hlt3 : k2 < 8
            · obtain ⟨x, hx⟩ : ∃ x, s8.getD k2 0 = x := ⟨_, rfl⟩
              obtain ⟨y, hy⟩ : ∃ y, st.getD k2 0 = y := ⟨_, rfl⟩
              have ix := index8w s8 H8.out k2 hlt3
              rw [hx] at ix
              have hg := HU.out.st.at (i := k2) (v := .int .u32 y) (uV_get (by rw [mix_get (by rw [HT8.out]; omega) (by rw [HST.out]; omega), hy]))
              have hf := HU.out.st.free k2
              have rk : (k2 : Int) < 8 := by omega
              have HA := Lib.hid (HG8.out k2 hlt3)
              rw [hx, hy] at HA
              clear hx hy
              go_wp2_with fail
              go_roundw
              case rel => exact ⟨k2 + 1, by omega, by go_num, Lib.hid (by
                have := HU.out.putT k2 (addN y x)
                rw [HA.out, mix_set (by rw [HT8.out]; omega) (by rw [HST.out]; omega)] at this
                rw [add_bits, HA.out]
                exact this)⟩
              case measure => simp [intOf]; omega
            · have HK3 : Hid (k2 = 8) := Lib.hid (by omega)
              replace HU : Hid (BlkW w tt bs s8 wr) := Lib.hid (by have := HU.out; rw [HK3.out, mix_full HT8.out HST.out] at this; exact this)
              go_wp2_with (first
                | ((with_reducible refine atOp ⟨some 46, _, _, _, _, _⟩ ?_); refine wpList_load_row rfl 70 _ rfl w.heap.size rfl 70 (uV tt) (0, 0) _ HU.out.st Tryd.underlying70 rfl (info8 tt HT8.out) ?_)
                | ((with_reducible refine atOp ⟨none, .store 70 _ _, _, _, _, _⟩ ?_); refine wpList_store_row rfl 70 (.tmp 4) (.tmp 46) rfl (w.heap.size + 1 + 1) (uV tt) rfl rfl 70 (uV (List.replicate 8 0)) HU.out.rs (info8 _ HT8.out) (by rw [uV_size, uV_size, HT8.out]; rfl) (uV_one _) ?_))
              refine bodyPost_ret (v := .agg (uV tt)) (results_cell_row Tryd.results62 _ _ (w.heap.size + 1 + 1) 70 _ (0, 0) _ rfl (HU.out.rs.row _) Tryd.underlying70 rfl (info8 tt HT8.out)) rfl ⟨by rw [HTT.out], bl_row _ HU.out.bel (by omega)⟩
end Go.Proofs.YtaeicjgkoofmpaaDoor
