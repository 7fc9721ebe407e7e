/- Struct variables of a call's own. -/
import Derived.Test.YtnmgcfpemmejlaaDoorTimesLc
namespace Go.Proofs.YtnmgcfpemmejlaaDoor
open Go.RowKit Go.Lib
set_option linter.unusedVariables false

theorem ok_new {w wr : World} (h : Below w.heap.size w wr) (o : Obj) : Below w.heap.size w (wr.alloc o) := h.alloc h.size _
/-- A struct variable of the call's own. -/
structure Box (w wc : World) (g : Nat) (f t : Int) : Prop where
  lo : w.heap.size ≤ g
  lt : g < wc.heap.size
  c0 : wc.cell? ⟨g, 0, none⟩ = some (.int .i64 f)
  c1 : wc.cell? ⟨g, 1, none⟩ = some (.int .i64 t)
  bel : Below w.heap.size w wc
theorem Box.later {w W W' : World} {g : Nat} {f t : Int} (h : Box w W g f t) (hb : Below W.heap.size W W') : Box w W' g f t :=
  ⟨h.lo, Nat.lt_of_lt_of_le h.lt hb.size, (hb.cell (p := ⟨g, _, none⟩) h.lt).trans h.c0, (hb.cell (p := ⟨g, _, none⟩) h.lt).trans h.c1, bl_call h.bel hb⟩
theorem box_a {w w' : World} (f t : Int) (T : TypeId) (hb : Below w.drew.heap.size w.drew w') : Box w (w'.alloc (.cells #[.int .i64 f, .int .i64 t] T)) w'.heap.size f t := by
  have h0 : Below w.heap.size w w' := bl_call (bl_drewN 1 (Below.refl _ _)) hb
  exact ⟨h0.size, by simp, by rw [cell_fresh]; rfl, by rw [cell_fresh]; rfl, ok_new h0 _⟩
theorem box_b {w w' : World} (f t : Int) (o : Obj) {u v : Value} (hb : Below (w.alloc o).drew.heap.size (w.alloc o).drew w') (f0 : w'.cell? ⟨w.heap.size, 0, none⟩ = some u) (f1 : w'.cell? ⟨w.heap.size, 1, none⟩ = some v) :
    Box w ((w'.setCell ⟨w.heap.size, 0, none⟩ (.int .i64 f)).setCell ⟨w.heap.size, 1, none⟩ (.int .i64 t)) w.heap.size f t := by
  have h0 : Below w.heap.size w (w.alloc o).drew := bl_drewN 1 (ok_new (Below.refl _ _) o)
  have h1 : Below w.heap.size w w' := bl_call h0 hb
  have hz : w.heap.size < w'.heap.size := by have := hb.size; simp at this; omega
  refine ⟨Nat.le_refl _, by simpa using hz, ?_, ?_, ?_⟩
  · rw [World.cell?_setCell_other _ _ _ (b := _) (by simp)]; exact World.cell?_setCell_same _ _ _ f0
  · refine World.cell?_setCell_same _ _ _ (u := v) ?_
    rw [World.cell?_setCell_other _ _ _ (b := _) (by simp)]; exact f1
  · exact (h1.setCell (p := ⟨_, _, none⟩) (Nat.le_refl _) _).setCell (p := ⟨_, _, none⟩) (Nat.le_refl _) _
theorem drewn_bel {w w' : World} (h : ∃ q, w' = w.drewN q) : Below w.heap.size w w' := by obtain ⟨q, rfl⟩ := h; exact bl_drewN q (Below.refl _ _)
end Go.Proofs.YtnmgcfpemmejlaaDoor
