/- The reference's block: the schedule. -/
import Derived.Test.YtipcanphkdodaaaDoorShaZe
import Derived.Test.YtipcanphkdodaaaDoorShaC
namespace Go.Proofs.YtipcanphkdodaaaDoor
open Go.RowKit
set_option linter.unusedVariables false

theorem rrot_any (x n : Nat) (w : World) (hx : x < 4294967296) (h0 : 1 ≤ n) (h1 : n ≤ 31) : Calls Tryd.prog 56 #[.int .u32 x, .int .u64 n] w fun e w' => e = .returned (.int .u32 (rotN x n)) ∧ w = w' := by
  obtain ⟨m, hm⟩ : ∃ m : Nat, (32 : Int) - n = m := ⟨32 - n, by omega⟩
  have hb := rot_bits (n := n) (m := m) hx (by omega)
  have HB := Lib.hid hb; clear hb
  go_enter Tryd.func56, Tryd.ntmps56
  go_wp2_with fail
  go_ret
  exact ⟨ret_int (by first | exact HB.out | (rw [IntKind.wrap_u32]; exact HB.out)), rfl⟩
theorem rrot_at (x n r : Nat) (k : Int) (w : World) (hx : x < 4294967296) (hk : k = n) (h0 : 1 ≤ n) (h1 : n ≤ 31) (hr : rotN x n = r) : Calls Tryd.prog 56 #[.int .u32 x, .int .u64 k] w fun e w' => e = .returned (.int .u32 r) ∧ w = w' := by
  subst hk hr; exact rrot_any x n w hx h0 h1

/-- The memory of the reference's block, before the rounds: l is what is known of the schedule. -/
structure RbW (w : World) (st bs l : List Nat) (W : World) : Prop where
  ks : AR W w.heap.size 26 (uV kL)
  st : AR W (w.heap.size + 1) 23 (uV st)
  bx : AR W (w.heap.size + 1 + 1) 24 (yV bs)
  rs : AR W (w.heap.size + 1 + 1 + 1) 23 (uV (List.replicate 8 0))
  row : AR W (w.heap.size + 1 + 1 + 1 + 1) 26 (uV (pre64 l))
  bel : Below w.heap.size w W
theorem RbW.drawn {w W : World} {st bs l : List Nat} (h : RbW w st bs l W) (n : Nat) : RbW w st bs l (W.drewN n) := ⟨h.ks, h.st, h.bx, h.rs, h.row, bl_drewN n h.bel⟩
theorem RbW.put {w W : World} {st bs l : List Nat} (h : RbW w st bs l W) (hl : l.length < 64) (x : Nat) {i : Nat} (hi : i = l.length) : RbW w st bs (l ++ [x]) (W.setCell ⟨w.heap.size + 1 + 1 + 1 + 1, i, none⟩ (.int .u32 x)) := by
  subst hi
  refine ⟨h.ks.kept (show w.heap.size ≠ w.heap.size + 1 + 1 + 1 + 1 by omega) _, h.st.kept (show w.heap.size + 1 ≠ w.heap.size + 1 + 1 + 1 + 1 by omega) _, h.bx.kept (show w.heap.size + 1 + 1 ≠ w.heap.size + 1 + 1 + 1 + 1 by omega) _,
    h.rs.kept (show w.heap.size + 1 + 1 + 1 ≠ w.heap.size + 1 + 1 + 1 + 1 by omega) _, ?_, bl_set _ h.bel (show w.heap.size ≤ w.heap.size + 1 + 1 + 1 + 1 by omega)⟩
  have := h.row.put l.length (.int .u32 x)
  rw [uV_set, pre64_set hl] at this
  exact this
theorem RbW.get {w W : World} {st bs l : List Nat} (h : RbW w st bs l W) {i : Nat} (hi : i < l.length) : W.cell? ⟨w.heap.size + 1 + 1 + 1 + 1, i, none⟩ = some (.int .u32 (l.getD i 0)) := h.row.at (uV_get (pre64_get hi))
theorem RbW.byte {w W : World} {st bs l : List Nat} (h : RbW w st bs l W) {i : Nat} (hi : i < bs.length) : W.cell? ⟨w.heap.size + 1 + 1, i, none⟩ = some (.int .u8 (bs.getD i 0)) :=
  h.bx.at (yV_get (by rw [List.getD_eq_getElem?_getD, List.getElem?_eq_getElem hi]; rfl))
theorem RbW.start (w : World) (st bs : List Nat) {Z Y : Array Value} (hZ : Z = uV (List.replicate 8 0)) (hY : Y = uV (List.replicate 64 0)) :
    RbW w st bs [] (((((w.alloc (.cells (uV kL) 26)).alloc (.cells (uV st) 23)).alloc (.cells (yV bs) 24)).alloc (.cells Z 23)).alloc (.cells Y 26)) := by
  subst hZ hY
  refine ⟨((((AR.made _ _ _).more _).more _).more _).more _, ?_, ?_, ?_, ?_, bl_alloc _ (bl_alloc _ (bl_alloc _ (bl_alloc _ (bl_alloc _ (Below.refl _ _)))))⟩
  · have := AR.made (w.alloc (.cells (uV kL) 26)) 23 (uV st)
    rw [size_more] at this
    exact ((this.more _).more _).more _
  · have := AR.made ((w.alloc (.cells (uV kL) 26)).alloc (.cells (uV st) 23)) 24 (yV bs)
    rw [size_more, size_more] at this
    exact (this.more _).more _
  · have := AR.made (((w.alloc (.cells (uV kL) 26)).alloc (.cells (uV st) 23)).alloc (.cells (yV bs) 24)) 23 (uV (List.replicate 8 0))
    rw [size_more, size_more, size_more] at this
    exact this.more _
  · have := AR.made ((((w.alloc (.cells (uV kL) 26)).alloc (.cells (uV st) 23)).alloc (.cells (yV bs) 24)).alloc (.cells (uV (List.replicate 8 0)) 23)) 26 (uV (List.replicate 64 0))
    rw [size_more, size_more, size_more, size_more] at this
    exact this
end Go.Proofs.YtipcanphkdodaaaDoor
