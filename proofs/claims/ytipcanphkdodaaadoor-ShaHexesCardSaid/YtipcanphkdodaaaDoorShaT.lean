/- A hash that is nil, or was not returned by New: its methods; loads and builds behind a guard. -/
import Derived.Test.YtipcanphkdodaaaDoorShaS
namespace Go.Proofs.YtipcanphkdodaaaDoor
open Go.RowKit
set_option linter.unusedVariables false

section
variable {P : Program} {w : World} {ops : Array Oper} {rest : List Oper} {o : Oper} {a : Act} {Q : Exit → Act → World → Prop}
theorem guard_load_row (hgd : Region.wanted o (yielded ops a.tmps) = true) (ty : TypeId) (x : Operand) (ho : o.op = .load ty x) (g : Nat) (hx : a.eval x = .pointer (some ⟨g, 0, none⟩)) (t : TypeId) (cs : Array Value) (fr : Nat × Nat) (d : TypeDesc) (hg : w.heap[g]? = some (.cells cs t fr))
    (hu : P.underlying ty = some d) (hd : (match d with | .struct _ | .array _ _ => true | _ => false) = true) (hi : (P.info? ty).map (·.size) = some cs.size)
    (h : wpList P ops Q rest (a.put o.dst (.agg cs)) w) : wpList P ops Q (o :: rest) a w :=
  wpList_step fun K hK => by rw [if_pos hgd]; exact wp_load_row ty x ho g hx t cs fr d hg hu hd hi (hK _ _ h)
theorem guard_build (hgd : Region.wanted o (yielded ops a.tmps) = true) (t : TypeId) (parts : Array (Nat × Operand)) (ho : o.op = .build t parts) (d : Option Tmp) (hd : o.dst = d) (cells : Array Value) (hf : P.built t (parts.map fun (i, x) => (i, a.eval x)).toList = some cells)
    (h : wpList P ops Q rest (a.put d (.agg cells)) w) : wpList P ops Q (o :: rest) a w :=
  wpList_step fun K hK => by
    rw [if_pos hgd]
    refine wp_build t parts ho (by rw [hf]; rfl) ?_
    rw [hf, hd]
    exact hK _ _ h
end

/-- The pointer leads to no hash that New or Copy returned. -/
def Bad (W : World) (p : Option Addr) : Prop := p = none ∨ ∃ g, p = some ⟨g, 0, none⟩ ∧ W.cell? ⟨g, 0, none⟩ = some (.pointer none)
theorem Bad.step {W W' : World} {p : Option Addr} (h : Bad W p) (hb : Below W.heap.size W W') : Bad W' p := by
  rcases h with rfl | ⟨g, rfl, hc⟩
  · exact .inl rfl
  · exact .inr ⟨g, rfl, (hb.cell (p := ⟨g, 0, none⟩) (World.block_lt_of_cell? W _ hc)).trans hc⟩
theorem isMade_no (p : Option Addr) (w : World) (h : Bad w p) : Calls Tryd.prog 49 #[.pointer p] w fun e w' => e = .returned (.bool false) ∧ w = w' := by
  rcases h with rfl | ⟨g, rfl, hc⟩
  · exact isMade_nil w
  · exact isMade_zero g w hc
theorem write_no (p : Option Addr) (v : Value) (w : World) (h : Bad w p) : Calls Tryd.prog 28 #[.pointer p, v] w fun e w' => e = .returned (.int .i64 1) ∧ w = w' := by
  have H := Lib.hid h; clear h
  go_enter Tryd.func28, Tryd.ntmps28
  go_wp2_with (go_at_call 49; refine (isMade_no p _ H.out).mono ?_; rintro e w1 ⟨rfl, rfl⟩)
  go_ret
  exact ⟨rfl, rfl⟩
theorem reset_no (p : Option Addr) (w : World) (h : Bad w p) : Calls Tryd.prog 31 #[.pointer p] w fun e w' => e = .returned (.int .i64 1) ∧ w = w' := by
  have H := Lib.hid h; clear h
  go_enter Tryd.func31, Tryd.ntmps31
  go_wp2_with (go_at_call 49; refine (isMade_no p _ H.out).mono ?_; rintro e w1 ⟨rfl, rfl⟩)
  go_ret
  exact ⟨rfl, rfl⟩
theorem hlen_no (p : Option Addr) (w : World) (h : Bad w p) : Calls Tryd.prog 30 #[.pointer p] w fun e w' => e = .returned (.tuple #[.int .i64 0, .int .i64 1]) ∧ w = w' := by
  have H := Lib.hid h; clear h
  go_enter Tryd.func30, Tryd.ntmps30
  go_wp2_with (go_at_call 49; refine (isMade_no p _ H.out).mono ?_; rintro e w1 ⟨rfl, rfl⟩)
  go_ret2
  exact ⟨rfl, rfl⟩
theorem copy_no (p : Option Addr) (w : World) (h : Bad w p) : Calls Tryd.prog 32 #[.pointer p] w fun e w' => e = .returned (.tuple #[.pointer none, .int .i64 1]) ∧ w = w' := by
  have H := Lib.hid h; clear h
  go_enter Tryd.func32, Tryd.ntmps32
  go_wp2_with (go_at_call 49; refine (isMade_no p _ H.out).mono ?_; rintro e w1 ⟨rfl, rfl⟩)
  go_ret2
  exact ⟨rfl, rfl⟩
set_option maxRecDepth 20000 in
set_option maxHeartbeats 1000000 in
theorem hsum_no (p : Option Addr) (w : World) (h : Bad w p) : Calls Tryd.prog 29 #[.pointer p] w (Gives w (.tuple #[.agg (yV (List.replicate 32 0)), .int .i64 1])) := by
  have H : Hid (Bad (w.alloc (.cells (yV (List.replicate 32 0)) 32)) p) := Lib.hid (h.step (bl_self w _)); clear h
  have HRES : Hid (AR (w.alloc (.cells (yV (List.replicate 32 0)) 32)) w.heap.size 32 (yV (List.replicate 32 0))) := Lib.hid (AR.made _ _ _)
  go_enter Tryd.func29, Tryd.ntmps29
  go_wp2_with (first
    | (go_at_call 49; refine (isMade_no p _ H.out).mono ?_; rintro e w1 ⟨rfl, rfl⟩)
    | ((with_reducible refine atOp ⟨some 7, _, _, _, _, _⟩ ?_); refine wpList_buildTo rfl 32 #[] rfl (some 7) rfl (yV (List.replicate 32 0)) (by kernel_rfl) ?_)
    | ((with_reducible refine atOp ⟨none, .store 32 _ _, _, _, _, _⟩ ?_); refine wpList_store_row rfl 32 (.tmp 2) (.tmp 7) rfl w.heap.size (yV (List.replicate 32 0)) rfl rfl 32 (yV (List.replicate 32 0)) HRES.out (info32 _ rfl) rfl (yV_one _) ?_))
  refine bodyPost_ret (v := .tuple #[.agg (yV (List.replicate 32 0)), .int .i64 1]) (results_row_tmp Tryd.results29 _ _ w.heap.size 32 _ (0, 0) _ _ rfl rfl (HRES.out.row _) Tryd.underlying32 rfl (info32 _ rfl)) rfl ⟨rfl, bl_row _ (bl_self w _) (by omega)⟩
theorem bad_none (W : World) : Bad W none := Or.inl rfl
/-- The digest of nothing but zeros. -/
def z32 : List Nat := List.replicate 32 0
theorem z32_len : z32.length = 32 := rfl
theorem hsum_z (p : Option Addr) (w : World) (h : Bad w p) : Calls Tryd.prog 29 #[.pointer p] w (Gives w (.tuple #[.agg (yV z32), .int .i64 1])) := hsum_no p w h
theorem built_hash0 : Tryd.prog.built 72 [] = some (hashL none 0 (List.replicate 8 0) (List.replicate 64 0)).toArray := by kernel_rfl
theorem built_dig0 : Tryd.prog.built 32 [] = some (yV z32) := by kernel_rfl
end Go.Proofs.YtipcanphkdodaaaDoor
