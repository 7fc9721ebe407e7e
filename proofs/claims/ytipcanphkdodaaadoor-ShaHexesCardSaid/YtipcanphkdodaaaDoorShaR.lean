/- A hash by value: what building one gives. -/
import Derived.Test.YtipcanphkdodaaaDoorShaQ
namespace Go.Proofs.YtipcanphkdodaaaDoor
open Go.RowKit
set_option linter.unusedVariables false

theorem fold_set (off : Nat) : ∀ (vs : List Value) (k : Nat) (cs : Array Value), off + k + vs.length ≤ cs.size →
    (vs.zipIdx k).foldl (fun (cs : Array Value) (p : Value × Nat) => cs.setIfInBounds (off + p.2) p.1) cs = (cs.toList.take (off + k) ++ vs ++ cs.toList.drop (off + k + vs.length)).toArray
  | [], k, cs, _ => by simp
  | v :: vs, k, cs, h => by
    have hl : off + k + (vs.length + 1) ≤ cs.size := by simpa using h
    rw [List.zipIdx_cons, List.foldl_cons, fold_set off vs (k + 1) (cs.setIfInBounds (off + k) v) (by simp; omega)]
    have e := list_seg_step cs.toList (off + k) v vs (by simpa using hl)
    simp only [Array.toList_setIfInBounds]
    rw [show off + (k + 1) = off + k + 1 by omega, e]
    rfl
theorem built_hash {l : List Value} (h : l.length = 73) : Tryd.prog.built 72 [(1, .agg l.toArray)] = some (Value.pointer none :: l).toArray := by
  have hp : ∀ c : Array Value, Tryd.prog.built 72 [(1, .agg c)] = Instr.fill (fun i => if i = 1 then some (1, 73) else if i = 0 then some (0, 1) else none) (.pointer none :: tL 0 (List.replicate 8 0) (List.replicate 64 0)).toArray [(1, .agg c)] := fun c => by kernel_rfl
  have hs : (Value.agg l.toArray).cells = l.toArray := rfl
  have hz : (Value.pointer none :: tL 0 (List.replicate 8 0) (List.replicate 64 0)).toArray.size = 74 := by rw [List.size_toArray, List.length_cons, tL_len 0 (by simp) (by simp)]
  have hf := fold_set 1 l 0 (Value.pointer none :: tL 0 (List.replicate 8 0) (List.replicate 64 0)).toArray (by rw [hz]; omega)
  rw [hp]
  simp only [Instr.fill, hs, if_true, List.size_toArray, h, hz]
  rw [← Array.foldl_toList, Array.toList_zipIdx, hf]
  rw [List.take_succ_cons, List.take_zero, h, List.drop_of_length_le (by rw [List.length_cons, tL_len 0 (by simp) (by simp)]; omega), List.append_nil]
  rfl
end Go.Proofs.YtipcanphkdodaaaDoor
