/- words.fieldsOf, tooLong. -/
import Derived.Test.YtdcjnklagklckaaDoorWordsR
namespace Go.Proofs.YtdcjnklagklckaaDoor
open Go.RowKit
set_option linter.unusedVariables false

theorem fieldsOf_any (s : ByteArray) (w : World) : Calls Tryd.prog 47 #[.string s] w fun e w' =>
    e = .returned (.func (.func 69) #[] #[.pointer (some ⟨w.heap.size, 0, none⟩)]) ∧ w' = w.alloc (.cells #[.string s] 9) := by
  have hmf : ∀ (fn : Fn) (first cap : Array Value) (w : World), (Instr.makeFunc fn first cap).run Tryd.prog w = .ok (.func fn first cap) w := fun _ _ _ _ => rfl
  go_enter Tryd.func47, Tryd.ntmps47
  go_wp2
  go_ret
  exact ⟨rfl, rfl⟩

/-- A field as data. -/
abbrev FD := ByteArray × Bool
/-- The slice v reads as the fields fs. -/
def FSl (w : World) (v : Value) (fs : List FD) : Prop :=
  (v = .slice none 0 0 ∧ fs = []) ∨
  ∃ g off cap, v = .slice (some ⟨g, off, none⟩) fs.length cap ∧ g < w.heap.size ∧ fs.length ≤ maxLen ∧ ∀ i (h : i < fs.length), w.cell? ⟨g, off + i * 2, none⟩ = some (.string fs[i].1) ∧ w.cell? ⟨g, off + i * 2 + 1, none⟩ = some (.bool fs[i].2)

def tooB (fs : List FD) : Bool := fs.any (fun f => decide (2000 < f.1.size)) || decide (64 < fs.length)

set_option maxRecDepth 20000 in
set_option maxHeartbeats 400000 in
theorem tooLong_any (v : Value) (fs : List FD) (w : World) (h : FSl w v fs) :
    Calls Tryd.prog 48 #[v] w fun e w' => e = .returned (.bool (tooB fs)) ∧ Below w.heap.size w w' := by
  rcases h with ⟨rfl, rfl⟩ | ⟨g, off, cap, rfl, hg, hml, hcell⟩
  · go_enter Tryd.func48, Tryd.ntmps48
    go_wp2_with fail
    refine wp_loop_rounds 1 ?_
    rw [rounds_succ]
    go_wp2_with fail
    go_ret
    exact ⟨rfl, Below.refl _ _⟩
  · have HC := Lib.hid hcell; clear hcell
    unfold maxLen at hml
    go_enter Tryd.func48, Tryd.ntmps48
    go_wp2_with fail
    go_loopw [4, 7] (fun _ i wr => ∃ k : Nat, k ≤ fs.length ∧ i = .int .i64 k ∧ Hid (Below w.heap.size w wr) ∧ Hid ((fs.take k).any (fun f => decide (2000 < f.1.size)) = false)) (fun _ i _ => fs.length - (intOf i).toNat)
    case atStart => exact ⟨0, by omega, rfl, Lib.hid (Below.refl _ _), Lib.hid rfl⟩
    case round =>
      obtain ⟨k, hk, rfl, HB, HX⟩ := hrel
      by_cases hlt : k < fs.length
      · obtain ⟨h0, h1⟩ := HC.out k hlt
        have c0 := (HB.out.cell (p := ⟨g, off + k * 2, none⟩) hg).trans h0
        have c1 := (HB.out.cell (p := ⟨g, off + k * 2 + 1, none⟩) hg).trans h1
        clear h0 h1
        by_cases hbig : 2000 < fs[k].1.size
        · have HN : Hid (tooB fs = true) := Lib.hid (by unfold tooB; rw [List.any_eq_true.2 ⟨fs[k], List.getElem_mem hlt, decide_eq_true hbig⟩]; rfl)
          go_wp2
          go_ret
          exact ⟨ret_bool HN.out.symm, HB.out.alloc HB.out.size _⟩
        · have HS : Hid ((fs.take (k + 1)).any (fun f => decide (2000 < f.1.size)) = false) := Lib.hid (by
            rw [List.take_succ_eq_append_getElem hlt, List.any_append, HX.out]; simp; omega)
          go_wp2
          go_roundw
          case rel => exact ⟨k + 1, by omega, by go_num, Lib.hid (HB.out.alloc HB.out.size _), HS⟩
          case measure => simp [intOf]; omega
      · have HS : Hid (tooB fs = decide (64 < fs.length)) := Lib.hid (by
          unfold tooB; have := HX.out; rw [List.take_of_length_le (by omega)] at this; rw [this]; rfl)
        go_wp2
        go_ret
        exact ⟨ret_bool (by rw [HS.out, Bool.eq_iff_iff]; simp; try omega), HB.out⟩
end Go.Proofs.YtdcjnklagklckaaDoor
