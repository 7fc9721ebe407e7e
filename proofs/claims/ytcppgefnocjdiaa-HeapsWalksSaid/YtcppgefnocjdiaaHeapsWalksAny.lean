/- HeapsWalks: of any number of values. -/
import Derived.Test.YtcppgefnocjdiaaHeapsWalksWalk
namespace Go.Proofs.Ytcppgefnocjdiaa
open Go.RowKit Go.Lib Go.Sort Go.Shelf
set_option linter.unusedVariables false
set_option maxRecDepth 100000 in
theorem walks_any (n : Nat) (lv bv : Value) (l : List Int) (bs : List Nat) (W : World) (hn : n < 256) (hl : RI W lv l) (hb : RY W bv bs) :
    Calls Try.prog 8 #[.int .u8 n, lv, bv] W fun e w' => e = .returned (.bool true) ∧ Go.RowKit.Below W.heap.size W w' := by
  by_cases hle : l.length ≤ 100
  · exact callsIn_wide.1 (walks_in n lv bv l bs W hn hl hle hb)
  · obtain ⟨A, c, rfl⟩ := hl.len
    obtain ⟨A2, c2, rfl⟩ := hb.len
    obtain ⟨m, hm⟩ : ∃ m, l.length = m := ⟨_, rfl⟩
    rw [hm] at hle ⊢
    have hmz : (m : Int) > 100 := by omega
    have hb1 : Go.RowKit.Below W.heap.size W ((W.alloc (.cells #[.slice A2 bs.length c2] 66)).alloc (.cells #[.bool false] 4)) := ((Go.RowKit.Below.refl _ W).alloc (Nat.le_refl _) _).alloc (by simp) _
    have h6 : ((W.alloc (.cells #[.slice A2 bs.length c2] 66)).alloc (.cells #[.bool false] 4)).heap[W.heap.size + 1]? = some (.cells #[.bool false] 4 (0, 0)) := by
      have := heap_alloc_new (W.alloc (.cells #[.slice A2 bs.length c2] 66)) (.cells #[.bool false] 4); simpa using this
    have HB1 := Lib.hid hb1; have H6 := Lib.hid h6
    clear hm hl hb hb1 h6
    refine (callsIn_wide (n := 5)).1 ?_
    refine callsIn_of_wp_marks Try.func8 rfl trivial ?_ rfl
    simp only [Try.ntmps8, List.size_toArray, List.length_cons, List.length_nil, Nat.reduceAdd, Nat.reduceSub, Array.replicate_succ, Array.replicate_zero, List.push_toArray, List.append_toArray, List.nil_append, List.cons_append]
    gi_wp2_with (refine ⟨trivial, ?_⟩; gi_at_call 10; refine (callsIn_wide.2 (awake_any _)).mono ?_; rintro e w6 ⟨rfl, hb6⟩; have h7 := (hb6.block (W.heap.size + 1) (Array.getElem?_eq_some_iff.1 H6.out).1).trans H6.out; obtain ⟨d6, e6⟩ := cell_of1 h7; have HB6 := Lib.hid hb6; have H7 := Lib.hid h7; clear hb6 h7)
    have t2 : (w6.setCell ⟨W.heap.size + 1, 0, none⟩ (.bool true)).cell? ⟨W.heap.size + 1, 0, none⟩ = some (.bool true) := (cell_of1 (heap_set1 H7.out (.bool true))).1
    refine ⟨.bool true, by simp [results, Try.f8, go_sem, t2], ⟨rfl, ?_⟩⟩
    exact (HB1.out.trans (HB6.out.mono HB1.out.size)).setCell (p := ⟨W.heap.size + 1, 0, none⟩) (Nat.le_succ _) _
end Go.Proofs.Ytcppgefnocjdiaa
