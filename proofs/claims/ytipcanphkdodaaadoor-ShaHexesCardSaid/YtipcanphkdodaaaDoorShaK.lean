/- The contracts of Pad, Constants and Start. -/
import Derived.Test.YtipcanphkdodaaaDoorShaJ
namespace Go.Proofs.YtipcanphkdodaaaDoor
open Go.RowKit
set_option linter.unusedVariables false

theorem ret_two {a : Value} {b c : Int} {k : IntKind} (h : b = c) : Ending.returned (.tuple #[a, .int k b]) = .returned (.tuple #[a, .int k c]) := by rw [h]
def PadYes (w : World) (xs : List Nat) (e : Ending) (w' : World) : Prop := ∃ v, e = .returned (.tuple #[v, .int .i64 0]) ∧ RN w' v xs ∧ Below w.heap.size w w'
def PadNo (w : World) (e : Ending) (w' : World) : Prop := e = .returned (.tuple #[.slice none 0 0, .int .i64 7]) ∧ w = w'
theorem pad_yes (n : Nat) (k : Int) (w : World) (hk : k = n) (hn : n ≤ 1152921504606846976) : Calls Tryd.prog 21 #[.int .i64 k] w (PadYes w (padL n)) := by
  subst hk
  have h1 : ((n : Int) < 0) = False := by simp
  have e1 : IntKind.u64.wrap (n : Int) = (n : Int) := by rw [IntKind.wrap_u64]; omega
  have hn2 : decide (1152921504606846976 < (n : Int)) = false := by simp; omega
  go_enter Tryd.func21, Tryd.ntmps21
  go_wp2_with (go_at_call 43; refine (padding_any n _ hn).mono ?_; rintro e w1 ⟨v, rfl, hon, hb⟩; have HON := Lib.hid hon.rn; have HB := Lib.hid hb; clear hon hb)
  go_ret2
  exact ⟨v, rfl, HON.out, HB.out⟩
theorem pad_no (n : Int) (w : World) (hn : n < 0 ∨ 1152921504606846976 < n) : Calls Tryd.prog 21 #[.int .i64 n] w (PadNo w) := by
  by_cases h0 : n < 0
  · go_enter Tryd.func21, Tryd.ntmps21
    go_wp2_with fail
    go_ret2
    exact ⟨rfl, rfl⟩
  · have h1 : 1152921504606846976 < n := by omega
    go_enter Tryd.func21, Tryd.ntmps21
    go_wp2_with fail
    go_ret2
    exact ⟨rfl, rfl⟩

theorem info64c (l : List Nat) (h : l.length = 64) : (Tryd.prog.info? 26).map (·.size) = some (uV l).size := by rw [uV_size, h]; kernel_rfl
set_option maxRecDepth 20000 in
set_option maxHeartbeats 1000000 in
theorem constants_any (w : World) (hV : VK w) : Calls Tryd.prog 14 #[] w (Gives w (.agg (uV kL))) := by
  obtain ⟨t, fr, hk⟩ := hV.k
  have hlt : 0 < w.heap.size := (Array.getElem?_eq_some_iff.1 hk).1
  have HK : Hid ((w.alloc (.cells (uV (List.replicate 64 0)) 26)).heap[0]? = some (.cells (uV kL) t fr)) := Lib.hid (((bl_self w (.cells (uV (List.replicate 64 0)) 26)).block _ hlt).trans hk)
  have HI := Lib.hid (info64c kL rfl)
  clear hV hk
  go_enter Tryd.func14, Tryd.ntmps14
  go_wp2_with (first
    | ((with_reducible refine atOp ⟨some 1, _, _, _, _, _⟩ ?_); refine wpList_load_row rfl 26 _ rfl 0 rfl t (uV kL) fr _ HK.out Tryd.underlying26 rfl HI.out ?_)
    | ((with_reducible refine atOp ⟨none, .store 26 _ _, _, _, _, _⟩ ?_); refine wpList_store_row rfl 26 (.tmp 0) (.tmp 1) rfl w.heap.size (uV kL) rfl rfl 26 (uV (List.replicate 64 0)) (AR.made w _ _) HI.out rfl (uV_one _) ?_))
  refine bodyPost_ret (v := .agg (uV kL)) (results_cell_row Tryd.results14 _ _ w.heap.size 26 _ (0, 0) _ rfl ((AR.made w _ _).row _) Tryd.underlying26 rfl HI.out) rfl ⟨rfl, bl_row _ (bl_self _ _) (by omega)⟩
set_option maxRecDepth 20000 in
set_option maxHeartbeats 1000000 in
theorem start_any (w : World) (hV : VK w) : Calls Tryd.prog 16 #[] w (Gives w (.agg (uV hL))) := by
  obtain ⟨t, fr, hk⟩ := hV.h
  have hlt : 1 < w.heap.size := (Array.getElem?_eq_some_iff.1 hk).1
  have HK : Hid ((w.alloc (.cells (uV (List.replicate 8 0)) 23)).heap[1]? = some (.cells (uV hL) t fr)) := Lib.hid (((bl_self w (.cells (uV (List.replicate 8 0)) 23)).block _ hlt).trans hk)
  have HI := Lib.hid (info8 hL rfl)
  clear hV hk
  go_enter Tryd.func16, Tryd.ntmps16
  go_wp2_with (first
    | ((with_reducible refine atOp ⟨some 1, _, _, _, _, _⟩ ?_); refine wpList_load_row rfl 23 _ rfl 1 rfl t (uV hL) fr _ HK.out Tryd.underlying23 rfl HI.out ?_)
    | ((with_reducible refine atOp ⟨none, .store 23 _ _, _, _, _, _⟩ ?_); refine wpList_store_row rfl 23 (.tmp 0) (.tmp 1) rfl w.heap.size (uV hL) rfl rfl 23 (uV (List.replicate 8 0)) (AR.made w _ _) HI.out rfl (uV_one _) ?_))
  refine bodyPost_ret (v := .agg (uV hL)) (results_cell_row Tryd.results16 _ _ w.heap.size 23 _ (0, 0) _ rfl ((AR.made w _ _).row _) Tryd.underlying23 rfl HI.out) rfl ⟨rfl, bl_row _ (bl_self _ _) (by omega)⟩
end Go.Proofs.YtipcanphkdodaaaDoor
