/- The law WordsJoins: the walk. -/
import Derived.Test.YtkafcbiiponacaaDoorJoinD
import Derived.Test.YtkafcbiiponacaaDoorWordsY
namespace Go.Proofs.YtkafcbiiponacaaDoor
open Go.RowKit Go.Shelf
set_option linter.unusedVariables false

set_option maxRecDepth 20000 in
set_option maxHeartbeats 1000000 in
theorem joins_any (v : Value) (fs : List FD) (w : World) (hG : G1 w) (hf : FA w v fs) :
    Calls Tryd.prog 6 #[v] w fun e w' => e = .returned (.bool true) ∧ Below w.heap.size w w' := by
  have HG := Lib.hid hG; clear hG
  have HF := Lib.hid hf; clear hf
  have HB := Lib.hid (Below.refl w.heap.size w)
  go_enter Tryd.func6, Tryd.ntmps6
  go_wp2_with (first
    | (go_at_call 26; refine (far_any v fs _ HF.out).mono ?_; rintro e w1 ⟨b, rfl, _, rfl⟩)
    | (go_at_call 27; refine (joinA_any v fs _ HF.out HG.out.esc HG.out.lt).mono ?_; rintro e w2 ⟨rfl, hb⟩; replace HB := Lib.hid (bl_call HB.out hb); replace HG := Lib.hid (HG.out.below hb); replace HF := Lib.hid (HF.out.later hb); clear hb)
    | (go_at_call 28; refine (rjoinA_any v fs _ HF.out).mono ?_; rintro e w3 ⟨rfl, hb⟩; replace HB := Lib.hid (bl_call HB.out hb); replace HG := Lib.hid (HG.out.below hb); replace HF := Lib.hid (HF.out.later hb); clear hb)
    | (go_at_call 12; refine (shown_any _ HG.out).mono ?_; rintro e w4 ⟨rfl, hb⟩; replace HB := Lib.hid (bl_call HB.out hb); clear hb))
  all_goals
    go_ret
    exact ⟨rfl, HB.out⟩
end Go.Proofs.YtkafcbiiponacaaDoor
