/- The law WordsQuotes: the walk. -/
import Derived.Test.YtkafcbiiponacaaDoorWordsR
import Derived.Test.YtkafcbiiponacaaDoorWordsY
namespace Go.Proofs.YtkafcbiiponacaaDoor
open Go.RowKit Go.Shelf
set_option linter.unusedVariables false

set_option maxRecDepth 20000 in
set_option maxHeartbeats 400000 in
theorem quotes_any (s : ByteArray) (w : World) (hG : G1 w) (hs : s.size ≤ maxLen) :
    Calls Tryd.prog 4 #[.string s] w fun e w' => e = .returned (.bool true) ∧ Below w.heap.size w w' := by
  unfold maxLen at hs
  have HG := Lib.hid hG; clear hG
  by_cases hlong : 1000 < s.size
  · go_enter Tryd.func4, Tryd.ntmps4
    go_wp2_with (go_at_call 12; refine (shown_any _ HG.out).mono ?_; rintro e w2 ⟨rfl, hb⟩; have HB := Lib.hid hb; clear hb)
    go_ret
    exact ⟨rfl, HB.out⟩
  · have HB := Lib.hid (Below.refl w.heap.size w)
    have hs2 : s.size ≤ 35184372088000 := by omega
    go_enter Tryd.func4, Tryd.ntmps4
    go_wp2_with (first
      | (go_at_call 19; refine (unquote_any s _ hs2 HG.out.esc HG.out.lt).mono ?_; rintro e w2 ⟨rfl, hb⟩; replace HB := Lib.hid (bl_call HB.out hb); replace HG := Lib.hid (HG.out.below hb); clear hb)
      | (go_at_call 20; refine (runquote_any s _ hs2).mono ?_; rintro e w2 ⟨rfl, hb⟩; replace HB := Lib.hid (bl_call HB.out hb); replace HG := Lib.hid (HG.out.below hb); clear hb)
      | (go_at_call 21; refine (quote_any s _ hs2 HG.out.esc HG.out.lt).mono ?_; rintro e w2 ⟨rfl, hb⟩; replace HB := Lib.hid (bl_call HB.out hb); replace HG := Lib.hid (HG.out.below hb); clear hb)
      | (go_at_call 22; refine (rquote_any s _ hs2).mono ?_; rintro e w2 ⟨rfl, hb⟩; replace HB := Lib.hid (bl_call HB.out hb); replace HG := Lib.hid (HG.out.below hb); clear hb)
      | (go_at_call 12; refine (shown_any _ HG.out).mono ?_; rintro e w2 ⟨rfl, hb⟩; replace HB := Lib.hid (bl_call HB.out hb); clear hb))
    go_ret
    exact ⟨rfl, HB.out⟩
end Go.Proofs.YtkafcbiiponacaaDoor
