/- The law WordsSplits: the walk. -/
import Derived.Test.YtkafcbiiponacaaDoorWordsZ
import Derived.Test.YtkafcbiiponacaaDoorWordsY
namespace Go.Proofs.YtkafcbiiponacaaDoor
open Go.RowKit Go.Shelf
set_option linter.unusedVariables false

set_option maxRecDepth 20000 in
set_option maxHeartbeats 1000000 in
theorem splits_any (s : ByteArray) (w : World) (hG : G1 w) (hs : s.size ≤ maxLen) :
    Calls Tryd.prog 5 #[.string s] w fun e w' => e = .returned (.bool true) ∧ Below w.heap.size w w' := by
  have HSM := Lib.hid hs
  unfold maxLen at hs
  have HG := Lib.hid hG; clear hG
  have HB := Lib.hid (Below.refl w.heap.size w)
  by_cases h1 : s.size ≤ 3000
  case neg =>
    by_cases h2 : s.size ≤ 8192
    case pos =>
      go_enter Tryd.func5, Tryd.ntmps5
      go_wp2_with (go_at_call 12; refine (shown_any _ HG.out).mono ?_; rintro e w2 ⟨rfl, hb⟩; replace HB := Lib.hid hb; clear hb)
      go_ret
      exact ⟨rfl, HB.out⟩
    by_cases h3 : s.size ≤ 9000
    case neg =>
      go_enter Tryd.func5, Tryd.ntmps5
      go_wp2_with (go_at_call 12; refine (shown_any _ HG.out).mono ?_; rintro e w2 ⟨rfl, hb⟩; replace HB := Lib.hid hb; clear hb)
      go_ret
      exact ⟨rfl, HB.out⟩
    go_enter Tryd.func5, Tryd.ntmps5
    go_wp2_with (first
      | (go_at_call 23; refine (split_any s _ HSM.out HG.out.esc HG.out.lt).mono ?_; rintro e w1 ⟨v1, rfl, hs1, hb⟩; have HS1 := Lib.hid hs1; replace HB := Lib.hid (bl_call HB.out hb); replace HG := Lib.hid (HG.out.below hb); clear hb hs1)
      | (go_at_call 24; refine (rsplit_any s _ HSM.out).mono ?_; rintro e w2 ⟨v2, rfl, hs2, hb⟩; have HS2 := Lib.hid hs2; replace HS1 := Lib.hid (HS1.out.later hb); replace HB := Lib.hid (bl_call HB.out hb); replace HG := Lib.hid (HG.out.below hb); clear hb hs2)
      | (go_at_call 25; refine (same_any v1 v2 _ _ _ HS1.out HS2.out).mono ?_; rintro e w5 ⟨rfl, n, hw⟩; rw [sameB_true rfl]; replace HB := Lib.hid (show Below w.heap.size w w5 by rw [hw]; exact bl_drewN _ HB.out); replace HG := Lib.hid (show G1 w5 by rw [hw]; exact HG.out.below (bl_drewN _ (Below.refl _ _))); clear hw)
      | (go_at_call 12; refine (shown_any _ HG.out).mono ?_; rintro e w6 ⟨rfl, hb⟩; replace HB := Lib.hid (bl_call HB.out hb); clear hb))
    go_ret
    exact ⟨rfl, HB.out⟩
  case pos =>
    go_enter Tryd.func5, Tryd.ntmps5
    go_wp2_with (first
      | (go_at_call 23; refine (split_any s _ HSM.out HG.out.esc HG.out.lt).mono ?_; rintro e w1 ⟨v1, rfl, hs1, hb⟩; have HS1 := Lib.hid hs1; replace HB := Lib.hid (bl_call HB.out hb); replace HG := Lib.hid (HG.out.below hb); clear hb hs1)
      | (go_at_call 24; refine (rsplit_any s _ HSM.out).mono ?_; rintro e w2 ⟨v2, rfl, hs2, hb⟩; have HS2 := Lib.hid hs2; replace HS1 := Lib.hid (HS1.out.later hb); replace HB := Lib.hid (bl_call HB.out hb); replace HG := Lib.hid (HG.out.below hb); clear hb hs2)
      | (go_at_call 25; refine (same_any v1 v2 _ _ _ HS1.out HS2.out).mono ?_; rintro e w5 ⟨rfl, n, hw⟩; rw [sameB_true rfl]; replace HB := Lib.hid (show Below w.heap.size w w5 by rw [hw]; exact bl_drewN _ HB.out); replace HG := Lib.hid (show G1 w5 by rw [hw]; exact HG.out.below (bl_drewN _ (Below.refl _ _))); clear hw)
      | (go_at_call 12; refine (shown_any _ HG.out).mono ?_; rintro e w6 ⟨rfl, hb⟩; replace HB := Lib.hid (bl_call HB.out hb); clear hb))
    go_ret
    exact ⟨rfl, HB.out⟩
end Go.Proofs.YtkafcbiiponacaaDoor
