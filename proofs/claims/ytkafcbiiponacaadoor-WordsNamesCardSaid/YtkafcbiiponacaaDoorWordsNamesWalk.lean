/- The law WordsNames: the walk. -/
import Derived.Test.YtkafcbiiponacaaDoorWordsH
import Derived.Test.YtkafcbiiponacaaDoorWordsY
namespace Go.Proofs.YtkafcbiiponacaaDoor
open Go.RowKit Go.Shelf
set_option linter.unusedVariables false

set_option maxRecDepth 20000 in
set_option maxHeartbeats 400000 in
theorem names_any (s : ByteArray) (low high : Int) (w : World) (hG : G1 w) (hs : s.size ≤ maxLen) (hl0 : -9223372036854775808 ≤ low) (hl1 : low ≤ 9223372036854775807) (hh0 : -9223372036854775808 ≤ high) (hh1 : high ≤ 9223372036854775807) :
    Calls Tryd.prog 3 #[.string s, .int .i64 low, .int .i64 high] w fun e w' => e = .returned (.bool true) ∧ Below w.heap.size w w' := by
  unfold maxLen at hs
  have HG := Lib.hid hG; clear hG
  by_cases hlong : 1000 < s.size
  · go_enter Tryd.func3, Tryd.ntmps3
    go_wp2_with (go_at_call 12; refine (shown_any _ HG.out).mono ?_; rintro e w2 ⟨rfl, hb⟩; have HB := Lib.hid hb; clear hb)
    go_ret
    exact ⟨rfl, HB.out⟩
  · have HB := Lib.hid (Below.refl w.heap.size w)
    have hs2 : s.size ≤ 281474976710656 := by omega
    have hs3 : s.size ≤ maxLen := by unfold maxLen; omega
    go_enter Tryd.func3, Tryd.ntmps3
    go_wp2_with (first
      | (go_at_call 13; refine (int_any s low high _ hs2 hl0 hh1 HG.out.err).mono ?_; rintro e w2 ⟨rfl, hb⟩; replace HB := Lib.hid (bl_call HB.out hb); replace HG := Lib.hid (HG.out.below hb); clear hb)
      | (go_at_call 14; refine (rint_any s low high _ hs2 hl0 hh1).mono ?_; rintro e w3 ⟨rfl, rfl⟩)
      | (go_at_call 15; refine (name_any s _ hs3).mono ?_; rintro e w4 ⟨rfl, rfl⟩)
      | (go_at_call 16; refine (rname_any s _ hs3).mono ?_; rintro e w5 ⟨rfl, rfl⟩)
      | (go_at_call 17; refine (digits_any _ _ (by assumption) (by assumption) HG.out.tab).mono ?_; rintro e w6 ⟨rfl, hb⟩; replace HB := Lib.hid (bl_call HB.out hb); replace HG := Lib.hid (HG.out.below hb); clear hb)
      | (go_at_call 18; refine (rdigits_any _ _ (by assumption) (by assumption)).mono ?_; rintro e w7 ⟨rfl, hb⟩; replace HB := Lib.hid (bl_call HB.out hb); replace HG := Lib.hid (HG.out.below hb); clear hb)
      | (go_at_call 12; refine (shown_any _ HG.out).mono ?_; rintro e w2 ⟨rfl, hb⟩; replace HB := Lib.hid (bl_call HB.out hb); clear hb))
    go_ret
    exact ⟨rfl, HB.out⟩
end Go.Proofs.YtkafcbiiponacaaDoor
