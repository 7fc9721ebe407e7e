/- The law ShaSums: the walk. -/
import Derived.Test.YtipcanphkdodaaaDoorShaZi
import Derived.Test.YtipcanphkdodaaaDoorShaO
namespace Go.Proofs.YtipcanphkdodaaaDoor
open Go.RowKit
set_option linter.unusedVariables false

set_option maxRecDepth 20000 in
set_option maxHeartbeats 4000000 in
theorem sums_any (v : Value) (xs : List Nat) (w : World) (hv : RN w v xs) (hb : BB xs) (hV : VK w) : Calls Tryd.prog 4 #[v] w (Gives w (.bool true)) := by
  obtain ⟨q, hq⟩ : ∃ q, xs.length = q := ⟨_, rfl⟩
  obtain ⟨A, c, rfl⟩ := hv.len
  rw [hq] at hv ⊢
  have HX := Lib.hid hv; have HBB := Lib.hid hb; have HQ := Lib.hid hq; have HV := Lib.hid hV
  clear hv hb hq hV
  have e32 := fun W => eq32 (shaL xs) (shaL_len _) W
  obtain ⟨T, hT⟩ : ∃ T, shaL xs = T := ⟨_, rfl⟩
  rw [hT] at e32
  have HT := Lib.hid hT; clear hT
  by_cases hq1 : q ≤ 1000
  · go_enter Tryd.func4, Tryd.ntmps4
    go_wp2_with (first
      | (go_at_call 19; refine (sum_any xs _ _ HX.out HBB.out (by rw [HQ.out]; omega) HV.out).mono ?_; rintro e w1 ⟨rfl, hb⟩; have B1 := Lib.hid hb; rw [HT.out]; clear hb)
      | (go_at_call 20; refine (rsum_any xs _ _ (HX.out.later B1.out) HBB.out (by rw [HQ.out]; omega)).mono ?_; rintro e w2 ⟨rfl, hb⟩; have B2 := Lib.hid (bl_call B1.out hb); rw [HT.out]; clear hb)
      | (go_at_call 18; refine (shown_any _ (HV.out.below B2.out)).mono ?_; rintro e w3 ⟨rfl, hb⟩; have B3 := Lib.hid (bl_call B2.out hb); clear hb))
    go_ret
    exact ⟨rfl, B3.out⟩
  · go_enter Tryd.func4, Tryd.ntmps4
    go_wp2_with (go_at_call 18; refine (shown_any _ HV.out).mono ?_; rintro e w3 ⟨rfl, hb⟩; have B3 := Lib.hid hb; clear hb)
    go_ret
    exact ⟨rfl, B3.out⟩
end Go.Proofs.YtipcanphkdodaaaDoor
