/- The law HmacKnown: the walk. -/
import Derived.Test.YtaeicjgkoofmpaaDoorHmacT
namespace Go.Proofs.YtaeicjgkoofmpaaDoor
open Go.RowKit
set_option linter.unusedVariables false

theorem hknown_any (w : World) (hV : VK w) : Calls Tryd.prog 11 #[] w (Gives w (.bool true)) := by
  have HV := Lib.hid hV; clear hV
  go_enter Tryd.func11, Tryd.ntmps11
  go_wp2_with (go_at_call 20; refine (hshown_any _ HV.out).mono ?_; rintro e w1 ⟨rfl, hb⟩; have HB := Lib.hid hb; clear hb)
  go_ret
  exact ⟨rfl, HB.out⟩
end Go.Proofs.YtaeicjgkoofmpaaDoor
