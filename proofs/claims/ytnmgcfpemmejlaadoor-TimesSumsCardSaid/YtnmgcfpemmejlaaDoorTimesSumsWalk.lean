/- The law TimesSums: the walk. -/
import Derived.Test.YtnmgcfpemmejlaaDoorTimesLb
namespace Go.Proofs.YtnmgcfpemmejlaaDoor
open Go.RowKit Go.Lib
set_option linter.unusedVariables false

def Gives (w : World) (v : Value) (e : Ending) (w' : World) : Prop := e = .returned v ∧ Below w.heap.size w w'
set_option maxRecDepth 100000 in
set_option maxHeartbeats 8000000 in
theorem tsums_any (t d : Int) (w : World) (ht : N64 t) (hd : N64 d) (hT : TV w) : Calls Tryd.prog 3 #[.int .i64 t, .int .i64 d] w (Gives w (.bool true)) := by
  have HT := Lib.hid hT; have H1 := Lib.hid ht; have H2 := Lib.hid hd
  clear hT ht hd
  obtain ⟨A, hA⟩ : ∃ A, addT t d = A := ⟨_, rfl⟩
  obtain ⟨P, hP⟩ : ∃ A, passedT t d = A := ⟨_, rfl⟩
  obtain ⟨L, hL⟩ : ∃ A, leftT t d = A := ⟨_, rfl⟩
  obtain ⟨V, hV⟩ : ∃ A, advT t d = A := ⟨_, rfl⟩
  obtain ⟨r, hr⟩ : ∃ A, rngE t d = A := ⟨_, rfl⟩
  obtain ⟨s, hs⟩ : ∃ A, advE t d = A := ⟨_, rfl⟩
  have HA := Lib.hid hA; have HP := Lib.hid hP; have HL := Lib.hid hL; have HV := Lib.hid hV; have HR := Lib.hid hr; have HS := Lib.hid hs
  clear hA hP hL hV hr hs
  have B0 := Lib.hid (Below.refl w.heap.size w)
  go_enter Tryd.func3, Tryd.ntmps3
  go_wp2_with (first
    | (go_at_call 10; (with_reducible refine (add_any t d _ H1.out H2.out).mono ?_); rintro e w1 ⟨rfl, hb⟩; rw [HA.out, HR.out]; replace B0 := Lib.hid (bl_call B0.out hb); clear hb)
    | (go_at_call 11; (with_reducible refine (radd_any t d _ H1.out H2.out).mono ?_); rintro e w2 ⟨rfl, hb⟩; rw [HA.out, HR.out]; replace B0 := Lib.hid (bl_call B0.out hb); clear hb)
    | (go_at_call 12; (with_reducible refine (passed_any t d _ H1.out H2.out).mono ?_); rintro e w3 ⟨rfl, hb⟩; rw [HP.out, HR.out]; replace B0 := Lib.hid (bl_call B0.out hb); clear hb)
    | (go_at_call 13; (with_reducible refine (rpassed_any t d _ H1.out H2.out).mono ?_); rintro e w4 ⟨rfl, hb⟩; rw [HP.out, HR.out]; replace B0 := Lib.hid (bl_call B0.out hb); clear hb)
    | (go_at_call 14; (with_reducible refine (left_any t d _ H1.out H2.out).mono ?_); rintro e w5 ⟨rfl, hb⟩; rw [HL.out, HR.out]; replace B0 := Lib.hid (bl_call B0.out hb); clear hb)
    | (go_at_call 15; (with_reducible refine (rleft_any t d _ H1.out H2.out).mono ?_); rintro e w6 ⟨rfl, hb⟩; rw [HL.out, HR.out]; replace B0 := Lib.hid (bl_call B0.out hb); clear hb)
    | (go_at_call 16; (with_reducible refine (advance_any t d _ H1.out H2.out).mono ?_); rintro e w7 ⟨rfl, hb⟩; rw [HV.out, HS.out]; replace B0 := Lib.hid (bl_call B0.out hb); clear hb)
    | (go_at_call 17; (with_reducible refine (radvance_any t d _ H1.out H2.out).mono ?_); rintro e w8 ⟨rfl, hb⟩; rw [HV.out, HS.out]; replace B0 := Lib.hid (bl_call B0.out hb); clear hb)
    | (go_at_call 18; (with_reducible refine (awake_any _ (HT.out.below B0.out)).mono ?_); rintro e w9 ⟨rfl, hb⟩; replace B0 := Lib.hid (bl_call B0.out hb); clear hb))
  go_ret
  exact ⟨rfl, B0.out⟩
end Go.Proofs.YtnmgcfpemmejlaaDoor
