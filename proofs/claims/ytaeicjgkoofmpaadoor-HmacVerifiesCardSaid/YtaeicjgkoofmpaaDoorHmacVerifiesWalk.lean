/- The law HmacVerifies: the walk. -/
import Derived.Test.YtaeicjgkoofmpaaDoorHmacT
namespace Go.Proofs.YtaeicjgkoofmpaaDoor
open Go.RowKit
set_option linter.unusedVariables false

set_option maxRecDepth 20000 in
set_option maxHeartbeats 4000000 in
theorem hverifies_any (v0 v1 v2 : Value) (key xs tag : List Nat) (w : World) (hv0 : RN w v0 key) (hbv0 : BB key) (hv1 : RN w v1 xs) (hbv1 : BB xs) (hv2 : RN w v2 tag) (hbv2 : BB tag) (hV : VK w) :
    Calls Tryd.prog 6 #[v0, v1, v2] w (Gives w (.bool true)) := by
  obtain ⟨A, c, rfl⟩ := hv0.len
  obtain ⟨B, d, rfl⟩ := hv1.len
  obtain ⟨C, e0, rfl⟩ := hv2.len
  obtain ⟨p, hp⟩ : ∃ p, key.length = p := ⟨_, rfl⟩
  rw [hp] at hv0 ⊢
  have Rv0 := Lib.hid hv0; have Bv0 := Lib.hid hbv0; have Lv0 := Lib.hid hp
  obtain ⟨q, hq⟩ : ∃ q, xs.length = q := ⟨_, rfl⟩
  rw [hq] at hv1 ⊢
  have Rv1 := Lib.hid hv1; have Bv1 := Lib.hid hbv1; have Lv1 := Lib.hid hq
  obtain ⟨r, hr⟩ : ∃ r, tag.length = r := ⟨_, rfl⟩
  rw [hr] at hv2 ⊢
  have Rv2 := Lib.hid hv2; have Bv2 := Lib.hid hbv2; have Lv2 := Lib.hid hr
  clear hv0 hbv0 hp hv1 hbv1 hq hv2 hbv2 hr
  have HV := Lib.hid hV; clear hV
  by_cases h1 : p ≤ 300
  · by_cases h2 : q ≤ 300
    · by_cases h3 : r ≤ 300
      · obtain ⟨z, hz⟩ : ∃ z, authI (tagL key xs) tag = z := ⟨_, rfl⟩
        have HZ := Lib.hid hz; clear hz
        go_enter Tryd.func6, Tryd.ntmps6
        go_wp2_with (first
          | (go_at_call 27; refine (hverify_any key xs tag _ _ _ _ Rv0.out Bv0.out (by rw [Lv0.out]; omega) Rv1.out Bv1.out (by rw [Lv1.out]; omega) Rv2.out Bv2.out (by rw [Lv2.out]; omega) HV.out).mono ?_; rintro e w1 ⟨rfl, hb⟩; have B1 := Lib.hid hb; clear hb; rw [HZ.out])
          | (go_at_call 28; refine (rverify_any key xs tag _ _ _ _ (Rv0.out.later B1.out) Bv0.out (by rw [Lv0.out]; omega) (Rv1.out.later B1.out) Bv1.out (by rw [Lv1.out]; omega) (Rv2.out.later B1.out) (by rw [Lv2.out]; omega)).mono ?_; rintro e w2 ⟨rfl, hb⟩; have B2 := Lib.hid (bl_call B1.out hb); clear hb; rw [HZ.out])
          | (go_at_call 20; refine (hshown_any _ (HV.out.below B2.out)).mono ?_; rintro e w3 ⟨rfl, hb⟩; have B3 := Lib.hid (bl_call B2.out hb); clear hb))
        go_ret
        exact ⟨rfl, B3.out⟩
      · go_enter Tryd.func6, Tryd.ntmps6
        go_wp2_with (go_at_call 20; refine (hshown_any _ (HV.out)).mono ?_; rintro e w1 ⟨rfl, hb⟩; have HB := Lib.hid hb; clear hb)
        go_ret
        exact ⟨rfl, HB.out⟩
    · go_enter Tryd.func6, Tryd.ntmps6
      go_wp2_with (go_at_call 20; refine (hshown_any _ (HV.out)).mono ?_; rintro e w1 ⟨rfl, hb⟩; have HB := Lib.hid hb; clear hb)
      go_ret
      exact ⟨rfl, HB.out⟩
  · go_enter Tryd.func6, Tryd.ntmps6
    go_wp2_with (go_at_call 20; refine (hshown_any _ (HV.out)).mono ?_; rintro e w1 ⟨rfl, hb⟩; have HB := Lib.hid hb; clear hb)
    go_ret
    exact ⟨rfl, HB.out⟩
end Go.Proofs.YtaeicjgkoofmpaaDoor
