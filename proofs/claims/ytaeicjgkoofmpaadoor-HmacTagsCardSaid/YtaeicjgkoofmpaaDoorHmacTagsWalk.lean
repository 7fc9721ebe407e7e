/- The law HmacTags: the walk. -/
import Derived.Test.YtaeicjgkoofmpaaDoorHmacT
namespace Go.Proofs.YtaeicjgkoofmpaaDoor
open Go.RowKit
set_option linter.unusedVariables false

theorem eq64b (T : List Nat) (h : T.length = 64) (w : World) : (Op.equalIn 10000 43 (.agg (yV T)) (.agg (yV T))).run Tryd.prog w = .ok true w :=
  run_equalIn_same w 9998 43 5 64 .u8 Tryd.underlying43 Tryd.underlying5 (by kernel_rfl) T h
set_option maxRecDepth 20000 in
set_option maxHeartbeats 4000000 in
theorem htags_any (v0 v1 : Value) (key xs : List Nat) (w : World) (hv0 : RN w v0 key) (hbv0 : BB key) (hv1 : RN w v1 xs) (hbv1 : BB xs) (hV : VK w) :
    Calls Tryd.prog 4 #[v0, v1] w (Gives w (.bool true)) := by
  obtain ⟨A, c, rfl⟩ := hv0.len
  obtain ⟨B, d, rfl⟩ := hv1.len
  obtain ⟨p, hp⟩ : ∃ p, key.length = p := ⟨_, rfl⟩
  rw [hp] at hv0 ⊢
  have Rv0 := Lib.hid hv0; have Bv0 := Lib.hid hbv0; have Lv0 := Lib.hid hp
  obtain ⟨q, hq⟩ : ∃ q, xs.length = q := ⟨_, rfl⟩
  rw [hq] at hv1 ⊢
  have Rv1 := Lib.hid hv1; have Bv1 := Lib.hid hbv1; have Lv1 := Lib.hid hq
  clear hv0 hbv0 hp hv1 hbv1 hq
  have HV := Lib.hid hV; clear hV
  by_cases h1 : p ≤ 300
  · by_cases h2 : q ≤ 300
    · have e64 := fun W => eq64b (kbL key) (kbL_len _) W
      have e32 := fun W => eq32 (tagL key xs) (tagL_len _ _) W
      obtain ⟨K, hK⟩ : ∃ K, kbL key = K := ⟨_, rfl⟩
      obtain ⟨T, hT⟩ : ∃ T, tagL key xs = T := ⟨_, rfl⟩
      rw [hK] at e64
      rw [hT] at e32
      have HK := Lib.hid hK; have HT := Lib.hid hT
      clear hK hT
      go_enter Tryd.func4, Tryd.ntmps4
      go_wp2_with (first
        | (go_at_call 21; refine (hblock_any key _ _ Rv0.out Bv0.out (by rw [Lv0.out]; omega) HV.out).mono ?_; rintro e w1 ⟨rfl, hb⟩; have B1 := Lib.hid hb; clear hb; rw [HK.out])
        | (go_at_call 22; refine (rkblock_any key _ _ (Rv0.out.later B1.out) Bv0.out (by rw [Lv0.out]; omega)).mono ?_; rintro e w2 ⟨rfl, hb⟩; have B2 := Lib.hid (bl_call B1.out hb); clear hb; rw [HK.out])
        | (go_at_call 23; refine (htag_any key xs _ _ _ (Rv0.out.later B2.out) Bv0.out (by rw [Lv0.out]; omega) (Rv1.out.later B2.out) Bv1.out (by rw [Lv1.out]; omega) (HV.out.below B2.out)).mono ?_; rintro e w3 ⟨rfl, hb⟩; have B3 := Lib.hid (bl_call B2.out hb); clear hb; rw [HT.out])
        | (go_at_call 24; refine (rtag_any key xs _ _ _ (Rv0.out.later B3.out) Bv0.out (by rw [Lv0.out]; omega) (Rv1.out.later B3.out) Bv1.out (by rw [Lv1.out]; omega)).mono ?_; rintro e w4 ⟨rfl, hb⟩; have B4 := Lib.hid (bl_call B3.out hb); clear hb; rw [HT.out])
        | (go_at_call 20; refine (hshown_any _ (HV.out.below B4.out)).mono ?_; rintro e w5 ⟨rfl, hb⟩; have B5 := Lib.hid (bl_call B4.out hb); clear hb))
      go_ret
      exact ⟨rfl, B5.out⟩
    · go_enter Tryd.func4, Tryd.ntmps4
      go_wp2_with (go_at_call 20; refine (hshown_any _ (HV.out)).mono ?_; rintro e w1 ⟨rfl, hb⟩; have HB := Lib.hid hb; clear hb)
      go_ret
      exact ⟨rfl, HB.out⟩
  · go_enter Tryd.func4, Tryd.ntmps4
    go_wp2_with (go_at_call 20; refine (hshown_any _ (HV.out)).mono ?_; rintro e w1 ⟨rfl, hb⟩; have HB := Lib.hid hb; clear hb)
    go_ret
    exact ⟨rfl, HB.out⟩
end Go.Proofs.YtaeicjgkoofmpaaDoor
