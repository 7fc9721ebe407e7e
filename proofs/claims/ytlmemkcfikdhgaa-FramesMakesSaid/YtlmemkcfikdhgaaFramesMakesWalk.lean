/- FramesMakes, walked. -/
import Derived.Test.YtlmemkcfikdhgaaFramesL
namespace Go.Proofs.Ytlmemkcfikdhgaa
open Go.RowKit Go.Lib
set_option linter.unusedVariables false

set_option maxRecDepth 100000 in
set_option maxHeartbeats 4000000 in
theorem makes_any (v0 v1 : Value) (xs : List Nat) (ps : List (List Nat)) (w : World) (h0 : RN w v0 xs) (h1 : PN w v1 ps) : Calls Try.prog 3 #[v0, v1] w (Gives w (.bool true)) := by
  obtain ⟨A, c, rfl⟩ := h0.len
  obtain ⟨B, d, rfl⟩ := h1.len
  have hm := h0.max
  unfold maxLen at hm
  have H0 := Lib.hid h0; have H1 := Lib.hid h1
  clear h0 h1
  by_cases hl : 2000 < xs.length
  · go_enter Try.func3, Try.ntmps3
    go_wp2_with (go_at_call 9; (with_reducible refine (shown_any _).mono ?_); rintro e w1 ⟨rfl, hb⟩; have HB := Lib.hid hb; clear hb)
    go_ret
    exact ⟨rfl, HB.out⟩
  · obtain ⟨E, hE⟩ : ∃ E, errP xs = E := ⟨_, rfl⟩
    obtain ⟨F, hF⟩ : ∃ F, errJ ps = F := ⟨_, rfl⟩
    have HE := Lib.hid hE; have HF := Lib.hid hF
    clear hE hF
    go_enter Try.func3, Try.ntmps3
    go_wp2_with (first
      | (go_at_call 8; (with_reducible refine (far_any _ ps _ H1.out).mono ?_); rintro e w1 ⟨b, rfl, rfl⟩; cases b)
      | (go_at_call 9; (with_reducible refine (shown_any _).mono ?_); rintro e w9 ⟨rfl, hb⟩; have HB := Lib.hid hb; clear hb)
      | (go_at_call 10; (with_reducible refine (frame_any _ xs _ H0.out).mono ?_); rintro e w1 ⟨u1, rfl, o1, b1⟩; rw [HE.out]; obtain ⟨A1, c1, rfl⟩ := o1.len; have O1 := Lib.hid o1; have B1 := Lib.hid b1; clear o1 b1)
      | (go_at_call 11; (with_reducible refine (rframe_any _ xs _ (H0.out.later B1.out)).mono ?_); rintro e w2 ⟨u2, rfl, o2, b2⟩; rw [HE.out]; obtain ⟨A2, c2, rfl⟩ := o2.len; have O2 := Lib.hid o2; have B2 := Lib.hid b2; clear o2 b2)
      | (go_at_call 12; (with_reducible refine (join_any _ ps _ (H1.out.later (bl_call B1.out B2.out))).mono ?_); rintro e w3 ⟨u3, rfl, o3, b3⟩; rw [HF.out]; obtain ⟨A3, c3, rfl⟩ := o3.len; have O3 := Lib.hid o3; have B3 := Lib.hid b3; clear o3 b3)
      | (go_at_call 13; (with_reducible refine (rjoin_any _ ps _ (H1.out.later (bl_call (bl_call B1.out B2.out) B3.out))).mono ?_); rintro e w4 ⟨u4, rfl, o4, b4⟩; rw [HF.out]; obtain ⟨A4, c4, rfl⟩ := o4.len; have k1 := kc_at O1.out.rn (bl_call (bl_call B2.out B3.out) b4); have k2 := kc_at O2.out.rn (bl_call B3.out b4); have k3 := kc_at O3.out.rn b4; have k4 := kc_at o4.rn (Below.refl _ w4); have B4 := Lib.hid (bl_call (bl_call (bl_call B1.out B2.out) B3.out) b4); clear o4 b4))
    · go_ret
      exact ⟨rfl, bl_call B4.out HB.out⟩
    · go_ret
      exact ⟨rfl, HB.out⟩
end Go.Proofs.Ytlmemkcfikdhgaa
