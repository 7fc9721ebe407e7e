/- The law IntsPuts: the walk. -/
import Derived.Test.YtkidgijoopdidaaIntsY
namespace Go.Proofs.Ytkidgijoopdidaa
open Go.RowKit
set_option linter.unusedVariables false

set_option maxRecDepth 20000 in
set_option maxHeartbeats 2000000 in
theorem putsLaw_any (v : Value) (xs : List Int) (n : Nat) (k : Int) (w : World) (hv : RB w v xs) (hby : BY xs) (hml : xs.length ≤ maxLen) (hn : n < 18446744073709551616) (hk : -9223372036854775808 ≤ k ∧ k ≤ 9223372036854775807) :
    Calls Try.prog 3 #[v, .int .u64 n, .int .i64 k] w fun e w' => e = .returned (.bool true) ∧ Below w.heap.size w w' := by
  obtain ⟨k0, k1⟩ := hk
  obtain ⟨A, c, hvl⟩ := hv.len
  have HL := Lib.hid hvl
  obtain ⟨L, hL⟩ : ∃ L, xs.length = L := ⟨_, rfl⟩
  rw [hL] at hvl hml
  unfold maxLen at hml
  subst hvl
  have HV := Lib.hid hv; clear hv
  have HBY := Lib.hid hby; clear hby
  by_cases hlong : 100 < L
  · go_enter Try.func3, Try.ntmps3
    go_wp2_with (go_at_call 12; (with_reducible refine (awake_any _).mono ?_); rintro e w2 ⟨rfl, hb⟩; have HB := Lib.hid hb; clear hb)
    go_ret
    exact ⟨rfl, HB.out⟩
  · have hs : xs.length ≤ 1000 := by omega
    have HS := Lib.hid hs; clear hs hL
    obtain ⟨ys, hys⟩ : ∃ T, putL xs n k = T := ⟨_, rfl⟩
    obtain ⟨r, hr⟩ : ∃ T, putE n k = T := ⟨_, rfl⟩
    obtain ⟨z, hz⟩ : ∃ T, getV xs k = T := ⟨_, rfl⟩
    obtain ⟨zs, hzs⟩ : ∃ T, getR xs k = T := ⟨_, rfl⟩
    obtain ⟨s, hs⟩ : ∃ T, getE xs k = T := ⟨_, rfl⟩
    have H1 := Lib.hid hys; have H2 := Lib.hid hr; have H3 := Lib.hid hz; have H4 := Lib.hid hzs; have H5 := Lib.hid hs
    clear hys hr hz hzs hs
    go_enter Try.func3, Try.ntmps3
    go_wp2_with (first
      | (go_at_call 13; (with_reducible refine (put_r _ xs n k ys r _ HV.out HS.out hn H1.out H2.out).mono ?_); rintro e w1 ⟨v1, rfl, hr1, hb1⟩; have HV1 := Lib.hid (HV.out.later hb1); have HR1 := Lib.hid hr1; have HB1 := Lib.hid hb1; clear hr1 hb1)
      | (go_at_call 14; (with_reducible refine (rput_r _ xs n k ys r _ HV1.out HS.out hn H1.out H2.out).mono ?_); rintro e w2 ⟨v2, rfl, hr2, hb2⟩; have HV2 := Lib.hid (HV1.out.later hb2); have HR1' := Lib.hid (HR1.out.later hb2); have HR2 := Lib.hid hr2; have HB2 := Lib.hid (bl_call HB1.out hb2); clear hr2 hb2)
      | (go_at_call 15; (with_reducible refine (get_r _ xs k z zs s _ HV2.out HBY.out HS.out H3.out H4.out H5.out).mono ?_); rintro e w3 ⟨v3, rfl, hr3, q3, rfl⟩; have HR3 := Lib.hid hr3; clear hr3)
      | (go_at_call 16; (with_reducible refine (rget_r _ xs k z zs s _ (HV2.out.drewN _) HBY.out HS.out H3.out H4.out H5.out).mono ?_); rintro e w4 ⟨v4, rfl, hr4, q4, rfl⟩; have k1 := fun q => conv_rb (show RB (w2.drewN q) v1 ys from HR1'.out); have k2 := fun q => conv_rb (show RB (w2.drewN q) v2 ys from HR2.out); have k3 := fun q => conv_rb (show RB (w2.drewN q) v3 zs from HR3.out); have k4 := fun q => conv_rb (show RB (w2.drewN q) v4 zs from hr4); clear hr4)
      | (go_at_call 12; (with_reducible refine (awake_any _).mono ?_); rintro e w5 ⟨rfl, hb⟩; have HB := Lib.hid hb; clear hb))
    go_ret
    exact ⟨rfl, bl_call (bl_drewN _ HB2.out) HB.out⟩
end Go.Proofs.Ytkidgijoopdidaa
