/- The law IntsVars: the walk. -/
import Derived.Test.YtkidgijoopdidaaIntsY
import Derived.Deep.RegionHeld3
namespace Go.Proofs.Ytkidgijoopdidaa
open Go.RowKit
set_option linter.unusedVariables false

/-- What every call leaves as it was. -/
structure V3 (w : World) (v : Value) (xs : List Int) (v1 v2 : Value) (rs : List Int) (W : World) : Prop where
  ia : RB W v xs
  r1 : RB W v1 rs
  r2 : RB W v2 rs
  bel : Below w.heap.size w W
theorem V3.step {w W W' : World} {v v1 v2 : Value} {xs rs : List Int} (h : V3 w v xs v1 v2 rs W) (hb : Below W.heap.size W W') : V3 w v xs v1 v2 rs W' :=
  ⟨h.ia.later hb, h.r1.later hb, h.r2.later hb, bl_call h.bel hb⟩
theorem keepS {w W : World} {v v1 v2 : Value} {xs rs : List Int} {ZS : ByteArray} (hz : Hid (strOfNums rs = ZS)) (h : Hid (V3 w v xs v1 v2 rs W)) :
    (convert 22 9 v1).run Try.prog W = .ok (.string ZS) W ∧ (convert 22 9 v2).run Try.prog W = .ok (.string ZS) W ∧ Hid (V3 w v xs v1 v2 rs W) := by
  have h1 := conv_rb h.out.r1
  have h2 := conv_rb h.out.r2
  rw [hz.out] at h1 h2
  exact ⟨h1, h2, h⟩
/-- A number, a slice and an error; what was there is as it was. -/
def GetL (w : World) (z : Nat) (ys : List Int) (r : Int) (e : Ending) (w' : World) : Prop := ∃ v, e = .returned (.tuple #[.int .u64 z, v, .int .i64 r]) ∧ RB w' v ys ∧ Below w.heap.size w w'
theorem getL_of {w w' : World} {z : Nat} {ys : List Int} {r : Int} {e : Ending} (h : GetR w z ys r e w') : GetL w z ys r e w' := by
  obtain ⟨v, he, hr, q, rfl⟩ := h
  exact ⟨v, he, hr, bl_drewN q (Below.refl _ _)⟩
def MadeR (w : World) (S : ByteArray) (e : Ending) (w' : World) : Prop := ∃ v, e = .returned v ∧ (∀ W, Below w'.heap.size w' W → (convert 22 9 v).run Try.prog W = .ok (.string S) W) ∧ Below w.heap.size w w'
theorem madeR_of {w w' : World} {ys : List Int} {S : ByteArray} {e : Ending} (hS : strOfNums ys = S) (h : Made w ys e w') : MadeR w S e w' := by
  obtain ⟨v, he, ho, hb⟩ := h
  subst hS
  exact ⟨v, he, fun W hW => conv_rb (ho.rb.later hW), hb⟩

set_option maxRecDepth 20000 in
set_option maxHeartbeats 4000000 in
theorem varsLaw_any (v : Value) (xs : List Int) (n : Nat) (m : Int) (w : World) (hv : RB w v xs) (hby : BY xs) (hml : xs.length ≤ maxLen) (hn : n < 18446744073709551616) (hm : -9223372036854775808 ≤ m ∧ m ≤ 9223372036854775807) :
    Calls Try.prog 4 #[v, .int .u64 n, .int .i64 m] w fun e w' => e = .returned (.bool true) ∧ Below w.heap.size w w' := by
  obtain ⟨m0, m1⟩ := hm
  obtain ⟨A, c, hvl⟩ := hv.len
  obtain ⟨L, hL⟩ : ∃ L, xs.length = L := ⟨_, rfl⟩
  rw [hL] at hvl hml
  unfold maxLen at hml
  subst hvl
  have HV := Lib.hid hv; clear hv
  have HBY := Lib.hid hby; clear hby
  by_cases hlong : 100 < L
  · go_enter Try.func4, Try.ntmps4
    go_wp2_with (go_at_call 12; (with_reducible refine (awake_any _).mono ?_); rintro e w2 ⟨rfl, hb⟩; have HB := Lib.hid hb; clear hb)
    go_ret
    exact ⟨rfl, HB.out⟩
  · have hs : xs.length ≤ 1000 := by omega
    have HS := Lib.hid hs
    have HS2 : Hid (xs.length ≤ 1100) := Lib.hid (by omega)
    clear hs hL
    obtain ⟨z, hz⟩ : ∃ T, gvV xs = T := ⟨_, rfl⟩
    obtain ⟨rs, hrs⟩ : ∃ T, gvR xs = T := ⟨_, rfl⟩
    obtain ⟨r, hr⟩ : ∃ T, (gv xs 0).1 = T := ⟨_, rfl⟩
    obtain ⟨ZS, hZS⟩ : ∃ T, strOfNums rs = T := ⟨_, rfl⟩
    obtain ⟨SV, hSV⟩ : ∃ T, strOfNums (xs ++ varL n) = T := ⟨_, rfl⟩
    obtain ⟨ZG, hZG⟩ : ∃ T, zigI m = T := ⟨_, rfl⟩
    obtain ⟨ZA, hZA⟩ : ∃ T, zagI n = T := ⟨_, rfl⟩
    have H1 := Lib.hid hz; have H2 := Lib.hid hrs; have H3 := Lib.hid hr; have H4 := Lib.hid hZS; have H5 := Lib.hid hSV; have H6 := Lib.hid hZG; have H7 := Lib.hid hZA
    clear hz hrs hr hZS hSV hZG hZA
    have g1 : (SV.toList == SV.toList) = true := beq_self_eq_true _
    have g2 : ((z : Int) == (z : Int)) = true := beq_self_eq_true _
    have g3 : (ZS.toList == ZS.toList) = true := beq_self_eq_true _
    have g4 : (r == r) = true := beq_self_eq_true _
    have g5 : (ZG == ZG) = true := beq_self_eq_true _
    have g6 : (ZA == ZA) = true := beq_self_eq_true _
    go_enter Try.func4, Try.ntmps4
    go_wp2_with (first
      | (go_at_call 17; (with_reducible refine ((getvar_r _ xs z rs r _ HV.out HBY.out HS2.out H1.out H2.out H3.out).mono fun _ _ h => getL_of h).mono ?_); rintro e w1 ⟨v1, rfl, hr1, hb1⟩; have HV1 := Lib.hid (HV.out.later hb1); have HR1 := Lib.hid hr1; have HB1 := Lib.hid hb1; clear hr1 hb1)
      | (go_at_call 18; (with_reducible refine ((rgetvar_r _ xs z rs r _ HV1.out HBY.out HS2.out H1.out H2.out H3.out).mono fun _ _ h => getL_of h).mono ?_); rintro e w2 ⟨v2, rfl, hr2, hb2⟩; have HVs : Hid (V3 w (.slice A L c) xs v1 v2 rs w2) := Lib.hid ⟨HV1.out.later hb2, HR1.out.later hb2, hr2, bl_call HB1.out hb2⟩; clear hr2 hb2))
    have HVd : Hid (V3 w (.slice A L c) xs v1 v2 rs w2.drew) := Lib.hid (HVs.out.step (bl_drewN 1 (Below.refl _ _)))
    go_region_held3 (fun w' => (convert 22 9 v1).run Try.prog w' = .ok (.string ZS) w' ∧ (convert 22 9 v2).run Try.prog w' = .ok (.string ZS) w' ∧ Hid (V3 w (.slice A L c) xs v1 v2 rs w')) (first | exact keepS H4 HVg | exact keepS H4 HVf | exact keepS H4 HVe | exact keepS H4 HVd)
      (first
        | (go_at_call 19; refine ((putvar_any _ xs n _ HVd.out.ia HS.out hn).mono fun _ _ h => madeR_of H5.out h).mono ?_; rintro e wa ⟨va, rfl, ra, hb⟩; have HVe := Lib.hid (HVd.out.step hb); have RA := Lib.hid ra; have j1 := ra wa (Below.refl _ _); clear hb ra)
        | (go_at_call 20; refine ((rputvar_any _ xs n _ HVe.out.ia HS.out hn).mono fun _ _ h => madeR_of H5.out h).mono ?_; rintro e wb ⟨vb, rfl, rb, hb⟩; have HVf := Lib.hid (HVe.out.step hb); have j1' := RA.out wb hb; have j2 := rb wb (Below.refl _ _); clear hb rb)
        | (go_at_call 21; refine (zig_any m _ m0 m1).mono ?_; rintro e w5 ⟨rfl, rfl⟩; rw [H6.out])
        | (go_at_call 22; refine (rzig_any m _ m0 m1).mono ?_; rintro e w5 ⟨rfl, rfl⟩; rw [H6.out])
        | (go_at_call 23; refine (zag_any n _ (by omega) (by omega)).mono ?_; rintro e w5 ⟨rfl, rfl⟩; rw [H7.out])
        | (go_at_call 24; refine (rzag_any n _ (by omega) (by omega)).mono ?_; rintro e w5 ⟨rfl, rfl⟩; rw [H7.out])
        | (go_at_call 12; refine (awake_any _).mono ?_; rintro e wd ⟨rfl, hb⟩; have HVg := Lib.hid (HVf.out.step hb); clear hb))
    all_goals (go_wp2_with fail; go_ret; exact ⟨rfl, HVg.out.bel⟩)
end Go.Proofs.Ytkidgijoopdidaa
