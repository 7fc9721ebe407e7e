/- The law HmacEquals: the walk. -/
import Derived.Test.YtaeicjgkoofmpaaDoorHmacT
import Derived.Test.YtaeicjgkoofmpaaDoorShaPc
namespace Go.Proofs.YtaeicjgkoofmpaaDoor
open Go.RowKit
set_option linter.unusedVariables false

theorem sameN_comm (a b : List Nat) : sameN a b = sameN b a := by unfold sameN; rw [Bool.eq_iff_iff]; simp [eq_comm]
set_option maxRecDepth 20000 in
set_option maxHeartbeats 4000000 in
theorem hequals_any (v0 v1 : Value) (xs ys : List Nat) (w : World) (hv0 : RN w v0 xs) (hbv0 : BB xs) (hv1 : RN w v1 ys) (hbv1 : BB ys) (hV : VK w) :
    Calls Tryd.prog 5 #[v0, v1] w (Gives w (.bool true)) := by
  obtain ⟨A, c, rfl⟩ := hv0.len
  obtain ⟨B, d, rfl⟩ := hv1.len
  obtain ⟨p, hp⟩ : ∃ p, xs.length = p := ⟨_, rfl⟩
  rw [hp] at hv0 ⊢
  have Rv0 := Lib.hid hv0; have Bv0 := Lib.hid hbv0; have Lv0 := Lib.hid hp
  obtain ⟨q, hq⟩ : ∃ q, ys.length = q := ⟨_, rfl⟩
  rw [hq] at hv1 ⊢
  have Rv1 := Lib.hid hv1; have Bv1 := Lib.hid hbv1; have Lv1 := Lib.hid hq
  clear hv0 hbv0 hp hv1 hbv1 hq
  have HV := Lib.hid hV; clear hV
  by_cases h1 : p ≤ 300
  · by_cases h2 : q ≤ 300
    · obtain ⟨n, hn⟩ : ∃ n, max xs.length ys.length = n := ⟨_, rfl⟩
      obtain ⟨b, hb⟩ : ∃ b, sameN xs ys = b := ⟨_, rfl⟩
      have HN := Lib.hid hn; have HB := Lib.hid hb
      clear hn hb
      go_enter Tryd.func5, Tryd.ntmps5
      go_upto_region 6 with (first
        | (go_at_call 25; (with_reducible refine (equal_any xs ys n _ _ _ Rv0.out Rv1.out Bv0.out Bv1.out (by rw [Lv0.out]; omega) (by rw [Lv1.out]; omega) HN.out).mono ?_); rintro e w1 ⟨rfl, rfl⟩; rw [HB.out])
        | (go_at_call 26; (with_reducible refine (requal_any xs ys n _ _ _ Rv0.out Rv1.out Bv0.out Bv1.out (by rw [Lv0.out]; omega) (by rw [Lv1.out]; omega) HN.out).mono ?_); rintro e w1 ⟨rfl, rfl⟩; rw [HB.out])
        | (go_at_call 25; (with_reducible refine (equal_any ys xs n _ _ _ Rv1.out Rv0.out Bv1.out Bv0.out (by rw [Lv1.out]; omega) (by rw [Lv0.out]; omega) (by rw [Nat.max_comm]; exact HN.out)).mono ?_); rintro e w1 ⟨rfl, rfl⟩; rw [sameN_comm, HB.out]))
      have s1 := conv_rn Rv0.out
      have s2 := conv_rn Rv1.out
      cases b with
      | true =>
        have HE : Hid (xs = ys) := Lib.hid (by have := HB.out; unfold sameN at this; exact of_decide_eq_true this)
        rw [← HE.out] at s2
        obtain ⟨Y, hY⟩ : ∃ Y, strOfNums (nI xs) = Y := ⟨_, rfl⟩
        rw [hY] at s1 s2
        clear hY
        go_wp2_with (go_at_call 20; refine (hshown_any _ HV.out).mono ?_; rintro e w1 ⟨rfl, hb⟩; have B1 := Lib.hid hb; clear hb)
        go_ret
        exact ⟨rfl, B1.out⟩
      | false =>
        obtain ⟨Y, hY⟩ : ∃ Y, strOfNums (nI xs) = Y := ⟨_, rfl⟩
        obtain ⟨Z, hZ⟩ : ∃ Z, strOfNums (nI ys) = Z := ⟨_, rfl⟩
        have hne : Y ≠ Z := by
          rw [← hY, ← hZ]
          intro e
          have h1 := str_inj Bv0.out Bv1.out e
          have h2 := HB.out
          rw [sameN_true h1] at h2
          exact absurd h2 (by decide)
        have hne2 : (Y.toList == Z.toList) = false := by
          apply beq_false_of_ne
          intro e
          rw [bytes_list, bytes_list] at e
          exact hne (ByteArray.ext (Array.toList_inj.1 e))
        clear hne
        rw [hY] at s1
        rw [hZ] at s2
        clear hY hZ
        go_wp2_with (go_at_call 20; refine (hshown_any _ HV.out).mono ?_; rintro e w1 ⟨rfl, hb⟩; have B1 := Lib.hid hb; clear hb)
        go_ret
        exact ⟨rfl, B1.out⟩
    · go_enter Tryd.func5, Tryd.ntmps5
      go_wp2_with (go_at_call 20; refine (hshown_any _ (HV.out)).mono ?_; rintro e w1 ⟨rfl, hb⟩; have HB := Lib.hid hb; clear hb)
      go_ret
      exact ⟨rfl, HB.out⟩
  · go_enter Tryd.func5, Tryd.ntmps5
    go_wp2_with (go_at_call 20; refine (hshown_any _ (HV.out)).mono ?_; rintro e w1 ⟨rfl, hb⟩; have HB := Lib.hid hb; clear hb)
    go_ret
    exact ⟨rfl, HB.out⟩
end Go.Proofs.YtaeicjgkoofmpaaDoor
