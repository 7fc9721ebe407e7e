/- The reference's digits, two and Print. -/
import Derived.Test.YtnmgcfpemmejlaaDoorTimesW
namespace Go.Proofs.YtnmgcfpemmejlaaDoor
open Go.RowKit Go.Lib
set_option linter.unusedVariables false

set_option maxRecDepth 20000 in
set_option maxHeartbeats 1000000 in
theorem rdig_0 (n : Int) (w : World) (h0 : 0 ≤ n) (h1 : n ≤ 9) : Calls Tryd.prog 47 #[.int .i64 n] w (StrR w (Lib.decDigits n.toNat)) := by
  have hcv := conv_one
  have e : (⟨#[UInt8.ofNat (48 + n).toNat]⟩ : ByteArray) = ⟨(Lib.decDigits n.toNat).toArray⟩ := by
    rw [u8_add h0 h1, ddT_small (by omega)]
  have HE := Lib.hid e
  clear e
  go_enter Tryd.func47, Tryd.ntmps47
  go_wp2_with fail
  go_ret
  exact ⟨ret_str HE.out, bl_self1 _ _⟩
set_option maxRecDepth 20000 in
set_option maxHeartbeats 1000000 in
theorem rdig_any (k : Nat) (hk : k ≤ 16) : ∀ (n : Int) (w : World), 0 ≤ n → n.toNat < 10 ^ (k + 1) → n ≤ 9223372036854775807 → Calls Tryd.prog 47 #[.int .i64 n] w (StrR w (Lib.decDigits n.toNat)) := by
  induction k with
  | zero => intro n w h0 h1 _; exact rdig_0 n w h0 (by rw [Nat.zero_add, Nat.pow_one] at h1; omega)
  | succ k ih =>
    intro n w h0 h1 h2
    by_cases hn : n ≤ 9
    · exact rdig_0 n w h0 hn
    · have hq : (n / 10).toNat < 10 ^ (k + 1) := by
        rw [Nat.pow_succ] at h1
        rw [show (n / 10).toNat = n.toNat / 10 by omega]
        exact Nat.div_lt_of_lt_mul (by rw [Nat.mul_comm]; exact h1)
      have HI := Lib.hid (ih (by omega) (n / 10))
      have HQ := Lib.hid hq
      have HL := Lib.hid (ddT_len k _ hq).2
      have HX : Hid (Lib.decDigits (n / 10).toNat ++ Lib.decDigits (n % 10).toNat = Lib.decDigits n.toNat) := Lib.hid (by
        rw [ddT_big (n := n.toNat) (by omega), show (n / 10).toNat = n.toNat / 10 by omega, show (n % 10).toNat = n.toNat % 10 by omega, ddT_small (n := n.toNat % 10) (by omega)])
      have HL1 : Hid ((Lib.decDigits (n % 10).toNat).length = 1) := Lib.hid (by rw [ddT_small (by omega)]; rfl)
      clear ih h1 hq
      go_enter Tryd.func47, Tryd.ntmps47
      go_wp2_with (first
        | (go_at_call 47; (with_reducible refine (HI.out _ (by omega) HQ.out (by omega)).mono ?_); rintro e w1 ⟨rfl, hb⟩; have B1 := Lib.hid hb; clear hb; obtain ⟨D, hD⟩ : ∃ D, (⟨(Lib.decDigits (n / 10).toNat).toArray⟩ : ByteArray) = D := ⟨_, rfl⟩; rw [hD]; have hDs : D.size ≤ k + 1 := (by rw [← hD]; exact HL.out); have HD := Lib.hid hD; clear hD)
        | (go_at_call 47; (with_reducible refine (rdig_0 (n % 10) _ (by omega) (by omega)).mono ?_); rintro e w2 ⟨rfl, hb⟩; have B2 := Lib.hid (bl_cl B1.out hb); clear hb; obtain ⟨C, hC⟩ : ∃ D, (⟨(Lib.decDigits (n % 10).toNat).toArray⟩ : ByteArray) = D := ⟨_, rfl⟩; rw [hC]; have hCs : C.size ≤ 1 := (by rw [← hC]; exact Nat.le_of_eq HL1.out); have HC := Lib.hid hC; clear hC))
      go_ret
      refine ⟨ret_str ?_, B2.out⟩
      rw [← HX.out]
      apply bytes_ext
      rw [← HD.out, ← HC.out]
      simp
theorem rtwo_any (n : Int) (w : World) (h0 : 0 ≤ n) (h1 : n ≤ 99) : Calls Tryd.prog 48 #[.int .i64 n] w (StrR w (twoD n.toNat)) := by
  have HX : Hid (Lib.decDigits (n / 10).toNat ++ Lib.decDigits (n % 10).toNat = twoD n.toNat) := Lib.hid (by
    rw [← two_dd (n := n.toNat) (by omega), show (n / 10).toNat = n.toNat / 10 by omega, show (n % 10).toNat = n.toNat % 10 by omega])
  have HL1 : Hid ((Lib.decDigits (n % 10).toNat).length = 1) := Lib.hid (by rw [ddT_small (by omega)]; rfl)
  have HL2 : Hid ((Lib.decDigits (n / 10).toNat).length = 1) := Lib.hid (by rw [ddT_small (by omega)]; rfl)
  go_enter Tryd.func48, Tryd.ntmps48
  go_wp2_with (first
    | (go_at_call 47; (with_reducible refine (rdig_0 (n / 10) _ (by omega) (by omega)).mono ?_); rintro e w1 ⟨rfl, hb⟩; have B1 := Lib.hid hb; clear hb; obtain ⟨D, hD⟩ : ∃ D, (⟨(Lib.decDigits (n / 10).toNat).toArray⟩ : ByteArray) = D := ⟨_, rfl⟩; rw [hD]; have hDs : D.size ≤ 1 := (by rw [← hD]; exact Nat.le_of_eq HL2.out); have HD := Lib.hid hD; clear hD)
    | (go_at_call 47; (with_reducible refine (rdig_0 (n % 10) _ (by omega) (by omega)).mono ?_); rintro e w2 ⟨rfl, hb⟩; have B2 := Lib.hid (bl_cl B1.out hb); clear hb; obtain ⟨C, hC⟩ : ∃ D, (⟨(Lib.decDigits (n % 10).toNat).toArray⟩ : ByteArray) = D := ⟨_, rfl⟩; rw [hC]; have hCs : C.size ≤ 1 := (by rw [← hC]; exact Nat.le_of_eq HL1.out); have HC := Lib.hid hC; clear hC))
  go_ret
  refine ⟨ret_str ?_, B2.out⟩
  rw [← HX.out]
  apply bytes_ext
  rw [← HD.out, ← HC.out]
  simp
theorem text_parts2 {t : Int} (h : 0 ≤ t) : Lib.decDigits (t / 86400).toNat ++ [100] ++ twoD (t % 86400 / 3600).toNat ++ [58] ++ twoD (t % 86400 / 60 % 60).toNat ++ [58] ++ twoD (t % 86400 % 60).toNat = textT t.toNat := by
  unfold textT
  rw [show (t / 86400).toNat = t.toNat / 86400 by omega, show (t % 86400 / 3600).toNat = t.toNat % 86400 / 3600 by omega, show (t % 86400 / 60 % 60).toNat = t.toNat % 86400 / 60 % 60 by omega, show (t % 86400 % 60).toNat = t.toNat % 86400 % 60 by omega]
  simp
set_option maxRecDepth 20000 in
set_option maxHeartbeats 4000000 in
theorem rprint_any (t : Int) (w : World) (ht : N64 t) : Calls Tryd.prog 32 #[.int .i64 t] w (PrintR w t) := by
  obtain ⟨t1, t2⟩ := ht
  by_cases h : t < 0
  · have HP := Lib.hid (pr_neg h)
    go_enter Tryd.func32, Tryd.ntmps32
    go_wp2_with fail
    go_ret2
    exact ⟨ret_sn (by rw [HP.out.1]) HP.out.2.symm, Below.refl _ _⟩
  · have HP := Lib.hid (pr_pos h)
    have h0 : 0 ≤ t := by omega
    have HX := Lib.hid (text_parts2 h0)
    have HQ : Hid ((t / 86400).toNat < 10 ^ (14 + 1)) := Lib.hid (by omega)
    have HL := Lib.hid (ddT_len 14 _ HQ.out).2
    have tk1 : True := trivial
    have tk2 : True := trivial
    have tk3 : True := trivial
    obtain ⟨u, hu⟩ : ∃ u, t % 86400 = u := ⟨_, rfl⟩
    rw [hu] at HX
    have hu0 : 0 ≤ u := by omega
    have hu1 : u < 86400 := by omega
    have HU := Lib.hid hu
    clear hu
    go_enter Tryd.func32, Tryd.ntmps32
    go_upto_region 4 with fail
    rw [HU.out]
    go_wp2_with (first
      | (go_at_call 47; refine (rdig_any 14 (by omega) _ _ (by omega) HQ.out (by omega)).mono ?_; rintro e w1 ⟨rfl, hb⟩; have B1 := Lib.hid hb; clear hb; obtain ⟨D, hD⟩ : ∃ D, (⟨(Lib.decDigits (t / 86400).toNat).toArray⟩ : ByteArray) = D := ⟨_, rfl⟩; rw [hD]; have hDs : D.size ≤ 15 := (by rw [← hD]; exact HL.out); have HDD := Lib.hid hD; clear hD)
      | (go_at_call 48; have _t := tk1; (with_reducible refine (rtwo_any (u / 3600) _ (by omega) (by omega)).mono ?_); rintro e w2 ⟨rfl, hb⟩; have B2 := Lib.hid (bl_cl B1.out hb); clear hb tk1; obtain ⟨H, hH⟩ : ∃ D, (⟨(twoD (u / 3600).toNat).toArray⟩ : ByteArray) = D := ⟨_, rfl⟩; rw [hH]; have hHs : H.size ≤ 2 := (by rw [← hH]; exact Nat.le_refl _); have HH := Lib.hid hH; clear hH)
      | (go_at_call 48; have _t := tk2; (with_reducible refine (rtwo_any (u / 60 % 60) _ (by omega) (by omega)).mono ?_); rintro e w3 ⟨rfl, hb⟩; have B3 := Lib.hid (bl_cl B2.out hb); clear hb tk2; obtain ⟨M, hM⟩ : ∃ D, (⟨(twoD (u / 60 % 60).toNat).toArray⟩ : ByteArray) = D := ⟨_, rfl⟩; rw [hM]; have hMs : M.size ≤ 2 := (by rw [← hM]; exact Nat.le_refl _); have HM := Lib.hid hM; clear hM)
      | (go_at_call 48; (with_reducible refine (rtwo_any (u % 60) _ (by omega) (by omega)).mono ?_); rintro e w4 ⟨rfl, hb⟩; have B4 := Lib.hid (bl_cl B3.out hb); clear hb; obtain ⟨S, hS⟩ : ∃ D, (⟨(twoD (u % 60).toNat).toArray⟩ : ByteArray) = D := ⟨_, rfl⟩; rw [hS]; have hSs : S.size ≤ 2 := (by rw [← hS]; exact Nat.le_refl _); have HS := Lib.hid hS; clear hS))
    go_ret2
    refine ⟨ret_sn ?_ HP.out.2.symm, B4.out⟩
    rw [HP.out.1, ← HX.out]
    apply bytes_ext
    rw [← HDD.out, ← HH.out, ← HM.out, ← HS.out]
    simp
end Go.Proofs.YtnmgcfpemmejlaaDoor
