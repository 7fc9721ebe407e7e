/- Print of both sides. -/
import Derived.Test.YtnmgcfpemmejlaaDoorTimesA
import Derived.Test.YtnmgcfpemmejlaaDoorTimesP
import Derived.Test.YtnmgcfpemmejlaaDoorShelf
import Derived.Lib.AppendIntMem
import Derived.Deep.RegionWith
import Derived.Lib.ItoaLen
namespace Go.Proofs.YtnmgcfpemmejlaaDoor
open Go.RowKit Go.Lib
set_option linter.unusedVariables false

def TV (w : World) : Prop := Lib.TabIs Tryd.prog w "internal/strconv.uint64pow10" .u64 Lib.pow10Tab
theorem TV.below {w w' : World} (h : TV w) (hb : Below w.heap.size w w') : TV w' := Lib.tabBelow_of_tabIs h _ hb
theorem ret_str {a b : ByteArray} (h : a = b) : Ending.returned (.string a) = .returned (.string b) := by rw [h]
theorem bl_cl {w W W' : World} (h : Below w.heap.size w W) (k : Below W.heap.size W W') : Below w.heap.size w W' := h.trans (k.mono h.size)
def StrR (w : World) (l : List UInt8) (e : Ending) (w' : World) : Prop := e = .returned (.string ⟨l.toArray⟩) ∧ Below w.heap.size w w'
theorem secD (w : World) : Calls Tryd.prog 45 #[.int .u8 100] w fun e w' => e = .returned (.int .i64 86400) ∧ w = w' := by
  go_enter Tryd.func45, Tryd.ntmps45
  go_wp2
  go_ret
  exact ⟨rfl, rfl⟩
theorem secH (w : World) : Calls Tryd.prog 45 #[.int .u8 104] w fun e w' => e = .returned (.int .i64 3600) ∧ w = w' := by
  go_enter Tryd.func45, Tryd.ntmps45
  go_wp2
  go_ret
  exact ⟨rfl, rfl⟩
theorem secM (w : World) : Calls Tryd.prog 45 #[.int .u8 109] w fun e w' => e = .returned (.int .i64 60) ∧ w = w' := by
  go_enter Tryd.func45, Tryd.ntmps45
  go_wp2
  go_ret
  exact ⟨rfl, rfl⟩
/-- 'string([]byte{c})', 'string([]byte{c, d})'. -/
theorem conv_one (W : World) (b cap : Nat) (c : Int) (hc : W.cell? ⟨b, 0, none⟩ = some (.int .u8 c)) :
    (convert 68 9 (.slice (some ⟨b, 0, none⟩) 1 cap)).run Tryd.prog W = .ok (.string ⟨#[UInt8.ofNat c.toNat]⟩) W := by
  rw [run_convert_bytes_arg W 68 5 Tryd.underlying68 Tryd.underlying5 b 0 1 cap [c] rfl (fun i hi => by
    have hi0 : i = 0 := by omega
    subst hi0; simpa using hc) _ Tryd.underlying9]
  rfl
theorem conv_two (W : World) (b cap : Nat) (c d : Int) (hc : W.cell? ⟨b, 0, none⟩ = some (.int .u8 c)) (hd : W.cell? ⟨b, 1, none⟩ = some (.int .u8 d)) :
    (convert 68 9 (.slice (some ⟨b, 0, none⟩) 2 cap)).run Tryd.prog W = .ok (.string ⟨#[UInt8.ofNat c.toNat, UInt8.ofNat d.toNat]⟩) W := by
  rw [run_convert_bytes_arg W 68 5 Tryd.underlying68 Tryd.underlying5 b 0 2 cap [c, d] rfl (fun i hi => by
    have hi0 : i = 0 ∨ i = 1 := by omega
    rcases hi0 with rfl | rfl
    · simpa using hc
    · simpa using hd) _ Tryd.underlying9]
  rfl
theorem u8_add {n : Int} (h0 : 0 ≤ n) (h1 : n ≤ 9) : UInt8.ofNat (48 + n).toNat = chD n.toNat := by unfold chD; rw [show (48 + n).toNat = 48 + n.toNat by omega]
set_option maxRecDepth 20000 in
set_option maxHeartbeats 1000000 in
theorem twoDigits_any (n : Int) (w : World) (h0 : 0 ≤ n) (h1 : n ≤ 99) : Calls Tryd.prog 46 #[.int .i64 n] w (StrR w (twoD n.toNat)) := by
  have hcv := conv_two
  have e : (⟨#[UInt8.ofNat (48 + n / 10).toNat, UInt8.ofNat (48 + n % 10).toNat]⟩ : ByteArray) = ⟨(twoD n.toNat).toArray⟩ := by
    rw [u8_add (by omega) (by omega), u8_add (by omega) (by omega), show (n / 10).toNat = n.toNat / 10 by omega, show (n % 10).toNat = n.toNat % 10 by omega]; rfl
  have HE := Lib.hid e
  clear e
  go_enter Tryd.func46, Tryd.ntmps46
  go_wp2_with fail
  go_ret
  exact ⟨ret_str HE.out, bl_self1 _ _⟩

def prS (t : Int) : List UInt8 := if t < 0 then [] else textT t.toNat
def prE (t : Int) : Int := if t < 0 then 7 else 0
def PrintR (w : World) (t : Int) (e : Ending) (w' : World) : Prop := e = .returned (.tuple #[.string ⟨(prS t).toArray⟩, .int .i64 (prE t)]) ∧ Below w.heap.size w w'
theorem ret_sn {a b : ByteArray} {c d : Int} (h : a = b) (h2 : c = d) : Ending.returned (.tuple #[.string a, .int .i64 c]) = .returned (.tuple #[.string b, .int .i64 d]) := by rw [h, h2]
theorem pr_neg {t : Int} (h : t < 0) : prS t = [] ∧ prE t = 7 := by unfold prS prE; rw [if_pos h, if_pos h]; exact ⟨rfl, rfl⟩
theorem pr_pos {t : Int} (h : ¬ t < 0) : prS t = textT t.toNat ∧ prE t = 0 := by unfold prS prE; rw [if_neg h, if_neg h]; exact ⟨rfl, rfl⟩
theorem bytes_ext {a b : ByteArray} (h : a.data.toList = b.data.toList) : a = b := by
  cases a; cases b; simp only at h; congr 1; exact Array.toList_inj.1 h
theorem itoa_pos {n : Int} (h : 0 ≤ n) : Lib.itoa n = Lib.decDigits n.toNat := by rw [Lib.itoa, if_neg (by omega)]
theorem itoa_size {n : Int} (h : 0 ≤ n) (h2 : n ≤ 106751991167301) : (⟨(Lib.itoa n).toArray⟩ : ByteArray).size ≤ 15 := by
  rw [itoa_pos h]
  exact (ddT_len 14 n.toNat (by omega)).2
theorem text_parts {t : Int} (h : 0 ≤ t) : Lib.decDigits (t / 86400).toNat ++ [100] ++ twoD (t / 3600 % 24).toNat ++ [58] ++ twoD (t / 60 % 60).toNat ++ [58] ++ twoD (t % 60).toNat = textT t.toNat := by
  unfold textT
  rw [show (t / 86400).toNat = t.toNat / 86400 by omega, show (t / 3600 % 24).toNat = t.toNat % 86400 / 3600 by omega, show (t / 60 % 60).toNat = t.toNat % 86400 / 60 % 60 by omega, show (t % 60).toNat = t.toNat % 86400 % 60 by omega]
  simp
set_option maxRecDepth 20000 in
set_option maxHeartbeats 4000000 in
theorem print_any (t : Int) (w : World) (ht : N64 t) (hT : TV w) : Calls Tryd.prog 31 #[.int .i64 t] w (PrintR w t) := by
  obtain ⟨t1, t2⟩ := ht
  have HT := Lib.hid hT; clear hT
  by_cases h : t < 0
  · have HP := Lib.hid (pr_neg h)
    have HD : Hid (decide (t < 0) = true) := Lib.hid (decide_eq_true h)
    go_enter Tryd.func31, Tryd.ntmps31
    go_wp2_with (go_at_call 36; (with_reducible refine (anyNeg1 t true _ _ _ (by simp) HD.out).mono ?_); rintro e w' ⟨rfl, rfl⟩)
    go_ret2
    exact ⟨ret_sn (by rw [HP.out.1]) HP.out.2.symm, bl_self1 _ _⟩
  · have HP := Lib.hid (pr_pos h)
    have HD : Hid (decide (t < 0) = false) := Lib.hid (decide_eq_false h)
    have h0 : 0 ≤ t := by omega
    have HX := Lib.hid (text_parts h0)
    have tk1 : True := trivial
    have tk2 : True := trivial
    go_enter Tryd.func31, Tryd.ntmps31
    go_wp2_with (first
      | (go_at_call 36; (with_reducible refine (anyNeg1 t false _ _ _ (by simp) HD.out).mono ?_); rintro e w' ⟨rfl, rfl⟩; have B0 := Lib.hid (bl_self1 w (.cells #[.int .i64 t] 2)))
      | (go_at_call 45; (with_reducible refine (secD _).mono ?_); rintro e w' ⟨rfl, rfl⟩)
      | (go_at_call 45; (with_reducible refine (secH _).mono ?_); rintro e w' ⟨rfl, rfl⟩)
      | (go_at_call 45; (with_reducible refine (secM _).mono ?_); rintro e w' ⟨rfl, rfl⟩)
      | (go_at_call 44; refine (Tryd.strconv_FormatInt_10 _ (by omega) (by omega) _ (HT.out.below B0.out)).mono ?_; rintro e w1 ⟨rfl, k, os, hw⟩; have B1 : Hid (Below w.heap.size w w1) := Lib.hid (by rw [hw]; exact bl_cl B0.out (Lib.below_grow _ _ (Nat.le_refl _) _ _)); clear hw; obtain ⟨D, hD⟩ : ∃ D, (⟨(Lib.itoa (t / 86400)).toArray⟩ : ByteArray) = D := ⟨_, rfl⟩; rw [hD]; have hDs : D.size ≤ 15 := (by rw [← hD]; exact itoa_size (by omega) (by omega)); have HDD := Lib.hid hD; clear hD)
      | (go_at_call 46; have _t := tk1; (with_reducible refine (twoDigits_any (t / 3600 % 24) _ (by omega) (by omega)).mono ?_); rintro e w2 ⟨rfl, hb⟩; have B2 := Lib.hid (bl_cl B1.out hb); clear hb tk1; obtain ⟨H, hH⟩ : ∃ D, (⟨(twoD (t / 3600 % 24).toNat).toArray⟩ : ByteArray) = D := ⟨_, rfl⟩; rw [hH]; have hHs : H.size ≤ 2 := (by rw [← hH]; exact Nat.le_refl _); have HH := Lib.hid hH; clear hH)
      | (go_at_call 46; have _t := tk2; (with_reducible refine (twoDigits_any (t / 60 % 60) _ (by omega) (by omega)).mono ?_); rintro e w3 ⟨rfl, hb⟩; have B3 := Lib.hid (bl_cl B2.out hb); clear hb tk2; obtain ⟨M, hM⟩ : ∃ D, (⟨(twoD (t / 60 % 60).toNat).toArray⟩ : ByteArray) = D := ⟨_, rfl⟩; rw [hM]; have hMs : M.size ≤ 2 := (by rw [← hM]; exact Nat.le_refl _); have HM := Lib.hid hM; clear hM)
      | (go_at_call 46; (with_reducible refine (twoDigits_any (t % 60) _ (by omega) (by omega)).mono ?_); rintro e w4 ⟨rfl, hb⟩; have B4 := Lib.hid (bl_cl B3.out hb); clear hb; obtain ⟨S, hS⟩ : ∃ D, (⟨(twoD (t % 60).toNat).toArray⟩ : ByteArray) = D := ⟨_, rfl⟩; rw [hS]; have hSs : S.size ≤ 2 := (by rw [← hS]; exact Nat.le_refl _); have HS := Lib.hid hS; clear hS))
    go_ret2
    refine ⟨ret_sn ?_ HP.out.2.symm, B4.out⟩
    rw [HP.out.1, ← HX.out]
    apply bytes_ext
    rw [← HDD.out, ← HH.out, ← HM.out, ← HS.out, itoa_pos (by omega)]
    simp
end Go.Proofs.YtnmgcfpemmejlaaDoor
