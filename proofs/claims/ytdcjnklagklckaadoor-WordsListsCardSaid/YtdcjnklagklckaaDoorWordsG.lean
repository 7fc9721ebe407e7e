/- words.Digits and the reference's Digits return the decimal form. -/
import Derived.Test.YtdcjnklagklckaaDoorWordsF
import Derived.Lib.AppendIntMem
import Derived.Deep.RegionWith
import Derived.Lib.ItoaLen
namespace Go.Proofs.YtdcjnklagklckaaDoor
open Go.RowKit
set_option linter.unusedVariables false

theorem bcell {W w1 : World} (hb : Below W.heap.size W w1) : (∀ b o, b < W.heap.size → w1.cell? ⟨b, o, none⟩ = W.cell? ⟨b, o, none⟩) ∧ (∀ b o, b < W.heap.size → w1.frozen? ⟨b, o, none⟩ = W.frozen? ⟨b, o, none⟩) :=
  ⟨fun b o h => hb.cell (p := ⟨b, o, none⟩) h, fun b o h => hb.frozen (p := ⟨b, o, none⟩) h⟩

theorem bl_drew {w W : World} (h : Below w.heap.size w W) : Below w.heap.size w W.drew := h.drew
theorem bl_drewN {w W : World} (n : Nat) (h : Below w.heap.size w W) : Below w.heap.size w (W.drewN n) := h.trans ⟨rfl, rfl, rfl, Nat.le_refl _, fun _ _ => rfl⟩
theorem bl_alloc {w W : World} (o : Obj) (h : Below w.heap.size w W) : Below w.heap.size w (W.alloc o) := h.alloc h.size o
theorem bl_call {w W W' : World} (h : Below w.heap.size w W) (k : Below W.heap.size W W') : Below w.heap.size w W' := h.trans (k.mono h.size)

theorem ret_str {a b : ByteArray} (h : a = b) : Ending.returned (.string a) = .returned (.string b) := by rw [h]

theorem digits_any (n : Int) (w : World) (h0 : -9223372036854775808 ≤ n) (h1 : n ≤ 9223372036854775807) (htab : Lib.TabIs Tryd.prog w "internal/strconv.uint64pow10" .u64 Lib.pow10Tab) :
    Calls Tryd.prog 17 #[.int .i64 n] w fun e w' => e = .returned (.string ⟨(Lib.itoa n).toArray⟩) ∧ Below w.heap.size w w' := by
  have HT := Lib.hid htab; clear htab
  have H0 := Lib.hid h0; have H1 := Lib.hid h1; clear h0 h1
  go_enter Tryd.func17, Tryd.ntmps17
  go_wp2_with (go_at_call 42; refine (Tryd.strconv_FormatInt_10 n H0.out H1.out _ HT.out).mono ?_; rintro e w' ⟨rfl, k, os, hw⟩; have HW := Lib.hid hw; clear hw)
  go_ret
  refine ⟨rfl, ?_⟩
  rw [HW.out]; exact Lib.below_grow _ _ (Nat.le_refl _) _ _

theorem itoa_small (n : Int) (h0 : 0 ≤ n) (h1 : n ≤ 9) : Lib.itoa n = [UInt8.ofNat (48 + n).toNat] := by
  rw [Lib.itoa, if_neg (by omega), Lib.decDigits, dif_pos (by omega)]; congr 2; omega
theorem itoa_neg (n : Int) (h0 : n < 0) : Lib.itoa n = 45 :: Lib.itoa (-n) := by
  rw [Lib.itoa, if_pos h0, Lib.itoa, if_neg (by omega)]; congr 2; omega
theorem itoa_big (n : Int) (h : 9 < n) : Lib.itoa n = Lib.itoa (n / 10) ++ [UInt8.ofNat (48 + n % 10).toNat] := by
  rw [Lib.itoa, if_neg (by omega), Lib.itoa, if_neg (by omega), Lib.decDigits, dif_neg (by omega)]
  congr 2
  · congr 1; omega
  · congr 1; omega
theorem itoa_big_neg (n : Int) (h : n < -9) : Lib.itoa n = Lib.itoa (n.tdiv 10) ++ [UInt8.ofNat (48 + -(n.tmod 10)).toNat] := by
  obtain ⟨m, rfl⟩ : ∃ m : Int, n = -m := ⟨-n, by omega⟩
  rw [Int.neg_tdiv, Int.neg_tmod, Int.neg_neg, Int.tdiv_eq_ediv_of_nonneg (by omega), Int.tmod_eq_emod_of_nonneg (by omega)]
  rw [itoa_neg _ (by omega), Int.neg_neg, itoa_big _ (by omega), itoa_neg (-(m / 10)) (by omega), Int.neg_neg]; rfl

/-- 'string([]byte{c})': the walk takes it out of the context. -/
theorem conv_one (W : World) (b cap : Nat) (c : Int) (hc : W.cell? ⟨b, 0, none⟩ = some (.int .u8 c)) :
    (convert 38 9 (.slice (some ⟨b, 0, none⟩) 1 cap)).run Tryd.prog W = .ok (.string ⟨#[UInt8.ofNat c.toNat]⟩) W := by
  rw [run_convert_bytes_arg W 38 5 Tryd.underlying38 Tryd.underlying5 b 0 1 cap [c] rfl (fun i hi => by
    have hi0 : i = 0 := by omega
    subst hi0; simpa using hc) _ Tryd.underlying9]
  rfl

set_option maxRecDepth 20000 in
set_option maxHeartbeats 400000 in
theorem rdigits_0 (n : Int) (w : World) (h0 : 0 ≤ n) (h1 : n ≤ 9) :
    Calls Tryd.prog 18 #[.int .i64 n] w fun e w' => e = .returned (.string ⟨(Lib.itoa n).toArray⟩) ∧ Below w.heap.size w w' := by
  have HI := Lib.hid (itoa_small n h0 h1)
  have hcv := conv_one
  go_enter Tryd.func18, Tryd.ntmps18
  go_wp2_with fail
  go_ret
  refine ⟨by rw [HI.out]; rfl, ?_⟩
  exact (Below.refl _ _).alloc (Nat.le_refl _) _

set_option maxRecDepth 20000 in
set_option maxHeartbeats 400000 in
theorem rdigits_3 (n : Int) (w : World) (h0 : 9 < n) (h1 : n ≤ 9223372036854775807)
    (ih : ∀ (w : World), Calls Tryd.prog 18 #[.int .i64 (n / 10)] w fun e w' => e = .returned (.string ⟨(Lib.itoa (n / 10)).toArray⟩) ∧ Below w.heap.size w w') :
    Calls Tryd.prog 18 #[.int .i64 n] w fun e w' => e = .returned (.string ⟨(Lib.itoa n).toArray⟩) ∧ Below w.heap.size w w' := by
  have HI := Lib.hid (itoa_big n h0)
  have IH := Lib.hid ih; clear ih
  have hcv := conv_one
  have hm : 0 ≤ n % 10 ∧ n % 10 ≤ 9 := by omega
  obtain ⟨hm0, hm1⟩ := hm
  go_enter Tryd.func18, Tryd.ntmps18
  go_wp2_with fail
  have hlen := Lib.itoa_length_le (n / 10) (by omega) (by omega)
  have e1 : IntKind.i64.wrap (n.tdiv 10) = n / 10 := by rw [Int.tdiv_eq_ediv_of_nonneg (by omega)]; exact IntWalk.i64_in _ (by omega)
  have e2 : IntKind.i64.wrap (48 + n % 10) = 48 + n % 10 := IntWalk.i64_in _ (by omega)
  have e3 : IntKind.u8.wrap (48 + n % 10) = 48 + n % 10 := by simp [IntKind.wrap, IntKind.bits, IntKind.signed]; omega
  go_region_with (go_at_call 18; refine (IH.out _).mono ?_; rintro e w' ⟨rfl, hb⟩; obtain ⟨hc, hf⟩ := bcell hb)
  all_goals
    go_wp2_with fail
    go_ret
    refine ⟨ret_str (by rw [HI.out]; exact ByteArray.mk_append_mk _ [_]), (by repeat (first | exact Below.refl _ _ | assumption | apply bl_drew | apply bl_alloc | (refine bl_call ?_ (by assumption))))⟩

set_option maxRecDepth 20000 in
set_option maxHeartbeats 400000 in
theorem rdigits_1 (n : Int) (w : World) (h0 : n < 0) (h1 : -9 ≤ n) : Calls Tryd.prog 18 #[.int .i64 n] w fun e w' => e = .returned (.string ⟨(Lib.itoa n).toArray⟩) ∧ Below w.heap.size w w' := by
  have HI := Lib.hid (itoa_neg n h0)
  have IH : Hid (∀ w : World, Calls Tryd.prog 18 #[.int .i64 (-n)] w fun e w' => e = .returned (.string ⟨(Lib.itoa (-n)).toArray⟩) ∧ Below w.heap.size w w') := Lib.hid (fun w => rdigits_0 (-n) w (by omega) (by omega))
  have hlen := Lib.itoa_length_le (-n) (by omega) (by omega)
  go_enter Tryd.func18, Tryd.ntmps18
  go_wp2_with (go_at_call 18; refine (IH.out _).mono ?_; rintro e w' ⟨rfl, hb⟩)
  all_goals
    go_ret
    refine ⟨ret_str (by rw [HI.out]; exact ByteArray.mk_append_mk [45] _), (by repeat (first | exact Below.refl _ _ | assumption | apply bl_drew | apply bl_alloc | (refine bl_call ?_ (by assumption))))⟩

theorem tmod_facts (n : Int) (h : n < -9) : -9 ≤ n.tmod 10 ∧ n.tmod 10 ≤ 0 := by
  obtain ⟨m, rfl⟩ : ∃ m : Int, n = -m := ⟨-n, by omega⟩
  rw [Int.neg_tmod, Int.tmod_eq_emod_of_nonneg (by omega)]; omega

theorem tdiv_facts (n : Int) (h : n < -9) : n < n.tdiv 10 ∧ n.tdiv 10 < 0 := by
  obtain ⟨m, rfl⟩ : ∃ m : Int, n = -m := ⟨-n, by omega⟩
  rw [Int.neg_tdiv, Int.tdiv_eq_ediv_of_nonneg (by omega)]; omega

set_option maxRecDepth 20000 in
set_option maxHeartbeats 400000 in
theorem rdigits_2 (n : Int) (w : World) (h0 : n < -9) (h1 : -9223372036854775808 ≤ n)
    (ih : ∀ (w : World), Calls Tryd.prog 18 #[.int .i64 (n.tdiv 10)] w fun e w' => e = .returned (.string ⟨(Lib.itoa (n.tdiv 10)).toArray⟩) ∧ Below w.heap.size w w') :
    Calls Tryd.prog 18 #[.int .i64 n] w fun e w' => e = .returned (.string ⟨(Lib.itoa n).toArray⟩) ∧ Below w.heap.size w w' := by
  have HI := Lib.hid (itoa_big_neg n h0)
  have IH := Lib.hid ih; clear ih
  have hcv := conv_one
  obtain ⟨hm0, hm1⟩ := tmod_facts n h0
  obtain ⟨hd0, hd1⟩ := tdiv_facts n h0
  have hlen := Lib.itoa_length_le (n.tdiv 10) (by omega) (by omega)
  have e1 : IntKind.i64.wrap (n.tdiv 10) = n.tdiv 10 := IntWalk.i64_in _ (by omega)
  by_cases hz : n.tmod 10 < 0
  · have e2 : IntKind.i64.wrap (48 + -(n.tmod 10)) = 48 + -(n.tmod 10) := IntWalk.i64_in _ (by omega)
    have e3 : IntKind.u8.wrap (48 + -(n.tmod 10)) = 48 + -(n.tmod 10) := IntWalk.u8_in _ (by omega)
    have H2 := Lib.hid e2; have H3 := Lib.hid e3; have H1 := Lib.hid e1; clear e1 e2 e3
    go_enter Tryd.func18, Tryd.ntmps18
    go_wp2_with fail
    have e1 := H1.out; have e2 := H2.out; have e3 := H3.out
    go_region_with (go_at_call 18; refine (IH.out _).mono ?_; rintro e w' ⟨rfl, hb⟩; obtain ⟨hc, hf⟩ := bcell hb)
    all_goals
      go_wp2_with fail
      go_ret
      refine ⟨ret_str (by rw [HI.out]; exact ByteArray.mk_append_mk _ [_]), (by repeat (first | exact Below.refl _ _ | assumption | apply bl_drew | apply bl_alloc | (refine bl_call ?_ (by assumption))))⟩
  · have h0' : n.tmod 10 = 0 := by omega
    have HZ := Lib.hid h0'; clear h0'
    have e2 : IntKind.i64.wrap (48 + n.tmod 10) = 48 + n.tmod 10 := IntWalk.i64_in _ (by omega)
    have e3 : IntKind.u8.wrap (48 + n.tmod 10) = 48 + n.tmod 10 := IntWalk.u8_in _ (by omega)
    have H2 := Lib.hid e2; have H3 := Lib.hid e3; have H1 := Lib.hid e1; clear e1 e2 e3
    go_enter Tryd.func18, Tryd.ntmps18
    go_wp2_with fail
    have e1 := H1.out; have e2 := H2.out; have e3 := H3.out
    go_region_with (go_at_call 18; refine (IH.out _).mono ?_; rintro e w' ⟨rfl, hb⟩; obtain ⟨hc, hf⟩ := bcell hb)
    all_goals
      go_wp2_with fail
      go_ret
      refine ⟨ret_str (by rw [HI.out, HZ.out]; exact ByteArray.mk_append_mk _ [_]), (by repeat (first | exact Below.refl _ _ | assumption | apply bl_drew | apply bl_alloc | (refine bl_call ?_ (by assumption))))⟩

theorem rdigits_all (k : Nat) : ∀ (n : Int) (w : World), n.natAbs ≤ k → -9223372036854775808 ≤ n → n ≤ 9223372036854775807 →
    Calls Tryd.prog 18 #[.int .i64 n] w fun e w' => e = .returned (.string ⟨(Lib.itoa n).toArray⟩) ∧ Below w.heap.size w w' := by
  induction k with
  | zero => intro n w hk _ _; exact rdigits_0 n w (by omega) (by omega)
  | succ k ih =>
    intro n w hk h0 h1
    by_cases a : 9 < n
    · exact rdigits_3 n w a h1 (fun w => ih _ w (by omega) (by omega) (by omega))
    · by_cases b : n < -9
      · have := tdiv_facts n b
        exact rdigits_2 n w b h0 (fun w => ih _ w (by omega) (by omega) (by omega))
      · by_cases c : n < 0
        · exact rdigits_1 n w c (by omega)
        · exact rdigits_0 n w (by omega) (by omega)
theorem rdigits_any (n : Int) (w : World) (h0 : -9223372036854775808 ≤ n) (h1 : n ≤ 9223372036854775807) :
    Calls Tryd.prog 18 #[.int .i64 n] w fun e w' => e = .returned (.string ⟨(Lib.itoa n).toArray⟩) ∧ Below w.heap.size w w' := rdigits_all _ n w (Nat.le_refl _) h0 h1
end Go.Proofs.YtdcjnklagklckaaDoor
