/- PutVar, of both sides. -/
import Derived.Test.YtkidgijoopdidaaIntsQ
namespace Go.Proofs.Ytkidgijoopdidaa
open Go.RowKit
set_option linter.unusedVariables false

/-- The digits of n to the base 128, the lowest one first, with 128 added to each but the last one. -/
def varL (n : Nat) : List Int := if n < 128 then [(n : Int)] else ((n % 128 + 128 : Nat) : Int) :: varL (n / 128)
termination_by n
decreasing_by omega
theorem varL_lo {n : Nat} (h : n < 128) : varL n = [(n : Int)] := by rw [varL, if_pos h]
theorem varL_hi {n : Nat} (h : ¬ n < 128) : varL n = ((n % 128 + 128 : Nat) : Int) :: varL (n / 128) := by rw [varL, if_neg h]
theorem varL_len (k : Nat) : ∀ n, n < 128 ^ k → 1 ≤ k → 1 ≤ (varL n).length ∧ (varL n).length ≤ k := by
  induction k with
  | zero => intro n _ h; omega
  | succ k ih =>
    intro n hn _
    by_cases h : n < 128
    · rw [varL_lo h]; simp
    · rw [varL_hi h]
      rcases Nat.eq_zero_or_pos k with h0 | h0
      · subst h0; simp at hn; omega
      · have := ih (n / 128) (by rw [Nat.pow_succ] at hn; exact Nat.div_lt_of_lt_mul (by rw [Nat.mul_comm]; exact hn)) h0
        simp; omega
theorem varL_ten {n : Nat} (h : n < 18446744073709551616) : 1 ≤ (varL n).length ∧ (varL n).length ≤ 10 := by
  have h1 : 128 ^ 10 = 1180591620717411303424 := by decide
  exact varL_len 10 n (by omega) (by decide)
theorem varL_by : ∀ n, BY (varL n) := by
  intro n
  induction n using Nat.strongRecOn with
  | _ n ih =>
    by_cases h : n < 128
    · rw [varL_lo h]; intro x hx; simp at hx; omega
    · rw [varL_hi h]; intro x hx
      rcases List.mem_cons.1 hx with rfl | hx
      · omega
      · exact ih (n / 128) (by omega) x hx
theorem or_more (y : Nat) : bits .or .u8 ((y : Int) % 256) 128 = ((y % 128 + 128 : Nat) : Int) := by
  have h : ∀ n : Fin 256, bits BinOp.or IntKind.u8 ((n.val : Nat) : Int) 128 = ((n.val % 128 + 128 : Nat) : Int) := by decide +kernel
  have := h ⟨y % 256, by omega⟩
  simp only [Int.natCast_emod] at this
  rw [show ((y : Int) % 256) = ((y % 256 : Nat) : Int) by omega]
  have e : ((y % 256 : Nat) : Int) = (y : Int) % ((256 : Nat) : Int) := by omega
  rw [e, this]
  have : y % 256 % 128 = y % 128 := by omega
  omega
theorem var_step {xs zs : List Int} {y n : Nat} (h : zs ++ varL y = xs ++ varL n) (hy : ¬ y < 128) : (zs ++ [((y % 128 + 128 : Nat) : Int)]) ++ varL (y / 128) = xs ++ varL n := by
  rw [← h, varL_hi hy]; simp
theorem var_last {xs zs : List Int} {y n : Nat} (h : zs ++ varL y = xs ++ varL n) (hy : y < 128) : bytesV zs ++ [Value.int .u8 (y : Int)] = bytesV (xs ++ varL n) := by
  rw [← h, varL_lo hy]; simp [bytesV]
theorem var_bd {xs zs : List Int} {y n : Nat} (h : zs ++ varL y = xs ++ varL n) (hn : n < 18446744073709551616) (hy : y < 18446744073709551616) (hs : xs.length ≤ 1000) : zs.length ≤ 1010 := by
  have h1 := congrArg List.length h
  have h2 := varL_ten hn
  have h3 := varL_ten hy
  rw [List.length_append, List.length_append] at h1
  omega

set_option maxRecDepth 20000 in
set_option maxHeartbeats 2000000 in
theorem putvar_any (v : Value) (xs : List Int) (n : Nat) (w : World) (hv : RB w v xs) (hs : xs.length ≤ 1000) (hn : n < 18446744073709551616) :
    Calls Try.prog 19 #[v, .int .u64 n] w (Made w (xs ++ varL n)) := by
  obtain ⟨i0, hi, hz0, hz1, hz2⟩ := info_parts info_u8
  have HV := Lib.hid hv; clear hv
  go_enter Try.func19, Try.ntmps19
  go_wp2_with (go_at_call 43; (with_reducible refine (clone_any _ xs _ HV.out hs).mono ?_); rintro e w1 ⟨v1, rfl, ho1, hb1⟩; have HO1 := Lib.hid ho1; have HB1 := Lib.hid hb1; clear ho1 hb1)
  go_loopw [1, 5] (fun x u wr => ∃ (y : Nat) (zs : List Int), x = .int .u64 y ∧ y < 18446744073709551616 ∧ Hid (OB wr w.heap.size u zs) ∧ Hid (Below w.heap.size w wr) ∧ Hid (zs ++ varL y = xs ++ varL n)) (fun x _ _ => (intOf x).toNat)
  case atStart => exact ⟨n, xs, rfl, hn, HO1, HB1, Lib.hid rfl⟩
  case round =>
    obtain ⟨y, zs, rfl, hy, HO, HB, HX⟩ := hrel
    have hzl := var_bd HX.out hn hy hs
    replace HO : Hid (wr.ownsRow w.heap.size 5 1 u5 zs.length (bytesV zs)) := HO
    by_cases hlt : y < 128
    · have HL := Lib.hid (var_last HX.out hlt)
      go_wp2_with (at_builtin; refine wpList_append_own _ rfl _ _ 22 rfl w.heap.size 5 i0 (.int .u8 0) 1 1 Try.underlying22 hi hz0 hz1 hz2 rfl (by decide) _ _ _ rfl (HO.out.alloc _) ⟨_, 0, none⟩ 1 1 [_] rfl rfl (cells_new _ _ [_]) (by simp [Value.oneCell']) (by unfold maxLen; omega) (by omega) (by have := HB.out.size; simp; omega) ?_; intro v2 w2 hown hgrow _; have hbw := (bl_alloc _ HB.out).grown hgrow (by have := HB.out.size; simp; omega) (fun k e => (HO.out.lt k e).1); have HB2 := Lib.hid hbw; have HO2 := Lib.hid hown; clear hbw hown hgrow)
      go_ret
      exact ⟨_, rfl, own_end HO2.out HL.out, HB2.out⟩
    · have HS := Lib.hid (var_step HX.out hlt)
      have EM := or_more y
      go_wp2_with (at_builtin; refine wpList_append_own _ rfl _ _ 22 rfl w.heap.size 5 i0 (.int .u8 0) 1 1 Try.underlying22 hi hz0 hz1 hz2 rfl (by decide) _ _ _ rfl (HO.out.alloc _) ⟨_, 0, none⟩ 1 1 [_] rfl rfl (cells_new _ _ [_]) (by simp [Value.oneCell']) (by unfold maxLen; omega) (by omega) (by have := HB.out.size; simp; omega) ?_; intro v2 w2 hown hgrow _; have hbw := (bl_alloc _ HB.out).grown hgrow (by have := HB.out.size; simp; omega) (fun k e => (HO.out.lt k e).1); have HB2 := Lib.hid hbw; have HO2 := Lib.hid hown; clear hbw hown hgrow)
      go_roundw
      case rel => exact ⟨y / 128, zs ++ [((y % 128 + 128 : Nat) : Int)], by go_num, by omega, Lib.hid (own_end HO2.out (by simp [bytesV])), HB2, HS⟩
      case measure => simp [intOf]; omega
set_option maxRecDepth 20000 in
set_option maxHeartbeats 2000000 in
theorem rputvar_nil (n : Nat) (w : World) (hn : n < 18446744073709551616) :
    Calls Try.prog 20 #[.slice none 0 0, .int .u64 n] w (Made w (varL n)) := by
  obtain ⟨i0, hi, hz0, hz1, hz2⟩ := info_parts info_u8
  go_enter Try.func20, Try.ntmps20
  have HO1 : Hid (OB (w.alloc (.cells #[] 5)) w.heap.size (.slice (some ⟨w.heap.size, 0, none⟩) 0 0) []) := Lib.hid (World.ownsRow_lit (base := w.heap.size) (e := 5) (size := 1) w #[] 0 (Nat.le_refl _) (by unfold maxLen; omega) rfl)
  have HB1 : Hid (Below w.heap.size w (w.alloc (.cells #[] 5))) := Lib.hid (bl_alloc _ (Below.refl _ _))
  go_wp2_with fail
  go_loopw [1, 5] (fun x u wr => ∃ (y : Nat) (zs : List Int), x = .int .u64 y ∧ y < 18446744073709551616 ∧ Hid (OB wr w.heap.size u zs) ∧ Hid (Below w.heap.size w wr) ∧ Hid (zs ++ varL y = varL n)) (fun x _ _ => (intOf x).toNat)
  case atStart => exact ⟨n, [], rfl, hn, HO1, HB1, Lib.hid rfl⟩
  case round =>
    obtain ⟨y, zs, rfl, hy, HO, HB, HX⟩ := hrel
    have hzl := var_bd (xs := []) HX.out hn hy (by simp)
    replace HO : Hid (wr.ownsRow w.heap.size 5 1 u5 zs.length (bytesV zs)) := HO
    by_cases hlt : y < 128
    · have HL := Lib.hid (var_last (xs := []) HX.out hlt)
      go_wp2_with (at_builtin; refine wpList_append_own _ rfl _ _ 22 rfl w.heap.size 5 i0 (.int .u8 0) 1 1 Try.underlying22 hi hz0 hz1 hz2 rfl (by decide) _ _ _ rfl (HO.out.alloc _) ⟨_, 0, none⟩ 1 1 [_] rfl rfl (cells_new _ _ [_]) (by simp [Value.oneCell']) (by unfold maxLen; omega) (by omega) (by have := HB.out.size; simp; omega) ?_; intro v2 w2 hown hgrow _; have hbw := (bl_alloc _ HB.out).grown hgrow (by have := HB.out.size; simp; omega) (fun k e => (HO.out.lt k e).1); have HB2 := Lib.hid hbw; have HO2 := Lib.hid hown; clear hbw hown hgrow)
      go_ret
      exact ⟨_, rfl, own_end (xs := []) HO2.out HL.out, HB2.out⟩
    · have HS := Lib.hid (var_step (xs := []) HX.out hlt)
      have EM : Hid (128 + (y : Int) % 128 = ((y % 128 + 128 : Nat) : Int)) := Lib.hid (by omega)
      go_wp2_with (at_builtin; refine wpList_append_own _ rfl _ _ 22 rfl w.heap.size 5 i0 (.int .u8 0) 1 1 Try.underlying22 hi hz0 hz1 hz2 rfl (by decide) _ _ _ rfl (HO.out.alloc _) ⟨_, 0, none⟩ 1 1 [_] rfl rfl (cells_new _ _ [_]) (by simp [Value.oneCell']) (by unfold maxLen; omega) (by omega) (by have := HB.out.size; simp; omega) ?_; intro v2 w2 hown hgrow _; have hbw := (bl_alloc _ HB.out).grown hgrow (by have := HB.out.size; simp; omega) (fun k e => (HO.out.lt k e).1); have HB2 := Lib.hid hbw; have HO2 := Lib.hid hown; clear hbw hown hgrow)
      go_roundw
      case rel => exact ⟨y / 128, zs ++ [((y % 128 + 128 : Nat) : Int)], by go_num, by omega, Lib.hid (own_end HO2.out (by rw [EM.out]; simp [bytesV])), HB2, HS⟩
      case measure => simp [intOf]; omega
set_option maxRecDepth 20000 in
set_option maxHeartbeats 2000000 in
theorem rputvar_some (ad : Addr) (c0 : Nat) (xs : List Int) (n : Nat) (w : World) (hc : ∀ W, Below w.heap.size w W → ∀ j u, (bytesV xs)[j]? = some u → W.cell? (ad.add j) = some u) (hs : xs.length ≤ 1000) (hn : n < 18446744073709551616) :
    Calls Try.prog 20 #[.slice (some ad) xs.length c0, .int .u64 n] w (Made w (xs ++ varL n)) := by
  obtain ⟨i0, hi, hz0, hz1, hz2⟩ := info_parts info_u8
  have HC := Lib.hid hc; clear hc
  go_enter Try.func20, Try.ntmps20
  go_wp2_with (at_builtin; refine wpList_append_own _ rfl _ _ 22 rfl w.heap.size 5 i0 (.int .u8 0) 1 1 Try.underlying22 hi hz0 hz1 hz2 rfl (by decide) _ 0 [] rfl (World.ownsRow_lit _ #[] 0 (Nat.le_refl _) (by unfold maxLen; omega) rfl) ad xs.length c0 (bytesV xs) rfl (bytesV_len xs) (HC.out _ (bl_alloc _ (Below.refl _ _))) (bytesV_one xs) (by unfold maxLen; omega) (by omega) (by simp) ?_; intro v' w2 hown hgrow _; have hbw : Below w.heap.size w w2 := (bl_alloc _ (Below.refl _ _)).grown hgrow (by simp) (fun k e => by cases e; exact Nat.le_refl _); have HB1 := Lib.hid hbw; have HO1 : Hid (OB w2 w.heap.size v' xs) := Lib.hid (by rw [Nat.zero_add, List.nil_append] at hown; exact hown); clear hbw hown hgrow)
  go_loopw [1, 5] (fun x u wr => ∃ (y : Nat) (zs : List Int), x = .int .u64 y ∧ y < 18446744073709551616 ∧ Hid (OB wr w.heap.size u zs) ∧ Hid (Below w.heap.size w wr) ∧ Hid (zs ++ varL y = xs ++ varL n)) (fun x _ _ => (intOf x).toNat)
  case atStart => exact ⟨n, xs, rfl, hn, HO1, HB1, Lib.hid rfl⟩
  case round =>
    obtain ⟨y, zs, rfl, hy, HO, HB, HX⟩ := hrel
    have hzl := var_bd HX.out hn hy hs
    replace HO : Hid (wr.ownsRow w.heap.size 5 1 u5 zs.length (bytesV zs)) := HO
    by_cases hlt : y < 128
    · have HL := Lib.hid (var_last HX.out hlt)
      go_wp2_with (at_builtin; refine wpList_append_own _ rfl _ _ 22 rfl w.heap.size 5 i0 (.int .u8 0) 1 1 Try.underlying22 hi hz0 hz1 hz2 rfl (by decide) _ _ _ rfl (HO.out.alloc _) ⟨_, 0, none⟩ 1 1 [_] rfl rfl (cells_new _ _ [_]) (by simp [Value.oneCell']) (by unfold maxLen; omega) (by omega) (by have := HB.out.size; simp; omega) ?_; intro v2 w2 hown hgrow _; have hbw := (bl_alloc _ HB.out).grown hgrow (by have := HB.out.size; simp; omega) (fun k e => (HO.out.lt k e).1); have HB2 := Lib.hid hbw; have HO2 := Lib.hid hown; clear hbw hown hgrow)
      go_ret
      exact ⟨_, rfl, own_end HO2.out HL.out, HB2.out⟩
    · have HS := Lib.hid (var_step HX.out hlt)
      have EM : Hid (128 + (y : Int) % 128 = ((y % 128 + 128 : Nat) : Int)) := Lib.hid (by omega)
      go_wp2_with (at_builtin; refine wpList_append_own _ rfl _ _ 22 rfl w.heap.size 5 i0 (.int .u8 0) 1 1 Try.underlying22 hi hz0 hz1 hz2 rfl (by decide) _ _ _ rfl (HO.out.alloc _) ⟨_, 0, none⟩ 1 1 [_] rfl rfl (cells_new _ _ [_]) (by simp [Value.oneCell']) (by unfold maxLen; omega) (by omega) (by have := HB.out.size; simp; omega) ?_; intro v2 w2 hown hgrow _; have hbw := (bl_alloc _ HB.out).grown hgrow (by have := HB.out.size; simp; omega) (fun k e => (HO.out.lt k e).1); have HB2 := Lib.hid hbw; have HO2 := Lib.hid hown; clear hbw hown hgrow)
      go_roundw
      case rel => exact ⟨y / 128, zs ++ [((y % 128 + 128 : Nat) : Int)], by go_num, by omega, Lib.hid (own_end HO2.out (by rw [EM.out]; simp [bytesV])), HB2, HS⟩
      case measure => simp [intOf]; omega
theorem rputvar_any (v : Value) (xs : List Int) (n : Nat) (w : World) (hv : RB w v xs) (hs : xs.length ≤ 1000) (hn : n < 18446744073709551616) :
    Calls Try.prog 20 #[v, .int .u64 n] w (Made w (xs ++ varL n)) := by
  rcases hv.two with ⟨rfl, rfl⟩ | ⟨ad, c0, rfl, hc⟩
  · exact rputvar_nil n w hn
  · exact rputvar_some ad c0 xs n w hc hs hn
end Go.Proofs.Ytkidgijoopdidaa
