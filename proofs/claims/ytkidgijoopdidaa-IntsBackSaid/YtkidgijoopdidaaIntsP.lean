/- The bytes of a number in a width: appendBytes and Put of the program. -/
import Derived.Test.YtkidgijoopdidaaIntsO
namespace Go.Proofs.Ytkidgijoopdidaa
open Go.RowKit Go.Lib
set_option linter.unusedVariables false

/-- The digits of n to the base 256, k of them, the highest one first. -/
def beL (n : Nat) : Nat → List Int
  | 0 => []
  | k + 1 => beL (n / 256) k ++ [((n % 256 : Nat) : Int)]
theorem beL_len (n k : Nat) : (beL n k).length = k := by induction k generalizing n with | zero => rfl | succ k ih => simp [beL, ih]
theorem beL_by (n k : Nat) : BY (beL n k) := by
  induction k generalizing n with
  | zero => intro x hx; cases hx
  | succ k ih => exact (ih _).app fun x hx => by simp at hx; omega
theorem own_end {B : Nat} {w : World} {v : Value} {xs ys : List Int} {zs : List Value} {k : Nat} (h : w.ownsRow B 5 1 v k zs) (hz : zs = bytesV (xs ++ ys)) : OB w B v (xs ++ ys) := by
  subst hz
  have hl := h.1
  rw [bytesV_len] at hl
  obtain rfl : k = (xs ++ ys).length := by omega
  exact h
def App (B : Nat) (xs : List Int) (w : World) (e : Ending) (w' : World) : Prop := ∃ v, e = .returned v ∧ OB w' B v xs ∧ Below B w w'

set_option maxRecDepth 20000 in
set_option maxHeartbeats 4000000 in
theorem appendBytes_any (v : Value) (xs : List Int) (n k B : Nat) (w : World) (h : OB w B v xs) (hs : xs.length ≤ 1000) (hn : n < 18446744073709551616) (hk1 : 1 ≤ k) (hk : k ≤ 8) (hB : B ≤ w.heap.size) :
    Calls Try.prog 42 #[v, .int .u64 n, .int .i64 k] w (App B (xs ++ beL n k) w) := by
  obtain ⟨i0, hi, hz0, hz1, hz2⟩ := info_parts info_u8
  have HO : Hid (w.ownsRow B 5 1 v xs.length (bytesV xs)) := h
  have HB := Lib.hid (Below.refl B w)
  clear h
  have hk' : k = 8 ∨ k = 7 ∨ k = 6 ∨ k = 5 ∨ k = 4 ∨ k = 3 ∨ k = 2 ∨ k = 1 := by omega
  clear hk hk1
  rcases hk' with rfl | rfl | rfl | rfl | rfl | rfl | rfl | rfl
  all_goals
    go_enter Try.func42, Try.ntmps42
    go_wp2_with (at_builtin; refine wpList_append_own _ rfl _ _ 22 rfl B 5 i0 (.int .u8 0) 1 1 Try.underlying22 hi hz0 hz1 hz2 rfl (by decide) _ _ _ rfl (HO.out.alloc _) ⟨_, 0, none⟩ 1 1 [_] rfl rfl (cells_new _ _ [_]) (by simp [Value.oneCell']) (by unfold maxLen; omega) (by omega) (by have := HB.out.size; simp; omega) ?_; intro v2 w2 hown hgrow _; have hbw := (HB.out.alloc (Nat.le_trans hB HB.out.size) _).grown hgrow (by have := HB.out.size; simp; omega) (fun k e => (HO.out.lt k e).1); replace HB := Lib.hid hbw; replace HO := Lib.hid hown; clear hbw hown hgrow)
    go_ret
    refine ⟨_, rfl, own_end HO.out ?_, HB.out⟩
    simp [bytesV, beL] <;> omega

/-! ### Put -/
def putOk (n : Nat) (k : Int) : Bool := decide (1 ≤ k) && decide (k ≤ 8) && fitB n (8 * k.toNat)
theorem putOk_yes {n : Nat} {k : Int} (h : putOk n k = true) : ∃ j : Nat, k = j ∧ 1 ≤ j ∧ j ≤ 8 ∧ fitB n (8 * j) = true := by
  unfold putOk at h; simp at h
  exact ⟨k.toNat, by omega, by omega, by omega, h.2⟩
theorem putOk_no {n : Nat} {k : Int} (h : putOk n k = false) : (k < 1 ∨ 8 < k) ∨ ∃ j : Nat, k = j ∧ 1 ≤ j ∧ j ≤ 8 ∧ fitB n (8 * j) = false := by
  by_cases h1 : 1 ≤ k ∧ k ≤ 8
  · right
    refine ⟨k.toNat, by omega, by omega, by omega, ?_⟩
    unfold putOk at h; simp [h1.1, h1.2] at h; exact h
  · left; omega
def No (w : World) (e : Ending) (w' : World) : Prop := e = .returned (.tuple #[.slice none 0 0, .int .i64 7]) ∧ w = w'
def Put (w : World) (xs : List Int) (e : Ending) (w' : World) : Prop := ∃ v, e = .returned (.tuple #[v, .int .i64 0]) ∧ OB w' w.heap.size v xs ∧ Below w.heap.size w w'
theorem fits2 (n k : Nat) (b : Int) (w : World) (hn : n < 18446744073709551616) (hk : k ≤ 64) (hb : b = k) : Calls Try.prog 41 #[.int .u64 n, .int .i64 b] w fun e w' => e = .returned (.bool (fitB n k)) ∧ w = w' := by
  subst hb; exact fits_any n k w hn hk
set_option maxHeartbeats 1000000 in
theorem put_no (v : Value) (n : Nat) (k : Int) (w : World) (hn : n < 18446744073709551616) (h : putOk n k = false) : Calls Try.prog 13 #[v, .int .u64 n, .int .i64 k] w (No w) := by
  rcases putOk_no h with (h | h) | ⟨j, rfl, h1, h2, h3⟩
  · go_enter Try.func13, Try.ntmps13
    go_wp2_with fail
    go_ret2
    exact ⟨rfl, rfl⟩
  · go_enter Try.func13, Try.ntmps13
    go_wp2_with fail
    go_ret2
    exact ⟨rfl, rfl⟩
  · have HF := Lib.hid h3; clear h3 h
    go_enter Try.func13, Try.ntmps13
    go_wp2_with (go_at_call 41; (with_reducible refine (fits2 n (8 * j) _ _ hn (by omega) (by omega)).mono ?_); rintro e w' ⟨rfl, rfl⟩; rw [HF.out])
    go_ret2
    exact ⟨rfl, rfl⟩
set_option maxHeartbeats 1000000 in
theorem put_yes (v : Value) (xs : List Int) (n k : Nat) (w : World) (hv : RB w v xs) (hs : xs.length ≤ 1000) (hn : n < 18446744073709551616) (h1 : 1 ≤ k) (h2 : k ≤ 8) (h : fitB n (8 * k) = true) :
    Calls Try.prog 13 #[v, .int .u64 n, .int .i64 k] w (Put w (xs ++ beL n k)) := by
  have HF := Lib.hid h; clear h
  have HV := Lib.hid hv; clear hv
  go_enter Try.func13, Try.ntmps13
  go_wp2_with (first
    | (go_at_call 41; (with_reducible refine (fits2 n (8 * k) _ _ hn (by omega) (by omega)).mono ?_); rintro e w' ⟨rfl, rfl⟩; rw [HF.out])
    | (go_at_call 43; (with_reducible refine (clone_any _ xs _ HV.out hs).mono ?_); rintro e w1 ⟨v1, rfl, ho1, hb1⟩; have HO1 := Lib.hid ho1; have HB1 := Lib.hid hb1; clear ho1 hb1)
    | (go_at_call 42; (with_reducible refine (appendBytes_any _ xs n k w.heap.size _ HO1.out hs hn h1 h2 HB1.out.size).mono ?_); rintro e w2 ⟨v2, rfl, ho2, hb2⟩; have HO2 := Lib.hid ho2; have HB2 := Lib.hid (HB1.out.trans hb2); clear ho2 hb2))
  go_ret2
  exact ⟨_, rfl, HO2.out, HB2.out⟩
end Go.Proofs.Ytkidgijoopdidaa
