/- What each law asks first: some calls return what the document says of them. -/
import Derived.Test.YtkidgijoopdidaaIntsC
import Derived.Test.YtkidgijoopdidaaIntsL
import Derived.Test.YtkidgijoopdidaaIntsS
import Derived.Test.YtkidgijoopdidaaIntsU
namespace Go.Proofs.Ytkidgijoopdidaa
open Go.RowKit
set_option linter.unusedVariables false

theorem rb_new (w : World) (xs : List Int) (n : Nat) (hn : xs.length = n) (h : n ≤ 1000) : RB (w.alloc (.cells (bytesV xs).toArray 5)) (.slice (some ⟨w.heap.size, 0, none⟩) n n) xs := by
  subst hn
  have := World.ownsRow_lit (base := w.heap.size) (e := 5) (size := 1) w (bytesV xs).toArray xs.length (Nat.le_refl _) (by unfold maxLen; omega) (by simp [bytesV])
  exact OB.rb (B := w.heap.size) this
theorem put258 (w : World) : Calls Try.prog 13 #[.slice none 0 0, .int .u64 258, .int .i64 4] w (Put w [0, 0, 1, 2]) := by
  have h := put_yes (.slice none 0 0) [] 258 4 w (RB.nil w) (by simp) (by omega) (by omega) (by omega) (by decide)
  have e : ([] ++ beL 258 4 : List Int) = [0, 0, 1, 2] := by decide
  rw [e] at h
  exact h
theorem gv300 : gv [172, 2, 9] 0 = (0, 1) := by decide
theorem getvar300 (w : World) : Calls Try.prog 17 #[.slice (some ⟨w.heap.size, 0, none⟩) 3 3] (w.alloc (.cells #[.int .u8 172, .int .u8 2, .int .u8 9] 5)) (Got (w.alloc (.cells #[.int .u8 172, .int .u8 2, .int .u8 9] 5)) 300 [9]) := by
  have h := getvar_any _ [172, 2, 9] _ (rb_new w [172, 2, 9] 3 rfl (by omega)) (by intro x hx; simp at hx; omega) (by simp)
  refine Calls.mono h fun e w' hg => ?_
  unfold GV at hg
  rw [gv300, if_pos rfl] at hg
  have e1 : varN (List.take (1 + 1) [172, 2, 9]) = 300 := by decide
  rw [e1] at hg
  exact hg
theorem fit8 (w : World) : Calls Try.prog 25 #[.int .i64 (-1), .int .i64 8, .bool true] w fun e w' => e = .returned (.tuple #[.int .u64 255, .int .i64 0]) ∧ w = w' := by
  have h := fit_any (-1) 8 true w (by omega) (by omega) (by omega) (by omega)
  have e1 : fVal (-1) 8 true = 255 := by decide
  have e2 : fErr (-1) 8 true = 0 := by decide
  rw [e1, e2] at h
  exact h
theorem turn3 (w : World) : Calls Try.prog 29 #[.int .u64 6, .int .i64 3, .int .i64 1] w fun e w' => e = .returned (.tuple #[.int .u64 5, .int .i64 0]) ∧ ∃ q, w' = w.drewN q := by
  have h := turn_any 6 3 1 w (by omega) (by omega) (by omega) (by omega) (by omega)
  have e1 : turnVal 6 3 1 = 5 := by decide
  have e2 : turnErr 6 3 = 0 := by decide
  rw [e1, e2] at h
  exact h
theorem shift2 (w : World) : Calls Try.prog 39 #[.int .i64 (-3), .int .i64 (-1)] w fun e w' => e = .returned (.int .i64 (-2)) ∧ w = w' := by
  have h := shift_any (-3) (-1) w (by omega) (by omega) (by omega) (by omega)
  have e1 : satShift (-3) (-1) = -2 := by decide
  rw [e1] at h
  exact h
theorem str0012 : strOfNums [0, 0, 1, 2] = ⟨#[0, 0, 1, 2]⟩ := by decide
theorem str9 : strOfNums [9] = ⟨#[9]⟩ := by decide

set_option maxRecDepth 20000 in
set_option maxHeartbeats 2000000 in
theorem awake_any (w : World) : Calls Try.prog 12 #[] w fun e w' => e = .returned (.bool true) ∧ Below w.heap.size w w' := by
  go_enter Try.func12, Try.ntmps12
  go_wp2_with (first
    | (go_at_call 13; (with_reducible refine (put258 _).mono ?_); rintro e w1 ⟨v1, rfl, ho, hb⟩; have HR1 := Lib.hid ho.rb; have HB1 := Lib.hid hb; clear ho hb)
    | (go_at_call 17; (with_reducible refine (getvar300 _).mono ?_); rintro e w2 ⟨v2, rfl, hr, q1, rfl⟩; have HR2 := Lib.hid hr; clear hr)
    | (go_at_call 25; (with_reducible refine (fit8 _).mono ?_); rintro e w3 ⟨rfl, rfl⟩)
    | (go_at_call 29; (with_reducible refine (turn3 _).mono ?_); rintro e w4 ⟨rfl, q2, rfl⟩; have k1 := fun q => conv_rb ((HR1.out.later (bl_alloc (.cells #[.int .u8 172, .int .u8 2, .int .u8 9] 5) (Below.refl _ _))).drewN q); have k2 := fun q => conv_rb (show RB ((w1.alloc (.cells #[.int .u8 172, .int .u8 2, .int .u8 9] 5)).drewN q) v2 [9] from HR2.out); rw [str0012] at k1; rw [str9] at k2)
    | (go_at_call 39; (with_reducible refine (shift2 _).mono ?_); rintro e w5 ⟨rfl, rfl⟩))
  go_ret
  exact ⟨rfl, bl_drewN _ (bl_alloc _ HB1.out)⟩
end Go.Proofs.Ytkidgijoopdidaa
