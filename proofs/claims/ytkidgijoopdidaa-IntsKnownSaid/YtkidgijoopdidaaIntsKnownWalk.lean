/- The law IntsKnown: the walk. -/
import Derived.Test.YtkidgijoopdidaaIntsY
namespace Go.Proofs.Ytkidgijoopdidaa
open Go.RowKit
set_option linter.unusedVariables false

/-- A number, a slice and an error; what was there is as it was. -/
def GetB (w : World) (z r : Int) (e : Ending) (w' : World) : Prop := ∃ v, e = .returned (.tuple #[.int .u64 z, v, .int .i64 r]) ∧ Below w.heap.size w w'
theorem getB_of {w w' : World} {z : Nat} {ys : List Int} {r : Int} {e : Ending} (h : GetR w z ys r e w') : GetB w z r e w' := by
  obtain ⟨v, he, _, q, rfl⟩ := h
  exact ⟨v, he, bl_drewN q (Below.refl _ _)⟩
theorem put1 (w : World) : Calls Try.prog 13 #[.slice none 0 0, .int .u64 258, .int .i64 1] w (No w) :=
  put_no (.slice none 0 0) 258 1 w (by omega) (by decide)
theorem get4 (w : World) : Calls Try.prog 15 #[.slice (some ⟨w.heap.size, 0, none⟩) 3 3, .int .i64 4] (w.alloc (.cells #[.int .u8 1, .int .u8 2, .int .u8 3] 5)) (GetB (w.alloc (.cells #[.int .u8 1, .int .u8 2, .int .u8 3] 5)) 0 10) :=
  (get_r _ [1, 2, 3] 4 0 [] 10 _ (rb_new w [1, 2, 3] 3 rfl (by omega)) (by intro x hx; simp at hx; omega) (by simp) (by decide) (by decide) (by decide)).mono fun e w' h => getB_of h
theorem get9 (w : World) : Calls Try.prog 15 #[.slice (some ⟨w.heap.size, 0, none⟩) 3 3, .int .i64 9] (w.alloc (.cells #[.int .u8 1, .int .u8 2, .int .u8 3] 5)) (GetB (w.alloc (.cells #[.int .u8 1, .int .u8 2, .int .u8 3] 5)) 0 7) :=
  (get_r _ [1, 2, 3] 9 0 [] 7 _ (rb_new w [1, 2, 3] 3 rfl (by omega)) (by intro x hx; simp at hx; omega) (by simp) (by decide) (by decide) (by decide)).mono fun e w' h => getB_of h
theorem getvarA (w : World) : Calls Try.prog 17 #[.slice (some ⟨w.heap.size, 0, none⟩) 2 2] (w.alloc (.cells #[.int .u8 128, .int .u8 0] 5)) (GetB (w.alloc (.cells #[.int .u8 128, .int .u8 0] 5)) 0 6) :=
  (getvar_r _ [128, 0] 0 [] 6 _ (rb_new w [128, 0] 2 rfl (by omega)) (by intro x hx; simp at hx; omega) (by simp) (by decide) (by decide) (by decide)).mono fun e w' h => getB_of h
theorem getvarB (w : World) : Calls Try.prog 17 #[.slice (some ⟨w.heap.size, 0, none⟩) 1 1] (w.alloc (.cells #[.int .u8 172] 5)) (GetB (w.alloc (.cells #[.int .u8 172] 5)) 0 10) :=
  (getvar_r _ [172] 0 [] 10 _ (rb_new w [172] 1 rfl (by omega)) (by intro x hx; simp at hx; omega) (by simp) (by decide) (by decide) (by decide)).mono fun e w' h => getB_of h
def long (x : Int) : Array Value := #[.int .u8 255, .int .u8 255, .int .u8 255, .int .u8 255, .int .u8 255, .int .u8 255, .int .u8 255, .int .u8 255, .int .u8 255, .int .u8 x]
def longL (x : Int) : List Int := [255, 255, 255, 255, 255, 255, 255, 255, 255, x]
theorem getvarC (w : World) : Calls Try.prog 17 #[.slice (some ⟨w.heap.size, 0, none⟩) 10 10] (w.alloc (.cells (long 1) 5)) (GetR (w.alloc (.cells (long 1) 5)) 18446744073709551615 [] 0) :=
  getvar_r _ (longL 1) 18446744073709551615 [] 0 _ (rb_new w (longL 1) 10 rfl (by omega)) (by intro x hx; simp [longL] at hx; omega) (by simp [longL]) (by decide) (by decide) (by decide)
theorem getvarD (w : World) (q : Nat) : Calls Try.prog 17 #[.slice (some ⟨w.heap.size, 0, none⟩) 10 10] ((w.alloc (.cells (long 2) 5)).drewN q) (GetB ((w.alloc (.cells (long 2) 5)).drewN q) 0 7) :=
  (getvar_r _ (longL 2) 0 [] 7 _ ((rb_new w (longL 2) 10 rfl (by omega)).drewN q) (by intro x hx; simp [longL] at hx; omega) (by simp [longL]) (by decide) (by decide) (by decide)).mono fun e w' h => getB_of h
theorem longW (w : World) (q : Nat) (t : TypeId) : ((w.alloc (.cells (long 1) t)).drewN q).setCell ⟨w.heap.size, 9, none⟩ (.int .u8 2) = (w.alloc (.cells (long 2) t)).drewN q := by
  have h : ((w.alloc (.cells (long 1) t)).setCell ⟨w.heap.size, 9, none⟩ (.int .u8 2)).drewN q = (w.alloc (.cells (long 2) t)).drewN q := by
    rw [World.setCell_alloc_at _ _ _ _ _ rfl]
    rfl
  exact h
theorem getvarD' (w : World) (q : Nat) : Calls Try.prog 17 #[.slice (some ⟨w.heap.size, 0, none⟩) 10 10] (((w.alloc (.cells (long 1) 5)).drewN q).setCell ⟨w.heap.size, 9, none⟩ (.int .u8 2)) fun e w' => ∃ v, e = .returned (.tuple #[.int .u64 0, v, .int .i64 7]) ∧ Below w.heap.size w w' := by
  rw [longW]
  exact (getvarD w q).mono fun e w' ⟨v, he, hb⟩ => ⟨v, he, bl_call (bl_drewN q (bl_alloc _ (Below.refl _ _))) hb⟩
theorem putvarE (w : World) : Calls Try.prog 19 #[.slice none 0 0, .int .u64 300] w (Made w [172, 2]) := by
  have h := putvar_any (.slice none 0 0) [] 300 w (RB.nil w) (by simp) (by omega)
  have e : ([] ++ varL 300 : List Int) = [172, 2] := by rw [varL_hi (by omega), varL_lo (by omega)]; rfl
  rw [e] at h
  exact h
theorem strAC : strOfNums [172, 2] = ⟨#[172, 2]⟩ := by decide
theorem fitA (w : World) : Calls Try.prog 25 #[.int .i64 128, .int .i64 8, .bool true] w fun e w' => e = .returned (.tuple #[.int .u64 0, .int .i64 7]) ∧ w = w' := by
  have h := fit_any 128 8 true w (by omega) (by omega) (by omega) (by omega)
  have e1 : fVal 128 8 true = 0 := by decide
  have e2 : fErr 128 8 true = 7 := by decide
  rw [e1, e2] at h
  exact h
theorem fitB' (w : World) : Calls Try.prog 25 #[.int .i64 (-1), .int .i64 8, .bool false] w fun e w' => e = .returned (.tuple #[.int .u64 0, .int .i64 7]) ∧ w = w' := by
  have h := fit_any (-1) 8 false w (by omega) (by omega) (by omega) (by omega)
  have e1 : fVal (-1) 8 false = 0 := by decide
  have e2 : fErr (-1) 8 false = 7 := by decide
  rw [e1, e2] at h
  exact h
theorem widenA (w : World) : Calls Try.prog 27 #[.int .u64 255, .int .i64 8, .bool true] w fun e w' => e = .returned (.tuple #[.int .i64 (-1), .int .i64 0]) ∧ w = w' := by
  have h := widen_any 255 8 true w (by omega) (by omega) (by omega)
  have e1 : wVal 255 8 true = (-1) := by decide
  have e2 : wErr 255 8 true = 0 := by decide
  rw [e1, e2] at h
  exact h
theorem widenB (w : World) : Calls Try.prog 27 #[.int .u64 255, .int .i64 8, .bool false] w fun e w' => e = .returned (.tuple #[.int .i64 255, .int .i64 0]) ∧ w = w' := by
  have h := widen_any 255 8 false w (by omega) (by omega) (by omega)
  have e1 : wVal 255 8 false = 255 := by decide
  have e2 : wErr 255 8 false = 0 := by decide
  rw [e1, e2] at h
  exact h
theorem widenC (w : World) : Calls Try.prog 27 #[.int .u64 256, .int .i64 8, .bool true] w fun e w' => e = .returned (.tuple #[.int .i64 0, .int .i64 7]) ∧ w = w' := by
  have h := widen_any 256 8 true w (by omega) (by omega) (by omega)
  have e1 : wVal 256 8 true = 0 := by decide
  have e2 : wErr 256 8 true = 7 := by decide
  rw [e1, e2] at h
  exact h
theorem fieldA (w : World) : Calls Try.prog 31 #[.int .u64 180, .int .i64 2, .int .i64 4] w fun e w' => e = .returned (.tuple #[.int .u64 13, .int .i64 0]) ∧ ∃ q, w' = w.drewN q := by
  have h := field_any 180 2 4 w (by omega) (by omega) (by omega)
  have e1 : fieldVal 180 2 4 = 13 := by decide
  have e2 : fieldErr 2 4 = 0 := by decide
  rw [e1, e2] at h
  exact h
theorem withA (w : World) : Calls Try.prog 33 #[.int .u64 180, .int .i64 2, .int .i64 4, .int .u64 1] w fun e w' => e = .returned (.tuple #[.int .u64 132, .int .i64 0]) ∧ ∃ q, w' = w.drewN q := by
  have h := with_any 180 2 4 1 w (by omega) (by omega) (by omega) (by omega)
  have e1 : withVal 180 2 4 1 = 132 := by decide
  have e2 : withErr 2 4 1 = 0 := by decide
  rw [e1, e2] at h
  exact h
theorem shiftA (w : World) : Calls Try.prog 39 #[.int .i64 3, .int .i64 61] w fun e w' => e = .returned (.int .i64 6917529027641081856) ∧ w = w' := by
  have h := shift_any 3 61 w (by omega) (by omega) (by omega) (by omega)
  have e1 : satShift 3 61 = 6917529027641081856 := by decide
  rw [e1] at h
  exact h
theorem shiftB (w : World) : Calls Try.prog 39 #[.int .i64 3, .int .i64 62] w fun e w' => e = .returned (.int .i64 9223372036854775807) ∧ w = w' := by
  have h := shift_any 3 62 w (by omega) (by omega) (by omega) (by omega)
  have e1 : satShift 3 62 = 9223372036854775807 := by decide
  rw [e1] at h
  exact h
theorem shiftC (w : World) : Calls Try.prog 39 #[.int .i64 (-3), .int .i64 64] w fun e w' => e = .returned (.int .i64 (-9223372036854775808)) ∧ w = w' := by
  have h := shift_any (-3) 64 w (by omega) (by omega) (by omega) (by omega)
  have e1 : satShift (-3) 64 = (-9223372036854775808) := by decide
  rw [e1] at h
  exact h
theorem zigA (w : World) : Calls Try.prog 21 #[.int .i64 (-1)] w fun e w' => e = .returned (.int .u64 1) ∧ w = w' := zig_any (-1) w (by omega) (by omega)
theorem zigB (w : World) : Calls Try.prog 21 #[.int .i64 2] w fun e w' => e = .returned (.int .u64 4) ∧ w = w' := zig_any 2 w (by omega) (by omega)
theorem zagA (w : World) : Calls Try.prog 23 #[.int .u64 3] w fun e w' => e = .returned (.int .i64 (-2)) ∧ w = w' := zag_any 3 w (by omega) (by omega)

set_option maxRecDepth 100000 in
set_option maxHeartbeats 4000000 in
theorem knownLaw_any (w : World) : Calls Try.prog 11 #[] w fun e w' => e = .returned (.bool true) ∧ Below w.heap.size w w' := by
  have HB := Lib.hid (Below.refl w.heap.size w)
  have tp : True := trivial
  have tg4 : True := trivial
  have tg9 : True := trivial
  have tva : True := trivial
  have tvb : True := trivial
  have tvc : True := trivial
  have tvd : True := trivial
  have tpe : True := trivial
  have tf1 : True := trivial
  have tf2 : True := trivial
  have tw1 : True := trivial
  have tw2 : True := trivial
  have tw3 : True := trivial
  have tfi : True := trivial
  have twi : True := trivial
  have ts1 : True := trivial
  have ts2 : True := trivial
  have ts3 : True := trivial
  have tz1 : True := trivial
  have tz2 : True := trivial
  have tza : True := trivial
  go_enter Try.func11, Try.ntmps11
  go_wp2_with (first
    | (go_at_call 13; have _t := tp; (refine (put1 _).mono ?_); rintro e w2 ⟨rfl, rfl⟩; clear tp _t)
    | (go_at_call 15; have _t := tg4; (refine (get4 _).mono ?_); rintro e w2 ⟨v, rfl, hb⟩; replace HB := Lib.hid (bl_call (bl_alloc _ HB.out) hb); clear hb; clear tg4 _t)
    | (go_at_call 15; have _t := tg9; (refine (get9 _).mono ?_); rintro e w2 ⟨v, rfl, hb⟩; replace HB := Lib.hid (bl_call (bl_alloc _ HB.out) hb); clear hb; clear tg9 _t)
    | (go_at_call 17; have _t := tva; (refine (getvarA _).mono ?_); rintro e w2 ⟨v, rfl, hb⟩; replace HB := Lib.hid (bl_call (bl_alloc _ HB.out) hb); clear hb; clear tva _t)
    | (go_at_call 17; have _t := tvb; (refine (getvarB _).mono ?_); rintro e w2 ⟨v, rfl, hb⟩; replace HB := Lib.hid (bl_call (bl_alloc _ HB.out) hb); clear hb; clear tvb _t)
    | (go_at_call 17; have _t := tvc; (refine (getvarC _).mono ?_); rintro e w2 ⟨v, rfl, _, q, rfl⟩; clear tvc _t)
    | (go_at_call 17; have _t := tvd; (refine (getvarD' _ _).mono ?_); rintro e w2 ⟨v, rfl, hb⟩; replace HB := Lib.hid (bl_call HB.out hb); clear hb; clear tvd _t)
    | (go_at_call 19; have _t := tpe; (refine (putvarE _).mono ?_); rintro e w2 ⟨v, rfl, ho, hb⟩; have j2 := conv_rb ho.rb; rw [strAC] at j2; replace HB := Lib.hid (bl_call HB.out hb); clear hb ho; clear tpe _t)
    | (go_at_call 25; have _t := tf1; (refine (fitA _).mono ?_); rintro e w2 ⟨rfl, rfl⟩; clear tf1 _t)
    | (go_at_call 25; have _t := tf2; (refine (fitB' _).mono ?_); rintro e w2 ⟨rfl, rfl⟩; clear tf2 _t)
    | (go_at_call 27; have _t := tw1; (refine (widenA _).mono ?_); rintro e w2 ⟨rfl, rfl⟩; clear tw1 _t)
    | (go_at_call 27; have _t := tw2; (refine (widenB _).mono ?_); rintro e w2 ⟨rfl, rfl⟩; clear tw2 _t)
    | (go_at_call 27; have _t := tw3; (refine (widenC _).mono ?_); rintro e w2 ⟨rfl, rfl⟩; clear tw3 _t)
    | (go_at_call 31; have _t := tfi; (refine (fieldA _).mono ?_); rintro e w2 ⟨rfl, q, rfl⟩; clear tfi _t)
    | (go_at_call 33; have _t := twi; (refine (withA _).mono ?_); rintro e w2 ⟨rfl, q, rfl⟩; clear twi _t)
    | (go_at_call 39; have _t := ts1; (refine (shiftA _).mono ?_); rintro e w2 ⟨rfl, rfl⟩; clear ts1 _t)
    | (go_at_call 39; have _t := ts2; (refine (shiftB _).mono ?_); rintro e w2 ⟨rfl, rfl⟩; clear ts2 _t)
    | (go_at_call 39; have _t := ts3; (refine (shiftC _).mono ?_); rintro e w2 ⟨rfl, rfl⟩; clear ts3 _t)
    | (go_at_call 21; have _t := tz1; (refine (zigA _).mono ?_); rintro e w2 ⟨rfl, rfl⟩; clear tz1 _t)
    | (go_at_call 21; have _t := tz2; (refine (zigB _).mono ?_); rintro e w2 ⟨rfl, rfl⟩; clear tz2 _t)
    | (go_at_call 23; have _t := tza; (refine (zagA _).mono ?_); rintro e w2 ⟨rfl, rfl⟩; clear tza _t)
    | (go_at_call 12; (refine (awake_any _).mono ?_); rintro e w5 ⟨rfl, hb⟩; have HB5 := Lib.hid (bl_call (bl_drewN _ HB.out) hb); clear hb))
  go_ret
  exact ⟨rfl, HB5.out⟩
end Go.Proofs.Ytkidgijoopdidaa
