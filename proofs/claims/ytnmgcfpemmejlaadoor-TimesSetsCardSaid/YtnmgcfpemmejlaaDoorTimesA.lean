/- Sums of times, of both sides: anyNegative, Add, Passed, Left, Advance. -/
import Derived.Test.YtnmgcfpemmejlaaDoorChecked
import Derived.WalkKit
import Derived.WalkSpells
import Derived.WalkLawsBesides
import Derived.Outline
import Derived.Lib.Hide
import Derived.IntWalk
namespace Go.Proofs.YtnmgcfpemmejlaaDoor
open Go.RowKit Go.Lib
set_option linter.unusedVariables false

theorem ret_bool {a b : Bool} (h : a = b) : Ending.returned (.bool a) = .returned (.bool b) := by rw [h]
theorem ret_int {k : IntKind} {a b : Int} (h : a = b) : Ending.returned (.int k a) = .returned (.int k b) := by rw [h]
/-- A number of 64 bits. -/
def N64 (n : Int) : Prop := -9223372036854775808 ≤ n ∧ n ≤ 9223372036854775807
def negB (x y : Int) : Bool := decide (x < 0) || decide (y < 0)
theorem negB_yes {x y : Int} (h : negB x y = true) : x < 0 ∨ y < 0 := by simpa [negB] using h
theorem negB_no {x y : Int} (h : negB x y = false) : 0 ≤ x ∧ 0 ≤ y := by simpa [negB] using h
theorem negB_of {x y : Int} (h : x < 0 ∨ y < 0) : negB x y = true := by simpa [negB] using h
theorem negB_not {x y : Int} (h1 : 0 ≤ x) (h2 : 0 ≤ y) : negB x y = false := by simp [negB]; omega

set_option maxRecDepth 20000 in
set_option maxHeartbeats 1000000 in
theorem anyNeg_any (g c : Nat) (l : List Int) (w : World) (hl : l.length ≤ 100) (hc : ∀ i, i < l.length → w.cell? ⟨g, i, none⟩ = some (.int .i64 (l.getD i 0))) :
    Calls Tryd.prog 36 #[.slice (some ⟨g, 0, none⟩) l.length c] w fun e w' => e = .returned (.bool (l.any fun x => decide (x < 0))) ∧ w = w' := by
  obtain ⟨N, hN⟩ : ∃ N, l.length = N := ⟨_, rfl⟩
  rw [hN] at hl ⊢
  have HN := Lib.hid hN; have HC := Lib.hid hc
  clear hN hc
  go_enter Tryd.func36, Tryd.ntmps36
  go_wp2_with fail
  go_loop [4, 7] (fun x i => ∃ k : Nat, k ≤ N ∧ i = .int .i64 k ∧ Hid ((l.take k).any (fun x => decide (x < 0)) = false)) (fun _ i => N - (intOf i).toNat)
  case atStart => exact ⟨0, by omega, rfl, Lib.hid rfl⟩
  case round =>
    obtain ⟨k, hk, rfl, HX⟩ := hrel
    by_cases hlt : k < N
    · have hc := HC.out k (by rw [HN.out]; exact hlt)
      have hg : l.take (k + 1) = l.take k ++ [l.getD k 0] := by
        rw [List.take_succ_eq_append_getElem (by rw [HN.out]; exact hlt), List.getD_eq_getElem?_getD, List.getElem?_eq_getElem (by rw [HN.out]; exact hlt)]; rfl
      have hm : l.getD k 0 ∈ l := by
        rw [List.getD_eq_getElem?_getD, List.getElem?_eq_getElem (by rw [HN.out]; exact hlt)]; exact List.getElem_mem _
      obtain ⟨x, hx⟩ : ∃ x, l.getD k 0 = x := ⟨_, rfl⟩
      rw [hx] at hc hg hm
      have HG := Lib.hid hg
      clear hx hg
      by_cases h0 : x < 0
      · have HR : Hid ((l.any fun x => decide (x < 0)) = true) := Lib.hid (List.any_eq_true.2 ⟨x, hm, decide_eq_true h0⟩)
        clear hm
        go_wp2_with fail
        go_ret
        exact ⟨ret_bool HR.out.symm, rfl⟩
      · have HR : Hid ((l.take (k + 1)).any (fun x => decide (x < 0)) = false) := Lib.hid (by rw [HG.out, List.any_append, HX.out]; simp; omega)
        clear hm
        go_wp2_with fail
        go_round
        case rel => exact ⟨k + 1, by omega, by go_num, HR⟩
        case measure => simp [intOf]; omega
    · have HR : Hid ((l.any fun x => decide (x < 0)) = false) := Lib.hid (by have := HX.out; rwa [List.take_of_length_le (by rw [HN.out]; omega)] at this)
      go_wp2_with fail
      go_ret
      exact ⟨ret_bool HR.out.symm, rfl⟩
theorem cell_fresh (w : World) (cs : Array Value) (t : TypeId) (i : Nat) : (w.alloc (.cells cs t)).cell? ⟨w.heap.size, i, none⟩ = cs[i]? := World.cell?_alloc_at _ _ _ _ rfl
theorem anyNeg2 (x y : Int) (b : Bool) (T : TypeId) (W : World) (g : Nat) (hg : g = W.heap.size) (hb : negB x y = b) :
    Calls Tryd.prog 36 #[.slice (some ⟨g, 0, none⟩) 2 2] (W.alloc (.cells #[.int .i64 x, .int .i64 y] T)) fun e w' => e = .returned (.bool b) ∧ W.alloc (.cells #[.int .i64 x, .int .i64 y] T) = w' := by
  subst hg
  refine (anyNeg_any W.heap.size 2 [x, y] _ (by simp) (fun i hi => ?_)).mono fun e w' ⟨he, hw⟩ => ⟨by rw [he, ← hb]; simp [negB], hw⟩
  rw [cell_fresh]
  match i, hi with
  | 0, _ => rfl
  | 1, _ => rfl
theorem anyNeg1 (x : Int) (b : Bool) (T : TypeId) (W : World) (g : Nat) (hg : g = W.heap.size) (hb : decide (x < 0) = b) :
    Calls Tryd.prog 36 #[.slice (some ⟨g, 0, none⟩) 1 1] (W.alloc (.cells #[.int .i64 x] T)) fun e w' => e = .returned (.bool b) ∧ W.alloc (.cells #[.int .i64 x] T) = w' := by
  subst hg
  refine (anyNeg_any W.heap.size 1 [x] _ (by simp) (fun i hi => ?_)).mono fun e w' ⟨he, hw⟩ => ⟨by rw [he, ← hb]; simp, hw⟩
  rw [cell_fresh]
  match i, hi with
  | 0, _ => rfl

/-! ### What they return -/
def addT (t d : Int) : Int := if negB t d = true then 0 else min (t + d) 9223372036854775807
def passedT (d n : Int) : Bool := !negB d n && decide (d ≤ n)
def leftT (d n : Int) : Int := if negB d n = true then 0 else max (d - n) 0
def advT (n t : Int) : Int := if negB n t = true then 0 else if t < n then 0 else t
def rngE (x y : Int) : Int := if negB x y = true then 7 else 0
def advE (n t : Int) : Int := if negB n t = true then 7 else if t < n then 18 else 0
theorem bl_self1 (w : World) (o : Obj) : Below w.heap.size w (w.alloc o) := (Below.refl _ _).alloc (Nat.le_refl _) _

def NumR (w : World) (x r : Int) (e : Ending) (w' : World) : Prop := e = .returned (.tuple #[.int .i64 x, .int .i64 r]) ∧ Below w.heap.size w w'
def BoolR (w : World) (x : Bool) (r : Int) (e : Ending) (w' : World) : Prop := e = .returned (.tuple #[.bool x, .int .i64 r]) ∧ Below w.heap.size w w'
theorem ret_nn {a b c d : Int} (h1 : a = c) (h2 : b = d) : Ending.returned (.tuple #[.int .i64 a, .int .i64 b]) = .returned (.tuple #[.int .i64 c, .int .i64 d]) := by rw [h1, h2]
theorem ret_bn {a c : Bool} {b d : Int} (h1 : a = c) (h2 : b = d) : Ending.returned (.tuple #[.bool a, .int .i64 b]) = .returned (.tuple #[.bool c, .int .i64 d]) := by rw [h1, h2]

set_option maxHeartbeats 1000000 in
theorem add_any (t d : Int) (w : World) (ht : N64 t) (hd : N64 d) : Calls Tryd.prog 10 #[.int .i64 t, .int .i64 d] w (NumR w (addT t d) (rngE t d)) := by
  obtain ⟨t1, t2⟩ := ht; obtain ⟨d1, d2⟩ := hd
  obtain ⟨b, hb⟩ : ∃ b, negB t d = b := ⟨_, rfl⟩
  have HB := Lib.hid hb; clear hb
  cases b with
  | true =>
    go_enter Tryd.func10, Tryd.ntmps10
    go_wp2_with (go_at_call 36; (with_reducible refine (anyNeg2 t d true _ _ _ (by simp) HB.out).mono ?_); rintro e w' ⟨rfl, rfl⟩)
    go_ret2
    exact ⟨ret_nn (by unfold addT; rw [HB.out]; rfl) (by unfold rngE; rw [HB.out]; rfl), bl_self1 _ _⟩
  | false =>
    obtain ⟨h1, h2⟩ := negB_no HB.out
    go_enter Tryd.func10, Tryd.ntmps10
    go_wp2_with (go_at_call 36; (with_reducible refine (anyNeg2 t d false _ _ _ (by simp) HB.out).mono ?_); rintro e w' ⟨rfl, rfl⟩)
    all_goals go_ret2
    all_goals refine ⟨ret_nn (by unfold addT; rw [HB.out, if_neg (by decide)]; omega) (by unfold rngE; rw [HB.out]; rfl), bl_self1 _ _⟩
set_option maxHeartbeats 1000000 in
theorem passed_any (t d : Int) (w : World) (ht : N64 t) (hd : N64 d) : Calls Tryd.prog 12 #[.int .i64 t, .int .i64 d] w (BoolR w (passedT t d) (rngE t d)) := by
  obtain ⟨t1, t2⟩ := ht; obtain ⟨d1, d2⟩ := hd
  obtain ⟨b, hb⟩ : ∃ b, negB t d = b := ⟨_, rfl⟩
  have HB := Lib.hid hb; clear hb
  cases b with
  | true =>
    go_enter Tryd.func12, Tryd.ntmps12
    go_wp2_with (go_at_call 36; (with_reducible refine (anyNeg2 t d true _ _ _ (by simp) HB.out).mono ?_); rintro e w' ⟨rfl, rfl⟩)
    go_ret2
    exact ⟨ret_bn (by unfold passedT; rw [HB.out]; rfl) (by unfold rngE; rw [HB.out]; rfl), bl_self1 _ _⟩
  | false =>
    obtain ⟨h1, h2⟩ := negB_no HB.out
    go_enter Tryd.func12, Tryd.ntmps12
    go_wp2_with (go_at_call 36; (with_reducible refine (anyNeg2 t d false _ _ _ (by simp) HB.out).mono ?_); rintro e w' ⟨rfl, rfl⟩)
    all_goals go_ret2
    all_goals refine ⟨ret_bn (by unfold passedT; rw [HB.out]; simp) (by unfold rngE; rw [HB.out]; rfl), bl_self1 _ _⟩
set_option maxHeartbeats 1000000 in
theorem left_any (t d : Int) (w : World) (ht : N64 t) (hd : N64 d) : Calls Tryd.prog 14 #[.int .i64 t, .int .i64 d] w (NumR w (leftT t d) (rngE t d)) := by
  obtain ⟨t1, t2⟩ := ht; obtain ⟨d1, d2⟩ := hd
  obtain ⟨b, hb⟩ : ∃ b, negB t d = b := ⟨_, rfl⟩
  have HB := Lib.hid hb; clear hb
  cases b with
  | true =>
    go_enter Tryd.func14, Tryd.ntmps14
    go_wp2_with (go_at_call 36; (with_reducible refine (anyNeg2 t d true _ _ _ (by simp) HB.out).mono ?_); rintro e w' ⟨rfl, rfl⟩)
    go_ret2
    exact ⟨ret_nn (by unfold leftT; rw [HB.out]; rfl) (by unfold rngE; rw [HB.out]; rfl), bl_self1 _ _⟩
  | false =>
    obtain ⟨h1, h2⟩ := negB_no HB.out
    go_enter Tryd.func14, Tryd.ntmps14
    go_wp2_with (go_at_call 36; (with_reducible refine (anyNeg2 t d false _ _ _ (by simp) HB.out).mono ?_); rintro e w' ⟨rfl, rfl⟩)
    all_goals go_ret2
    all_goals refine ⟨ret_nn (by unfold leftT; rw [HB.out, if_neg (by decide)]; omega) (by unfold rngE; rw [HB.out]; rfl), bl_self1 _ _⟩
set_option maxHeartbeats 1000000 in
theorem advance_any (t d : Int) (w : World) (ht : N64 t) (hd : N64 d) : Calls Tryd.prog 16 #[.int .i64 t, .int .i64 d] w (NumR w (advT t d) (advE t d)) := by
  obtain ⟨t1, t2⟩ := ht; obtain ⟨d1, d2⟩ := hd
  obtain ⟨b, hb⟩ : ∃ b, negB t d = b := ⟨_, rfl⟩
  have HB := Lib.hid hb; clear hb
  cases b with
  | true =>
    go_enter Tryd.func16, Tryd.ntmps16
    go_wp2_with (go_at_call 36; (with_reducible refine (anyNeg2 t d true _ _ _ (by simp) HB.out).mono ?_); rintro e w' ⟨rfl, rfl⟩)
    go_ret2
    exact ⟨ret_nn (by unfold advT; rw [HB.out]; rfl) (by unfold advE; rw [HB.out]; rfl), bl_self1 _ _⟩
  | false =>
    obtain ⟨h1, h2⟩ := negB_no HB.out
    go_enter Tryd.func16, Tryd.ntmps16
    go_wp2_with (go_at_call 36; (with_reducible refine (anyNeg2 t d false _ _ _ (by simp) HB.out).mono ?_); rintro e w' ⟨rfl, rfl⟩)
    all_goals go_ret2
    all_goals refine ⟨ret_nn (by unfold advT; rw [HB.out, if_neg (by decide)]; first | rw [if_pos (by omega)] | rw [if_neg (by omega)]) (by unfold advE; rw [HB.out, if_neg (by decide)]; first | rw [if_pos (by omega)] | rw [if_neg (by omega)]), bl_self1 _ _⟩

/-! ### The reference's -/
theorem both_any (x y : Int) (w : World) : Calls Tryd.prog 37 #[.int .i64 x, .int .i64 y] w fun e w' => e = .returned (.int .i64 (rngE x y)) ∧ w = w' := by
  cases h : negB x y with
  | true =>
    have h1 := negB_yes h
    have HB := Lib.hid h; clear h
    rcases h1 with h1 | h1
    all_goals
      go_enter Tryd.func37, Tryd.ntmps37
      go_wp2_with fail
      all_goals go_ret
      all_goals exact ⟨ret_int (by unfold rngE; rw [HB.out]; rfl), rfl⟩
  | false =>
    obtain ⟨h1, h2⟩ := negB_no h
    have HB := Lib.hid h; clear h
    go_enter Tryd.func37, Tryd.ntmps37
    go_wp2_with fail
    all_goals go_ret
    all_goals exact ⟨ret_int (by unfold rngE; rw [HB.out]; rfl), rfl⟩
theorem both_r (x y : Int) (b : Bool) (w : World) (hb : negB x y = b) : Calls Tryd.prog 37 #[.int .i64 x, .int .i64 y] w fun e w' => e = .returned (.int .i64 (if b then 7 else 0)) ∧ w = w' :=
  (both_any x y w).mono fun e w' ⟨he, hw⟩ => ⟨he.trans (ret_int (by unfold rngE; rw [hb])), hw⟩
set_option maxHeartbeats 1000000 in
theorem radd_any (t d : Int) (w : World) (ht : N64 t) (hd : N64 d) : Calls Tryd.prog 11 #[.int .i64 t, .int .i64 d] w (NumR w (addT t d) (rngE t d)) := by
  obtain ⟨t1, t2⟩ := ht; obtain ⟨d1, d2⟩ := hd
  obtain ⟨b, hb⟩ : ∃ b, negB t d = b := ⟨_, rfl⟩
  have HB := Lib.hid hb; clear hb
  cases b with
  | true =>
    go_enter Tryd.func11, Tryd.ntmps11
    go_wp2_with (go_at_call 37; (with_reducible refine (both_r t d true _ HB.out).mono ?_); rintro e w' ⟨rfl, rfl⟩)
    all_goals go_ret2
    all_goals exact ⟨ret_nn (by unfold addT; rw [HB.out]; rfl) (by unfold rngE; rw [HB.out]; rfl), Below.refl _ _⟩
  | false =>
    obtain ⟨h1, h2⟩ := negB_no HB.out
    go_enter Tryd.func11, Tryd.ntmps11
    go_wp2_with (go_at_call 37; (with_reducible refine (both_r t d false _ HB.out).mono ?_); rintro e w' ⟨rfl, rfl⟩)
    all_goals go_ret2
    all_goals exact ⟨ret_nn (by unfold addT; rw [HB.out, if_neg (by decide)]; omega) (by unfold rngE; rw [HB.out]; rfl), Below.refl _ _⟩
set_option maxHeartbeats 1000000 in
theorem rpassed_any (t d : Int) (w : World) (ht : N64 t) (hd : N64 d) : Calls Tryd.prog 13 #[.int .i64 t, .int .i64 d] w (BoolR w (passedT t d) (rngE t d)) := by
  obtain ⟨t1, t2⟩ := ht; obtain ⟨d1, d2⟩ := hd
  obtain ⟨b, hb⟩ : ∃ b, negB t d = b := ⟨_, rfl⟩
  have HB := Lib.hid hb; clear hb
  cases b with
  | true =>
    go_enter Tryd.func13, Tryd.ntmps13
    go_wp2_with (go_at_call 37; (with_reducible refine (both_r t d true _ HB.out).mono ?_); rintro e w' ⟨rfl, rfl⟩)
    all_goals go_ret2
    all_goals exact ⟨ret_bn (by unfold passedT; rw [HB.out]; rfl) (by unfold rngE; rw [HB.out]; rfl), Below.refl _ _⟩
  | false =>
    obtain ⟨h1, h2⟩ := negB_no HB.out
    go_enter Tryd.func13, Tryd.ntmps13
    go_wp2_with (go_at_call 37; (with_reducible refine (both_r t d false _ HB.out).mono ?_); rintro e w' ⟨rfl, rfl⟩)
    all_goals go_ret2
    all_goals exact ⟨ret_bn (by unfold passedT; rw [HB.out]; simp) (by unfold rngE; rw [HB.out]; rfl), Below.refl _ _⟩
set_option maxHeartbeats 1000000 in
theorem radvance_any (t d : Int) (w : World) (ht : N64 t) (hd : N64 d) : Calls Tryd.prog 17 #[.int .i64 t, .int .i64 d] w (NumR w (advT t d) (advE t d)) := by
  obtain ⟨t1, t2⟩ := ht; obtain ⟨d1, d2⟩ := hd
  obtain ⟨b, hb⟩ : ∃ b, negB t d = b := ⟨_, rfl⟩
  have HB := Lib.hid hb; clear hb
  cases b with
  | true =>
    go_enter Tryd.func17, Tryd.ntmps17
    go_wp2_with (go_at_call 37; (with_reducible refine (both_r t d true _ HB.out).mono ?_); rintro e w' ⟨rfl, rfl⟩)
    all_goals go_ret2
    all_goals exact ⟨ret_nn (by unfold advT; rw [HB.out]; rfl) (by unfold advE; rw [HB.out]; rfl), Below.refl _ _⟩
  | false =>
    obtain ⟨h1, h2⟩ := negB_no HB.out
    go_enter Tryd.func17, Tryd.ntmps17
    go_wp2_with (go_at_call 37; (with_reducible refine (both_r t d false _ HB.out).mono ?_); rintro e w' ⟨rfl, rfl⟩)
    all_goals go_ret2
    all_goals exact ⟨ret_nn (by unfold advT; rw [HB.out, if_neg (by decide)]; first | rw [if_pos (by omega)] | rw [if_neg (by omega)]) (by unfold advE; rw [HB.out, if_neg (by decide)]; first | rw [if_pos (by omega)] | rw [if_neg (by omega)]), Below.refl _ _⟩
end Go.Proofs.YtnmgcfpemmejlaaDoor
