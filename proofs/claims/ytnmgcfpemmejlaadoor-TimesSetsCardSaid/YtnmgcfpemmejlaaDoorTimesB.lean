/- Spans: Check and Meet of both sides, the reference's Left. -/
import Derived.Test.YtnmgcfpemmejlaaDoorTimesA
import Derived.Test.YtnmgcfpemmejlaaDoorTimesR
namespace Go.Proofs.YtnmgcfpemmejlaaDoor
open Go.RowKit Go.Lib
set_option linter.unusedVariables false

set_option maxHeartbeats 1000000 in
theorem rleft_any (t d : Int) (w : World) (ht : N64 t) (hd : N64 d) : Calls Tryd.prog 15 #[.int .i64 t, .int .i64 d] w (NumR w (leftT t d) (rngE t d)) := by
  have HT := Lib.hid ht; have HD := Lib.hid hd
  obtain ⟨t1, t2⟩ := ht; obtain ⟨d1, d2⟩ := hd
  obtain ⟨b, hb⟩ : ∃ b, passedT t d = b := ⟨_, rfl⟩
  obtain ⟨r, hr⟩ : ∃ r, rngE t d = r := ⟨_, rfl⟩
  have HB := Lib.hid hb; have HR := Lib.hid hr
  cases hn : negB t d with
  | true =>
    have e1 : b = false := by rw [← hb]; unfold passedT; rw [hn]; rfl
    have e2 : r = 7 := by rw [← hr]; unfold rngE; rw [hn]; rfl
    subst e1 e2
    have HN := Lib.hid hn
    clear hb hr hn
    go_enter Tryd.func15, Tryd.ntmps15
    go_wp2_with (go_at_call 13; (with_reducible refine (rpassed_any t d _ HT.out HD.out).mono ?_); rintro e w' ⟨rfl, hb⟩; rw [HB.out, HR.out]; have B1 := Lib.hid hb; clear hb)
    all_goals go_ret2
    all_goals exact ⟨ret_nn (by unfold leftT; rw [HN.out]; rfl) HR.out.symm, B1.out⟩
  | false =>
    obtain ⟨h1, h2⟩ := negB_no hn
    have e1 : b = decide (t ≤ d) := by rw [← hb]; unfold passedT; rw [hn]; rfl
    have e2 : r = 0 := by rw [← hr]; unfold rngE; rw [hn]; rfl
    subst e2
    have HN := Lib.hid hn
    by_cases hle : t ≤ d
    · obtain rfl : b = true := by rw [e1]; exact decide_eq_true hle
      clear hb hr hn e1
      go_enter Tryd.func15, Tryd.ntmps15
      go_wp2_with (go_at_call 13; (with_reducible refine (rpassed_any t d _ HT.out HD.out).mono ?_); rintro e w' ⟨rfl, hb⟩; rw [HB.out, HR.out]; have B1 := Lib.hid hb; clear hb)
      all_goals go_ret2
      all_goals exact ⟨ret_nn (by unfold leftT; rw [HN.out, if_neg (by decide)]; omega) HR.out.symm, B1.out⟩
    · obtain rfl : b = false := by rw [e1]; exact decide_eq_false hle
      clear hb hr hn e1
      go_enter Tryd.func15, Tryd.ntmps15
      go_wp2_with (go_at_call 13; (with_reducible refine (rpassed_any t d _ HT.out HD.out).mono ?_); rintro e w' ⟨rfl, hb⟩; rw [HB.out, HR.out]; have B1 := Lib.hid hb; clear hb)
      all_goals go_ret2
      all_goals exact ⟨ret_nn (by unfold leftT; rw [HN.out, if_neg (by decide)]; omega) HR.out.symm, B1.out⟩

def S64 (s : Span) : Prop := N64 s.1 ∧ N64 s.2
theorem chkS_neg {s : Span} (h : negB s.1 s.2 = true) : chkS s = 7 := by unfold chkS; rw [if_pos (negB_yes h)]
theorem chkS_form {s : Span} (h : negB s.1 s.2 = false) (h2 : s.2 ≤ s.1) : chkS s = 6 := by unfold chkS; have := negB_no h; rw [if_neg (by omega), if_pos h2]
theorem chkS_good {s : Span} (h : negB s.1 s.2 = false) (h2 : ¬ s.2 ≤ s.1) : chkS s = 0 := by unfold chkS; have := negB_no h; rw [if_neg (by omega), if_neg h2]
def SpV (s : Span) : Value := .agg #[.int .i64 s.1, .int .i64 s.2]
def IntR (w : World) (r : Int) (e : Ending) (w' : World) : Prop := e = .returned (.int .i64 r) ∧ Below w.heap.size w w'

theorem bl_al {n : Nat} {w w1 : World} (o : Obj) (h : Below n w w1) (hn : n ≤ w1.heap.size) : Below n w (w1.alloc o) := h.alloc hn _
set_option maxRecDepth 20000 in
set_option maxHeartbeats 1000000 in
theorem check_any (x y : Int) (w : World) (hx : N64 x) (hy : N64 y) : Calls Tryd.prog 22 #[.agg #[.int .i64 x, .int .i64 y]] w (IntR w (chkS (x, y))) := by
  obtain ⟨t1, t2⟩ := hx; obtain ⟨d1, d2⟩ := hy
  obtain ⟨b, hb⟩ : ∃ b, negB x y = b := ⟨_, rfl⟩
  have HB := Lib.hid hb; clear hb
  cases b with
  | true =>
    go_enter Tryd.func22, Tryd.ntmps22
    go_wp2_with (go_at_call 36; (with_reducible refine (anyNeg2 x y true _ _ _ (by simp) HB.out).mono ?_); rintro e w' ⟨rfl, rfl⟩)
    go_ret
    exact ⟨ret_int (chkS_neg HB.out).symm, ((Below.refl _ _).alloc (Nat.le_refl _) _).alloc (by simp) _⟩
  | false =>
    by_cases hle : y ≤ x
    all_goals
      go_enter Tryd.func22, Tryd.ntmps22
      go_wp2_with (go_at_call 36; (with_reducible refine (anyNeg2 x y false _ _ _ (by simp) HB.out).mono ?_); rintro e w' ⟨rfl, rfl⟩)
      go_ret
      exact ⟨ret_int (by first | rw [chkS_form HB.out (by simp only; omega)] | rw [chkS_good HB.out (by simp only; omega)]), ((Below.refl _ _).alloc (Nat.le_refl _) _).alloc (by simp) _⟩
set_option maxRecDepth 20000 in
set_option maxHeartbeats 1000000 in
theorem rcheck_any (x y : Int) (w : World) (hx : N64 x) (hy : N64 y) : Calls Tryd.prog 23 #[.agg #[.int .i64 x, .int .i64 y]] w (IntR w (chkS (x, y))) := by
  obtain ⟨t1, t2⟩ := hx; obtain ⟨d1, d2⟩ := hy
  obtain ⟨b, hb⟩ : ∃ b, negB x y = b := ⟨_, rfl⟩
  have HB := Lib.hid hb; clear hb
  cases b with
  | true =>
    go_enter Tryd.func23, Tryd.ntmps23
    go_wp2_with (go_at_call 37; (with_reducible refine (both_r x y true _ HB.out).mono ?_); rintro e w' ⟨rfl, rfl⟩)
    all_goals go_ret
    all_goals exact ⟨ret_int (chkS_neg HB.out).symm, (Below.refl _ _).alloc (Nat.le_refl _) _⟩
  | false =>
    by_cases hle : y ≤ x
    all_goals
      go_enter Tryd.func23, Tryd.ntmps23
      go_wp2_with (go_at_call 37; (with_reducible refine (both_r x y false _ HB.out).mono ?_); rintro e w' ⟨rfl, rfl⟩)
      all_goals go_ret
      all_goals exact ⟨ret_int (by first | rw [chkS_form HB.out (by simp only; omega)] | rw [chkS_good HB.out (by simp only; omega)]), (Below.refl _ _).alloc (Nat.le_refl _) _⟩
end Go.Proofs.YtnmgcfpemmejlaaDoor
