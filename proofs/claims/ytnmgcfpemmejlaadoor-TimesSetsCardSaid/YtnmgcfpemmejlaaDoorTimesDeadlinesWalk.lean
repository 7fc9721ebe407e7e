/- The law TimesDeadlines: the walk. -/
import Derived.Test.YtnmgcfpemmejlaaDoorTimesLb
namespace Go.Proofs.YtnmgcfpemmejlaaDoor
open Go.RowKit Go.Lib
set_option linter.unusedVariables false

def GivesD (w : World) (v : Value) (e : Ending) (w' : World) : Prop := e = .returned v ∧ Below w.heap.size w w'
/-- A time. -/
def T64 (n : Int) : Prop := 0 ≤ n ∧ n ≤ 9223372036854775807
theorem T64.n {n : Int} (h : T64 n) : N64 n := ⟨by have := h.1; omega, h.2⟩
theorem addT_pos {t d : Int} (h1 : T64 t) (h2 : T64 d) : addT t d = min (t + d) 9223372036854775807 := by unfold addT; rw [negB_not h1.1 h2.1]; rfl
theorem addT_t {t d : Int} (h1 : T64 t) (h2 : T64 d) : T64 (addT t d) := by rw [addT_pos h1 h2]; obtain ⟨a, b⟩ := h1; obtain ⟨c, e⟩ := h2; exact ⟨by omega, by omega⟩
theorem add_r (t d x : Int) (w : World) (h1 : T64 t) (h2 : T64 d) (hx : addT t d = x) : Calls Tryd.prog 10 #[.int .i64 t, .int .i64 d] w (NumR w x 0) := by
  have h := add_any t d w h1.n h2.n
  rw [hx, show rngE t d = 0 by unfold rngE; rw [negB_not h1.1 h2.1]; rfl] at h
  exact h
theorem passed_r (t d : Int) (p : Bool) (w : World) (h1 : T64 t) (h2 : T64 d) (hx : decide (t ≤ d) = p) : Calls Tryd.prog 12 #[.int .i64 t, .int .i64 d] w (BoolR w p 0) := by
  have h := passed_any t d w h1.n h2.n
  rw [show passedT t d = p by unfold passedT; rw [negB_not h1.1 h2.1]; simpa using hx, show rngE t d = 0 by unfold rngE; rw [negB_not h1.1 h2.1]; rfl] at h
  exact h
set_option maxRecDepth 100000 in
set_option maxHeartbeats 8000000 in
theorem tdeadlines_any (t a b : Int) (w : World) (ht : N64 t) (ha : N64 a) (hb : N64 b) (hT : TV w) : Calls Tryd.prog 6 #[.int .i64 t, .int .i64 a, .int .i64 b] w (GivesD w (.bool true)) := by
  have HT := Lib.hid hT
  clear hT
  have B0 := Lib.hid (Below.refl w.heap.size w)
  by_cases hneg : t < 0 ∨ a < 0 ∨ b < 0
  · clear ht ha hb
    by_cases h1 : t < 0
    · clear hneg
      go_enter Tryd.func6, Tryd.ntmps6
      go_wp2_with (go_at_call 18; (with_reducible refine (awake_any _ (HT.out.below B0.out)).mono ?_); rintro e w9 ⟨rfl, hb⟩; replace B0 := Lib.hid (bl_call B0.out hb); clear hb)
      go_ret
      exact ⟨rfl, B0.out⟩
    · have e1 : decide (t < 0) = false := decide_eq_false h1
      by_cases h2 : a < 0
      · clear hneg
        go_enter Tryd.func6, Tryd.ntmps6
        go_wp2_with (go_at_call 18; (with_reducible refine (awake_any _ (HT.out.below B0.out)).mono ?_); rintro e w9 ⟨rfl, hb⟩; replace B0 := Lib.hid (bl_call B0.out hb); clear hb)
        go_ret
        exact ⟨rfl, B0.out⟩
      · have e2 : decide (a < 0) = false := decide_eq_false h2
        have h3 : b < 0 := by omega
        clear hneg
        go_enter Tryd.func6, Tryd.ntmps6
        go_wp2_with (go_at_call 18; (with_reducible refine (awake_any _ (HT.out.below B0.out)).mono ?_); rintro e w9 ⟨rfl, hb⟩; replace B0 := Lib.hid (bl_call B0.out hb); clear hb)
        go_ret
        exact ⟨rfl, B0.out⟩
  · have h1 : 0 ≤ t := by omega
    have h2 : 0 ≤ a := by omega
    have h3 : 0 ≤ b := by omega
    have t1 : decide (t < 0) = false := by simp; omega
    have t2 : decide (a < 0) = false := by simp; omega
    have t3 : decide (b < 0) = false := by simp; omega
    have HTt : T64 t := ⟨h1, ht.2⟩
    have HTa : T64 a := ⟨h2, ha.2⟩
    have HTb : T64 b := ⟨h3, hb.2⟩
    clear hneg
    obtain ⟨x, hx⟩ : ∃ x, addT t a = x := ⟨_, rfl⟩
    have HTx : T64 x := by rw [← hx]; exact addT_t HTt HTa
    obtain ⟨y, hy⟩ : ∃ y, addT x b = y := ⟨_, rfl⟩
    obtain ⟨s, hs⟩ : ∃ s, addT a b = s := ⟨_, rfl⟩
    have HTs : T64 s := by rw [← hs]; exact addT_t HTa HTb
    have HTm : T64 (max a b) := ⟨by omega, by have := ha.2; have := hb.2; omega⟩
    obtain ⟨m, hm⟩ : ∃ m, addT t (max a b) = m := ⟨_, rfl⟩
    have hx' := (addT_pos HTt HTa).symm.trans hx
    have hy' := (addT_pos HTx HTb).symm.trans hy
    have hs' := (addT_pos HTa HTb).symm.trans hs
    have hm' := (addT_pos HTt HTm).symm.trans hm
    have hz : addT t s = y := by rw [addT_pos HTt HTs]; omega
    have hw : addT a t = x := by rw [addT_pos HTa HTt]; omega
    obtain ⟨p, hp⟩ : ∃ p, decide (x ≤ t) = p := ⟨_, rfl⟩
    have k1 : t ≤ x := by have := ht.2; omega
    have k2 : a ≤ x := by have := ha.2; omega
    have k3 : x ≤ y := by have := HTx.2; omega
    have k4 : x ≤ m := by omega
    have KP : (a = 0 ∧ p = true) ∨ (a ≠ 0 ∧ t = 9223372036854775807 ∧ p = true) ∨ (a ≠ 0 ∧ t ≠ 9223372036854775807 ∧ p = false) := by
      by_cases q1 : a = 0
      · exact .inl ⟨q1, by rw [← hp]; exact decide_eq_true (by omega)⟩
      · by_cases q2 : t = 9223372036854775807
        · exact .inr (.inl ⟨q1, q2, by rw [← hp]; exact decide_eq_true (by have := HTx.2; omega)⟩)
        · exact .inr (.inr ⟨q1, q2, by rw [← hp]; exact decide_eq_false (by have := ht.2; omega)⟩)
    have Gt := Lib.hid HTt; have Ga := Lib.hid HTa; have Gb := Lib.hid HTb; have Gx := Lib.hid HTx; have Gs := Lib.hid HTs; have Gm := Lib.hid HTm
    have X := Lib.hid hx; have Y := Lib.hid hy; have S := Lib.hid hs; have M := Lib.hid hm; have Z := Lib.hid hz; have W := Lib.hid hw; have P := Lib.hid hp
    clear hx hy hs hm hz hw hp hx' hy' hs' hm' HTt HTa HTb HTx HTs HTm ht ha hb
    have n1 : decide (x < t) = false := by simp; omega
    have n2 : decide (x < a) = false := by simp; omega
    have n3 : decide (y < x) = false := by simp; omega
    have n4 : decide (x ≤ m) = true := by simp; omega
    have tk1 : True := trivial
    have tk2 : True := trivial
    have tk3 : True := trivial
    have tk4 : True := trivial
    have tk5 : True := trivial
    rcases KP with ⟨q1, rfl⟩ | ⟨q1, q2, rfl⟩ | ⟨q1, q2, rfl⟩
    · have f1 : (a == 0) = true := by simpa using q1
      clear q1
      go_enter Tryd.func6, Tryd.ntmps6
      go_wp2_with (first
        | (go_at_call 10; have _t := tk1; (with_reducible refine (add_r t a x _ Gt.out Ga.out X.out).mono ?_); rintro e w1 ⟨rfl, hb⟩; replace B0 := Lib.hid (bl_call B0.out hb); clear hb tk1)
        | (go_at_call 10; have _t := tk2; (with_reducible refine (add_r x b y _ Gx.out Gb.out Y.out).mono ?_); rintro e w2 ⟨rfl, hb⟩; replace B0 := Lib.hid (bl_call B0.out hb); clear hb tk2)
        | (go_at_call 10; have _t := tk3; (with_reducible refine (add_r a b s _ Ga.out Gb.out S.out).mono ?_); rintro e w3 ⟨rfl, hb⟩; replace B0 := Lib.hid (bl_call B0.out hb); clear hb tk3)
        | (go_at_call 10; have _t := tk4; (with_reducible refine (add_r t s y _ Gt.out Gs.out Z.out).mono ?_); rintro e w4 ⟨rfl, hb⟩; replace B0 := Lib.hid (bl_call B0.out hb); clear hb tk4)
        | (go_at_call 10; have _t := tk5; (with_reducible refine (add_r a t x _ Ga.out Gt.out W.out).mono ?_); rintro e w5 ⟨rfl, hb⟩; replace B0 := Lib.hid (bl_call B0.out hb); clear hb tk5)
        | (go_at_call 10; (with_reducible refine (add_r t (max a b) m _ Gt.out Gm.out M.out).mono ?_); rintro e w6 ⟨rfl, hb⟩; replace B0 := Lib.hid (bl_call B0.out hb); clear hb)
        | (go_at_call 12; (with_reducible refine (passed_r x t _ _ Gx.out Gt.out P.out).mono ?_); rintro e w7 ⟨rfl, hb⟩; replace B0 := Lib.hid (bl_call B0.out hb); clear hb)
        | (go_at_call 18; (with_reducible refine (awake_any _ (HT.out.below B0.out)).mono ?_); rintro e w9 ⟨rfl, hb⟩; replace B0 := Lib.hid (bl_call B0.out hb); clear hb))
      go_ret
      exact ⟨rfl, B0.out⟩
    · have f1 : (a == 0) = false := by simpa using q1
      have f2 : (t == 9223372036854775807) = true := by simpa using q2
      clear q1 q2
      go_enter Tryd.func6, Tryd.ntmps6
      go_wp2_with (first
        | (go_at_call 10; have _t := tk1; (with_reducible refine (add_r t a x _ Gt.out Ga.out X.out).mono ?_); rintro e w1 ⟨rfl, hb⟩; replace B0 := Lib.hid (bl_call B0.out hb); clear hb tk1)
        | (go_at_call 10; have _t := tk2; (with_reducible refine (add_r x b y _ Gx.out Gb.out Y.out).mono ?_); rintro e w2 ⟨rfl, hb⟩; replace B0 := Lib.hid (bl_call B0.out hb); clear hb tk2)
        | (go_at_call 10; have _t := tk3; (with_reducible refine (add_r a b s _ Ga.out Gb.out S.out).mono ?_); rintro e w3 ⟨rfl, hb⟩; replace B0 := Lib.hid (bl_call B0.out hb); clear hb tk3)
        | (go_at_call 10; have _t := tk4; (with_reducible refine (add_r t s y _ Gt.out Gs.out Z.out).mono ?_); rintro e w4 ⟨rfl, hb⟩; replace B0 := Lib.hid (bl_call B0.out hb); clear hb tk4)
        | (go_at_call 10; have _t := tk5; (with_reducible refine (add_r a t x _ Ga.out Gt.out W.out).mono ?_); rintro e w5 ⟨rfl, hb⟩; replace B0 := Lib.hid (bl_call B0.out hb); clear hb tk5)
        | (go_at_call 10; (with_reducible refine (add_r t (max a b) m _ Gt.out Gm.out M.out).mono ?_); rintro e w6 ⟨rfl, hb⟩; replace B0 := Lib.hid (bl_call B0.out hb); clear hb)
        | (go_at_call 12; (with_reducible refine (passed_r x t _ _ Gx.out Gt.out P.out).mono ?_); rintro e w7 ⟨rfl, hb⟩; replace B0 := Lib.hid (bl_call B0.out hb); clear hb)
        | (go_at_call 18; (with_reducible refine (awake_any _ (HT.out.below B0.out)).mono ?_); rintro e w9 ⟨rfl, hb⟩; replace B0 := Lib.hid (bl_call B0.out hb); clear hb))
      go_ret
      exact ⟨rfl, B0.out⟩
    · have f1 : (a == 0) = false := by simpa using q1
      have f2 : (t == 9223372036854775807) = false := by simpa using q2
      clear q1 q2
      go_enter Tryd.func6, Tryd.ntmps6
      go_wp2_with (first
        | (go_at_call 10; have _t := tk1; (with_reducible refine (add_r t a x _ Gt.out Ga.out X.out).mono ?_); rintro e w1 ⟨rfl, hb⟩; replace B0 := Lib.hid (bl_call B0.out hb); clear hb tk1)
        | (go_at_call 10; have _t := tk2; (with_reducible refine (add_r x b y _ Gx.out Gb.out Y.out).mono ?_); rintro e w2 ⟨rfl, hb⟩; replace B0 := Lib.hid (bl_call B0.out hb); clear hb tk2)
        | (go_at_call 10; have _t := tk3; (with_reducible refine (add_r a b s _ Ga.out Gb.out S.out).mono ?_); rintro e w3 ⟨rfl, hb⟩; replace B0 := Lib.hid (bl_call B0.out hb); clear hb tk3)
        | (go_at_call 10; have _t := tk4; (with_reducible refine (add_r t s y _ Gt.out Gs.out Z.out).mono ?_); rintro e w4 ⟨rfl, hb⟩; replace B0 := Lib.hid (bl_call B0.out hb); clear hb tk4)
        | (go_at_call 10; have _t := tk5; (with_reducible refine (add_r a t x _ Ga.out Gt.out W.out).mono ?_); rintro e w5 ⟨rfl, hb⟩; replace B0 := Lib.hid (bl_call B0.out hb); clear hb tk5)
        | (go_at_call 10; (with_reducible refine (add_r t (max a b) m _ Gt.out Gm.out M.out).mono ?_); rintro e w6 ⟨rfl, hb⟩; replace B0 := Lib.hid (bl_call B0.out hb); clear hb)
        | (go_at_call 12; (with_reducible refine (passed_r x t _ _ Gx.out Gt.out P.out).mono ?_); rintro e w7 ⟨rfl, hb⟩; replace B0 := Lib.hid (bl_call B0.out hb); clear hb)
        | (go_at_call 18; (with_reducible refine (awake_any _ (HT.out.below B0.out)).mono ?_); rintro e w9 ⟨rfl, hb⟩; replace B0 := Lib.hid (bl_call B0.out hb); clear hb))
      go_ret
      exact ⟨rfl, B0.out⟩
end Go.Proofs.YtnmgcfpemmejlaaDoor
