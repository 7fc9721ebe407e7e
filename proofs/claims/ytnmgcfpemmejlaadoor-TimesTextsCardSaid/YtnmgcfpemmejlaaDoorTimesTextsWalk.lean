/- The law TimesTexts: the walk. -/
import Derived.Test.YtnmgcfpemmejlaaDoorTimesLb
namespace Go.Proofs.YtnmgcfpemmejlaaDoor
open Go.RowKit Go.Lib
set_option linter.unusedVariables false

def GivesT (w : World) (v : Value) (e : Ending) (w' : World) : Prop := e = .returned v ∧ Below w.heap.size w w'
/-- What a call of this function returns, whatever the world, if its tables are as they were laid. -/
def TextC (f : FuncId) (x v : Value) : Prop := ∀ W : World, TV W → Calls Tryd.prog f #[x] W (GivesT W v)
theorem textC_print (t : Int) (ht : N64 t) : TextC 31 (.int .i64 t) (.tuple #[.string ⟨(prS t).toArray⟩, .int .i64 (prE t)]) := fun W h => print_any t W ht h
theorem textC_rprint (t : Int) (ht : N64 t) : TextC 32 (.int .i64 t) (.tuple #[.string ⟨(prS t).toArray⟩, .int .i64 (prE t)]) := fun W h => rprint_any t W ht
theorem textC_parse (s : ByteArray) (hs : s.size ≤ 1000) : TextC 33 (.string s) (.tuple #[.int .i64 (parseT s.data.toList).1, .int .i64 (parseT s.data.toList).2]) := fun W h => parse_any s W hs h
theorem textC_rparse (s : ByteArray) (hs : s.size ≤ 1000) : TextC 34 (.string s) (.tuple #[.int .i64 (parseT s.data.toList).1, .int .i64 (parseT s.data.toList).2]) := fun W h => rparse_any s W hs
theorem parse_back {t : Int} (h0 : 0 ≤ t) (ht : N64 t) : parseT (textT t.toNat) = (t, 0) := by
  have := parseT_text (t := t.toNat) (by have := ht.2; omega)
  rw [this, show ((t.toNat : Nat) : Int) = t by omega]
theorem text_size {t : Int} (h0 : 0 ≤ t) (ht : N64 t) : (⟨(textT t.toNat).toArray⟩ : ByteArray).size ≤ 1000 := by
  show (textT t.toNat).toArray.size ≤ 1000
  rw [List.size_toArray, textT_len]
  have := (textT_days (t := t.toNat) (by have := ht.2; omega)).2
  omega
/-- The two ways of Print. -/
theorem print_two (t : Int) (ht : N64 t) : ∃ (A : ByteArray) (r : Int), (r = 0 ∨ r ≠ 0) ∧ TextC 31 (.int .i64 t) (.tuple #[.string A, .int .i64 r]) ∧ TextC 32 (.int .i64 t) (.tuple #[.string A, .int .i64 r]) ∧ (r = 0 → TextC 33 (.string A) (.tuple #[.int .i64 t, .int .i64 0])) := by
  refine ⟨_, _, Decidable.em _, textC_print t ht, textC_rprint t ht, fun h => ?_⟩
  by_cases h0 : t < 0
  · rw [(pr_neg h0).2] at h; omega
  · rw [(pr_pos h0).1]
    have := textC_parse ⟨(textT t.toNat).toArray⟩ (text_size (by omega) ht)
    rw [show (⟨(textT t.toNat).toArray⟩ : ByteArray).data.toList = textT t.toNat from rfl, parse_back (by omega) ht] at this
    exact this
theorem parse_two (s : ByteArray) (hs : s.size ≤ 1000) : ∃ (c g : Int), (g = 0 ∨ g ≠ 0) ∧ TextC 33 (.string s) (.tuple #[.int .i64 c, .int .i64 g]) ∧ TextC 34 (.string s) (.tuple #[.int .i64 c, .int .i64 g]) ∧ (g = 0 → TextC 31 (.int .i64 c) (.tuple #[.string s, .int .i64 0])) := by
  refine ⟨_, _, Decidable.em _, textC_parse s hs, textC_rparse s hs, fun h => ?_⟩
  rcases parseT_cases s.data.toList with ⟨t, ht, hl, hp⟩ | ⟨hno, hp⟩
  · rw [hp]
    have := textC_print (t : Int) ⟨by omega, by omega⟩
    rw [(pr_pos (t := (t : Int)) (by omega)).1, (pr_pos (t := (t : Int)) (by omega)).2, show ((t : Int)).toNat = t by omega, ← hl, ba_of] at this
    exact this
  · rw [hp] at h; cases h
set_option maxRecDepth 100000 in
set_option maxHeartbeats 8000000 in
theorem ttexts_any (t : Int) (s : ByteArray) (w : World) (ht : N64 t) (hs : s.size ≤ maxLen) (hT : TV w) : Calls Tryd.prog 5 #[.int .i64 t, .string s] w (GivesT w (.bool true)) := by
  unfold maxLen at hs
  have HT := Lib.hid hT
  clear hT
  have B0 := Lib.hid (Below.refl w.heap.size w)
  by_cases hl : 100 < s.size
  · clear ht
    go_enter Tryd.func5, Tryd.ntmps5
    go_wp2_with (go_at_call 18; (with_reducible refine (awake_any _ (HT.out.below B0.out)).mono ?_); rintro e w9 ⟨rfl, hb⟩; replace B0 := Lib.hid (bl_call B0.out hb); clear hb)
    go_ret
    exact ⟨rfl, B0.out⟩
  · obtain ⟨A, r, hr, p1, p2, p3⟩ := print_two t ht
    obtain ⟨c, g, hg, q1, q2, q3⟩ := parse_two s (by omega)
    have P1 := Lib.hid p1; have P2 := Lib.hid p2; have P3 := Lib.hid p3; have Q1 := Lib.hid q1; have Q2 := Lib.hid q2; have Q3 := Lib.hid q3
    clear p1 p2 p3 q1 q2 q3 ht
    have tk1 : True := trivial
    have tk2 : True := trivial
    rcases hr with rfl | hr0
    · have HB := Lib.hid (P3.out rfl)
      rcases hg with rfl | hg0
      · have HA := Lib.hid (Q3.out rfl)
        go_enter Tryd.func5, Tryd.ntmps5
        go_wp2_with (first
          | (go_at_call 31; have _t := tk1; refine (P1.out _ (HT.out.below B0.out)).mono ?_; rintro e w1 ⟨rfl, hb⟩; replace B0 := Lib.hid (bl_call B0.out hb); clear hb tk1)
          | (go_at_call 32; refine (P2.out _ (HT.out.below B0.out)).mono ?_; rintro e w1 ⟨rfl, hb⟩; replace B0 := Lib.hid (bl_call B0.out hb); clear hb)
          | (go_at_call 33; have _t := tk2; refine (Q1.out _ (HT.out.below B0.out)).mono ?_; rintro e w1 ⟨rfl, hb⟩; replace B0 := Lib.hid (bl_call B0.out hb); clear hb tk2)
          | (go_at_call 34; refine (Q2.out _ (HT.out.below B0.out)).mono ?_; rintro e w1 ⟨rfl, hb⟩; replace B0 := Lib.hid (bl_call B0.out hb); clear hb)
          | (go_at_call 33; refine (HB.out _ (HT.out.below B0.out)).mono ?_; rintro e w1 ⟨rfl, hb⟩; replace B0 := Lib.hid (bl_call B0.out hb); clear hb)
          | (go_at_call 31; refine (HA.out _ (HT.out.below B0.out)).mono ?_; rintro e w1 ⟨rfl, hb⟩; replace B0 := Lib.hid (bl_call B0.out hb); clear hb)
          | (go_at_call 18; (with_reducible refine (awake_any _ (HT.out.below B0.out)).mono ?_); rintro e w9 ⟨rfl, hb⟩; replace B0 := Lib.hid (bl_call B0.out hb); clear hb))
        go_ret
        exact ⟨rfl, B0.out⟩
      · have g1 : (g == 0) = false := by simpa using hg0
        have g2 : (g != 0) = true := by simpa using hg0
        have HA : Hid True := Lib.hid trivial
        clear hg0
        go_enter Tryd.func5, Tryd.ntmps5
        go_wp2_with (first
          | (go_at_call 31; have _t := tk1; refine (P1.out _ (HT.out.below B0.out)).mono ?_; rintro e w1 ⟨rfl, hb⟩; replace B0 := Lib.hid (bl_call B0.out hb); clear hb tk1)
          | (go_at_call 32; refine (P2.out _ (HT.out.below B0.out)).mono ?_; rintro e w1 ⟨rfl, hb⟩; replace B0 := Lib.hid (bl_call B0.out hb); clear hb)
          | (go_at_call 33; have _t := tk2; refine (Q1.out _ (HT.out.below B0.out)).mono ?_; rintro e w1 ⟨rfl, hb⟩; replace B0 := Lib.hid (bl_call B0.out hb); clear hb tk2)
          | (go_at_call 34; refine (Q2.out _ (HT.out.below B0.out)).mono ?_; rintro e w1 ⟨rfl, hb⟩; replace B0 := Lib.hid (bl_call B0.out hb); clear hb)
          | (go_at_call 33; refine (HB.out _ (HT.out.below B0.out)).mono ?_; rintro e w1 ⟨rfl, hb⟩; replace B0 := Lib.hid (bl_call B0.out hb); clear hb)
          | (go_at_call 31; refine (HA.out _ (HT.out.below B0.out)).mono ?_; rintro e w1 ⟨rfl, hb⟩; replace B0 := Lib.hid (bl_call B0.out hb); clear hb)
          | (go_at_call 18; (with_reducible refine (awake_any _ (HT.out.below B0.out)).mono ?_); rintro e w9 ⟨rfl, hb⟩; replace B0 := Lib.hid (bl_call B0.out hb); clear hb))
        go_ret
        exact ⟨rfl, B0.out⟩
    · have r1 : (r == 0) = false := by simpa using hr0
      have r2 : (r != 0) = true := by simpa using hr0
      have HB : Hid True := Lib.hid trivial
      clear hr0
      rcases hg with rfl | hg0
      · have HA := Lib.hid (Q3.out rfl)
        go_enter Tryd.func5, Tryd.ntmps5
        go_wp2_with (first
          | (go_at_call 31; have _t := tk1; refine (P1.out _ (HT.out.below B0.out)).mono ?_; rintro e w1 ⟨rfl, hb⟩; replace B0 := Lib.hid (bl_call B0.out hb); clear hb tk1)
          | (go_at_call 32; refine (P2.out _ (HT.out.below B0.out)).mono ?_; rintro e w1 ⟨rfl, hb⟩; replace B0 := Lib.hid (bl_call B0.out hb); clear hb)
          | (go_at_call 33; have _t := tk2; refine (Q1.out _ (HT.out.below B0.out)).mono ?_; rintro e w1 ⟨rfl, hb⟩; replace B0 := Lib.hid (bl_call B0.out hb); clear hb tk2)
          | (go_at_call 34; refine (Q2.out _ (HT.out.below B0.out)).mono ?_; rintro e w1 ⟨rfl, hb⟩; replace B0 := Lib.hid (bl_call B0.out hb); clear hb)
          | (go_at_call 33; refine (HB.out _ (HT.out.below B0.out)).mono ?_; rintro e w1 ⟨rfl, hb⟩; replace B0 := Lib.hid (bl_call B0.out hb); clear hb)
          | (go_at_call 31; refine (HA.out _ (HT.out.below B0.out)).mono ?_; rintro e w1 ⟨rfl, hb⟩; replace B0 := Lib.hid (bl_call B0.out hb); clear hb)
          | (go_at_call 18; (with_reducible refine (awake_any _ (HT.out.below B0.out)).mono ?_); rintro e w9 ⟨rfl, hb⟩; replace B0 := Lib.hid (bl_call B0.out hb); clear hb))
        go_ret
        exact ⟨rfl, B0.out⟩
      · have g1 : (g == 0) = false := by simpa using hg0
        have g2 : (g != 0) = true := by simpa using hg0
        have HA : Hid True := Lib.hid trivial
        clear hg0
        go_enter Tryd.func5, Tryd.ntmps5
        go_wp2_with (first
          | (go_at_call 31; have _t := tk1; refine (P1.out _ (HT.out.below B0.out)).mono ?_; rintro e w1 ⟨rfl, hb⟩; replace B0 := Lib.hid (bl_call B0.out hb); clear hb tk1)
          | (go_at_call 32; refine (P2.out _ (HT.out.below B0.out)).mono ?_; rintro e w1 ⟨rfl, hb⟩; replace B0 := Lib.hid (bl_call B0.out hb); clear hb)
          | (go_at_call 33; have _t := tk2; refine (Q1.out _ (HT.out.below B0.out)).mono ?_; rintro e w1 ⟨rfl, hb⟩; replace B0 := Lib.hid (bl_call B0.out hb); clear hb tk2)
          | (go_at_call 34; refine (Q2.out _ (HT.out.below B0.out)).mono ?_; rintro e w1 ⟨rfl, hb⟩; replace B0 := Lib.hid (bl_call B0.out hb); clear hb)
          | (go_at_call 33; refine (HB.out _ (HT.out.below B0.out)).mono ?_; rintro e w1 ⟨rfl, hb⟩; replace B0 := Lib.hid (bl_call B0.out hb); clear hb)
          | (go_at_call 31; refine (HA.out _ (HT.out.below B0.out)).mono ?_; rintro e w1 ⟨rfl, hb⟩; replace B0 := Lib.hid (bl_call B0.out hb); clear hb)
          | (go_at_call 18; (with_reducible refine (awake_any _ (HT.out.below B0.out)).mono ?_); rintro e w9 ⟨rfl, hb⟩; replace B0 := Lib.hid (bl_call B0.out hb); clear hb))
        go_ret
        exact ⟨rfl, B0.out⟩
end Go.Proofs.YtnmgcfpemmejlaaDoor
