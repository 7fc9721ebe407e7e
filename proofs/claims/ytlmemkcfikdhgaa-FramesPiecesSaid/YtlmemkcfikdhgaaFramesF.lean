/- States: Check, Need. -/
import Derived.Test.YtlmemkcfikdhgaaFramesE
namespace Go.Proofs.Ytlmemkcfikdhgaa
open Go.RowKit Go.Lib
set_option linter.unusedVariables false

theorem split_calls (v : Value) (bs : List Nat) (w : World) (hv : RN w v bs) (hb : BB bs) (hl : bs.length ≤ 2000000) : Calls Try.prog 14 #[v] w (SplitR w bs) := callsIn_wide.1 (split_any v bs w hv hb hl)
/-- A state. -/
def stV (buf : List Nat) (bad : Bool) : Value := .agg #[.string (strB buf), .bool bad]
def badL (bs : List Nat) : Bool := brkL (leftL bs)
def bufL (bs : List Nat) : List Nat := if badL bs then [] else leftL bs
theorem strB_nil : strB [] = ⟨#[]⟩ := rfl
theorem endV_eq (bs : List Nat) : endV bs = stV (bufL bs) (badL bs) := by
  unfold endV stV bufL badL
  cases h : brkL (leftL bs)
  · rfl
  · simp only [if_true, strB_nil]
/-- What states are. -/
structure GoodS (buf : List Nat) (bad : Bool) : Prop where
  bb : BB buf
  len : buf.length ≤ 2000000
  ok : (bad = true ∧ buf = []) ∨ (bad = false ∧ brkL buf = false ∧ oneL buf = false)
theorem good_end {bs : List Nat} (hb : BB bs) (hl : bs.length ≤ 2000000) : GoodS (bufL bs) (badL bs) := by
  have h1 : BB (leftL bs) := by
    have : ∀ b, BB b → BB (leftL b) := sp_ind (fun b h hb => by rw [left_none h]; exact hb) (fun b h ih hb => by rw [left_one h]; exact ih (hb.drop _))
    exact this bs hb
  have h2 := left_le bs
  have h3 := left_stuck bs
  unfold bufL
  cases hbad : badL bs
  · exact ⟨h1, by simp; omega, .inr ⟨rfl, hbad, h3⟩⟩
  · exact ⟨BB.nil, by simp, .inl ⟨rfl, rfl⟩⟩
theorem good_nil : GoodS [] false := ⟨BB.nil, by simp, .inr ⟨rfl, by decide, by decide⟩⟩
/-- A string as bytes. -/
theorem conv_str (W : World) {buf : List Nat} (hb : BB buf) (hl : buf.length ≤ 2000000) : ∃ ad cp W1, (convert 9 22 (.string (strB buf))).run Try.prog W = .ok (.slice (some ad) buf.length cp) W1 ∧ RN W1 (.slice (some ad) buf.length cp) buf ∧ Below W.heap.size W W1 := by
  have h := Lib.run_convert_string_bytes (P := Try.prog) W 9 22 5 (strB buf) Try.underlying9 Try.underlying22 Try.underlying5
  have hr := rn_str (w := W) hb hl (grownCap W (strB buf).size 0 5) (grownCap_ge _ _ _ _) (grownCap_le_maxLen _ _ _ _ (by rw [strB_size]; unfold maxLen; omega))
  rw [strB_size] at h hr
  exact ⟨_, _, _, h, hr, bl_bytes W (strB buf)⟩

set_option maxRecDepth 20000 in
set_option maxHeartbeats 2000000 in
theorem check_ok (buf : List Nat) (bad : Bool) (w : World) (hg : GoodS buf bad) : Calls Try.prog 23 #[stV buf bad] w (Gives w (.int .i64 0)) := by
  obtain ⟨ad, cp, W1, hcv, hr, hb1⟩ := conv_str (w.alloc (.cells #[.string (strB buf), .bool bad] 32)) hg.bb hg.len
  have hw1 : Below w.heap.size w W1 := bl_call (bl_alloc _ (Below.refl _ _)) hb1
  have s1 : W1.cell? ⟨w.heap.size, 1, none⟩ = some (.bool bad) := (hb1.cell (p := ⟨w.heap.size, 1, none⟩) (by simp)).trans (by rw [World.cell?_alloc_at _ _ _ _ rfl]; rfl)
  have hbb := hg.bb
  have hm := hr.max
  unfold maxLen at hm
  have HR := Lib.hid hr; have HW := Lib.hid hw1; have HBB := Lib.hid hbb
  unfold stV
  rcases hg.ok with ⟨rfl, rfl⟩ | ⟨rfl, hk, ho⟩
  · have HR : Hid (RN W1 (.slice (some ad) 0 cp) []) := HR
    have k0 : brkL [] = false := by decide
    have k1 : leastL [] = 5 := by decide
    have K0 := Lib.hid k0; have K1 := Lib.hid k1
    clear hr hb1 hw1 hbb hg k0 k1
    go_enter Try.func23, Try.ntmps23
    go_wp2_with (first
      | (go_at_call 22; (with_reducible refine (broken_any _ [] _ HR.out HBB.out).mono ?_); rintro e w2 ⟨rfl, hb2⟩; rw [K0.out]; have HB2 := Lib.hid hb2; clear hb2)
      | (go_at_call 25; (with_reducible refine (least_any _ [] _ (HR.out.later HB2.out) HBB.out).mono ?_); rintro e w3 ⟨rfl, hb3⟩; rw [K1.out]; have HB3 := Lib.hid hb3; clear hb3))
    go_ret
    exact ⟨rfl, bl_call (bl_call HW.out HB2.out) HB3.out⟩
  · have hlt := stuck_lt ho hk
    have HK := Lib.hid hk
    clear hr hb1 hw1 hbb hg hk ho
    obtain ⟨m, hm2⟩ : ∃ m, leastL buf = m := ⟨_, rfl⟩
    have HM := Lib.hid hm2
    rw [hm2] at hlt
    clear hm2
    go_enter Try.func23, Try.ntmps23
    go_wp2_with (first
      | (go_at_call 22; (with_reducible refine (broken_any _ buf _ HR.out HBB.out).mono ?_); rintro e w2 ⟨rfl, hb2⟩; rw [HK.out]; have HB2 := Lib.hid hb2; clear hb2)
      | (go_at_call 25; (with_reducible refine (least_any _ buf _ (HR.out.later HB2.out) HBB.out).mono ?_); rintro e w3 ⟨rfl, hb3⟩; rw [HM.out]; have HB3 := Lib.hid hb3; clear hb3))
    go_ret
    exact ⟨rfl, bl_call (bl_call HW.out HB2.out) HB3.out⟩
/-! ### Need -/
set_option maxRecDepth 20000 in
set_option maxHeartbeats 2000000 in
theorem need_bad (w : World) : Calls Try.prog 17 #[stV [] true] w (Gives w (.tuple #[.int .i64 0, .int .i64 0])) := by
  have hg : GoodS [] true := ⟨BB.nil, by simp, .inl ⟨rfl, rfl⟩⟩
  have HG := Lib.hid hg
  clear hg
  have hc : ∀ W, Calls Try.prog 23 #[.agg #[.string (strB []), .bool true]] W (Gives W (.int .i64 0)) := fun W => check_ok [] true W HG.out
  have HC := Lib.hid hc
  clear hc
  unfold stV
  go_enter Try.func17, Try.ntmps17
  go_wp2_with (go_at_call 23; (with_reducible refine (HC.out _).mono ?_); rintro e w2 ⟨rfl, hb2⟩; have s1 : w2.cell? ⟨w.heap.size, 1, none⟩ = some (.bool true) := (hb2.cell (p := ⟨w.heap.size, 1, none⟩) (by simp)).trans (by rw [World.cell?_alloc_at _ _ _ _ rfl]; rfl); have HB2 := Lib.hid hb2; clear hb2)
  refine bodyPost_ret (v := .tuple #[.int .i64 0, .int .i64 0]) (by simp [results, Try.f17, go_sem]) rfl ⟨rfl, bl_call (bl_alloc _ (Below.refl _ _)) HB2.out⟩
set_option maxRecDepth 20000 in
set_option maxHeartbeats 2000000 in
theorem need_ok (buf : List Nat) (w : World) (hg : GoodS buf false) : Calls Try.prog 17 #[stV buf false] w (Gives w (.tuple #[.int .i64 ((leastL buf - buf.length : Nat) : Int), .int .i64 0])) := by
  have HG := Lib.hid hg
  have hlt : buf.length < leastL buf := by
    rcases hg.ok with ⟨h, _⟩ | ⟨_, hk, ho⟩
    · cases h
    · exact stuck_lt ho hk
  have hls : leastL buf < 9223372036854775808 := by have := hg.bb.get 2; have := hg.bb.get 3; unfold leastL szL; split <;> omega
  have hbl := hg.len
  clear hg
  have hc : ∀ W, Calls Try.prog 23 #[.agg #[.string (strB buf), .bool false]] W (Gives W (.int .i64 0)) := fun W => check_ok buf false W HG.out
  have HC := Lib.hid hc
  obtain ⟨m, hm2⟩ : ∃ m, leastL buf = m := ⟨_, rfl⟩
  have HM := Lib.hid hm2
  rw [hm2] at hlt hls ⊢
  clear hc hm2
  have HT : Hid ((m : Int) - (buf.length : Int) = ((m - buf.length : Nat) : Int)) := Lib.hid (by omega)
  unfold stV
  go_enter Try.func17, Try.ntmps17
  go_wp2_with (first
    | (go_at_call 23; (with_reducible refine (HC.out _).mono ?_); rintro e w2 ⟨rfl, hb2⟩; have s1 : w2.cell? ⟨w.heap.size, 1, none⟩ = some (.bool false) := (hb2.cell (p := ⟨w.heap.size, 1, none⟩) (by simp)).trans (by rw [World.cell?_alloc_at _ _ _ _ rfl]; rfl); have s0 : w2.cell? ⟨w.heap.size, 0, none⟩ = some (.string (strB buf)) := (hb2.cell (p := ⟨w.heap.size, 0, none⟩) (by simp)).trans (by rw [World.cell?_alloc_at _ _ _ _ rfl]; rfl); obtain ⟨ad, cp, W1, hcv, hr, hb3⟩ := conv_str w2 HG.out.bb HG.out.len; have HR := Lib.hid hr; have HB2 := Lib.hid (bl_call (bl_call (bl_alloc _ (Below.refl _ _)) hb2) hb3); clear hb2 hb3 hr)
    | (go_at_call 25; (with_reducible refine (least_any _ buf _ HR.out HG.out.bb).mono ?_); rintro e w3 ⟨rfl, hb3⟩; rw [HM.out]; have HB3 := Lib.hid hb3; clear hb3))
  refine bodyPost_ret (v := .tuple #[.int .i64 ((m : Int) - (buf.length : Int)), .int .i64 0]) (by simp [results, Try.f17, go_sem]) rfl ⟨by rw [HT.out], bl_call HB2.out HB3.out⟩
end Go.Proofs.Ytlmemkcfikdhgaa
