/- FramesKnown, walked. -/
import Derived.Test.YtlmemkcfikdhgaaFramesL
import Derived.Laws.MakeOwn
namespace Go.Proofs.Ytlmemkcfikdhgaa
open Go.RowKit Go.Lib
set_option linter.unusedVariables false

def bads : List (List Nat) := [[72], [71, 2], [71, 1, 5], [71, 1, 0, 0], [71, 1, 4, 1]]
theorem bads_all : ∀ k, k < 5 → (bads.getD k []).all (fun x => decide (x < 256)) = true ∧ paysL (bads.getD k []) = [] ∧ badL (bads.getD k []) = true ∧ (bads.getD k []).length ≤ 4 := by decide +kernel
theorem bad_split (v : Value) (b : List Nat) (w : World) (hv : RN w v b) (hb : BB b) (hl : b.length ≤ 4) (h1 : paysL b = []) (h2 : badL b = true) : Calls Try.prog 14 #[v] w fun e w' =>
    ∃ A c, e = .returned (.tuple #[.slice A 0 c, .agg #[.string ⟨#[]⟩, .bool true]]) ∧ Below w.heap.size w w' := by
  refine Calls.mono (split_calls v b w hv hb (by omega)) ?_
  rintro e w' ⟨u, L, rfl, k1, k2, k3⟩
  rw [h1] at k2
  obtain rfl : L = [] := by cases L with | nil => rfl | cons x xs => simp at k2
  obtain ⟨A, c, rfl⟩ := k1.len
  exact ⟨A, c, by rw [endV_eq]; unfold bufL; rw [h2]; rfl, k3⟩
theorem frame_nil (w : World) : Calls Try.prog 10 #[.slice none 0 0] w fun e w' => ∃ A c, e = .returned (.tuple #[.slice A 0 c, .int .i64 6]) ∧ Below w.heap.size w w' := by
  refine Calls.mono (frame_any _ [] w (RN.nil w)) ?_
  rintro e w' ⟨v, rfl, h1, h2⟩
  obtain ⟨A, c, rfl⟩ := h1.len
  exact ⟨A, c, rfl, h2⟩
theorem frame_long (v : Value) (w : World) (hv : RN w v (List.replicate 1025 0)) : Calls Try.prog 10 #[v] w fun e w' => ∃ A c, e = .returned (.tuple #[.slice A 0 c, .int .i64 3]) ∧ Below w.heap.size w w' := by
  have he : errP (List.replicate 1025 0) = 3 := by unfold errP; rw [List.length_replicate, if_neg (by omega), if_pos (by omega)]
  have hf : frameO (List.replicate 1025 0) = [] := by unfold frameO; rw [he]; rfl
  refine Calls.mono (frame_any v _ w hv) ?_
  rintro e w' ⟨v, rfl, h1, h2⟩
  rw [hf] at h1
  rw [he]
  obtain ⟨A, c, rfl⟩ := h1.len
  exact ⟨A, c, rfl, h2⟩
theorem make_long (w : World) : ∃ w', (Instr.makeSlice 22 (.int .i64 1025) (.int .i64 1025)).run Try.prog w = .ok (.slice (some ⟨w.heap.size, 0, none⟩) 1025 1025) w' ∧ RN w' (.slice (some ⟨w.heap.size, 0, none⟩) 1025 1025) (List.replicate 1025 0) ∧ Below w.heap.size w w' := by
  obtain ⟨i0, hi, hz0, hz1, hz2⟩ := info_parts info_u8
  obtain ⟨w', h1, h2, h3⟩ := run_makeSlice_full (P := Try.prog) w w.heap.size 22 5 i0 (.int .u8 0) 1 Try.underlying22 hi hz0 hz1 .i64 .i64 1025 (by omega) (by rw [hz2]; omega) (by unfold maxLen; omega) (Nat.le_refl _)
  refine ⟨w', h1, ?_, ⟨h3.os, h3.tape, h3.output, h3.size, fun k hk => h3.block k hk (fun e => by cases e)⟩⟩
  have e1 : (madeCells (Value.int .u8 0).cells (1025 * 1)).toList = yL (List.replicate 1025 0) := by
    have : (Value.int .u8 0).cells = #[.int .u8 0] := rfl
    rw [this, toList_madeCells_one]
    unfold yL
    rw [List.map_replicate]
    rfl
  rw [e1] at h2
  have hon : ON w' w.heap.size (.slice (some ⟨w.heap.size, 0, none⟩) 1025 1025) (List.replicate 1025 0) := by
    unfold ON
    rw [List.length_replicate]
    exact h2
  exact hon.rn
theorem need_0 (w : World) : Calls Try.prog 17 #[.agg #[.string ⟨#[]⟩, .bool false]] w (Gives w (.tuple #[.int .i64 5, .int .i64 0])) := need_ok [] w good_nil
theorem good_9 : GoodS [71, 1, 0, 9, 97] false := ⟨bb_of (by decide), by simp, .inr ⟨rfl, by decide, by decide⟩⟩
theorem need_9 (w : World) : Calls Try.prog 17 #[.agg #[.string ⟨#[71, 1, 0, 9, 97]⟩, .bool false]] w (Gives w (.tuple #[.int .i64 8, .int .i64 0])) := need_ok [71, 1, 0, 9, 97] w good_9
theorem bads_cells (w : World) (T : TypeId) : ∀ k, k < 5 → (w.alloc (.cells #[.string ⟨#[72]⟩, .string ⟨#[71, 2]⟩, .string ⟨#[71, 1, 5]⟩, .string ⟨#[71, 1, 0, 0]⟩, .string ⟨#[71, 1, 4, 1]⟩] T)).cell? ⟨w.heap.size, k, none⟩ = some (.string (strB (bads.getD k []))) := by
  intro k hk
  rw [World.cell?_alloc_at _ _ _ _ rfl]
  rcases (show k = 0 ∨ k = 1 ∨ k = 2 ∨ k = 3 ∨ k = 4 by omega) with rfl | rfl | rfl | rfl | rfl <;> rfl
set_option maxRecDepth 100000 in
set_option maxHeartbeats 4000000 in
theorem known_any (w : World) : Calls Try.prog 7 #[] w (Gives w (.bool true)) := by
  go_enter Try.func7, Try.ntmps7
  go_wp2_with (first
    | (go_at_call 10; (with_reducible refine (frame_nil _).mono ?_); rintro e w1 ⟨A1, c1, rfl, b1⟩; obtain ⟨w2, hmk, hrm, bm⟩ := make_long w1; have HRM := Lib.hid hrm; have B1 := Lib.hid (bl_call b1 bm); clear b1 bm hrm)
    | (go_at_call 10; (with_reducible refine (frame_long _ _ HRM.out).mono ?_); rintro e w3 ⟨A3, c3, rfl, b3⟩; have B3 := Lib.hid (bl_call B1.out b3); have HC := Lib.hid (bads_cells w3 9); clear b3))
  clear hmk
  go_loopw [6] (fun i wr => ∃ k : Nat, k ≤ 5 ∧ i = .int .i64 k ∧ Hid (Below w.heap.size w wr) ∧ Hid (∀ k, k < 5 → wr.cell? ⟨w3.heap.size, k, none⟩ = some (.string (strB (bads.getD k []))))) (fun i _ => 5 - (intOf i).toNat)
  case atStart => exact ⟨0, by omega, rfl, Lib.hid (bl_call B3.out (bl_alloc _ (Below.refl _ _))), HC⟩
  case round =>
    obtain ⟨k, hk, rfl, HB, HK⟩ := hrel
    by_cases hlt : k < 5
    · have ck := HK.out k hlt
      obtain ⟨p1, p2, p3, p4⟩ := bads_all k hlt
      obtain ⟨b, hb⟩ : ∃ b, bads.getD k [] = b := ⟨_, rfl⟩
      rw [hb] at ck p1 p2 p3 p4
      obtain ⟨ad, cp, W1, hcv, hr, hb1⟩ := conv_str wr (bb_of p1) (by omega)
      have hg3 : w3.heap.size < wr.heap.size := World.block_lt_of_cell? wr _ ck
      have HSP := Lib.hid (bad_split _ b W1 hr (bb_of p1) p4 p2 p3)
      have HB1 := Lib.hid hb1
      clear hb p1 p2 p3 p4 hr hb1
      go_wp2_with (go_at_call 14; (with_reducible refine HSP.out.mono ?_); rintro e w4 ⟨A4, c4, rfl, b4⟩; have hn1 := neq_st ⟨#[]⟩ ⟨#[]⟩ true true; have HB4 := Lib.hid (bl_call HB1.out b4); clear b4)
      exact ⟨⟨k + 1, by omega, by go_num, Lib.hid (bl_alloc _ (bl_call HB.out HB4.out)), Lib.hid (fun j hj => Lib.cell?_alloc_some _ ((HB4.out.cell (p := ⟨w3.heap.size, j, none⟩) hg3).trans (HK.out j hj)))⟩, by simp [intOf]; omega⟩
    · obtain rfl : k = 5 := by omega
      go_wp2_with (first
        | (go_at_call 17; (with_reducible refine (need_0 _).mono ?_); rintro e w5 ⟨rfl, b5⟩; have HB5 := Lib.hid (bl_call HB.out b5); clear b5)
        | (go_at_call 17; (with_reducible refine (need_9 _).mono ?_); rintro e w6 ⟨rfl, b6⟩; have HB6 := Lib.hid (bl_call HB5.out b6); clear b6)
        | (go_at_call 9; (with_reducible refine (shown_any _).mono ?_); rintro e w7 ⟨rfl, b7⟩; have HB7 := Lib.hid (bl_call HB6.out b7); clear b7))
      go_ret
      exact ⟨rfl, HB7.out⟩
end Go.Proofs.Ytlmemkcfikdhgaa
