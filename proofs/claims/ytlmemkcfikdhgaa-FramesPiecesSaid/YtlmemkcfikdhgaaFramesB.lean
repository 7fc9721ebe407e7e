/- What the head of a stream says: the contracts of the small functions. -/
import Derived.Test.YtlmemkcfikdhgaaFramesA
import Derived.Laws.BitsAllLaws
namespace Go.Proofs.Ytlmemkcfikdhgaa
open Go.RowKit Go.Lib
set_option linter.unusedVariables false

theorem under_len : Try.prog.underlying 56 = some (.array 2 5) := by kernel_rfl
theorem or_bytes {a b : Nat} (ha : a < 256) (hb : b < 256) : bits .or .i64 ((a : Int) * 256) (b : Int) = ((256 * a + b : Nat) : Int) := by
  have h := Nat.two_pow_add_eq_or_of_lt (i := 8) (b := b) (by omega) a
  rw [show (a : Int) * 256 = ((256 * a : Nat) : Int) by omega]
  show IntKind.i64.wrap ((BitVec.ofInt 64 ((256 * a : Nat) : Int) ||| BitVec.ofInt 64 (b : Int)).toNat : Int) = _
  rw [BitVec.toNat_or, ofInt_u64 _ (by omega), ofInt_u64 b (by omega), show 256 * a = 2 ^ 8 * a by omega, ← h, IntKind.wrap_i64]
  omega
set_option maxHeartbeats 1000000 in
theorem number_any (a b : Nat) (w : World) (ha : a < 256) (hb : b < 256) : Calls Try.prog 30 #[.agg #[.int .u8 a, .int .u8 b]] w (Gives w (.int .i64 ((256 * a + b : Nat) : Int))) := by
  have HO := Lib.hid (or_bytes ha hb)
  go_enter Try.func30, Try.ntmps30
  go_wp2
  go_ret
  exact ⟨ret_int HO.out, bl_alloc _ (Below.refl _ _)⟩
set_option maxHeartbeats 1000000 in
theorem lengthOf_any (n : Nat) (w : World) (hn : n < 65536) : Calls Try.prog 26 #[.int .i64 n] w (Gives w (.agg #[.int .u8 (n / 256 % 256 : Nat), .int .u8 (n % 256 : Nat)])) := by
  have e1 : (n : Int) / 256 % 256 = (n : Int) / 256 := by omega
  have HE : Hid ((#[.int .u8 ((n : Int) / 256), .int .u8 ((n : Int) % 256)] : Array Value) = #[.int .u8 ((n / 256 % 256 : Nat) : Int), .int .u8 ((n % 256 : Nat) : Int)]) := Lib.hid (by
    rw [show ((n / 256 % 256 : Nat) : Int) = (n : Int) / 256 by omega, show ((n % 256 : Nat) : Int) = (n : Int) % 256 by omega])
  go_enter Try.func26, Try.ntmps26
  go_wp2
  refine bodyPost_ret (v := .agg #[.int .u8 ((n : Int) / 256), .int .u8 ((n : Int) % 256)]) (results_cell_row Try.results26 _ _ w.heap.size 56 _ (0, 0) _ rfl (heap_alloc_new w _) Try.underlying56 rfl (by kernel_rfl)) rfl ⟨by rw [HE.out], bl_alloc _ (Below.refl _ _)⟩

/-! ### sizeIn, isBroken, leastSize -/
theorem cell_at {W : World} {g off k : Nat} {x : Value} (h : W.cell? ⟨g, off + k, none⟩ = some x) : W.cell? ((⟨g, off, none⟩ : Addr).add k) = some x := by rw [Addr.add_mid]; exact h
set_option maxHeartbeats 1000000 in
theorem sizeIn_any (v : Value) (xs : List Nat) (w : World) (hv : RN w v xs) (hb : BB xs) (h4 : 4 ≤ xs.length) : Calls Try.prog 28 #[v] w (Gives w (.int .i64 (szL xs : Nat))) := by
  obtain ⟨A, c, rfl⟩ := hv.len
  obtain ⟨g, off, rfl, _, hlc, hcm, hg, hcell⟩ := hv.at (by omega)
  have c2 := hcell 2 (by omega)
  have c3 : w.cell? ⟨g, off + 2 + 1, none⟩ = some (.int .u8 (xs.getD 3 0 : Nat)) := hcell 3 (by omega)
  have b2 := hb.get 2
  have b3 := hb.get 3
  have hE : ∀ W : World, (Instr.slice 22 (.slice (some ⟨g, off, none⟩) xs.length c) (some (.int .i64 2)) (some (.int .i64 4)) none).run Try.prog W = .ok (.slice (some ⟨g, off + 2, none⟩) 2 (c - 2)) W := fun W => by
    have h1 := run_slice_lh (P := Try.prog) (w := W) 22 (some ⟨g, off, none⟩) xs.length c under_u8s .i64 .i64 2 4 (by omega) (by omega) (by omega)
    rw [h1, size_u8s W]
    simp [Result.andThen_ok, sliced, Addr.add_mid, show ¬ c = 2 by omega]
  have hA : ∀ W : World, (Instr.arrayAt 56 (.slice (some ⟨g, off + 2, none⟩) 2 (c - 2))).run Try.prog W = .ok (.pointer (some ⟨g, off + 2, none⟩)) W := fun W => run_arrayAt W 56 5 2 _ 2 (c - 2) under_len (Nat.le_refl _)
  clear hcell
  go_enter Try.func28, Try.ntmps28
  go_wp2_with (go_at_call 30; refine (number_any (xs.getD 2 0) (xs.getD 3 0) _ b2 b3).mono ?_; rintro e w1 ⟨rfl, hb1⟩; have HB := Lib.hid hb1; clear hb1)
  go_ret
  exact ⟨rfl, HB.out⟩

theorem out_of {a b : Bool} (h : (a = true ↔ b = true)) : a = b := by revert a b; decide
set_option maxRecDepth 20000 in
set_option maxHeartbeats 8000000 in
theorem broken_1 (g off c : Nat) (xs : List Nat) (w : World) (hv : RN w (.slice (some ⟨g, off, none⟩) xs.length c) xs) (hb : BB xs) (hl : xs.length = 1) : Calls Try.prog 22 #[.slice (some ⟨g, off, none⟩) xs.length c] w (Gives w (.bool (brkL xs))) := by
  obtain ⟨_, _, e, _, hlc, hcm, hg, hcell⟩ := hv.at (by omega)
  cases e
  obtain ⟨x0, hx0⟩ : ∃ x, xs.getD 0 0 = x := ⟨_, rfl⟩
  have b0 : x0 < 256 := by rw [← hx0]; exact hb.get 0
  have c0 : w.cell? ⟨g, off, none⟩ = some (.int .u8 (x0 : Nat)) := by rw [← hx0]; exact hcell 0 (by omega)
  clear hcell
  obtain ⟨t0, ht0⟩ : ∃ t, decide (x0 = 71) = t := ⟨_, rfl⟩
  have e0 : ((x0 : Int) != 71) = !t0 := by rw [← ht0]; apply out_of; simp <;> omega
  have HV : Hid (brkL xs = !t0) := Lib.hid (by unfold brkL; rw [hl, hx0, ht0]; simp)
  have HX := Lib.hid hv; have HBB := Lib.hid hb
  clear hv hb ht0 hx0
  rw [hl] at HX ⊢
  cases t0
  all_goals
    simp only [Bool.not_true, Bool.not_false] at e0
    go_enter Try.func22, Try.ntmps22
    go_wp2_with fail
    go_ret
    exact ⟨by rw [HV.out]; rfl, Below.refl _ _⟩
set_option maxRecDepth 20000 in
set_option maxHeartbeats 8000000 in
theorem broken_2 (g off c : Nat) (xs : List Nat) (w : World) (hv : RN w (.slice (some ⟨g, off, none⟩) xs.length c) xs) (hb : BB xs) (hl : xs.length = 2) : Calls Try.prog 22 #[.slice (some ⟨g, off, none⟩) xs.length c] w (Gives w (.bool (brkL xs))) := by
  obtain ⟨_, _, e, _, hlc, hcm, hg, hcell⟩ := hv.at (by omega)
  cases e
  obtain ⟨x0, hx0⟩ : ∃ x, xs.getD 0 0 = x := ⟨_, rfl⟩
  have b0 : x0 < 256 := by rw [← hx0]; exact hb.get 0
  have c0 : w.cell? ⟨g, off, none⟩ = some (.int .u8 (x0 : Nat)) := by rw [← hx0]; exact hcell 0 (by omega)
  obtain ⟨x1, hx1⟩ : ∃ x, xs.getD 1 0 = x := ⟨_, rfl⟩
  have b1 : x1 < 256 := by rw [← hx1]; exact hb.get 1
  have c1 : w.cell? ⟨g, off + 1, none⟩ = some (.int .u8 (x1 : Nat)) := by rw [← hx1]; exact hcell 1 (by omega)
  clear hcell
  obtain ⟨t0, ht0⟩ : ∃ t, decide (x0 = 71) = t := ⟨_, rfl⟩
  have e0 : ((x0 : Int) != 71) = !t0 := by rw [← ht0]; apply out_of; simp <;> omega
  obtain ⟨t1, ht1⟩ : ∃ t, decide (x1 = 1) = t := ⟨_, rfl⟩
  have e1 : ((x1 : Int) != 1) = !t1 := by rw [← ht1]; apply out_of; simp <;> omega
  have HV : Hid (brkL xs = (!t1 || !t0)) := Lib.hid (by unfold brkL; rw [hl, hx0, ht0, hx1, ht1]; simp)
  have HX := Lib.hid hv; have HBB := Lib.hid hb
  clear hv hb ht0 hx0 ht1 hx1
  rw [hl] at HX ⊢
  cases t0 <;> cases t1
  all_goals
    simp only [Bool.not_true, Bool.not_false] at e0 e1
    go_enter Try.func22, Try.ntmps22
    go_wp2_with fail
    go_ret
    exact ⟨by rw [HV.out]; rfl, Below.refl _ _⟩
set_option maxRecDepth 20000 in
set_option maxHeartbeats 8000000 in
theorem broken_3 (g off c : Nat) (xs : List Nat) (w : World) (hv : RN w (.slice (some ⟨g, off, none⟩) xs.length c) xs) (hb : BB xs) (hl : xs.length = 3) : Calls Try.prog 22 #[.slice (some ⟨g, off, none⟩) xs.length c] w (Gives w (.bool (brkL xs))) := by
  obtain ⟨_, _, e, _, hlc, hcm, hg, hcell⟩ := hv.at (by omega)
  cases e
  obtain ⟨x0, hx0⟩ : ∃ x, xs.getD 0 0 = x := ⟨_, rfl⟩
  have b0 : x0 < 256 := by rw [← hx0]; exact hb.get 0
  have c0 : w.cell? ⟨g, off, none⟩ = some (.int .u8 (x0 : Nat)) := by rw [← hx0]; exact hcell 0 (by omega)
  obtain ⟨x1, hx1⟩ : ∃ x, xs.getD 1 0 = x := ⟨_, rfl⟩
  have b1 : x1 < 256 := by rw [← hx1]; exact hb.get 1
  have c1 : w.cell? ⟨g, off + 1, none⟩ = some (.int .u8 (x1 : Nat)) := by rw [← hx1]; exact hcell 1 (by omega)
  obtain ⟨x2, hx2⟩ : ∃ x, xs.getD 2 0 = x := ⟨_, rfl⟩
  have b2 : x2 < 256 := by rw [← hx2]; exact hb.get 2
  have c2 : w.cell? ⟨g, off + 2, none⟩ = some (.int .u8 (x2 : Nat)) := by rw [← hx2]; exact hcell 2 (by omega)
  clear hcell
  obtain ⟨t0, ht0⟩ : ∃ t, decide (x0 = 71) = t := ⟨_, rfl⟩
  have e0 : ((x0 : Int) != 71) = !t0 := by rw [← ht0]; apply out_of; simp <;> omega
  obtain ⟨t1, ht1⟩ : ∃ t, decide (x1 = 1) = t := ⟨_, rfl⟩
  have e1 : ((x1 : Int) != 1) = !t1 := by rw [← ht1]; apply out_of; simp <;> omega
  obtain ⟨t2, ht2⟩ : ∃ t, decide (4 < x2) = t := ⟨_, rfl⟩
  have e2 : (decide ((4 : Int) < (x2 : Int))) = t2 := by rw [← ht2]; apply out_of; simp <;> omega
  have HV : Hid (brkL xs = (t2 || (!t1 || !t0))) := Lib.hid (by unfold brkL; rw [hl, hx0, ht0, hx1, ht1, hx2, ht2]; simp)
  have HX := Lib.hid hv; have HBB := Lib.hid hb
  clear hv hb ht0 hx0 ht1 hx1 ht2 hx2
  rw [hl] at HX ⊢
  cases t0 <;> cases t1 <;> cases t2
  all_goals
    simp only [Bool.not_true, Bool.not_false] at e0 e1
    go_enter Try.func22, Try.ntmps22
    go_wp2_with fail
    go_ret
    exact ⟨by rw [HV.out]; rfl, Below.refl _ _⟩
set_option maxRecDepth 20000 in
set_option maxHeartbeats 8000000 in
theorem broken_4 (g off c : Nat) (xs : List Nat) (w : World) (hv : RN w (.slice (some ⟨g, off, none⟩) xs.length c) xs) (hb : BB xs) (hl : 4 ≤ xs.length) : Calls Try.prog 22 #[.slice (some ⟨g, off, none⟩) xs.length c] w (Gives w (.bool (brkL xs))) := by
  obtain ⟨_, _, e, _, hlc, hcm, hg, hcell⟩ := hv.at (by omega)
  cases e
  obtain ⟨x0, hx0⟩ : ∃ x, xs.getD 0 0 = x := ⟨_, rfl⟩
  have b0 : x0 < 256 := by rw [← hx0]; exact hb.get 0
  have c0 : w.cell? ⟨g, off, none⟩ = some (.int .u8 (x0 : Nat)) := by rw [← hx0]; exact hcell 0 (by omega)
  obtain ⟨x1, hx1⟩ : ∃ x, xs.getD 1 0 = x := ⟨_, rfl⟩
  have b1 : x1 < 256 := by rw [← hx1]; exact hb.get 1
  have c1 : w.cell? ⟨g, off + 1, none⟩ = some (.int .u8 (x1 : Nat)) := by rw [← hx1]; exact hcell 1 (by omega)
  obtain ⟨x2, hx2⟩ : ∃ x, xs.getD 2 0 = x := ⟨_, rfl⟩
  have b2 : x2 < 256 := by rw [← hx2]; exact hb.get 2
  have c2 : w.cell? ⟨g, off + 2, none⟩ = some (.int .u8 (x2 : Nat)) := by rw [← hx2]; exact hcell 2 (by omega)
  obtain ⟨x3, hx3⟩ : ∃ x, xs.getD 3 0 = x := ⟨_, rfl⟩
  have b3 : x3 < 256 := by rw [← hx3]; exact hb.get 3
  have c3 : w.cell? ⟨g, off + 3, none⟩ = some (.int .u8 (x3 : Nat)) := by rw [← hx3]; exact hcell 3 (by omega)
  clear hcell
  obtain ⟨t0, ht0⟩ : ∃ t, decide (x0 = 71) = t := ⟨_, rfl⟩
  have e0 : ((x0 : Int) != 71) = !t0 := by rw [← ht0]; apply out_of; simp <;> omega
  obtain ⟨t1, ht1⟩ : ∃ t, decide (x1 = 1) = t := ⟨_, rfl⟩
  have e1 : ((x1 : Int) != 1) = !t1 := by rw [← ht1]; apply out_of; simp <;> omega
  obtain ⟨t2, ht2⟩ : ∃ t, decide (4 < x2) = t := ⟨_, rfl⟩
  have e2 : (decide ((4 : Int) < (x2 : Int))) = t2 := by rw [← ht2]; apply out_of; simp <;> omega
  obtain ⟨z, hz⟩ : ∃ z, szL xs = z := ⟨_, rfl⟩
  obtain ⟨t3, ht3⟩ : ∃ t, decide (z = 0) = t := ⟨_, rfl⟩
  have e3 : ((z : Int) == 0) = t3 := by rw [← ht3]; apply out_of; simp <;> omega
  obtain ⟨t4, ht4⟩ : ∃ t, decide (1024 < z) = t := ⟨_, rfl⟩
  have e4 : decide ((1024 : Int) < (z : Int)) = t4 := by rw [← ht4]; apply out_of; simp <;> omega
  have hm : min (xs.length : Int) 4 = 4 := by omega
  have HV : Hid (brkL xs = ((t3 || t4) || (t2 || (!t1 || !t0)))) := Lib.hid (by unfold brkL; rw [hx0, hx1, hx2, hz, ht0, ht1, ht2, ht3, ht4, decide_eq_true (show 4 ≤ xs.length by omega), decide_eq_true (show 3 ≤ xs.length by omega), decide_eq_true (show 2 ≤ xs.length by omega), decide_eq_true (show 1 ≤ xs.length by omega)]; simp only [Bool.true_and])
  have HX := Lib.hid hv; have HBB := Lib.hid hb
  have HZ := Lib.hid hz
  clear hv hb ht0 ht1 ht2 ht3 ht4 hx0 hx1 hx2 hx3 hz
  cases t3 <;> cases t4 <;> cases t2 <;> cases t1 <;> cases t0
  all_goals
    simp only [Bool.not_true, Bool.not_false] at e0 e1
    go_enter Try.func22, Try.ntmps22
    go_wp2_with (go_at_call 28; refine (sizeIn_any _ xs _ HX.out HBB.out (by omega)).mono ?_; rintro e w1 ⟨rfl, hb1⟩; rw [HZ.out]; have d0 := (hb1.cell (p := ⟨g, off, none⟩) hg).trans c0; have d1 := (hb1.cell (p := ⟨g, off + 1, none⟩) hg).trans c1; have d2 := (hb1.cell (p := ⟨g, off + 2, none⟩) hg).trans c2; have HB := Lib.hid hb1; clear hb1)
    go_ret
    exact ⟨by rw [HV.out]; rfl, HB.out⟩
set_option maxRecDepth 20000 in
set_option maxHeartbeats 4000000 in
theorem broken_any (v : Value) (xs : List Nat) (w : World) (hv : RN w v xs) (hb : BB xs) : Calls Try.prog 22 #[v] w (Gives w (.bool (brkL xs))) := by
  obtain ⟨A, c, rfl⟩ := hv.len
  rcases Nat.eq_zero_or_pos xs.length with h0 | h0
  · have hn : xs = [] := List.eq_nil_of_length_eq_zero h0
    subst hn
    go_enter Try.func22, Try.ntmps22
    go_wp2_with fail
    go_ret
    exact ⟨rfl, Below.refl _ _⟩
  · obtain ⟨g, off, rfl, _⟩ := hv.at h0
    rcases (show xs.length = 1 ∨ xs.length = 2 ∨ xs.length = 3 ∨ 4 ≤ xs.length by omega) with h | h | h | h
    · exact broken_1 g off c xs w hv hb h
    · exact broken_2 g off c xs w hv hb h
    · exact broken_3 g off c xs w hv hb h
    · exact broken_4 g off c xs w hv hb h

set_option maxHeartbeats 1000000 in
theorem least_any (v : Value) (xs : List Nat) (w : World) (hv : RN w v xs) (hb : BB xs) : Calls Try.prog 25 #[v] w (Gives w (.int .i64 (leastL xs : Nat))) := by
  obtain ⟨A, c, rfl⟩ := hv.len
  have hm := hv.max
  unfold maxLen at hm
  by_cases h4 : xs.length < 4
  · have HV : Hid (leastL xs = 5) := Lib.hid (by unfold leastL; rw [if_pos h4])
    go_enter Try.func25, Try.ntmps25
    go_wp2_with fail
    go_ret
    exact ⟨by rw [HV.out]; rfl, Below.refl _ _⟩
  · have hs : szL xs < 65536 := by unfold szL; have := hb.get 2; have := hb.get 3; omega
    have HV : Hid ((4 : Int) + ((szL xs : Nat) : Int) = ((leastL xs : Nat) : Int)) := Lib.hid (by unfold leastL; rw [if_neg h4]; omega)
    have HX := Lib.hid hv; have HBB := Lib.hid hb
    clear hv hb
    go_enter Try.func25, Try.ntmps25
    go_wp2_with (go_at_call 28; refine (sizeIn_any _ xs _ HX.out HBB.out (by omega)).mono ?_; rintro e w1 ⟨rfl, hb1⟩; have HB := Lib.hid hb1; clear hb1)
    go_ret
    exact ⟨ret_int HV.out, HB.out⟩
end Go.Proofs.Ytlmemkcfikdhgaa
