/- Two lines and the line of all fields: the mathematics; far, told by a plain function. -/
import Derived.Test.YtkafcbiiponacaaDoorJoinD
import Derived.Test.YtkafcbiiponacaaDoorInvA
namespace Go.Proofs.YtkafcbiiponacaaDoor
open Go.RowKit Go.Shelf
set_option linter.unusedVariables false

def sumF (fs : List FD) : Nat := (fs.map fun f => f.1.size).sum
/-- What far reports. -/
def farB (fs : List FD) : Bool := decide (70 < fs.length) || fs.any (fun f => decide (2100 < f.1.size)) || decide (12000 < sumF fs)
theorem sumF_step {fs : List FD} {k : Nat} (h : k < fs.length) : sumF (fs.take (k + 1)) = sumF (fs.take k) + fs[k].1.size := by
  unfold sumF; rw [List.take_succ_eq_append_getElem h, List.map_append, List.sum_append]; simp only [List.map_cons, List.map_nil, List.sum_cons, List.sum_nil]; omega
theorem farB_len {fs : List FD} (h : farB fs = false) : fs.length ≤ 70 := by
  unfold farB at h; simp at h; omega
theorem farB_big {fs : List FD} {k : Nat} (hk : k < fs.length) (h : 2100 < fs[k].1.size) : farB fs = true := by
  unfold farB; rw [List.any_eq_true.2 ⟨fs[k], List.getElem_mem hk, decide_eq_true h⟩]; simp
theorem farB_end {fs : List FD} (h1 : ¬ 70 < fs.length) (h : ∀ i (h : i < fs.length), fs[i].1.size ≤ 2100) : farB fs = decide (12000 < sumF fs) := by
  have ha : fs.any (fun f => decide (2100 < f.1.size)) = false := by
    rw [List.any_eq_false]
    intro f hf
    obtain ⟨i, hi, rfl⟩ := List.getElem_of_mem hf
    have := h i hi; simp; omega
  unfold farB; rw [ha, decide_eq_false h1]; simp
theorem sumF_all (fs : List FD) (k : Nat) (h : fs.length ≤ k) : sumF (fs.take k) = sumF fs := by rw [List.take_of_length_le h]

set_option maxRecDepth 20000 in
set_option maxHeartbeats 1000000 in
theorem farZ (a : Option Addr) (ca : Nat) (w : World) : Calls Tryd.prog 26 #[.slice a 0 ca] w fun e w' => e = .returned (.bool false) ∧ w = w' := by
  go_enter Tryd.func26, Tryd.ntmps26
  go_wp2_with fail
  refine wp_loop_rounds 1 ?_
  rw [rounds_succ]
  go_wp2_with fail
  go_ret
  exact ⟨rfl, rfl⟩
set_option maxRecDepth 20000 in
set_option maxHeartbeats 1000000 in
theorem farC (g off c : Nat) (fs : List FD) (w : World) (hml : fs.length ≤ maxLen)
    (hcell : ∀ i (h : i < fs.length), w.cell? ⟨g, off + i * 2, none⟩ = some (.string fs[i].1) ∧ w.cell? ⟨g, off + i * 2 + 1, none⟩ = some (.bool fs[i].2)) :
    Calls Tryd.prog 26 #[.slice (some ⟨g, off, none⟩) fs.length c] w fun e w' => e = .returned (.bool (farB fs)) ∧ w = w' := by
  have HC := Lib.hid hcell; clear hcell
  unfold maxLen at hml
  by_cases h70 : 70 < fs.length
  · have HN : Hid (farB fs = true) := Lib.hid (by unfold farB; rw [decide_eq_true h70]; rfl)
    go_enter Tryd.func26, Tryd.ntmps26
    go_wp2_with fail
    go_ret
    exact ⟨ret_bool HN.out.symm, rfl⟩
  go_enter Tryd.func26, Tryd.ntmps26
  go_wp2_with fail
  go_loop [3, 4] (fun n i => ∃ (k m : Nat), k ≤ fs.length ∧ i = .int .i64 k ∧ m ≤ 2100 * k ∧ n = .int .i64 m ∧ Hid (m = sumF (fs.take k)) ∧ Hid (∀ i (h : i < fs.length), i < k → fs[i].1.size ≤ 2100)) (fun _ i => fs.length - (intOf i).toNat)
  case atStart => exact ⟨0, 0, by omega, rfl, by omega, rfl, Lib.hid rfl, Lib.hid (fun i _ h => absurd h (by omega))⟩
  case round =>
    obtain ⟨k, m, hk, rfl, hm, rfl, HM, HX⟩ := hrel
    by_cases hlt : k < fs.length
    · have c0 := (HC.out k hlt).1
      by_cases hbig : 2100 < fs[k].1.size
      · have HN := Lib.hid (farB_big hlt hbig)
        go_wp2_with fail
        go_ret
        exact ⟨ret_bool HN.out.symm, rfl⟩
      · have HX2 : Hid (∀ i (h : i < fs.length), i < k + 1 → fs[i].1.size ≤ 2100) := Lib.hid (fun i h hi => by
          by_cases e : i < k
          · exact HX.out i h e
          · obtain rfl : i = k := by omega
            omega)
        have HM2 : Hid (m + fs[k].1.size = sumF (fs.take (k + 1))) := Lib.hid (by rw [sumF_step hlt, HM.out])
        go_wp2_with fail
        go_round
        case rel => exact ⟨k + 1, m + fs[k].1.size, by omega, by go_num, by omega, by go_num, HM2, HX2⟩
        case measure => simp [intOf]; omega
    · have HN := Lib.hid (farB_end h70 (fun i h => HX.out i h (by omega)))
      have HM2 : Hid (m = sumF fs) := Lib.hid (by rw [HM.out, sumF_all fs k (by omega)])
      go_wp2_with fail
      go_ret
      exact ⟨ret_bool (by rw [HN.out, ← HM2.out, Bool.eq_iff_iff]; simp; try omega), rfl⟩
theorem farA (v : Value) (fs : List FD) (w : World) (h : FA w v fs) : Calls Tryd.prog 26 #[v] w fun e w' => e = .returned (.bool (farB fs)) ∧ w = w' := by
  rcases h with (⟨rfl, rfl⟩ | ⟨g, off, cap, rfl, h1, h2, h3⟩) | ⟨a, c, rfl, rfl⟩
  · exact farZ none 0 w
  · exact farC g off cap fs w h2 h3
  · exact farZ a c w

/-! ### Two lines -/
theorem tooB_app (l m : List FD) : tooB (l ++ m) = (l.any (fun f => decide (2000 < f.1.size)) || m.any (fun f => decide (2000 < f.1.size)) || decide (64 < l.length + m.length)) := by
  unfold tooB; rw [List.any_append, List.length_append]
theorem joinL_ok {fs : List FD} {a : List UInt8} (h : joinL fs = (a, 0)) : tooB fs = false ∧ fs.all okF = true ∧ a = lineL fs ∧ a.length ≤ 8192 := by
  unfold joinL at h
  cases ht : tooB fs
  · rw [ht] at h
    cases ho : fs.all okF
    · rw [ho] at h; simp at h
    · rw [ho] at h
      by_cases hl : 8192 < (lineL fs).length
      · rw [if_neg (by simp), if_neg (by simp), if_pos hl] at h; simp at h
      · rw [if_neg (by simp), if_neg (by simp), if_neg hl] at h
        simp only [Prod.mk.injEq, and_true] at h
        exact ⟨rfl, rfl, h.symm, by rw [← h]; omega⟩
  · rw [ht] at h; simp at h
theorem joinL_bad_app (l m : List FD) (hl : l ≠ []) (hm : m ≠ []) (h : (joinL l).2 ≠ 0 ∨ (joinL m).2 ≠ 0) : (joinL (l ++ m)).2 ≠ 0 := by
  intro e
  obtain ⟨h1, h2, h3, h4⟩ := joinL_ok (fs := l ++ m) (a := (joinL (l ++ m)).1) (by rw [← e])
  rw [tooB_app] at h1
  simp only [Bool.or_eq_false_iff, decide_eq_false_iff_not] at h1
  obtain ⟨⟨t1, t2⟩, t3⟩ := h1
  rw [List.all_append, Bool.and_eq_true] at h2
  have hlen := lineL_append hl hm
  rw [h3, hlen] at h4
  simp only [List.length_append] at h4
  rcases h with h | h
  · apply h
    have : joinL l = (lineL l, 0) := by
      rw [joinL_end (by unfold tooB; rw [t1, decide_eq_false (by omega)]; rfl) h2.1, if_neg (by omega)]
    rw [this]
  · apply h
    have : joinL m = (lineL m, 0) := by
      rw [joinL_end (by unfold tooB; rw [t2, decide_eq_false (by omega)]; rfl) h2.2, if_neg (by omega)]
    rw [this]
theorem joinL_app {l m : List FD} {a b : List UInt8} (hl : l ≠ []) (hm : m ≠ []) (h1 : joinL l = (a, 0)) (h2 : joinL m = (b, 0)) :
    joinL (l ++ m) = if 64 < l.length + m.length ∨ 8192 < a.length + 1 + b.length then ([], 3) else (a ++ [32] ++ b, 0) := by
  obtain ⟨t1, o1, e1, _⟩ := joinL_ok h1
  obtain ⟨t2, o2, e2, _⟩ := joinL_ok h2
  have ht : tooB (l ++ m) = decide (64 < l.length + m.length) := by
    rw [tooB_app]
    unfold tooB at t1 t2
    rw [Bool.or_eq_false_iff] at t1 t2
    rw [t1.1, t2.1]; rfl
  by_cases h64 : 64 < l.length + m.length
  · rw [if_pos (.inl h64)]; unfold joinL; rw [ht, decide_eq_true h64]; rfl
  · rw [joinL_end (by rw [ht]; exact decide_eq_false h64) (by rw [List.all_append, o1, o2]; rfl), lineL_append hl hm, ← e1, ← e2]
    by_cases h8 : 8192 < a.length + 1 + b.length
    · rw [if_pos (by simp; omega), if_pos (.inr h8)]
    · rw [if_neg (by simp; omega), if_neg (by rintro (h | h); exact h64 h; exact h8 h)]
end Go.Proofs.YtkafcbiiponacaaDoor
