/- The reference's Join returns what joinL says. -/
import Derived.Test.YtdcjnklagklckaaDoorJoinB
import Derived.Test.YtdcjnklagklckaaDoorWordsP
namespace Go.Proofs.YtdcjnklagklckaaDoor
open Go.RowKit Go.Shelf
set_option linter.unusedVariables false

theorem tooB_len {fs : List FD} (h : 64 < fs.length) : tooB fs = true := by unfold tooB; rw [decide_eq_true h]; simp
theorem tooB_big {fs : List FD} {k : Nat} (hk : k < fs.length) (h : 2000 < fs[k].1.size) : tooB fs = true := by
  unfold tooB; rw [List.any_eq_true.2 ⟨fs[k], List.getElem_mem hk, decide_eq_true h⟩]; rfl
theorem tooB_ok {fs : List FD} (h1 : ¬ 64 < fs.length) (h : ∀ i (h : i < fs.length), fs[i].1.size ≤ 2000) : tooB fs = false := by
  unfold tooB
  rw [Bool.or_eq_false_iff, List.any_eq_false]
  refine ⟨fun f hf => ?_, by simp; omega⟩
  obtain ⟨i, hi, rfl⟩ := List.getElem_of_mem hf
  have := h i hi; simp; omega
theorem joinL_too {fs : List FD} (h : tooB fs = true) : joinL fs = ([], 3) := by unfold joinL; rw [h]; rfl

set_option maxRecDepth 20000 in
set_option maxHeartbeats 2000000 in
theorem rjoin_cells (g off c : Nat) (fs : List FD) (w : World) (hml : fs.length ≤ maxLen) (hgl : g < w.heap.size)
    (hcell : ∀ i (h : i < fs.length), w.cell? ⟨g, off + i * 2, none⟩ = some (.string fs[i].1) ∧ w.cell? ⟨g, off + i * 2 + 1, none⟩ = some (.bool fs[i].2)) :
    Calls Tryd.prog 28 #[.slice (some ⟨g, off, none⟩) fs.length c] w (JoinPost fs w) := by
  have HC := Lib.hid hcell; clear hcell
  unfold maxLen at hml
  by_cases h64 : 64 < fs.length
  · have HN := Lib.hid (joinL_too (tooB_len h64))
    go_enter Tryd.func28, Tryd.ntmps28
    go_wp2_with fail
    go_ret2
    exact ⟨ret_join rfl HN.out, Below.refl _ _⟩
  go_enter Tryd.func28, Tryd.ntmps28
  go_wp2_with fail
  go_loop [4] (fun i => ∃ k : Nat, k ≤ fs.length ∧ i = .int .i64 k ∧ Hid (∀ i (h : i < fs.length), i < k → fs[i].1.size ≤ 2000)) (fun i => fs.length - (intOf i).toNat)
  case atStart => exact ⟨0, by omega, rfl, Lib.hid (fun i _ h => absurd h (by omega))⟩
  case round =>
    obtain ⟨k, hk, rfl, HX⟩ := hrel
    by_cases hlt : k < fs.length
    · have c0 := (HC.out k hlt).1
      by_cases hbig : 2000 < fs[k].1.size
      · have HN := Lib.hid (joinL_too (tooB_big hlt hbig))
        go_wp2_with fail
        go_ret2
        exact ⟨ret_join rfl HN.out, Below.refl _ _⟩
      · have HX2 : Hid (∀ i (h : i < fs.length), i < k + 1 → fs[i].1.size ≤ 2000) := Lib.hid (fun i h hi => by
          by_cases e : i < k
          · exact HX.out i h e
          · obtain rfl : i = k := by omega
            omega)
        go_wp2_with fail
        go_round
        case rel => exact ⟨k + 1, by omega, by go_num, HX2⟩
        case measure => simp [intOf]; omega
    · have HTB := Lib.hid (tooB_ok h64 (fun i h => HX.out i h (by omega)))
      have H2000 : Hid (∀ i (h : i < fs.length), fs[i].1.size ≤ 2000) := Lib.hid (fun i h => HX.out i h (by omega))
      clear HX
      go_wp2_with fail
      go_loopw [5, 6] (fun v i wr => ∃ (k : Nat) (O : ByteArray), k ≤ fs.length ∧ i = .int .i64 k ∧ v = .string O ∧ Hid (Below w.heap.size w wr) ∧ Hid (O.data.toList = lineL (fs.take k)) ∧ Hid ((fs.take k).all okF = true)) (fun _ i _ => fs.length - (intOf i).toNat)
      case atStart => exact ⟨0, _, by omega, rfl, rfl, Lib.hid (Below.refl _ _), Lib.hid rfl, Lib.hid rfl⟩
      case round =>
        obtain ⟨m, O, hm, rfl, rfl, HB, HO, HOK⟩ := hrel
        have hOs : O.size ≤ 512192 := by
          have := lineL_take (fs := fs) m HTB.out
          rw [← HO.out, len_data] at this; exact this
        by_cases hlt2 : m < fs.length
        case neg =>
          have hall : fs.all okF = true := by have := HOK.out; rwa [List.take_of_length_le (by omega)] at this
          have hOl : O.data.toList = lineL fs := by have := HO.out; rwa [List.take_of_length_le (by omega)] at this
          have hOe : (⟨(lineL fs).toArray⟩ : ByteArray) = O := by rw [← hOl]
          have HOE := Lib.hid hOe
          have HEND := Lib.hid (joinL_end HTB.out hall)
          have hOs2 : (lineL fs).length = O.size := by rw [← hOl, len_data]
          by_cases hbig : 8192 < O.size
          case' pos => have HN := Lib.hid (HEND.out.trans (if_pos (by omega)))
          case' neg => have HN := Lib.hid (HEND.out.trans (if_neg (by omega)))
          all_goals
            clear hall hOl hOe hOs2
            go_wp2_with fail
            go_ret2
          all_goals first
            | exact ⟨ret_join rfl HN.out, HB.out⟩
            | exact ⟨ret_join HOE.out.symm HN.out, HB.out⟩
        case pos =>
          obtain ⟨h0, h1⟩ := HC.out m hlt2
          have c0 := (HB.out.cell (p := ⟨g, off + m * 2, none⟩) hgl).trans h0
          have c1 := (HB.out.cell (p := ⟨g, off + m * 2 + 1, none⟩) hgl).trans h1
          clear h0 h1
          have hsz : fs[m].1.size ≤ 2000 := H2000.out m hlt2
          obtain ⟨S, hS⟩ : ∃ S, fs[m].1 = S := ⟨_, rfl⟩
          rw [hS] at c0 hsz
          have HST := Lib.hid (lineL_step hlt2)
          cases hq : fs[m].2
          case true =>
            obtain ⟨QB, hQB⟩ : ∃ QB : ByteArray, (⟨(quoteL S.data.toList).toArray⟩ : ByteArray) = QB := ⟨_, rfl⟩
            have hqs : QB.size ≤ 8002 := by
              have h1 := quoteL_len S.data.toList
              rw [len_data] at h1
              rw [← hQB]; show (quoteL S.data.toList).toArray.size ≤ _; simp only [List.size_toArray]; omega
            have hwr : QB.data.toList = writL fs[m] := by rw [wr_q _ hq, hS, ← hQB]
            have HWR := Lib.hid hwr; have HQB := Lib.hid hQB; clear hwr hQB
            have HOK2 := Lib.hid (okF_step hlt2 HOK.out (by unfold okF; rw [hq]; rfl))
            rw [hq] at c1
            have HS := Lib.hid hS; have HQ := Lib.hid hq; clear hS hq
            by_cases hm0 : m = 0
            case' pos =>
              have hm1 : m < 1 := by omega
              have HT : Hid (O.data.toList ++ QB.data.toList = lineL (fs.take (m + 1))) := Lib.hid (by
                have hz : lineL (fs.take m) = [] := by rw [hm0]; rfl
                rw [HST.out, if_pos hm0, HO.out, hz, HWR.out]; rfl)
            case' neg =>
              have hm1 : 0 < m := by omega
              have HT : Hid (O.data.toList ++ [32] ++ QB.data.toList = lineL (fs.take (m + 1))) := Lib.hid (by rw [HST.out, if_neg hm0, HO.out, HWR.out])
            all_goals
              clear hm0
              go_wp2_with (go_at_call 22; refine (rquote_any S _ (by omega)).mono ?_; rintro e w3 ⟨rfl, hb⟩; rw [HQB.out]; have HB3 := Lib.hid (bl_call HB.out hb); clear hb)
              go_roundw
              case rel => exact ⟨m + 1, _, by omega, by go_num, rfl, HB3, Lib.hid (by rw [← HT.out]; simp), HOK2⟩
              case measure => simp [intOf]; omega
          case false =>
            have hok : okF fs[m] = bareB S.data.toList := by unfold okF; rw [hq, hS]; rfl
            have hwr : S.data.toList = writL fs[m] := by rw [wr_b _ hq, hS]
            have HWR := Lib.hid hwr; have HOKM := Lib.hid hok; clear hwr hok
            rw [hq] at c1
            have HS := Lib.hid hS; have HQ := Lib.hid hq; clear hS hq
            have HSM : Hid (S.size ≤ maxLen) := Lib.hid (by unfold maxLen; omega)
            cases hbb : bareB S.data.toList
            case false =>
              have HBB := Lib.hid hbb; clear hbb
              have HN := Lib.hid (joinL_bad HTB.out (okF_bad hlt2 (by rw [HOKM.out, HBB.out])))
              go_wp2_with (go_at_call 49; refine (rbare_any _ _ HSM.out).mono ?_; rintro e w9 ⟨rfl, rfl⟩; rw [HBB.out])
              go_ret2
              exact ⟨ret_join rfl HN.out, HB.out⟩
            have HBB := Lib.hid hbb; clear hbb
            have HOK2 := Lib.hid (okF_step hlt2 HOK.out (by rw [HOKM.out, HBB.out]))
            by_cases hm0 : m = 0
            case' pos =>
              have hm1 : m < 1 := by omega
              have HT : Hid (O.data.toList ++ S.data.toList = lineL (fs.take (m + 1))) := Lib.hid (by
                have hz : lineL (fs.take m) = [] := by rw [hm0]; rfl
                rw [HST.out, if_pos hm0, HO.out, hz, HWR.out]; rfl)
            case' neg =>
              have hm1 : 0 < m := by omega
              have HT : Hid (O.data.toList ++ [32] ++ S.data.toList = lineL (fs.take (m + 1))) := Lib.hid (by rw [HST.out, if_neg hm0, HO.out, HWR.out])
            all_goals
              clear hm0
              go_wp2_with (go_at_call 49; refine (rbare_any _ _ HSM.out).mono ?_; rintro e w9 ⟨rfl, rfl⟩; rw [HBB.out])
              go_roundw
              case rel => exact ⟨m + 1, _, by omega, by go_num, rfl, HB, Lib.hid (by rw [← HT.out]; simp), HOK2⟩
              case measure => simp [intOf]; omega

set_option maxRecDepth 20000 in
theorem rjoin_none (a : Option Addr) (ca : Nat) (w : World) : Calls Tryd.prog 28 #[.slice a 0 ca] w (JoinPost [] w) := by
  go_enter Tryd.func28, Tryd.ntmps28
  go_wp2_with fail
  refine wp_loop_rounds 1 ?_
  rw [rounds_succ]
  go_wp2_with fail
  refine wp_loop_rounds 1 ?_
  rw [rounds_succ]
  go_wp2_with fail
  go_ret2
  exact ⟨rfl, Below.refl _ _⟩
theorem rjoin_any (v : Value) (fs : List FD) (w : World) (h : FSl w v fs) :
    Calls Tryd.prog 28 #[v] w (JoinPost fs w) := by
  rcases h with ⟨rfl, rfl⟩ | ⟨g, off, cap, rfl, h1, h2, h3⟩
  · exact rjoin_none _ _ w
  · exact rjoin_cells g off cap fs w h2 h1 h3
end Go.Proofs.YtdcjnklagklckaaDoor
