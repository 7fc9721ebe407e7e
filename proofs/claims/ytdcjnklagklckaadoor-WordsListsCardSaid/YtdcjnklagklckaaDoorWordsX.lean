/- words.List. -/
import Derived.Test.YtdcjnklagklckaaDoorWordsW
namespace Go.Proofs.YtdcjnklagklckaaDoor
open Go.RowKit Go.Shelf
set_option linter.unusedVariables false

theorem rangeB_iff (ns : List Int) : rangeB ns = false ↔ ∀ j, j < ns.length → 0 ≤ ns.getD j 0 ∧ ns.getD j 0 ≤ 1000000000 := by
  refine ⟨rangeB_get, fun h => ?_⟩
  unfold rangeB
  rw [List.any_eq_false]
  intro x hx
  obtain ⟨j, hj, rfl⟩ := List.getElem_of_mem hx
  have := h j hj
  rw [List.getD_eq_getElem?_getD, List.getElem?_eq_getElem hj] at this; simp at this ⊢; omega
theorem rangeB_bad {ns : List Int} {j : Nat} (hj : j < ns.length) (h : ¬ (0 ≤ ns.getD j 0 ∧ ns.getD j 0 ≤ 1000000000)) : rangeB ns = true := by
  cases hr : rangeB ns
  · exact absurd ((rangeB_iff ns).1 hr j hj) h
  · rfl

set_option maxRecDepth 20000 in
set_option maxHeartbeats 400000 in
theorem list_any (v : Value) (ns : List Int) (w : World) (h : ISl w v ns)
    (htab : Lib.TabIs Tryd.prog w "internal/strconv.uint64pow10" .u64 Lib.pow10Tab) :
    Calls Tryd.prog 30 #[v] w fun e w' => e = .returned (.tuple #[.string ⟨(listL ns).1.toArray⟩, .int .i64 (listL ns).2]) ∧ Below w.heap.size w w' := by
  have HT := Lib.hid htab; clear htab
  rcases h with ⟨rfl, rfl⟩ | ⟨g, off, cap, rfl, hg, hml, hcell⟩
  · go_enter Tryd.func30, Tryd.ntmps30
    go_wp2_with fail
    refine wp_loop_rounds 1 ?_
    rw [rounds_succ]
    go_wp2_with fail
    refine wp_loop_rounds 1 ?_
    rw [rounds_succ]
    go_wp2_with fail
    refine bodyPost_ret (v := .tuple #[.string ⟨#[45]⟩, .int .i64 0]) (by simp [results, Tryd.f30, go_sem]) rfl ⟨rfl, Below.refl _ _⟩
  · have HC := Lib.hid hcell; clear hcell
    unfold maxLen at hml
    by_cases hlong : 500 < ns.length
    · have HN : Hid (listL ns = ([], 3)) := Lib.hid (by unfold listL; rw [if_pos hlong])
      go_enter Tryd.func30, Tryd.ntmps30
      go_wp2_with fail
      refine bodyPost_ret (v := .tuple #[.string ⟨#[]⟩, .int .i64 3]) (by simp [results, Tryd.f30, go_sem]) rfl ⟨by rw [HN.out], Below.refl _ _⟩
    · go_enter Tryd.func30, Tryd.ntmps30
      go_wp2_with fail
      go_loopw [12] (fun i wr => ∃ k : Nat, k ≤ ns.length ∧ i = .int .i64 k ∧ Hid (wr = w) ∧ Hid (∀ j, j < k → 0 ≤ ns.getD j 0 ∧ ns.getD j 0 ≤ 1000000000)) (fun i _ => ns.length - (intOf i).toNat)
      case atStart => exact ⟨0, by omega, rfl, Lib.hid rfl, Lib.hid (fun j hj => absurd hj (by omega))⟩
      case round =>
        obtain ⟨k, hk, rfl, HW, HX⟩ := hrel
        by_cases hlt : k < ns.length
        · obtain ⟨x, hx⟩ : ∃ x, ns.getD k 0 = x := ⟨_, rfl⟩
          have c0 : wr.cell? ⟨g, off + k, none⟩ = some (.int .i64 x) := by
            rw [HW.out, ← hx, List.getD_eq_getElem?_getD, List.getElem?_eq_getElem hlt]; exact HC.out k hlt
          have j1 : (k : Int) < (ns.length : Int) := by omega
          have HXX := Lib.hid hx; clear hx
          have HG : Hid ((x < 0 ∨ 1000000000 < x) → listL ns = ([], 7)) := Lib.hid (fun hb => by
            unfold listL; rw [if_neg hlong, if_pos (rangeB_bad hlt (by rw [HXX.out]; omega))])
          by_cases hb1 : x < 0
          case' pos =>
            have j2 : decide (x < 0) = true := decide_eq_true hb1
            have HN := Lib.hid (HG.out (.inl hb1))
          case' neg =>
            have j2 : decide (x < 0) = false := decide_eq_false hb1
            by_cases hb2 : 1000000000 < x
            case' pos =>
              have j3 : decide (1000000000 < x) = true := decide_eq_true hb2
              have HN := Lib.hid (HG.out (.inr hb2))
            case' neg =>
              have j3 : decide (1000000000 < x) = false := decide_eq_false hb2
              have HX2 : Hid (∀ j, j < k + 1 → 0 ≤ ns.getD j 0 ∧ ns.getD j 0 ≤ 1000000000) := Lib.hid (fun j hj => by
                by_cases h : j < k
                · exact HX.out j h
                · obtain rfl : j = k := by omega
                  rw [HXX.out]; omega)
          all_goals go_wp2_with fail
          all_goals first
            | (refine bodyPost_ret (v := .tuple #[.string ⟨#[]⟩, .int .i64 7]) (by simp [results, Tryd.f30, go_sem]) rfl ⟨by rw [HN.out], by rw [HW.out]; exact Below.refl _ _⟩)
            | (go_roundw
               case rel => exact ⟨k + 1, by omega, by go_num, HW, HX2⟩
               case measure => simp [intOf]; omega)
        · have hR : rangeB ns = false := (rangeB_iff ns).2 (fun j hj => HX.out j (by omega))
          have HL : Hid (listL ns = if !ascB ns then ([], 6) else if ns.length = 0 then ([45], 0) else (listS ns, 0)) := Lib.hid (by
            unfold listL; rw [if_neg hlong, hR]; rfl)
          have HR := Lib.hid hR; clear hR
          obtain ⟨wo, hwo⟩ : ∃ wo, wo = wr := ⟨_, rfl⟩
          subst hwo
          go_wp2_with fail
          go_loopw [6] (fun i wr => ∃ k : Nat, 1 ≤ k ∧ (k ≤ ns.length ∨ k = 1) ∧ i = .int .i64 k ∧ Hid (∃ n, wr = w.drewN n) ∧ Hid (∀ j, j < k → j < ns.length → 1 ≤ j → ns.getD (j - 1) 0 < ns.getD j 0)) (fun i _ => ns.length - (intOf i).toNat)
          case atStart => exact ⟨1, by omega, .inr rfl, rfl, Lib.hid ⟨0, HW.out⟩, Lib.hid (fun j hj => by omega)⟩
          case round =>
            obtain ⟨m, hm1, hm2, rfl, HW2, HY⟩ := hrel
            have HC2 : Hid (∀ p, wr.cell? p = w.cell? p) := Lib.hid (fun p => by obtain ⟨n, e⟩ := HW2.out; rw [e]; rfl)
            have HB : Hid (Below w.heap.size w wr) := Lib.hid (by obtain ⟨n, e⟩ := HW2.out; rw [e]; exact bl_drewN _ (Below.refl _ _))
            by_cases hlt2 : m < ns.length
            · obtain ⟨q, hq⟩ : ∃ q : Nat, m - 1 = q := ⟨_, rfl⟩
              obtain ⟨x, hx⟩ : ∃ x, ns.getD m 0 = x := ⟨_, rfl⟩
              obtain ⟨y, hy⟩ : ∃ y, ns.getD q 0 = y := ⟨_, rfl⟩
              have hq2 : q < ns.length := by omega
              have c0 : wr.cell? ⟨g, off + m, none⟩ = some (.int .i64 x) := by
                rw [HC2.out, ← hx, List.getD_eq_getElem?_getD, List.getElem?_eq_getElem hlt2]; exact HC.out m hlt2
              have c1 : wr.cell? ⟨g, off + q, none⟩ = some (.int .i64 y) := by
                rw [HC2.out, ← hy, List.getD_eq_getElem?_getD, List.getElem?_eq_getElem hq2]; exact HC.out q hq2
              have j1 : (m : Int) < (ns.length : Int) := by omega
              have j2 : (q : Int) < (ns.length : Int) := by omega
              have w1 : IntKind.i64.wrap ((m : Int) - 1) = (q : Int) := by rw [IntWalk.i64_in _ (by omega)]; omega
              have HXX := Lib.hid hx; have HYY := Lib.hid hy; clear hx hy
              by_cases hb1 : x ≤ y
              case' pos =>
                have j3 : decide (x ≤ y) = true := decide_eq_true hb1
                have HN : Hid (listL ns = ([], 6)) := Lib.hid (by
                  rw [HL.out, show ascB ns = false from decide_eq_false (fun h => by have := h m hlt2 hm1; rw [HXX.out, hq, HYY.out] at this; omega)]; rfl)
              case' neg =>
                have j3 : decide (x ≤ y) = false := decide_eq_false hb1
                have HY2 : Hid (∀ j, j < m + 1 → j < ns.length → 1 ≤ j → ns.getD (j - 1) 0 < ns.getD j 0) := Lib.hid (fun j hj hj2 hj3 => by
                  by_cases h : j < m
                  · exact HY.out j h hj2 hj3
                  · obtain rfl : j = m := by omega
                    rw [HXX.out, hq, HYY.out]; omega)
              all_goals
                go_wp2_with fail
                go_quiet (fail)
                go_wp2_with fail
              all_goals first
                | (refine bodyPost_ret (v := .tuple #[.string ⟨#[]⟩, .int .i64 6]) (by simp [results, Tryd.f30, go_sem]) rfl ⟨by rw [HN.out], bl_drewN _ HB.out⟩)
                | (go_roundw
                   case rel => exact ⟨m + 1, by omega, .inl (by omega), by go_num, Lib.hid (by obtain ⟨n, e⟩ := HW2.out; rw [e]; exact ⟨n + nq, by simp [World.drewN, Nat.add_assoc]⟩), HY2⟩
                   case measure => simp [intOf]; omega)
            · have HL2 : Hid (listL ns = if ns.length = 0 then ([45], 0) else (listS ns, 0)) := Lib.hid (by
                rw [HL.out, show ascB ns = true from decide_eq_true (fun j hj hj2 => HY.out j (by omega) hj hj2)]; rfl)
              have j1 : decide ((m : Int) < (ns.length : Int)) = false := decide_eq_false (by omega)
              by_cases h0 : ns.length = 0
              case' pos =>
                have j2 : ((ns.length : Int) == 0) = true := by rw [beq_iff_eq]; omega
                have HN : Hid (listL ns = ([45], 0)) := Lib.hid (by rw [HL2.out, if_pos h0])
              case' neg =>
                have j2 : ((ns.length : Int) == 0) = false := by rw [beq_eq_false_iff_ne]; omega
                have HN : Hid (listL ns = (listS ns, 0)) := Lib.hid (by rw [HL2.out, if_neg h0])
              all_goals go_wp2_with (go_at_call 54; refine (printRuns_any g off cap ns _ (Nat.lt_of_lt_of_le hg HB.out.size) (by omega) HR.out (fun i h => (HC2.out _).trans (HC.out i h)) (Lib.tabBelow_of_tabIs HT.out _ HB.out)).mono ?_; rintro e w' ⟨rfl, hb⟩; have HB1 := Lib.hid hb; clear hb)
              all_goals first
                | (refine bodyPost_ret (v := .tuple #[.string ⟨#[45]⟩, .int .i64 0]) (by simp [results, Tryd.f30, go_sem]) rfl ⟨by rw [HN.out], HB.out⟩)
                | (refine bodyPost_ret (v := .tuple #[.string ⟨(listS ns).toArray⟩, .int .i64 0]) (by simp [results, Tryd.f30, go_sem]) rfl ⟨by rw [HN.out], bl_call HB.out HB1.out⟩)
end Go.Proofs.YtdcjnklagklckaaDoor
