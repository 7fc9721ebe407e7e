/- The reference's Split returns what words.Split returns. -/
import Derived.Test.YtkafcbiiponacaaDoorSplitM
import Derived.Laws.Tables
namespace Go.Proofs.YtkafcbiiponacaaDoor
open Go.RowKit Go.Shelf
set_option linter.unusedVariables false

theorem wpList_build_as {P : Program} {ops : Array Oper} {rest : List Oper} {o : Oper} {a : Act} {w : World} {Q : Exit → Act → World → Prop} (hg : o.guard = none) (t : TypeId) (parts : Array (Nat × Operand)) (ho : o.op = .build t parts)
    (cells : Array Value) (hf : P.built t (parts.map fun (i, x) => (i, a.eval x)).toList = some cells) (h : wpList P ops Q rest (a.put o.dst (.agg cells)) w) : wpList P ops Q (o :: rest) a w :=
  wpList_build hg t parts ho (by rw [hf]; rfl) (by rw [hf]; exact h)

set_option maxRecDepth 20000 in
set_option maxHeartbeats 20000000 in
theorem rsplit_any (s : ByteArray) (w : World) (hs : s.size ≤ maxLen) :
    Calls Tryd.prog 24 #[.string s] w (SplitPost s.data.toList w) := by
  unfold maxLen at hs
  obtain ⟨i0, hi, hz0, hz1, hz2⟩ := info_parts info_field
  by_cases hlong : 8192 < s.size
  · have HN : Hid (splitL s.data.toList = ([], 3)) := Lib.hid (by unfold splitL; rw [len_data, if_pos hlong])
    go_enter Tryd.func24, Tryd.ntmps24
    go_wp2_with fail
    go_ret2
    exact ⟨.slice none 0 0, by rw [HN.out]; rfl, .inl ⟨rfl, by rw [HN.out]⟩, Below.refl _ _⟩
  by_cases h0 : 0 < s.size
  case neg =>
    have hem : s.toList.isEmpty = true := by rw [isEmpty_size]; exact decide_eq_true (by omega)
    have HN : Hid (splitL s.data.toList = ([], 0)) := Lib.hid (by
      have : s.data.toList = [] := List.eq_nil_of_length_eq_zero (by rw [len_data]; omega)
      rw [this]; rfl)
    go_enter Tryd.func24, Tryd.ntmps24
    go_wp2_with fail
    go_ret2
    exact ⟨.slice none 0 0, by rw [HN.out]; rfl, .inl ⟨rfl, by rw [HN.out]⟩, Below.refl _ _⟩
  have hem : s.toList.isEmpty = false := by rw [isEmpty_size]; exact decide_eq_false (by omega)
  have htodo : Todo s.data.toList 0 [] := ⟨s.data.toList.length + 1, by omega, by
    unfold fieldsY; rw [if_neg (by rw [← ByteArray.toList_eq, hem]; simp)]; rfl⟩
  have HT := Lib.hid htodo; clear htodo
  go_enter Tryd.func24, Tryd.ntmps24
  go_wp2_with fail
  go_loopw [4, 5, 6] (fun v lg i wr => ∃ (k : Nat) (pre : List FY), k ≤ s.size ∧ i = .int .i64 k ∧ lg = .bool (pre.any fun x => decide (2000 < x.1.size)) ∧ pre.length ≤ k ∧ Hid (Below w.heap.size w wr) ∧
      Hid (wr.ownsRow w.heap.size 50 2 v pre.length (fcells (pre.map fun x => (x.1, x.2.1)))) ∧ Hid (pre.all (fun x => x.2.2) = true) ∧ Hid (Todo s.data.toList k pre)) (fun _ _ i _ => s.size + 1 - (intOf i).toNat)
  case atStart => exact ⟨0, [], by omega, rfl, rfl, by simp, Lib.hid (Below.refl _ _), Lib.hid (World.ownsRow_nil _ _ _ _), Lib.hid rfl, HT⟩
  case round =>
    obtain ⟨k, pre, hk, rfl, rfl, hpl, HB, HR, HA, HTD⟩ := hrel
    obtain ⟨lg, hlg⟩ : ∃ lg, (pre.any fun x => decide (2000 < x.1.size)) = lg := ⟨_, rfl⟩
    rw [hlg]
    have HLG := Lib.hid hlg; clear hlg
    obtain ⟨T, m, hq⟩ : ∃ T m, qT (s.extract k s.size).data.toList = (T, m) := ⟨_, _, rfl⟩
    have hRs : (s.extract k s.size).size ≤ 35184372088000 := by simp; omega
    have HQ := Lib.hid hq; have HRS := Lib.hid hRs; clear hq hRs
    by_cases hm : m = 0
    · subst hm
      obtain ⟨TB0, hTB0⟩ : ∃ TB : ByteArray, (⟨T.toArray⟩ : ByteArray) = TB := ⟨_, rfl⟩
      have HTB0 := Lib.hid hTB0; clear hTB0
      have HQ2 : Hid ((qT (s.data.toList.drop k)).2 = 0) := Lib.hid (by rw [← extract_drop, HQ.out])
      obtain ⟨wo, hwo⟩ : ∃ wo, wo = wr := ⟨_, rfl⟩
      subst hwo
      go_wp2_with (go_at_call 44; refine (rquoted_any _ _ HRS.out).mono ?_; rintro e w' ⟨rfl, hb⟩; rw [HQ.out, HTB0.out]; have HBW := Lib.hid (bl_call HB.out hb); have HROW := Lib.hid (row_below HR.out hb); clear hb)
      go_loop [8] (fun n => ∃ j : Nat, k + j ≤ s.size ∧ n = .int .i64 j ∧ Hid (((s.data.toList.drop k).take j).all (· != 32) = true)) (fun n => s.size - (intOf n).toNat)
      case atStart => exact ⟨0, by omega, rfl, Lib.hid rfl⟩
      case round =>
        obtain ⟨n, hkn, rfl, HSPC⟩ := hrel
        obtain ⟨u, hu⟩ : ∃ u : Nat, k + n = u := ⟨_, rfl⟩
        have hus : u ≤ s.size := by omega
        have w1 : IntKind.i64.wrap ((k : Int) + (n : Int)) = (u : Int) := by rw [IntWalk.i64_in _ (by omega)]; omega
        have HSPC2 : Hid (∀ (h : u < s.size), s[u] ≠ 32 → ((s.data.toList.drop k).take (n + 1)).all (· != 32) = true) := Lib.hid (fun h hne => by
          have hn : n < (s.data.toList.drop k).length := by rw [List.length_drop, len_data]; omega
          rw [List.take_succ_eq_append_getElem hn, List.all_append, HSPC.out, List.getElem_drop]
          have e : s.data.toList[k + n]'(by rw [len_data]; omega) = s[u] := by simp only [hu]; rfl
          rw [e]; simp [hne])
        by_cases hul : u < s.size
        case' pos =>
          have hul' : (u : Int) < (s.size : Int) := by omega
          cases h32 : ((s[u].toNat : Int) != 32)
          case true =>
            have HX := Lib.hid (HSPC2.out hul (by intro e; rw [e] at h32; cases h32))
            go_wp2_with fail
            go_round
            case rel => exact ⟨n + 1, by omega, by go_num, HX⟩
            case measure => simp [intOf]; omega
          have HE : Hid (s.data.toList.drop u = [] ∨ (s.data.toList.drop u).headD 0 = 32) := Lib.hid (.inr (by
            rw [List.drop_eq_getElem_cons (by rw [len_data]; exact hul)]
            show s[u] = 32
            apply UInt8.toNat_inj.1; simp at h32; show _ = 32; omega))
        case' neg =>
          have hul' : decide ((u : Int) < (s.size : Int)) = false := decide_eq_false (by omega)
          have HE : Hid (s.data.toList.drop u = [] ∨ (s.data.toList.drop u).headD 0 = 32) := Lib.hid (.inl (List.drop_eq_nil_of_le (by rw [len_data]; omega)))
        all_goals
          obtain ⟨TB, hTB⟩ : ∃ TB : ByteArray, s.extract k u = TB := ⟨_, rfl⟩
          have htl : TB.data.toList = (s.data.toList.drop k).take n := by rw [← hTB, Lib.extract_data, show u - k = n by omega]
          have htn : TB.data.toList.length = n := by rw [htl, List.length_take, List.length_drop, len_data]; omega
          have hab : s.data.toList.drop k = TB.data.toList ++ s.data.toList.drop u := by
            rw [htl, ← hu, ← List.drop_drop, List.take_append_drop]
          have HBS : Hid (TB.size ≤ maxLen) := Lib.hid (by rw [← len_data, htn]; unfold maxLen; omega)
          have HTL := Lib.hid htl; have HTN := Lib.hid htn; have HAB := Lib.hid hab
          clear htl htn hab
          cases hbb : bareB TB.data.toList
          case false =>
            have HBB := Lib.hid hbb; clear hbb
            have HN : Hid (splitL s.data.toList = ([], 6)) := Lib.hid (by
              have h6 := todo_end HTD.out (by
                rw [HAB.out]
                exact bad_ab _ _ (by rw [HTL.out]; exact HSPC.out) HBB.out HE.out (by rw [← HAB.out]; exact HQ2.out))
              unfold splitL; rw [len_data, if_neg hlong, if_pos h6])
            go_wp2_with (first | (go_at_call 49; refine (rbare_any _ _ HBS.out).mono ?_; rintro e w9 ⟨rfl, rfl⟩; rw [HBB.out]) | (refine wpList_build_as rfl 50 #[(0, .tmp 47)] rfl #[.string TB, .bool false] (by kernel_rfl) ?_))
            go_ret2
            exact ⟨.slice none 0 0, by rw [HN.out]; rfl, by rw [HN.out]; exact .inl ⟨rfl, rfl⟩, bl_alloc _ HBW.out⟩
          have HBB := Lib.hid hbb; clear hbb
          have hn0 : n ≠ 0 := by
            intro e
            have h0 : TB.data.toList = [] := List.eq_nil_of_length_eq_zero (by rw [HTN.out]; exact e)
            have := HBB.out
            rw [h0] at this; cases this
          have HO : Hid (oneF (s.data.toList.drop k) = (TB, false, n)) := Lib.hid (by
            rw [HAB.out, oneF_ab _ _ HBB.out HE.out, HTN.out])
          have hnx := todo_next HTD.out HO.out hn0
          rw [hu, len_data] at hnx
          obtain ⟨x1, x2, x3⟩ := hnx
          have X1 := Lib.hid x1; have X2 := Lib.hid x2; have X3 := Lib.hid x3; clear x1 x2 x3
          have HAL : Hid ((pre ++ [((TB, false, true) : FY)]).all (fun x => x.2.2) = true) := Lib.hid (by rw [List.all_append, HA.out]; rfl)
          have HLN : Hid ((pre ++ [((TB, false, true) : FY)]).any (fun x => decide (2000 < x.1.size)) = (lg || decide (2000 < TB.size))) := Lib.hid (by rw [List.any_append, HLG.out]; simp)
          have HTB : Hid (tooB ((pre ++ [((TB, false, true) : FY)]).map fun x => (x.1, x.2.1)) = ((lg || decide (2000 < TB.size)) || decide (64 < pre.length + 1))) := Lib.hid (by
            rw [← HLN.out]; unfold tooB; rw [List.any_map, List.length_map, List.length_append]; rfl)
          have HSP : Hid (u = s.size → splitL s.data.toList = if tooB ((pre ++ [((TB, false, true) : FY)]).map fun x => (x.1, x.2.1)) then ([], 3) else ((pre ++ [((TB, false, true) : FY)]).map fun x => (x.1, x.2.1), 0)) := Lib.hid (fun e => by
            unfold splitL; rw [len_data, if_neg hlong, X1.out e, ← List.not_all_eq_any_not, HAL.out]; rfl)
          have HS6 : Hid ((fieldsY s.data.toList).any (fun x => !x.2.2) = true → splitL s.data.toList = ([], 6)) := Lib.hid (fun e => by
            unfold splitL; rw [len_data, if_neg hlong, if_pos e])
          have HF : Hid (∀ (W : World) (v : Value), W.ownsRow w.heap.size 50 2 v (pre.length + 1) (fcells (pre.map fun x => (x.1, x.2.1)) ++ [.string TB, .bool false]) → W.ownsRow w.heap.size 50 2 v (pre ++ [((TB, false, true) : FY)]).length (fcells ((pre ++ [((TB, false, true) : FY)]).map fun x => (x.1, x.2.1)))) := Lib.hid (fun W v h => by
            rw [List.map_append, List.map_cons, List.map_nil, fcells_snoc, List.length_append]; exact h)
          rcases Decidable.em (u = s.size) with hend | hend
          case' inl =>
            have j1 : ((u : Int) == (s.size : Int)) = true := by rw [beq_iff_eq]; omega
            have HEND := Lib.hid hend; clear hend
            cases lg
            case' true => have HN : Hid (splitL s.data.toList = ([], 3)) := Lib.hid (by rw [HSP.out HEND.out, HTB.out]; rfl)
            case' false =>
              by_cases hbig : 2000 < TB.size
              case' pos =>
                have j2 : decide (2000 < TB.size) = true := decide_eq_true hbig
                have HN : Hid (splitL s.data.toList = ([], 3)) := Lib.hid (by rw [HSP.out HEND.out, HTB.out, j2]; rfl)
              case' neg =>
                have j2 : decide (2000 < TB.size) = false := decide_eq_false hbig
                by_cases h64 : 64 < pre.length + 1
                case' pos =>
                  have j3 : decide (64 < pre.length + 1) = true := decide_eq_true h64
                  have HN : Hid (splitL s.data.toList = ([], 3)) := Lib.hid (by rw [HSP.out HEND.out, HTB.out, j2, j3]; rfl)
                case' neg =>
                  have j3 : decide (64 < pre.length + 1) = false := decide_eq_false h64
                  have HN : Hid (splitL s.data.toList = ((pre ++ [((TB, false, true) : FY)]).map fun x => (x.1, x.2.1), 0)) := Lib.hid (by rw [HSP.out HEND.out, HTB.out, j2, j3]; rfl)
          case' inr =>
            have hul : u < s.size := by omega
            have j1 : ((u : Int) == (s.size : Int)) = false := by rw [beq_eq_false_iff_ne]; omega
            have hgd : s.data.toList.getD u 0 = s[u] := by rw [List.getD_eq_getElem?_getD, List.getElem?_eq_getElem (by rw [len_data]; exact hul)]; rfl
            by_cases hsp : s[u] = 32
            case' pos =>
              have j2 : ((s[u].toNat : Int) != 32) = false := by rw [hsp]; rfl
              have HTD2 := Lib.hid (X3.out hul (by rw [hgd]; exact hsp))
            case' neg =>
              have j2 : ((s[u].toNat : Int) != 32) = true := by rw [bne_iff_ne]; intro e; apply hsp; apply UInt8.toNat_inj.1; show _ = 32; omega
              have HN := Lib.hid (HS6.out (X2.out hul (by rw [hgd]; exact hsp)))
            all_goals cases lg
          all_goals (try (exfalso; first | omega | (rw [h32] at j2; cases j2; done)))
          all_goals
            go_wp2_with (first
              | (go_at_call 49; refine (rbare_any _ _ HBS.out).mono ?_; rintro e w9 ⟨rfl, rfl⟩; rw [HBB.out])
              | (refine wpList_build_as rfl 50 #[(0, .tmp 47)] rfl #[.string TB, .bool false] (by kernel_rfl) ?_)
              | (at_builtin; go_loud (refine wpList_append_own _ rfl _ _ 32 rfl w.heap.size 50 i0 (.agg #[.string ⟨#[]⟩, .bool false]) 2 24 Tryd.underlying32 hi hz0 hz1 hz2 rfl (by decide) _ _ _ rfl ((HROW.out.alloc _).alloc _) ⟨_, 0, none⟩ 1 1 [.string TB, .bool false] rfl rfl (cells_new2 _ _ _ [_, _]) (by simp [Value.oneCell']) (by unfold maxLen; omega) (by omega) (by have := HBW.out.size; simp; omega) ?_); intro v' w1 hown hgrow _
                 have hbx : w1.heap[w'.heap.size]? = some (.cells #[.string TB, .bool false] 50 (0, 0)) := (hgrow.block _ (by simp; omega) (fun e => by have := (HROW.out.lt _ e.symm).2; omega)).trans ((Below.heap_alloc _ _ _ (by simp)).trans (heap_alloc_new w' _))
                 obtain ⟨b0, b1, _, _⟩ := cell_of2 hbx
                 clear hbx
                 have hbw : Below w.heap.size w w1 := (bl_alloc _ (bl_alloc _ HBW.out)).grown hgrow (by have := HBW.out.size; simp; omega) (fun k e => (HROW.out.lt k e).1)
                 obtain ⟨g', cap', rfl⟩ := ownsRow_succ hown
                 have HOWN := Lib.hid hown; have HBF := Lib.hid hbw; clear hown hgrow hbw))
          all_goals try
            (go_roundw
             case rel => exact ⟨u + 1, pre ++ [((TB, false, true) : FY)], by omega, by go_num, by rw [HLN.out]; first | (simp; done) | (simp; omega), by simp; omega, HBF, Lib.hid (HF.out _ _ HOWN.out), HAL, HTD2⟩
             case measure => simp [intOf]; omega)
          all_goals go_ret2
          all_goals first
            | (exfalso; omega)
            | exact ⟨.slice none 0 0, by rw [HN.out]; rfl, by rw [HN.out]; exact .inl ⟨rfl, rfl⟩, HBF.out⟩
            | (refine ⟨.slice (some ⟨g', 0, none⟩) (pre.length + 1) cap', by rw [HN.out]; rfl, ?_, HBF.out⟩
               rw [HN.out]
               have hfr := HF.out _ _ HOWN.out
               rw [show (pre ++ [((TB, false, true) : FY)]).length = ((pre ++ [((TB, false, true) : FY)]).map fun x => (x.1, x.2.1)).length by simp] at hfr
               exact FSl_of_row hfr)
    · have j0 : ((m : Int) == 0) = false := by rw [beq_eq_false_iff_ne]; omega
      have hh := qT_head (l := (s.extract k s.size).data.toList) (by rw [HQ.out]; exact hm)
      have HO : Hid (oneF (s.data.toList.drop k) = (⟨T.toArray⟩, true, m)) := Lib.hid (by rw [← extract_drop, oneF_quoted hh, HQ.out])
      obtain ⟨n, hn⟩ : ∃ n, n = m := ⟨_, rfl⟩
      subst hn
      have hle : n ≤ s.size - k := by
        have := oneF_le (s.data.toList.drop k)
        rw [HO.out, List.length_drop, len_data] at this; exact this
      obtain ⟨TB, hTB⟩ : ∃ TB : ByteArray, (⟨T.toArray⟩ : ByteArray) = TB := ⟨_, rfl⟩
      rw [hTB] at HO
      have HTBB := Lib.hid hTB; clear hTB
      have hn0 : n ≠ 0 := hm
      obtain ⟨u, hu⟩ : ∃ u : Nat, k + n = u := ⟨_, rfl⟩
      have hus : u ≤ s.size := by omega
      have w1 : IntKind.i64.wrap ((k : Int) + (n : Int)) = (u : Int) := by rw [IntWalk.i64_in _ (by omega)]; omega
      have hnx := todo_next HTD.out HO.out hn0
      rw [hu, len_data] at hnx
      obtain ⟨x1, x2, x3⟩ := hnx
      have X1 := Lib.hid x1; have X2 := Lib.hid x2; have X3 := Lib.hid x3; clear x1 x2 x3
      have HAL : Hid ((pre ++ [((TB, true, true) : FY)]).all (fun x => x.2.2) = true) := Lib.hid (by rw [List.all_append, HA.out]; rfl)
      have HLN : Hid ((pre ++ [((TB, true, true) : FY)]).any (fun x => decide (2000 < x.1.size)) = (lg || decide (2000 < TB.size))) := Lib.hid (by rw [List.any_append, HLG.out]; simp)
      have HTB : Hid (tooB ((pre ++ [((TB, true, true) : FY)]).map fun x => (x.1, x.2.1)) = ((lg || decide (2000 < TB.size)) || decide (64 < pre.length + 1))) := Lib.hid (by
        rw [← HLN.out]; unfold tooB; rw [List.any_map, List.length_map, List.length_append]; rfl)
      have HSP : Hid (u = s.size → splitL s.data.toList = if tooB ((pre ++ [((TB, true, true) : FY)]).map fun x => (x.1, x.2.1)) then ([], 3) else ((pre ++ [((TB, true, true) : FY)]).map fun x => (x.1, x.2.1), 0)) := Lib.hid (fun e => by
        unfold splitL; rw [len_data, if_neg hlong, X1.out e, ← List.not_all_eq_any_not, HAL.out]; rfl)
      have HS6 : Hid ((fieldsY s.data.toList).any (fun x => !x.2.2) = true → splitL s.data.toList = ([], 6)) := Lib.hid (fun e => by
        unfold splitL; rw [len_data, if_neg hlong, if_pos e])
      have HF : Hid (∀ (W : World) (v : Value), W.ownsRow w.heap.size 50 2 v (pre.length + 1) (fcells (pre.map fun x => (x.1, x.2.1)) ++ [.string TB, .bool true]) → W.ownsRow w.heap.size 50 2 v (pre ++ [((TB, true, true) : FY)]).length (fcells ((pre ++ [((TB, true, true) : FY)]).map fun x => (x.1, x.2.1)))) := Lib.hid (fun W v h => by
        rw [List.map_append, List.map_cons, List.map_nil, fcells_snoc, List.length_append]; exact h)
      rcases Decidable.em (u = s.size) with hend | hend
      case' inl =>
        have j1 : ((u : Int) == (s.size : Int)) = true := by rw [beq_iff_eq]; omega
        have HEND := Lib.hid hend; clear hend
        cases lg
        case' true => have HN : Hid (splitL s.data.toList = ([], 3)) := Lib.hid (by rw [HSP.out HEND.out, HTB.out]; rfl)
        case' false =>
          by_cases hbig : 2000 < TB.size
          case' pos =>
            have j2 : decide (2000 < TB.size) = true := decide_eq_true hbig
            have HN : Hid (splitL s.data.toList = ([], 3)) := Lib.hid (by rw [HSP.out HEND.out, HTB.out, j2]; rfl)
          case' neg =>
            have j2 : decide (2000 < TB.size) = false := decide_eq_false hbig
            by_cases h64 : 64 < pre.length + 1
            case' pos =>
              have j3 : decide (64 < pre.length + 1) = true := decide_eq_true h64
              have HN : Hid (splitL s.data.toList = ([], 3)) := Lib.hid (by rw [HSP.out HEND.out, HTB.out, j2, j3]; rfl)
            case' neg =>
              have j3 : decide (64 < pre.length + 1) = false := decide_eq_false h64
              have HN : Hid (splitL s.data.toList = ((pre ++ [((TB, true, true) : FY)]).map fun x => (x.1, x.2.1), 0)) := Lib.hid (by rw [HSP.out HEND.out, HTB.out, j2, j3]; rfl)
      case' inr =>
        have hul : u < s.size := by omega
        have j1 : ((u : Int) == (s.size : Int)) = false := by rw [beq_eq_false_iff_ne]; omega
        have hgd : s.data.toList.getD u 0 = s[u] := by rw [List.getD_eq_getElem?_getD, List.getElem?_eq_getElem (by rw [len_data]; exact hul)]; rfl
        by_cases hsp : s[u] = 32
        case' pos =>
          have j2 : ((s[u].toNat : Int) != 32) = false := by rw [hsp]; rfl
          have HTD2 := Lib.hid (X3.out hul (by rw [hgd]; exact hsp))
        case' neg =>
          have j2 : ((s[u].toNat : Int) != 32) = true := by rw [bne_iff_ne]; intro e; apply hsp; apply UInt8.toNat_inj.1; show _ = 32; omega
          have HN := Lib.hid (HS6.out (X2.out hul (by rw [hgd]; exact hsp)))
        all_goals cases lg
      all_goals
        go_wp2_with (first
          | (go_at_call 44; refine (rquoted_any _ _ HRS.out).mono ?_; rintro e w' ⟨rfl, hb⟩; rw [HQ.out, HTBB.out]; have HB1 := Lib.hid hb; have HBW := Lib.hid (bl_call HB.out hb); have HROW := Lib.hid (row_below HR.out hb); clear hb)
          | (at_builtin; go_loud (refine wpList_append_own _ rfl _ _ 32 rfl w.heap.size 50 i0 (.agg #[.string ⟨#[]⟩, .bool false]) 2 24 Tryd.underlying32 hi hz0 hz1 hz2 rfl (by decide) _ _ _ rfl ((HROW.out.alloc _).alloc _) ⟨_, 0, none⟩ 1 1 [.string TB, .bool true] rfl rfl (cells_new2 _ _ _ [_, _]) (by simp [Value.oneCell']) (by unfold maxLen; omega) (by omega) (by have := HBW.out.size; simp; omega) ?_); intro v' w1 hown hgrow _
             have hbx : w1.heap[w'.heap.size]? = some (.cells #[.string TB, .bool true] 50 (0, 0)) := (hgrow.block _ (by simp; omega) (fun e => by have := (HROW.out.lt _ e.symm).2; omega)).trans ((Below.heap_alloc _ _ _ (by simp)).trans (heap_alloc_new w' _))
             obtain ⟨b0, b1, _, _⟩ := cell_of2 hbx
             clear hbx
             have hbw : Below w.heap.size w w1 := (bl_alloc _ (bl_alloc _ HBW.out)).grown hgrow (by have := HBW.out.size; simp; omega) (fun k e => (HROW.out.lt k e).1)
             obtain ⟨g', cap', rfl⟩ := ownsRow_succ hown
             have HOWN := Lib.hid hown; have HBF := Lib.hid hbw; clear hown hgrow hbw))
      all_goals try
        (go_roundw
         case rel => exact ⟨u + 1, pre ++ [((TB, true, true) : FY)], by omega, by go_num, by rw [HLN.out]; first | (simp; done) | (simp; omega), by simp; omega, HBF, Lib.hid (HF.out _ _ HOWN.out), HAL, HTD2⟩
         case measure => simp [intOf]; omega)
      all_goals go_ret2
      all_goals first
        | (exfalso; omega)
        | exact ⟨.slice none 0 0, by rw [HN.out]; rfl, by rw [HN.out]; exact .inl ⟨rfl, rfl⟩, HBF.out⟩
        | (refine ⟨.slice (some ⟨g', 0, none⟩) (pre.length + 1) cap', by rw [HN.out]; rfl, ?_, HBF.out⟩
           rw [HN.out]
           have hfr := HF.out _ _ HOWN.out
           rw [show (pre ++ [((TB, true, true) : FY)]).length = ((pre ++ [((TB, true, true) : FY)]).map fun x => (x.1, x.2.1)).length by simp] at hfr
           exact FSl_of_row hfr)
end Go.Proofs.YtkafcbiiponacaaDoor
