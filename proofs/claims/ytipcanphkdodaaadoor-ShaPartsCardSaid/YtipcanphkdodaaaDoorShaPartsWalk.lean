/- The law ShaParts: the walk. -/
import Derived.Test.YtipcanphkdodaaaDoorShaU
import Derived.Test.YtipcanphkdodaaaDoorShaO
import Derived.Test.YtipcanphkdodaaaDoorShaT
namespace Go.Proofs.YtipcanphkdodaaaDoor
open Go.RowKit
set_option linter.unusedVariables false

theorem yV_z : yV (List.replicate 32 0) = #[.int .u8 0, .int .u8 0, .int .u8 0, .int .u8 0, .int .u8 0, .int .u8 0, .int .u8 0, .int .u8 0, .int .u8 0, .int .u8 0, .int .u8 0, .int .u8 0, .int .u8 0, .int .u8 0, .int .u8 0, .int .u8 0, .int .u8 0, .int .u8 0, .int .u8 0, .int .u8 0, .int .u8 0, .int .u8 0, .int .u8 0, .int .u8 0, .int .u8 0, .int .u8 0, .int .u8 0, .int .u8 0, .int .u8 0, .int .u8 0, .int .u8 0, .int .u8 0] := by kernel_rfl
set_option maxRecDepth 20000 in
set_option maxHeartbeats 4000000 in
theorem parts_any (v : Value) (ps : List (List Nat)) (w : World) (hp : PN w v ps) (hV : VK w) : Calls Tryd.prog 7 #[v] w (Gives w (.bool true)) := by
  have HV := Lib.hid hV; clear hV
  obtain ⟨N, hN⟩ : ∃ N, ps.length = N := ⟨_, rfl⟩
  obtain ⟨A, c, rfl⟩ := hp.len
  have HP := Lib.hid hp
  clear hp
  rw [hN] at HP ⊢
  have HNN := Lib.hid hN; clear hN
  by_cases hN10 : N ≤ 10
  · go_enter Tryd.func7, Tryd.ntmps7
    go_wp2_with (go_at_call 27; refine (new_any _ HV.out).mono ?_; rintro e w1 ⟨g, rfl, hh, hg, hb⟩; have HS : Hid (PS w w1 g (.slice none 0 0) []) := Lib.hid ⟨hg, hh, ON.nil _ _ hb.size, hb, BB.nil⟩; clear hh hg hb)
    go_loopw [4, 5] (fun a i wr => ∃ (k : Nat) (m : List Nat), i = .int .i64 k ∧ k ≤ N ∧ Hid (PS w wr g a m) ∧ Hid (m.length ≤ 300 * k)) (fun _ i _ => N - (intOf i).toNat)
    case atStart => exact ⟨0, [], rfl, by omega, HS, Lib.hid (by simp)⟩
    case round =>
      obtain ⟨k, m, rfl, hk, HPS, HM⟩ := hrel
      by_cases hlt : k < N
      · obtain ⟨gp, off, u, xs, hvA, hu, hcell, hrn, hbb⟩ : ∃ gp off u, ∃ xs : List Nat, A = some ⟨gp, off, none⟩ ∧ gp < w.heap.size ∧ w.cell? ⟨gp, off + k, none⟩ = some u ∧ RN w u xs ∧ BB xs := by
          have hpn := HP.out
          rcases hpn with ⟨A', c', hv, rfl⟩ | ⟨gp, off, c', hv, hg, h0, h1, h2, hi⟩
          · have := HNN.out; simp at this; omega
          · obtain ⟨u, hu1, hu2, hu3, _⟩ := hi k (by rw [HNN.out]; exact hlt)
            simp only [Value.slice.injEq] at hv
            exact ⟨gp, off, u, _, hv.1, hg, hu1, hu2, hu3⟩
        subst hvA
        obtain ⟨Au, cu, rfl⟩ := hrn.len
        obtain ⟨q, hq⟩ : ∃ q, xs.length = q := ⟨_, rfl⟩
        rw [hq] at hcell hrn
        have c1 : wr.cell? ⟨gp, off + k, none⟩ = some (.slice Au q cu) := (HPS.out.bel.cell (p := ⟨gp, _, none⟩) hu).trans hcell
        have HX := Lib.hid hrn; have HXB := Lib.hid hbb; have HQ := Lib.hid hq
        have c3 := hcell
        clear hrn hbb hq hcell
        by_cases hq300 : q ≤ 300
        · obtain ⟨Q, hQ⟩ : ∃ Q, (m ++ xs).length = Q := ⟨_, rfl⟩
          have hQb : Q ≤ 300 * (k + 1) := by have h1 := HM.out; have h2 := HQ.out; rw [List.length_append] at hQ; omega
          have hQ6 : Q ≤ 1000000 := by omega
          have HQQ := Lib.hid hQ
          clear hQ
          go_upto_region 14 with (first
            | (go_at_call 28; refine (write_any g m xs _ _ HPS.out.ha (HX.out.later HPS.out.bel) HXB.out (by have := HQQ.out; rw [List.length_append] at this; omega) (HV.out.below HPS.out.bel)).mono ?_; rintro e w2 ⟨rfl, hh, hg⟩; have HPT : Hid (PT w w2 g _ m xs) := Lib.hid (HPS.out.write HXB.out hh hg); have c2 : w2.cell? ⟨gp, off + k, none⟩ = some (.slice Au q cu) := (HPT.out.bel.cell (p := ⟨gp, _, none⟩) hu).trans c3; clear hh hg)
            | (at_builtin; refine wpList_append_on _ rfl _ _ rfl w.heap.size _ (.slice Au q cu) m xs rfl HPT.out.own rfl (HX.out.later HPT.out.bel) HPT.out.bel.size (by have := HQQ.out; rw [List.length_append] at this; omega) ?_; intro v3 w3 hn hg; have HP3 : Hid (PS w w3 g v3 (m ++ xs)) := Lib.hid (HPT.out.append hn hg); clear hn hg; obtain ⟨A3, c3', rfl⟩ := HP3.out.own.len; rw [HQQ.out])
            | (go_at_call 29; refine (hsum_any g (m ++ xs) _ HP3.out.ha (by rw [HQQ.out]; exact hQ6) (HV.out.below HP3.out.bel)).mono ?_; rintro e w4 ⟨rfl, hb⟩; have HP4 := Lib.hid (HP3.out.step hb); clear hb)
            | ((with_reducible refine atOp ⟨none, .store 32 _ _, _, _, _, _⟩ ?_); refine wpList_store_row rfl 32 (.tmp 7) (.tmp 44) rfl w4.heap.size (yV (shaL (m ++ xs))) rfl rfl 32 (yV (List.replicate 32 0)) (AR.made _ _ _) (info32 _ (shaL_len _)) (by rw [yV_size, yV_size, shaL_len]; rfl) (yV_one _) ?_; rw [World.setRow_alloc_new]; have HP5 := Lib.hid (HP4.out.step (bl_self _ (.cells (yV (shaL (m ++ xs))) 32))); have AD : Hid (AR (w4.alloc (.cells (yV (shaL (m ++ xs))) 32)) w4.heap.size 32 (yV (shaL (m ++ xs)))) := Lib.hid (AR.made _ _ _))
            | (go_at_call 30; refine (hlen_any g (m ++ xs) _ HP5.out.ha (by rw [HQQ.out]; exact hQ6)).mono ?_; rintro e w5 ⟨rfl, rfl⟩; rw [HQQ.out]))
          have AD2 : Hid (AR (w4.alloc (.cells (yV (shaL (m ++ xs))) 32)).drew w4.heap.size 32 (yV (shaL (m ++ xs)))) := Lib.hid AD.out
          have HP6 : Hid (PS w (w4.alloc (.cells (yV (shaL (m ++ xs))) 32)).drew g _ (m ++ xs)) := Lib.hid (HP5.out.step (bl_drewN 1 (Below.refl _ _)))
          refine wp_region_held_drew (S := fun W => AR W w4.heap.size 32 (yV (shaL (m ++ xs)))) (by kernel_rfl) AD2.out (fun hHeld => ?_)
          refine wpAnyH_take (i := 0) (oi := { dst := some 51, op := _, type := _, pos := _, after := _, guard := _ }) (v := ?v51) rfl (by kernel_rfl) (by kernel_rfl) (by kernel_rfl) (fun _ _ _ h => h) (Or.inl ⟨by rfl, ?y51⟩) (by assumption) ?r51
          case y51 => intro w9 hSw; go_simp <;> with_reducible rfl
          (try simp only [Act.put, List.setIfInBounds_toArray, List.set_cons_zero, List.set_cons_succ])
          refine wpAnyH_take (i := 1) (oi := { dst := some 52, op := _, type := _, pos := _, after := _, guard := _ }) (v := ?v52) rfl (by kernel_rfl) (by kernel_rfl) (by kernel_rfl) (fun _ _ _ h => h) (Or.inl ⟨by rfl, ?y52⟩) (by assumption) ?r52
          case y52 => intro w9 hSw; go_simp <;> with_reducible rfl
          (try simp only [Act.put, List.setIfInBounds_toArray, List.set_cons_zero, List.set_cons_succ])
          refine wpAnyH_take (i := 2) (oi := { dst := some 53, op := _, type := _, pos := _, after := _, guard := _ }) (v := ?v53) rfl (by kernel_rfl) (by kernel_rfl) (by kernel_rfl) (fun _ _ _ h => h) (Or.inl ⟨by rfl, ?y53⟩) (by assumption) ?r53
          case y53 => intro w9 hSw; go_simp <;> with_reducible rfl
          (try simp only [Act.put, List.setIfInBounds_toArray, List.set_cons_zero, List.set_cons_succ])
          refine wpAnyH_take (i := 3) (oi := { dst := some 54, op := _, type := _, pos := _, after := _, guard := _ }) (v := ?v54) rfl (by kernel_rfl) (by kernel_rfl) (by kernel_rfl) (fun _ _ _ h => h) (Or.inl ⟨by rfl, ?y54⟩) (by assumption) ?r54
          case y54 => intro w9 hSw; go_simp <;> with_reducible rfl
          (try simp only [Act.put, List.setIfInBounds_toArray, List.set_cons_zero, List.set_cons_succ])
          refine wpAnyH_take (i := 4) (oi := { dst := some 55, op := _, type := _, pos := _, after := _, guard := _ }) (v := ?v55) rfl (by kernel_rfl) (by kernel_rfl) (by kernel_rfl) (fun _ _ _ h => h) (Or.inl ⟨by rfl, ?y55⟩) (by assumption) ?r55
          case y55 => intro w9 hSw; go_simp <;> with_reducible rfl
          (try simp only [Act.put, List.setIfInBounds_toArray, List.set_cons_zero, List.set_cons_succ])
          refine wpAnyH_take (i := 5) (oi := { dst := some 56, op := _, type := _, pos := _, after := _, guard := _ }) (v := ?v56) rfl (by kernel_rfl) (by kernel_rfl) (by kernel_rfl) (fun _ _ _ h => h) (Or.inl ⟨by rfl, ?y56⟩) (by assumption) ?r56
          case y56 => intro w9 hSw; go_simp <;> with_reducible rfl
          (try simp only [Act.put, List.setIfInBounds_toArray, List.set_cons_zero, List.set_cons_succ])
          refine wpAnyH_take (i := 6) (oi := { dst := some 57, op := _, type := _, pos := _, after := _, guard := _ }) (v := ?v57) rfl (by kernel_rfl) (by kernel_rfl) (by kernel_rfl) (fun _ _ _ h => h) (Or.inl ⟨by rfl, ?y57⟩) (by assumption) ?r57
          case y57 => intro w9 hSw; go_simp <;> with_reducible rfl
          (try simp only [Act.put, List.setIfInBounds_toArray, List.set_cons_zero, List.set_cons_succ])
          refine wpAnyH_take (i := 7) (oi := { dst := some 58, op := _, type := _, pos := _, after := _, guard := _ }) (v := ?v58) rfl (by kernel_rfl) (by kernel_rfl) (by kernel_rfl) (fun _ _ _ h => h) (Or.inl ⟨by rfl, ?y58⟩) (by assumption) ?r58
          case y58 => intro w9 hSw; go_simp <;> with_reducible rfl
          (try simp only [Act.put, List.setIfInBounds_toArray, List.set_cons_zero, List.set_cons_succ])
          refine wpAnyH_take (i := 8) (oi := { dst := some 59, op := _, type := _, pos := _, after := _, guard := _ }) (v := ?v59) rfl (by kernel_rfl) (by kernel_rfl) (by kernel_rfl) (fun _ _ _ h => h) (Or.inl ⟨by rfl, ?y59⟩) (by assumption) ?r59
          case y59 => intro w9 hSw; go_simp <;> with_reducible rfl
          (try simp only [Act.put, List.setIfInBounds_toArray, List.set_cons_zero, List.set_cons_succ])
          refine wpAnyH_take (i := 9) (oi := { dst := some 60, op := _, type := _, pos := _, after := _, guard := _ }) (v := ?v60) rfl (by kernel_rfl) (by kernel_rfl) (by kernel_rfl) (fun _ _ _ h => h) (Or.inl ⟨by rfl, ?y60⟩) (by assumption) ?r60
          case y60 => intro w9 hSw; go_simp <;> with_reducible rfl
          (try simp only [Act.put, List.setIfInBounds_toArray, List.set_cons_zero, List.set_cons_succ])
          refine wpAnyH_take (i := 10) (oi := { dst := some 61, op := _, type := _, pos := _, after := _, guard := _ }) (v := ?v61) rfl (by kernel_rfl) (by kernel_rfl) (by kernel_rfl) (fun _ _ _ h => h) (Or.inl ⟨by rfl, ?y61⟩) (by assumption) ?r61
          case y61 => intro w9 hSw; go_simp <;> with_reducible rfl
          (try simp only [Act.put, List.setIfInBounds_toArray, List.set_cons_zero, List.set_cons_succ])
          refine wpAnyH_take (i := 11) (oi := { dst := some 62, op := _, type := _, pos := _, after := _, guard := _ }) rfl (by kernel_rfl) (by kernel_rfl) (by kernel_rfl) (fun _ _ _ h => h) (yields_row (by rfl) 32 (.tmp 7) rfl w4.heap.size rfl 32 (yV (shaL (m ++ xs))) _ (fun _ h => h) Tryd.underlying32 rfl (info32 _ (shaL_len _))) hHeld ?_
          (try simp only [Act.put, List.setIfInBounds_toArray, List.set_cons_zero, List.set_cons_succ])
          refine wpAnyH_take (i := 12) (oi := { dst := some 63, op := _, type := _, pos := _, after := _, guard := _ }) (v := ?v63) rfl (by kernel_rfl) (by kernel_rfl) (by kernel_rfl) (fun _ _ _ h => h) (Or.inl ⟨by rfl, ?y63⟩) (by assumption) ?r63
          case y63 => intro w9 hSw; go_simp <;> with_reducible rfl
          (try simp only [Act.put, List.setIfInBounds_toArray, List.set_cons_zero, List.set_cons_succ])
          refine wpAnyH_ready (rs := [13]) (by kernel_rfl) (by simp) (AllReadyH.cons (o := { dst := some 64, op := _, type := _, pos := _, after := _, guard := _ }) rfl (fun K hK => ?_) AllReadyH.nil)
          go_simp
          go_at_call 19; refine (sum_any (m ++ xs) _ _ (by have := HP6.out.own.rn; rw [HQQ.out] at this; exact this) (HP6.out.bb) (by rw [HQQ.out]; exact hQ6) (HV.out.below HP6.out.bel)).mono ?_; rintro e w7 ⟨rfl, hb⟩; have HP7 := Lib.hid (HP6.out.step hb); have HB7 := Lib.hid hb; clear hb
          refine hK.out _ _ ?_ (fun hHeld64 => ?_)
          · exact AD2.out.step HB7.out
          clear hK K
          (try simp only [Act.put, List.setIfInBounds_toArray, List.set_cons_zero, List.set_cons_succ])
          refine wpAnyH_take (i := 14) (oi := { dst := some 65, op := _, type := _, pos := _, after := _, guard := _ }) (v := ?v65) rfl (by kernel_rfl) (by kernel_rfl) (by kernel_rfl) (fun _ _ _ h => h) (Or.inl ⟨by rfl, ?y65⟩) (by assumption) ?r65
          case y65 => intro w9 hSw; have e1 := eq32 (shaL (m ++ xs)) (shaL_len _) w9; go_simp <;> with_reducible rfl
          (try simp only [Act.put, List.setIfInBounds_toArray, List.set_cons_zero, List.set_cons_succ])
          refine wpAnyH_take (i := 15) (oi := { dst := some 66, op := _, type := _, pos := _, after := _, guard := _ }) (v := ?v66) rfl (by kernel_rfl) (by kernel_rfl) (by kernel_rfl) (fun _ _ _ h => h) (Or.inl ⟨by rfl, ?y66⟩) (by assumption) ?r66
          case y66 => intro w9 hSw; go_simp <;> with_reducible rfl
          (try simp only [Act.put, List.setIfInBounds_toArray, List.set_cons_zero, List.set_cons_succ])
          refine wpAnyH_take (i := 16) (oi := { dst := some 67, op := _, type := _, pos := _, after := _, guard := _ }) (v := ?v67) rfl (by kernel_rfl) (by kernel_rfl) (by kernel_rfl) (fun _ _ _ h => h) (Or.inl ⟨by rfl, ?y67⟩) (by assumption) ?r67
          case y67 => intro w9 hSw; go_simp <;> with_reducible rfl
          (try simp only [Act.put, List.setIfInBounds_toArray, List.set_cons_zero, List.set_cons_succ])
          refine wpAnyH_take (i := 17) (oi := { dst := some 68, op := _, type := _, pos := _, after := _, guard := _ }) (v := ?v68) rfl (by kernel_rfl) (by kernel_rfl) (by kernel_rfl) (fun _ _ _ h => h) (Or.inl ⟨by rfl, ?y68⟩) (by assumption) ?r68
          case y68 => intro w9 hSw; go_simp <;> with_reducible rfl
          (try simp only [Act.put, List.setIfInBounds_toArray, List.set_cons_zero, List.set_cons_succ])
          refine wpAnyH_take (i := 18) (oi := { dst := some 69, op := _, type := _, pos := _, after := _, guard := _ }) (v := ?v69) rfl (by kernel_rfl) (by kernel_rfl) (by kernel_rfl) (fun _ _ _ h => h) (Or.inl ⟨by rfl, ?y69⟩) (by assumption) ?r69
          case y69 => intro w9 hSw; go_simp <;> with_reducible rfl
          (try simp only [Act.put, List.setIfInBounds_toArray, List.set_cons_zero, List.set_cons_succ])
          refine wpAnyH_take (i := 19) (oi := { dst := some 70, op := _, type := _, pos := _, after := _, guard := _ }) (v := ?v70) rfl (by kernel_rfl) (by kernel_rfl) (by kernel_rfl) (fun _ _ _ h => h) (Or.inl ⟨by rfl, ?y70⟩) (by assumption) ?r70
          case y70 => intro w9 hSw; go_simp <;> with_reducible rfl
          (try simp only [Act.put, List.setIfInBounds_toArray, List.set_cons_zero, List.set_cons_succ])
          refine wpAnyH_take (i := 20) (oi := { dst := some 71, op := _, type := _, pos := _, after := _, guard := _ }) (v := ?v71) rfl (by kernel_rfl) (by kernel_rfl) (by kernel_rfl) (fun _ _ _ h => h) (Or.inl ⟨by rfl, ?y71⟩) (by assumption) ?r71
          case y71 => intro w9 hSw; go_simp <;> with_reducible rfl
          (try simp only [Act.put, List.setIfInBounds_toArray, List.set_cons_zero, List.set_cons_succ])
          refine wpAnyH_take (i := 21) (oi := { dst := some 72, op := _, type := _, pos := _, after := _, guard := _ }) (v := ?v72) rfl (by kernel_rfl) (by kernel_rfl) (by kernel_rfl) (fun _ _ _ h => h) (Or.inl ⟨by rfl, ?y72⟩) (by assumption) ?r72
          case y72 => intro w9 hSw; go_simp <;> with_reducible rfl
          (try simp only [Act.put, List.setIfInBounds_toArray, List.set_cons_zero, List.set_cons_succ])
          refine wpAnyH_done (by kernel_rfl) ?_ _
          go_wp2_with fail
          go_roundw
          case rel => exact ⟨k + 1, m ++ xs, by go_num, by omega, (by have := HP7; rw [HQQ.out] at this; exact this), Lib.hid (by rw [HQQ.out]; exact hQb)⟩
          case measure => simp [intOf]; omega
        · go_wp2_with (go_at_call 18; refine (shown_any _ (HV.out.below HPS.out.bel)).mono ?_; rintro e w3 ⟨rfl, hb⟩; have B3 := Lib.hid (bl_call HPS.out.bel hb); clear hb)
          go_ret
          exact ⟨rfl, B3.out⟩
      · go_wp2_with (go_at_call 18; refine (shown_any _ (HV.out.below HPS.out.bel)).mono ?_; rintro e w3 ⟨rfl, hb⟩; have B3 := Lib.hid (bl_call HPS.out.bel hb); clear hb)
        go_ret
        exact ⟨rfl, B3.out⟩
  · go_enter Tryd.func7, Tryd.ntmps7
    go_wp2_with (go_at_call 18; refine (shown_any _ HV.out).mono ?_; rintro e w3 ⟨rfl, hb⟩; have B3 := Lib.hid hb; clear hb)
    go_ret
    exact ⟨rfl, B3.out⟩
end Go.Proofs.YtipcanphkdodaaaDoor
