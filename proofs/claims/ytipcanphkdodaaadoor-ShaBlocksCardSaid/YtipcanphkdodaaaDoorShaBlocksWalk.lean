/- The law ShaBlocks: the walk. -/
import Derived.Test.YtipcanphkdodaaaDoorShaZh
import Derived.Test.YtipcanphkdodaaaDoorShaO
import Derived.Test.YtipcanphkdodaaaDoorShaQ
namespace Go.Proofs.YtipcanphkdodaaaDoor
open Go.RowKit
set_option linter.unusedVariables false

theorem eq8 (T : List Nat) (h : T.length = 8) (w : World) : (Op.equalIn 10000 23 (.agg (uV T)) (.agg (uV T))).run Tryd.prog w = .ok true w :=
  run_equalIn_same w 9998 23 22 8 .u32 Tryd.underlying23 Tryd.underlying22 (by kernel_rfl) T h
theorem eq64 (T : List Nat) (h : T.length = 64) (w : World) : (Op.equalIn 10000 26 (.agg (uV T)) (.agg (uV T))).run Tryd.prog w = .ok true w :=
  run_equalIn_same w 9998 26 22 64 .u32 Tryd.underlying26 Tryd.underlying22 (by kernel_rfl) T h
structure BlI (w : World) (st bs : List Nat) (W : World) : Prop where
  st : AR W w.heap.size 23 (uV st)
  bx : AR W (w.heap.size + 1) 24 (yV bs)
  bel : Below w.heap.size w W
theorem BlI.step {w W W' : World} {st bs : List Nat} (h : BlI w st bs W) (hb : Below W.heap.size W W') : BlI w st bs W' := ⟨h.st.step hb, h.bx.step hb, bl_call h.bel hb⟩
theorem BlI.start (w : World) (st bs : List Nat) : BlI w st bs ((w.alloc (.cells (uV st) 23)).alloc (.cells (yV bs) 24)) := by
  refine ⟨(AR.made _ _ _).more _, ?_, bl_alloc _ (bl_alloc _ (Below.refl _ _))⟩
  have := AR.made (w.alloc (.cells (uV st) 23)) 24 (yV bs)
  rw [size_more] at this
  exact this
set_option maxRecDepth 20000 in
set_option maxHeartbeats 4000000 in
theorem blocks_any (st bs : List Nat) (w : World) (hst : st.length = 8) (hsw : WW st) (hbs : BB bs) (hlen : bs.length = 64) (hV : VK w) :
    Calls Tryd.prog 3 #[.agg (uV st), .agg (yV bs)] w (Gives w (.bool true)) := by
  have HST := Lib.hid hst; have HL := Lib.hid hlen; have HBB := Lib.hid hbs; have HSW := Lib.hid hsw; have HV := Lib.hid hV
  clear hst hlen hbs hsw hV
  have HS : Hid (BlI w st bs ((w.alloc (.cells (uV st) 23)).alloc (.cells (yV bs) 24))) := Lib.hid (BlI.start w st bs)
  go_enter Tryd.func3, Tryd.ntmps3
  go_upto_region 0 with fail
  go_cut [2, 3, 4] (fun s2 s3 s4 wc => s2 = .pointer (some ⟨w.heap.size, 0, none⟩) ∧ s3 = .pointer (some ⟨w.heap.size + 1, 0, none⟩) ∧ s4 = .bool false ∧ Hid (BlI w st bs wc))
  case first =>
    go_wp2_with fail
    go_meet
    exact ⟨rfl, rfl, rfl, HS⟩
  case rest =>
    obtain ⟨rfl, rfl, rfl, HD⟩ := hcut
    clear HS
    go_upto_region 1 with fail
    have H0 : Hid (BlI w st bs wc.drew) := Lib.hid (HD.out.step (bl_drewN 1 (Below.refl _ _)))
    refine wp_region_held_drew (S := fun W => AR W w.heap.size 23 (uV st) ∧ AR W (w.heap.size + 1) 24 (yV bs)) (by kernel_rfl) ⟨H0.out.st, H0.out.bx⟩ (fun hHeld => ?_)
    refine wpAnyH_take (i := 0) (oi := { dst := some 5, op := _, type := _, pos := _, after := _, guard := _ }) rfl (by kernel_rfl) (by kernel_rfl) (by kernel_rfl) (fun _ _ _ h => h) (yields_row (by rfl) 23 (.tmp 2) rfl w.heap.size rfl 23 (uV st) _ (fun _ h => h.1) Tryd.underlying23 rfl (info8 st HST.out)) (by assumption) ?_
    (try simp only [Act.put, List.setIfInBounds_toArray, List.set_cons_zero, List.set_cons_succ])
    refine wpAnyH_take (i := 1) (oi := { dst := some 6, op := _, type := _, pos := _, after := _, guard := _ }) rfl (by kernel_rfl) (by kernel_rfl) (by kernel_rfl) (fun _ _ _ h => h) (yields_row (by rfl) 24 (.tmp 3) rfl (w.heap.size + 1) rfl 24 (yV bs) _ (fun _ h => h.2) Tryd.underlying24 rfl (info64 bs HL.out)) (by assumption) ?_
    (try simp only [Act.put, List.setIfInBounds_toArray, List.set_cons_zero, List.set_cons_succ])
    refine wpAnyH_take (i := 3) (oi := { dst := some 8, op := _, type := _, pos := _, after := _, guard := _ }) rfl (by kernel_rfl) (by kernel_rfl) (by kernel_rfl) (fun _ _ _ h => h) (yields_row (by rfl) 23 (.tmp 2) rfl w.heap.size rfl 23 (uV st) _ (fun _ h => h.1) Tryd.underlying23 rfl (info8 st HST.out)) (by assumption) ?_
    (try simp only [Act.put, List.setIfInBounds_toArray, List.set_cons_zero, List.set_cons_succ])
    refine wpAnyH_take (i := 4) (oi := { dst := some 9, op := _, type := _, pos := _, after := _, guard := _ }) rfl (by kernel_rfl) (by kernel_rfl) (by kernel_rfl) (fun _ _ _ h => h) (yields_row (by rfl) 24 (.tmp 3) rfl (w.heap.size + 1) rfl 24 (yV bs) _ (fun _ h => h.2) Tryd.underlying24 rfl (info64 bs HL.out)) (by assumption) ?_
    (try simp only [Act.put, List.setIfInBounds_toArray, List.set_cons_zero, List.set_cons_succ])
    refine wpAnyH_ready (rs := [2]) (by kernel_rfl) (by simp) (AllReadyH.cons (o := { dst := some 7, op := _, type := _, pos := _, after := _, guard := _ }) rfl (fun K hK => ?_) AllReadyH.nil)
    go_simp
    go_at_call 12; refine (block_any st bs _ HST.out HSW.out HBB.out HL.out (HV.out.below H0.out.bel)).mono ?_; rintro e w1 ⟨rfl, hb⟩; have H1 := Lib.hid (H0.out.step hb); clear hb
    refine hK.out _ _ ?_ (fun hHeld7 => ?_)
    · exact ⟨H1.out.st, H1.out.bx⟩
    clear hK K
    (try simp only [Act.put, List.setIfInBounds_toArray, List.set_cons_zero, List.set_cons_succ])
    refine wpAnyH_ready (rs := [5]) (by kernel_rfl) (by simp) (AllReadyH.cons (o := { dst := some 10, op := _, type := _, pos := _, after := _, guard := _ }) rfl (fun K hK => ?_) AllReadyH.nil)
    go_simp
    go_at_call 13; refine (rBlock_any st bs _ HST.out HSW.out HBB.out HL.out).mono ?_; rintro e w2 ⟨rfl, hb⟩; have H2 := Lib.hid (H1.out.step hb); clear hb
    refine hK.out _ _ ?_ (fun hHeld10 => ?_)
    · exact ⟨H2.out.st, H2.out.bx⟩
    clear hK K
    (try simp only [Act.put, List.setIfInBounds_toArray, List.set_cons_zero, List.set_cons_succ])
    refine wpAnyH_take (i := 6) (oi := { dst := some 11, op := _, type := _, pos := _, after := _, guard := _ }) (v := ?v11) rfl (by kernel_rfl) (by kernel_rfl) (by kernel_rfl) (fun _ _ _ h => h) (Or.inl ⟨by rfl, ?y11⟩) (by assumption) ?r11
    case y11 => intro w9 hSw; have e8 := eq8 (blockL st bs) (blockL_len _ HST.out) w9; go_simp <;> with_reducible rfl
    (try simp only [Act.put, List.setIfInBounds_toArray, List.set_cons_zero, List.set_cons_succ])
    refine wpAnyH_take (i := 7) (oi := { dst := some 12, op := _, type := _, pos := _, after := _, guard := _ }) (v := ?v12) rfl (by kernel_rfl) (by kernel_rfl) (by kernel_rfl) (fun _ _ _ h => h) (Or.inl ⟨by rfl, ?y12⟩) (by assumption) ?r12
    case y12 => intro w9 hSw; go_simp <;> with_reducible rfl
    (try simp only [Act.put, List.setIfInBounds_toArray, List.set_cons_zero, List.set_cons_succ])
    refine wpAnyH_ready (rs := [8]) (by kernel_rfl) (by simp) (AllReadyH.cons (o := { dst := some 13, op := _, type := _, pos := _, after := _, guard := _ }) rfl (fun K hK => ?_) AllReadyH.nil)
    go_simp
    go_at_call 14; refine (constants_any _ (HV.out.below H2.out.bel)).mono ?_; rintro e w3 ⟨rfl, hb⟩; have H3 := Lib.hid (H2.out.step hb); clear hb
    refine hK.out _ _ ?_ (fun hHeld13 => ?_)
    · exact ⟨H3.out.st, H3.out.bx⟩
    clear hK K
    (try simp only [Act.put, List.setIfInBounds_toArray, List.set_cons_zero, List.set_cons_succ])
    refine wpAnyH_ready (rs := [9]) (by kernel_rfl) (by simp) (AllReadyH.cons (o := { dst := some 14, op := _, type := _, pos := _, after := _, guard := _ }) rfl (fun K hK => ?_) AllReadyH.nil)
    go_simp
    go_at_call 15; refine (rconstants_any _).mono ?_; rintro e w4 ⟨rfl, hb⟩; have H4 := Lib.hid (H3.out.step hb); clear hb
    refine hK.out _ _ ?_ (fun hHeld14 => ?_)
    · exact ⟨H4.out.st, H4.out.bx⟩
    clear hK K
    (try simp only [Act.put, List.setIfInBounds_toArray, List.set_cons_zero, List.set_cons_succ])
    refine wpAnyH_take (i := 10) (oi := { dst := some 15, op := _, type := _, pos := _, after := _, guard := _ }) (v := ?v15) rfl (by kernel_rfl) (by kernel_rfl) (by kernel_rfl) (fun _ _ _ h => h) (Or.inl ⟨by rfl, ?y15⟩) (by assumption) ?r15
    case y15 => intro w9 hSw; have e8 := eq64 kL rfl w9; go_simp <;> with_reducible rfl
    (try simp only [Act.put, List.setIfInBounds_toArray, List.set_cons_zero, List.set_cons_succ])
    refine wpAnyH_take (i := 11) (oi := { dst := some 16, op := _, type := _, pos := _, after := _, guard := _ }) (v := ?v16) rfl (by kernel_rfl) (by kernel_rfl) (by kernel_rfl) (fun _ _ _ h => h) (Or.inl ⟨by rfl, ?y16⟩) (by assumption) ?r16
    case y16 => intro w9 hSw; go_simp <;> with_reducible rfl
    (try simp only [Act.put, List.setIfInBounds_toArray, List.set_cons_zero, List.set_cons_succ])
    refine wpAnyH_take (i := 12) (oi := { dst := some 17, op := _, type := _, pos := _, after := _, guard := _ }) (v := ?v17) rfl (by kernel_rfl) (by kernel_rfl) (by kernel_rfl) (fun _ _ _ h => h) (Or.inl ⟨by rfl, ?y17⟩) (by assumption) ?r17
    case y17 => intro w9 hSw; go_simp <;> with_reducible rfl
    (try simp only [Act.put, List.setIfInBounds_toArray, List.set_cons_zero, List.set_cons_succ])
    refine wpAnyH_ready (rs := [13]) (by kernel_rfl) (by simp) (AllReadyH.cons (o := { dst := some 18, op := _, type := _, pos := _, after := _, guard := _ }) rfl (fun K hK => ?_) AllReadyH.nil)
    go_simp
    go_at_call 16; refine (start_any _ (HV.out.below H4.out.bel)).mono ?_; rintro e w5 ⟨rfl, hb⟩; have H5 := Lib.hid (H4.out.step hb); clear hb
    refine hK.out _ _ ?_ (fun hHeld18 => ?_)
    · exact ⟨H5.out.st, H5.out.bx⟩
    clear hK K
    (try simp only [Act.put, List.setIfInBounds_toArray, List.set_cons_zero, List.set_cons_succ])
    refine wpAnyH_ready (rs := [14]) (by kernel_rfl) (by simp) (AllReadyH.cons (o := { dst := some 19, op := _, type := _, pos := _, after := _, guard := _ }) rfl (fun K hK => ?_) AllReadyH.nil)
    go_simp
    go_at_call 17; refine (rstart_any _).mono ?_; rintro e w6 ⟨rfl, hb⟩; have H6 := Lib.hid (H5.out.step hb); clear hb
    refine hK.out _ _ ?_ (fun hHeld19 => ?_)
    · exact ⟨H6.out.st, H6.out.bx⟩
    clear hK K
    (try simp only [Act.put, List.setIfInBounds_toArray, List.set_cons_zero, List.set_cons_succ])
    refine wpAnyH_take (i := 15) (oi := { dst := some 20, op := _, type := _, pos := _, after := _, guard := _ }) (v := ?v20) rfl (by kernel_rfl) (by kernel_rfl) (by kernel_rfl) (fun _ _ _ h => h) (Or.inl ⟨by rfl, ?y20⟩) (by assumption) ?r20
    case y20 => intro w9 hSw; have e8 := eq8 hL rfl w9; go_simp <;> with_reducible rfl
    (try simp only [Act.put, List.setIfInBounds_toArray, List.set_cons_zero, List.set_cons_succ])
    refine wpAnyH_take (i := 16) (oi := { dst := some 21, op := _, type := _, pos := _, after := _, guard := _ }) (v := ?v21) rfl (by kernel_rfl) (by kernel_rfl) (by kernel_rfl) (fun _ _ _ h => h) (Or.inl ⟨by rfl, ?y21⟩) (by assumption) ?r21
    case y21 => intro w9 hSw; go_simp <;> with_reducible rfl
    (try simp only [Act.put, List.setIfInBounds_toArray, List.set_cons_zero, List.set_cons_succ])
    refine wpAnyH_take (i := 17) (oi := { dst := some 22, op := _, type := _, pos := _, after := _, guard := _ }) (v := ?v22) rfl (by kernel_rfl) (by kernel_rfl) (by kernel_rfl) (fun _ _ _ h => h) (Or.inl ⟨by rfl, ?y22⟩) (by assumption) ?r22
    case y22 => intro w9 hSw; go_simp <;> with_reducible rfl
    (try simp only [Act.put, List.setIfInBounds_toArray, List.set_cons_zero, List.set_cons_succ])
    refine wpAnyH_ready (rs := [18]) (by kernel_rfl) (by simp) (AllReadyH.cons (o := { dst := some 23, op := _, type := _, pos := _, after := _, guard := _ }) rfl (fun K hK => ?_) AllReadyH.nil)
    go_simp
    go_at_call 18; refine (shown_any _ (HV.out.below H6.out.bel)).mono ?_; rintro e w7 ⟨rfl, hb⟩; have H7 := Lib.hid (H6.out.step hb); clear hb
    refine hK.out _ _ ?_ (fun hHeld23 => ?_)
    · exact ⟨H7.out.st, H7.out.bx⟩
    clear hK K
    (try simp only [Act.put, List.setIfInBounds_toArray, List.set_cons_zero, List.set_cons_succ])
    refine wpAnyH_take (i := 19) (oi := { dst := some 24, op := _, type := _, pos := _, after := _, guard := _ }) (v := ?v24) rfl (by kernel_rfl) (by kernel_rfl) (by kernel_rfl) (fun _ _ _ h => h) (Or.inl ⟨by rfl, ?y24⟩) (by assumption) ?r24
    case y24 => intro w9 hSw; go_simp <;> with_reducible rfl
    (try simp only [Act.put, List.setIfInBounds_toArray, List.set_cons_zero, List.set_cons_succ])
    refine wpAnyH_take (i := 20) (oi := { dst := some 4, op := _, type := _, pos := _, after := _, guard := _ }) (v := ?v4) rfl (by kernel_rfl) (by kernel_rfl) (by kernel_rfl) (fun _ _ _ h => h) (Or.inl ⟨by rfl, ?y4⟩) (by assumption) ?r4
    case y4 => intro w9 hSw; go_simp <;> with_reducible rfl
    (try simp only [Act.put, List.setIfInBounds_toArray, List.set_cons_zero, List.set_cons_succ])
    refine wpAnyH_done (by kernel_rfl) ?_ _
    go_wp2_with fail
    go_ret
    exact ⟨rfl, H7.out.bel⟩
end Go.Proofs.YtipcanphkdodaaaDoor
