/- The reference's Block. -/
import Derived.Test.YtipcanphkdodaaaDoorShaZg
namespace Go.Proofs.YtipcanphkdodaaaDoor
open Go.RowKit
set_option linter.unusedVariables false

structure BkI (w : World) (st bs : List Nat) (W : World) : Prop where
  st : AR W w.heap.size 23 (uV st)
  bx : AR W (w.heap.size + 1) 24 (yV bs)
  rs : AR W (w.heap.size + 1 + 1) 23 (uV (List.replicate 8 0))
  bel : Below w.heap.size w W
theorem BkI.step {w W W' : World} {st bs : List Nat} (h : BkI w st bs W) (hb : Below W.heap.size W W') : BkI w st bs W' := ⟨h.st.step hb, h.bx.step hb, h.rs.step hb, bl_call h.bel hb⟩
theorem BkI.start (w : World) (st bs : List Nat) {Z : Array Value} (hZ : Z = uV (List.replicate 8 0)) : BkI w st bs (((w.alloc (.cells (uV st) 23)).alloc (.cells (yV bs) 24)).alloc (.cells Z 23)) := by
  subst hZ
  refine ⟨((AR.made _ _ _).more _).more _, ?_, ?_, bl_alloc _ (bl_alloc _ (bl_alloc _ (Below.refl _ _)))⟩
  · have := AR.made (w.alloc (.cells (uV st) 23)) 24 (yV bs)
    rw [size_more] at this
    exact this.more _
  · have := AR.made ((w.alloc (.cells (uV st) 23)).alloc (.cells (yV bs) 24)) 23 (uV (List.replicate 8 0))
    rw [size_more, size_more] at this
    exact this
set_option maxRecDepth 20000 in
set_option maxHeartbeats 2000000 in
theorem rBlock_any (st bs : List Nat) (w : World) (hst : st.length = 8) (hsw : WW st) (hbs : BB bs) (hlen : bs.length = 64) :
    Calls Tryd.prog 13 #[.agg (uV st), .agg (yV bs)] w (Gives w (.agg (uV (blockL st bs)))) := by
  have HST := Lib.hid hst; have HL := Lib.hid hlen; have HBB := Lib.hid hbs; have HSW := Lib.hid hsw
  clear hst hlen hbs hsw
  have HS : Hid (BkI w st bs (((w.alloc (.cells (uV st) 23)).alloc (.cells (yV bs) 24)).alloc (.cells (uV (List.replicate 8 0)) 23))) := Lib.hid (BkI.start w st bs rfl)
  go_enter Tryd.func13, Tryd.ntmps13
  go_upto_region 0 with fail
  go_cut [2, 3, 4] (fun s2 s3 s4 wc => s2 = .pointer (some ⟨w.heap.size, 0, none⟩) ∧ s3 = .pointer (some ⟨w.heap.size + 1, 0, none⟩) ∧ s4 = .pointer (some ⟨w.heap.size + 1 + 1, 0, none⟩) ∧ Hid (BkI w st bs wc))
  case first =>
    go_wp2_with fail
    go_meet
    exact ⟨rfl, rfl, rfl, HS⟩
  case rest =>
    obtain ⟨rfl, rfl, rfl, HD⟩ := hcut
    clear HS
    go_upto_region 1 with fail
    have HDd : Hid (BkI w st bs wc.drew) := Lib.hid (HD.out.step (bl_drewN 1 (Below.refl _ _)))
    refine wp_region_held_drew (S := fun W => AR W w.heap.size 23 (uV st) ∧ AR W (w.heap.size + 1) 24 (yV bs)) (by kernel_rfl) ⟨HDd.out.st, HDd.out.bx⟩ (fun hHeld => ?_)
    refine wpAnyH_take (i := 1) (oi := { dst := some 6, op := _, type := _, pos := _, after := _, guard := _ }) rfl (by kernel_rfl) (by kernel_rfl) (by kernel_rfl) (fun _ _ _ h => h) (yields_row (by rfl) 23 (.tmp 2) rfl w.heap.size rfl 23 (uV st) _ (fun _ h => h.1) Tryd.underlying23 rfl (info8 st HST.out)) hHeld ?_
    (try simp only [Act.put, List.setIfInBounds_toArray, List.set_cons_zero, List.set_cons_succ])
    refine wpAnyH_take (i := 2) (oi := { dst := some 7, op := _, type := _, pos := _, after := _, guard := _ }) rfl (by kernel_rfl) (by kernel_rfl) (by kernel_rfl) (fun _ _ _ h => h) (yields_row (by rfl) 24 (.tmp 3) rfl (w.heap.size + 1) rfl 24 (yV bs) _ (fun _ h => h.2) Tryd.underlying24 rfl (info64 bs HL.out)) hHeld ?_
    (try simp only [Act.put, List.setIfInBounds_toArray, List.set_cons_zero, List.set_cons_succ])
    refine wpAnyH_ready (rs := [0]) (by kernel_rfl) (by simp) (AllReadyH.cons (o := { dst := some 5, op := _, type := _, pos := _, after := _, guard := _ }) rfl (fun K hK => ?_) AllReadyH.nil)
    go_simp
    go_at_call 15; refine (rconstants_any _).mono ?_; rintro e w1 ⟨rfl, hb⟩; have H1 := Lib.hid (HDd.out.step hb); clear hb
    refine hK.out _ _ ?_ (fun hHeld1 => ?_)
    · exact ⟨H1.out.st, H1.out.bx⟩
    clear hK K
    (try simp only [Act.put, List.setIfInBounds_toArray, List.set_cons_zero, List.set_cons_succ])
    refine wpAnyH_ready (rs := [3]) (by kernel_rfl) (by simp) (AllReadyH.cons (o := { dst := some 8, op := _, type := _, pos := _, after := _, guard := _ }) rfl (fun K hK => ?_) AllReadyH.nil)
    go_simp
    go_at_call 38; refine (rblock_any st bs _ HST.out HSW.out HBB.out HL.out).mono ?_; rintro e w2 ⟨rfl, hb⟩; have H2 := Lib.hid (H1.out.step hb); clear hb
    refine hK.out _ _ ?_ (fun hHeld2 => ?_)
    · exact ⟨H2.out.st, H2.out.bx⟩
    clear hK K
    (try simp only [Act.put, List.setIfInBounds_toArray, List.set_cons_zero, List.set_cons_succ])
    refine wpAnyH_ready (rs := [4]) (by kernel_rfl) (by simp) (AllReadyH.cons (o := { dst := none, op := .store 23 (.tmp 4) (.tmp 8), type := _, pos := _, after := _, guard := _ }) rfl (fun K hK => ?_) AllReadyH.nil)
    rw [if_pos (by rfl)]
    refine wp_store_row 23 (.tmp 4) (.tmp 8) rfl (w.heap.size + 1 + 1) (uV (blockL st bs)) rfl rfl 23 (uV (List.replicate 8 0)) H2.out.rs (info8 _ (blockL_len _ HST.out)) (by rw [uV_size, uV_size, blockL_len _ HST.out]; rfl) (uV_one _) ?_
    refine hK.out _ _ ?_ (fun hHeld3 => ?_)
    · exact ⟨H2.out.st.apart (show w.heap.size ≠ w.heap.size + 1 + 1 by omega) _, H2.out.bx.apart (show w.heap.size + 1 ≠ w.heap.size + 1 + 1 by omega) _⟩
    clear hK K
    refine wpAnyH_done (by kernel_rfl) ?_ _
    go_wp2_with fail
    refine bodyPost_ret (v := .agg (uV (blockL st bs))) (results_cell_row Tryd.results13 _ _ (w.heap.size + 1 + 1) 23 _ (0, 0) _ rfl (H2.out.rs.row _) Tryd.underlying23 rfl (info8 _ (blockL_len _ HST.out))) rfl ⟨rfl, bl_row _ H2.out.bel (by omega)⟩
end Go.Proofs.YtipcanphkdodaaaDoor
