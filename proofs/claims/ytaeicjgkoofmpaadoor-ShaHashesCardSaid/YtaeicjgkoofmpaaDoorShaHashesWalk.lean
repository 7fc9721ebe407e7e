/- The law ShaHashes: the walk. -/
import Derived.Test.YtaeicjgkoofmpaaDoorShaHq
namespace Go.Proofs.YtaeicjgkoofmpaaDoor
open Go.RowKit
set_option linter.unusedVariables false

/-- The state at a round's head. -/
def HR (w : World) (dh db i : Nat) (W : World) : Prop := ∃ g m v g' m' v', HQ w dh db 0 g m v m g' m' v' m' W ∧ m.length ≤ 200 * i ∧ m'.length ≤ 200 * i
/-- The state seen from the k-th hash. -/
def HK (w : World) (dh db i k : Nat) (W : World) : Prop := ∃ g m v g' m' v', HQ w dh db k g m v m g' m' v' m' W ∧ m.length ≤ 200 * i ∧ m'.length ≤ 200 * i
theorem HR.first {w W : World} {dh db i : Nat} (h : HR w dh db i W) : HK w dh db i 0 W := h
theorem HR.second {w W : World} {dh db i : Nat} (h : HR w dh db i W) : HK w dh db i 1 W := by
  obtain ⟨g, m, v, g', m', v', q, h1, h2⟩ := h
  exact ⟨g', m', v', g, m, v, q.swap, h2, h1⟩
theorem HK.head {w W : World} {dh db i k : Nat} (h : HK w dh db i k W) (hk : k ≤ 1) : HR w dh db i W := by
  rcases k_cases hk with rfl | rfl
  · exact h
  · obtain ⟨g, m, v, g', m', v', q, h1, h2⟩ := h
    exact ⟨g', m', v', g, m, v, q.back, h2, h1⟩
theorem HK.step {w W W' : World} {dh db i k : Nat} (h : HK w dh db i k W) (hb : Below W.heap.size W W') : HK w dh db i k W' := by
  obtain ⟨g, m, v, g', m', v', q, h1, h2⟩ := h
  exact ⟨g, m, v, g', m', v', q.step hb, h1, h2⟩
theorem XN.one {w : World} {A : Option Addr} {N c i : Nat} {l : List ActT} (h : XN w (.slice A N c) l) (hN : l.length = N) (hi : i < N) : ∃ gp off x, A = some ⟨gp, off, none⟩ ∧ gp < w.heap.size ∧ ActAt w gp (off + i * 3) x := by
  rcases h with ⟨A', c', e, rfl⟩ | ⟨gp, off, c', e, hg, h0, h1, h2, h3⟩
  · simp at hN; omega
  · simp only [Value.slice.injEq] at e
    exact ⟨gp, off, _, e.1, hg, h3 i (by omega)⟩

set_option maxRecDepth 100000 in
set_option maxHeartbeats 8000000 in
theorem hashes_any (v0 : Value) (l : List ActT) (w : World) (hx : XN w v0 l) (hV : VK w) : Calls Tryd.prog 3 #[v0] w (Gives w (.bool true)) := by
  obtain ⟨A, c, rfl⟩ := hx.len
  obtain ⟨N, hN⟩ : ∃ N, l.length = N := ⟨_, rfl⟩
  rw [hN] at hx ⊢
  have HX := Lib.hid hx; have HN := Lib.hid hN; have HV := Lib.hid hV
  clear hx hN hV
  by_cases h20 : N ≤ 20
  · have tk : True := trivial
    go_enter Tryd.func3, Tryd.ntmps3
    go_wp2_with (first
      | (go_at_call 13; have _t := tk; refine (new_any _ HV.out).mono ?_; rintro e w1 ⟨g0, rfl, hh, hg, hb⟩; have H0 := Lib.hid hh; have G0 := Lib.hid hg; have B0 := Lib.hid hb; clear hh hg hb tk _t)
      | (go_at_call 13; refine (new_any _ (HV.out.below B0.out)).mono ?_; rintro e w2 ⟨g1, rfl, hh, hg, hb⟩; have H1 := Lib.hid hh; have G1 : Hid (w.heap.size ≤ g1 ∧ g0 ≠ g1) := Lib.hid ⟨Nat.le_trans B0.out.size hg, by have := H0.out.inside; omega⟩; have H0b := Lib.hid (H0.out.step hb); have B1 := Lib.hid (bl_call B0.out hb); clear hh hg hb)
      | ((with_reducible refine atOp ⟨none, .store 26 _ _, _, _, _, _⟩ ?_); refine wpList_store_row rfl 26 (.tmp 3) (.tmp 20) rfl w2.heap.size #[P2 g0, P2 g1] rfl rfl 26 #[.pointer none, .pointer none] (AR.made _ _ _) (by kernel_rfl) rfl rfl ?_; rw [World.setRow_alloc_new]))
    have HS0 : Hid (HR w w2.heap.size (w2.heap.size + 1) 0 ((w2.alloc (.cells #[P2 g0, P2 g1] 26)).alloc (.cells #[.slice none 0 0, .slice none 0 0] 28))) := Lib.hid (by
      refine ⟨g0, [], .slice none 0 0, g1, [], .slice none 0 0, ?_, by simp, by simp⟩
      have hb := bl_alloc (.cells #[.slice none 0 0, .slice none 0 0] 28) (bl_self w2 (.cells #[P2 g0, P2 g1] 26))
      have b1 := B1.out.size
      refine ⟨⟨b1, by omega, by omega, G0.out, G1.out.1, G1.out.2⟩, (AR.made _ _ _).more _, ?_, H0b.out.step hb, H1.out.step hb, ON.nil _ _ (by simp; omega), ON.nil _ _ (by simp; omega), bl_call B1.out hb, BB.nil, BB.nil⟩
      have := AR.made (w2.alloc (.cells #[P2 g0, P2 g1] 26)) 28 #[.slice none 0 0, .slice none 0 0]
      rw [size_more] at this
      exact this)
    generalize (w2.alloc (.cells #[P2 g0, P2 g1] 26)).alloc (.cells #[.slice none 0 0, .slice none 0 0] 28) = w3 at HS0 ⊢
    generalize hdb : w2.heap.size + 1 = db at HS0 ⊢
    generalize w2.heap.size = dh at HS0 ⊢
    clear H0 H1 G0 G1 H0b B0 B1 hdb
    go_loopw [5] (fun i wr => ∃ k : Nat, k ≤ N ∧ i = .int .i64 k ∧ Hid (HR w dh db k wr)) (fun i _ => N - (intOf i).toNat)
    case atStart => exact ⟨0, by omega, rfl, HS0⟩
    case round =>
      clear HS0
      obtain ⟨i, hi, rfl, HR0⟩ := hrel
      have HB0 : Hid (Below w.heap.size w wr) := Lib.hid (by obtain ⟨g, m, v, g', m', v', q, _⟩ := HR0.out; exact q.bel)
      by_cases hlt : i < N
      · obtain ⟨gp, off, ⟨what, sec, xs⟩, rfl, hgp, ha1, ha2, ha3, u, ha4, ha5, ha6, ha7⟩ := HX.out.one HN.out hlt
        simp only at ha1 ha2 ha3 ha4 ha5 ha6
        obtain ⟨Au, cu, rfl⟩ := ha5.len
        obtain ⟨q, hq⟩ : ∃ q, xs.length = q := ⟨_, rfl⟩
        rw [hq] at ha4 ha5
        have c1 : wr.cell? ⟨gp, off + i * 3, none⟩ = some (.int .u8 what) := (HB0.out.cell (p := ⟨gp, _, none⟩) hgp).trans ha1
        have c2 : wr.cell? ⟨gp, off + i * 3 + 1, none⟩ = some (.bool sec) := (HB0.out.cell (p := ⟨gp, _, none⟩) hgp).trans ha2
        have c3 : wr.cell? ⟨gp, off + i * 3 + 2, none⟩ = some (.slice Au q cu) := (HB0.out.cell (p := ⟨gp, _, none⟩) hgp).trans ha4
        have HA4 := Lib.hid ha4; have HXS := Lib.hid ha5; have HXB := Lib.hid ha6; have HQL := Lib.hid hq
        clear ha1 ha2 ha4 ha5 ha6 ha7 hq
        by_cases hq200 : q ≤ 200
        · go_upto_if 39 with fail
          go_cut [6] (fun s6 wc => wc = wr ∧ ∃ k : Nat, k ≤ 1 ∧ s6 = .int .i64 k ∧ Hid (HK w dh db i k wr))
          case first =>
            cases sec with
            | true =>
              go_wp2_with fail
              go_meet
              exact ⟨rfl, 1, by omega, rfl, Lib.hid HR0.out.second⟩
            | false =>
              go_wp2_with fail
              go_meet
              exact ⟨rfl, 0, by omega, rfl, Lib.hid HR0.out.first⟩
          case rest =>
            obtain ⟨rfl, k, hk, rfl, HK0⟩ := hcut
            obtain ⟨r, hr8⟩ : ∃ r, what % 8 = r := ⟨_, rfl⟩
            have hri : (what : Int) % 8 = (r : Int) := by omega
            have hr7 : r < 8 := by omega
            clear hr8
            go_upto_block 2 with fail
            rw [hri]
            clear hri c1 c2
            go_cut [7] (fun s7 wd => s7 = .int .i64 0 ∧ Hid (HK w dh db (i + 1) k wd))
            case first =>
              obtain ⟨g, m, v, g', m', v', hq0, hm, hm'⟩ := HK0.out
              have HQ0 := Lib.hid hq0; have HM := Lib.hid (And.intro hm hm')
              clear hq0 hm hm' HK0
              have hr : r = 0 ∨ r = 1 ∨ r = 2 ∨ r = 3 ∨ r = 4 ∨ r = 5 ∨ r = 6 ∨ r = 7 := by omega
              rcases hr with hr | hr | hr | hr | hr | hr | hr | hr
              · have b0 : ((r : Int) == 0) = true := by simp; omega
                clear hr hr7
                have k2 : (k : Int) < 2 := by omega
                have iN : (i : Int) < (N : Int) := by omega
                go_upto_region 19 with fail
                have HQd : Hid (HQ w dh db k g m v m g' m' v' m' wc.drew) := Lib.hid (HQ0.out.step (bl_drewN 1 (Below.refl _ _)))
                have Ad : Hid (wc.drew.cell? ⟨gp, off + i * 3 + 2, none⟩ = some (.slice Au q cu)) := Lib.hid (((HQd.out.bel).cell (p := ⟨gp, _, none⟩) hgp).trans HA4.out)
                refine wp_region_held_drew (S := fun W => AR W dh 26 (pr k (P2 g) (P2 g')) ∧ W.cell? ⟨gp, off + i * 3 + 2, none⟩ = some (.slice Au q cu)) (by kernel_rfl) ⟨HQd.out.rh, Ad.out⟩ (fun hHeld => ?_)
                refine wpAnyH_take (i := 0) (oi := { dst := some 51, op := _, type := _, pos := _, after := _, guard := _ }) (v := ?v51x1) rfl (by kernel_rfl) (by kernel_rfl) (by kernel_rfl) (fun _ _ _ h => h) (Or.inl ⟨by rfl, ?y51x1⟩) hHeld ?r51x1
                case y51x1 => intro w9 hSw; go_simp <;> with_reducible rfl
                (try simp only [Act.put, List.setIfInBounds_toArray, List.set_cons_zero, List.set_cons_succ])
                refine wpAnyH_take (i := 1) (oi := { dst := some 52, op := _, type := _, pos := _, after := _, guard := _ }) (v := ?v52x2) rfl (by kernel_rfl) (by kernel_rfl) (by kernel_rfl) (fun _ _ _ h => h) (Or.inl ⟨by rfl, ?y52x2⟩) hHeld ?r52x2
                case y52x2 => intro w9 hSw; go_simp <;> with_reducible rfl
                (try simp only [Act.put, List.setIfInBounds_toArray, List.set_cons_zero, List.set_cons_succ])
                refine wpAnyH_take (i := 2) (oi := { dst := some 53, op := _, type := _, pos := _, after := _, guard := _ }) (v := ?v53x3) rfl (by kernel_rfl) (by kernel_rfl) (by kernel_rfl) (fun _ _ _ h => h) (Or.inl ⟨by rfl, ?y53x3⟩) hHeld ?r53x3
                case y53x3 => intro w9 hSw; have cc := AR.at hSw.1 (pr_get hk (P2 g) (P2 g')); go_simp <;> with_reducible rfl
                (try simp only [Act.put, List.setIfInBounds_toArray, List.set_cons_zero, List.set_cons_succ])
                refine wpAnyH_take (i := 3) (oi := { dst := some 54, op := _, type := _, pos := _, after := _, guard := _ }) (v := ?v54x4) rfl (by kernel_rfl) (by kernel_rfl) (by kernel_rfl) (fun _ _ _ h => h) (Or.inl ⟨by rfl, ?y54x4⟩) hHeld ?r54x4
                case y54x4 => intro w9 hSw; go_simp <;> with_reducible rfl
                (try simp only [Act.put, List.setIfInBounds_toArray, List.set_cons_zero, List.set_cons_succ])
                refine wpAnyH_take (i := 4) (oi := { dst := some 55, op := _, type := _, pos := _, after := _, guard := _ }) (v := ?v55x5) rfl (by kernel_rfl) (by kernel_rfl) (by kernel_rfl) (fun _ _ _ h => h) (Or.inl ⟨by rfl, ?y55x5⟩) hHeld ?r55x5
                case y55x5 => intro w9 hSw; go_simp <;> with_reducible rfl
                (try simp only [Act.put, List.setIfInBounds_toArray, List.set_cons_zero, List.set_cons_succ])
                refine wpAnyH_take (i := 5) (oi := { dst := some 56, op := _, type := _, pos := _, after := _, guard := _ }) (v := ?v56x6) rfl (by kernel_rfl) (by kernel_rfl) (by kernel_rfl) (fun _ _ _ h => h) (Or.inl ⟨by rfl, ?y56x6⟩) hHeld ?r56x6
                case y56x6 => intro w9 hSw; go_simp <;> with_reducible rfl
                (try simp only [Act.put, List.setIfInBounds_toArray, List.set_cons_zero, List.set_cons_succ])
                refine wpAnyH_take (i := 6) (oi := { dst := some 57, op := _, type := _, pos := _, after := _, guard := _ }) (v := ?v57x7) rfl (by kernel_rfl) (by kernel_rfl) (by kernel_rfl) (fun _ _ _ h => h) (Or.inl ⟨by rfl, ?y57x7⟩) hHeld ?r57x7
                case y57x7 => intro w9 hSw; go_simp <;> with_reducible rfl
                (try simp only [Act.put, List.setIfInBounds_toArray, List.set_cons_zero, List.set_cons_succ])
                refine wpAnyH_take (i := 7) (oi := { dst := some 58, op := _, type := _, pos := _, after := _, guard := _ }) (v := ?v58x8) rfl (by kernel_rfl) (by kernel_rfl) (by kernel_rfl) (fun _ _ _ h => h) (Or.inl ⟨by rfl, ?y58x8⟩) hHeld ?r58x8
                case y58x8 => intro w9 hSw; have cc := hSw.2; go_simp <;> with_reducible rfl
                (try simp only [Act.put, List.setIfInBounds_toArray, List.set_cons_zero, List.set_cons_succ])
                refine wpAnyH_ready (rs := [8]) (by kernel_rfl) (by simp) (AllReadyH.cons (o := { dst := some 59, op := _, type := _, pos := _, after := _, guard := _ }) rfl (fun K hK => ?_) AllReadyH.nil)
                go_simp
                go_at_call 14
                refine (write_any g m xs _ _ HQd.out.h (HXS.out.later HQd.out.bel) HXB.out (by have h1 := HM.out.1; have h2 := HQL.out; omega) (HV.out.below HQd.out.bel)).mono ?_
                rintro e w4 ⟨rfl, hh, hg⟩
                have HQ1 := Lib.hid (HQd.out.hashed hh hg)
                refine hK.out _ _ ⟨HQ1.out.rh, ((HQ1.out.bel).cell (p := ⟨gp, _, none⟩) hgp).trans HA4.out⟩ (fun hHeld2 => ?_)
                clear hK K hh hg
                (try simp only [Act.put, List.setIfInBounds_toArray, List.set_cons_zero, List.set_cons_succ])
                refine wpAnyH_ready (rs := [9]) (by kernel_rfl) (by simp) (AllReadyH.cons (o := { dst := some 7, op := _, type := _, pos := _, after := _, guard := _ }) rfl (fun K hK => ?_) AllReadyH.nil)
                go_simp
                refine hK.out _ _ ⟨HQ1.out.rh, ((HQ1.out.bel).cell (p := ⟨gp, _, none⟩) hgp).trans HA4.out⟩ (fun hHeld3 => ?_)
                clear hK K
                (try simp only [Act.put, List.setIfInBounds_toArray, List.set_cons_zero, List.set_cons_succ])
                refine wpAnyH_done (by kernel_rfl) ?_ _
                go_upto_region 20 with fail
                have HQ2 : Hid (HQ w dh db k g (m ++ xs) v m g' m' v' m' w4.drew) := Lib.hid (HQ1.out.step (bl_drewN 1 (Below.refl _ _)))
                have A2 : Hid (w4.drew.cell? ⟨gp, off + i * 3 + 2, none⟩ = some (.slice Au q cu)) := Lib.hid (((HQ2.out.bel).cell (p := ⟨gp, _, none⟩) hgp).trans HA4.out)
                clear HQ1 HQd Ad hHeld hHeld2 hHeld3
                refine wp_region_held_drew (S := fun W => W.cell? ⟨gp, off + i * 3 + 2, none⟩ = some (.slice Au q cu)) (by kernel_rfl) A2.out (fun hHeld => ?_)
                refine wpAnyH_take (i := 0) (oi := { dst := some 60, op := _, type := _, pos := _, after := _, guard := _ }) (v := ?v60x9) rfl (by kernel_rfl) (by kernel_rfl) (by kernel_rfl) (fun _ _ _ h => h) (Or.inl ⟨by rfl, ?y60x9⟩) hHeld ?r60x9
                case y60x9 => intro w9 hSw; go_simp <;> with_reducible rfl
                (try simp only [Act.put, List.setIfInBounds_toArray, List.set_cons_zero, List.set_cons_succ])
                refine wpAnyH_take (i := 2) (oi := { dst := some 62, op := _, type := _, pos := _, after := _, guard := _ }) (v := ?v62x10) rfl (by kernel_rfl) (by kernel_rfl) (by kernel_rfl) (fun _ _ _ h => h) (Or.inl ⟨by rfl, ?y62x10⟩) hHeld ?r62x10
                case y62x10 => intro w9 hSw; go_simp <;> with_reducible rfl
                (try simp only [Act.put, List.setIfInBounds_toArray, List.set_cons_zero, List.set_cons_succ])
                refine wpAnyH_take (i := 3) (oi := { dst := some 63, op := _, type := _, pos := _, after := _, guard := _ }) (v := ?v63x11) rfl (by kernel_rfl) (by kernel_rfl) (by kernel_rfl) (fun _ _ _ h => h) (Or.inl ⟨by rfl, ?y63x11⟩) hHeld ?r63x11
                case y63x11 => intro w9 hSw; go_simp <;> with_reducible rfl
                (try simp only [Act.put, List.setIfInBounds_toArray, List.set_cons_zero, List.set_cons_succ])
                refine wpAnyH_take (i := 6) (oi := { dst := some 66, op := _, type := _, pos := _, after := _, guard := _ }) (v := ?v66x12) rfl (by kernel_rfl) (by kernel_rfl) (by kernel_rfl) (fun _ _ _ h => h) (Or.inl ⟨by rfl, ?y66x12⟩) hHeld ?r66x12
                case y66x12 => intro w9 hSw; go_simp <;> with_reducible rfl
                (try simp only [Act.put, List.setIfInBounds_toArray, List.set_cons_zero, List.set_cons_succ])
                refine wpAnyH_take (i := 7) (oi := { dst := some 67, op := _, type := _, pos := _, after := _, guard := _ }) (v := ?v67x13) rfl (by kernel_rfl) (by kernel_rfl) (by kernel_rfl) (fun _ _ _ h => h) (Or.inl ⟨by rfl, ?y67x13⟩) hHeld ?r67x13
                case y67x13 => intro w9 hSw; go_simp <;> with_reducible rfl
                (try simp only [Act.put, List.setIfInBounds_toArray, List.set_cons_zero, List.set_cons_succ])
                refine wpAnyH_take (i := 8) (oi := { dst := some 68, op := _, type := _, pos := _, after := _, guard := _ }) (v := ?v68x14) rfl (by kernel_rfl) (by kernel_rfl) (by kernel_rfl) (fun _ _ _ h => h) (Or.inl ⟨by rfl, ?y68x14⟩) hHeld ?r68x14
                case y68x14 => intro w9 hSw; go_simp <;> with_reducible rfl
                (try simp only [Act.put, List.setIfInBounds_toArray, List.set_cons_zero, List.set_cons_succ])
                refine wpAnyH_take (i := 9) (oi := { dst := some 69, op := _, type := _, pos := _, after := _, guard := _ }) (v := ?v69x15) rfl (by kernel_rfl) (by kernel_rfl) (by kernel_rfl) (fun _ _ _ h => h) (Or.inl ⟨by rfl, ?y69x15⟩) hHeld ?r69x15
                case y69x15 => intro w9 hSw; go_simp <;> with_reducible rfl
                (try simp only [Act.put, List.setIfInBounds_toArray, List.set_cons_zero, List.set_cons_succ])
                refine wpAnyH_take (i := 10) (oi := { dst := some 70, op := _, type := _, pos := _, after := _, guard := _ }) (v := ?v70x16) rfl (by kernel_rfl) (by kernel_rfl) (by kernel_rfl) (fun _ _ _ h => h) (Or.inl ⟨by rfl, ?y70x16⟩) hHeld ?r70x16
                case y70x16 => intro w9 hSw; have cc := hSw; go_simp <;> with_reducible rfl
                (try simp only [Act.put, List.setIfInBounds_toArray, List.set_cons_zero, List.set_cons_succ])
                refine wpAnyH_ready (rs := [1, 4]) (by kernel_rfl) (by simp) (AllReadyH.cons (o := { dst := some 61, op := _, type := _, pos := _, after := _, guard := _ }) rfl (fun K hK => ?p17_1) (AllReadyH.cons (o := { dst := some 64, op := _, type := _, pos := _, after := _, guard := _ }) rfl (fun K hK => ?p17_4) AllReadyH.nil))
                case p17_1 =>
                  go_simp
                  refine hK.out _ _ (((bl_alloc _ HQ2.out.bel).cell (p := ⟨gp, _, none⟩) hgp).trans HA4.out) (fun hHeld4 => ?_)
                  clear hK K
                  (try simp only [Act.put, List.setIfInBounds_toArray, List.set_cons_zero, List.set_cons_succ])
                  refine wpAnyH_ready (rs := [4]) (by kernel_rfl) (by simp) (AllReadyH.cons (o := { dst := some 64, op := _, type := _, pos := _, after := _, guard := _ }) rfl (fun K hK => ?_) AllReadyH.nil)
                  have cb0 : (w4.alloc (.cells #[] 5)).cell? ⟨db, k, none⟩ = some v := ((show AR w4 db 28 (pr k v v') from HQ2.out.rb).more (.cells #[] 5)).at (pr_get hk v v')
                  go_simp
                  refine hK.out _ _ (((bl_alloc _ HQ2.out.bel).cell (p := ⟨gp, _, none⟩) hgp).trans HA4.out) (fun hHeld4b => ?_)
                  clear hK K cb0
                  (try simp only [Act.put, List.setIfInBounds_toArray, List.set_cons_zero, List.set_cons_succ])
                  refine wpAnyH_ready (rs := [5]) (by kernel_rfl) (by simp) (AllReadyH.cons (o := { dst := some 65, op := _, type := _, pos := _, after := _, guard := _ }) rfl (fun K hK => ?_) AllReadyH.nil)
                  rw [if_pos (by rfl)]
                  refine wp_append_on _ (.tmp 61) (.tmp 64) rfl w4.drew.heap.size _ v [] m rfl (on_new w4.drew [] 0 rfl (by omega)) rfl (HQ2.out.o.rn.later (bl_self _ _)) (by simp) (by have h1 := HM.out.1; simp; omega) ?_
                  intro v5 w5 hn hg
                  rw [List.nil_append] at hn
                  have B5 : Hid (Below w4.drew.heap.size w4.drew w5) := Lib.hid ((bl_self w4.drew _).grown hg (by simp) (fun j e => by cases e; exact Nat.le_refl _))
                  have O5 := Lib.hid hn
                  refine hK.out _ _ (((bl_call HQ2.out.bel B5.out).cell (p := ⟨gp, _, none⟩) hgp).trans HA4.out) (fun hHeld5 => ?_)
                  clear hK K hn hg
                  (try simp only [Act.put, List.setIfInBounds_toArray, List.set_cons_zero, List.set_cons_succ])
                  refine wpAnyH_ready (rs := [11]) (by kernel_rfl) (by simp) (AllReadyH.cons (o := { dst := some 71, op := _, type := _, pos := _, after := _, guard := _ }) rfl (fun K hK => ?_) AllReadyH.nil)
                  rw [if_pos (by rfl)]
                  refine wp_append_on _ (.tmp 65) (.tmp 70) rfl w4.drew.heap.size _ (.slice Au q cu) m xs rfl O5.out rfl (HXS.out.later (bl_call HQ2.out.bel B5.out)) B5.out.size (by have h1 := HM.out.1; have h2 := HQL.out; omega) ?_
                  intro v6 w6 hn hg
                  have B6 : Hid (Below w4.drew.heap.size w4.drew w6) := Lib.hid (B5.out.grown hg B5.out.size (fun j e => (World.ownsRow.lt O5.out j e).1))
                  have HQ3 := Lib.hid (HQ2.out.step B6.out)
                  obtain ⟨A6, c6, rfl⟩ := hn.len
                  obtain ⟨n6, hn6⟩ : ∃ n6, (m ++ xs).length = n6 := ⟨_, rfl⟩
                  have HN6 : Hid (n6 ≤ 200 * (i + 1)) := Lib.hid (by rw [← hn6, List.length_append]; have h1 := HM.out.1; have h2 := HQL.out; omega)
                  have HL6 := Lib.hid hn6
                  rw [hn6] at hn ⊢
                  have HQ4 := Lib.hid (HQ3.out.bytes hk (hn.base HQ2.out.bel.size) (HQ3.out.bb.app HXB.out))
                  have cb := HQ3.out.rb.at (pr_get hk v v')
                  have fb := HQ3.out.rb.free k
                  refine hK.out _ _ (((HQ3.out.bel).cell (p := ⟨gp, _, none⟩) hgp).trans HA4.out) (fun hHeld6 => ?_)
                  clear hK K hn hg hn6
                  (try simp only [Act.put, List.setIfInBounds_toArray, List.set_cons_zero, List.set_cons_succ])
                  refine wpAnyH_take (i := 12) (oi := { dst := some 72, op := _, type := _, pos := _, after := _, guard := _ }) (v := ?v72x18) rfl (by kernel_rfl) (by kernel_rfl) (by kernel_rfl) (fun _ _ _ h => h) (Or.inl ⟨by rfl, ?y72x18⟩) hHeld6 ?r72x18
                  case y72x18 => intro w9 hSw; go_simp <;> with_reducible rfl
                  (try simp only [Act.put, List.setIfInBounds_toArray, List.set_cons_zero, List.set_cons_succ])
                  refine wpAnyH_ready (rs := [13]) (by kernel_rfl) (by simp) (AllReadyH.cons (o := { dst := none, op := _, type := _, pos := _, after := _, guard := _ }) rfl (fun K hK => ?_) AllReadyH.nil)
                  go_simp
                  refine hK.out _ _ (((HQ4.out.bel).cell (p := ⟨gp, _, none⟩) hgp).trans HA4.out) (fun hHeld7 => ?_)
                  clear hK K
                  (try simp only [Act.put, List.setIfInBounds_toArray, List.set_cons_zero, List.set_cons_succ])
                  refine wpAnyH_done (by kernel_rfl) ?_ _
                  go_wp2_with fail
                  go_meet
                  exact ⟨rfl, Lib.hid ⟨g, m ++ xs, _, g', m', v', HQ4.out, by rw [HL6.out]; exact HN6.out, by have := HM.out.2; omega⟩⟩
                case p17_4 =>
                  have cb0 := HQ2.out.rb.at (pr_get hk v v')
                  go_simp
                  refine hK.out _ _ A2.out (fun hHeld4 => ?_)
                  clear hK K cb0
                  (try simp only [Act.put, List.setIfInBounds_toArray, List.set_cons_zero, List.set_cons_succ])
                  refine wpAnyH_ready (rs := [1]) (by kernel_rfl) (by simp) (AllReadyH.cons (o := { dst := some 61, op := _, type := _, pos := _, after := _, guard := _ }) rfl (fun K hK => ?_) AllReadyH.nil)
                  go_simp
                  refine hK.out _ _ (((bl_alloc _ HQ2.out.bel).cell (p := ⟨gp, _, none⟩) hgp).trans HA4.out) (fun hHeld4b => ?_)
                  clear hK K
                  (try simp only [Act.put, List.setIfInBounds_toArray, List.set_cons_zero, List.set_cons_succ])
                  refine wpAnyH_ready (rs := [5]) (by kernel_rfl) (by simp) (AllReadyH.cons (o := { dst := some 65, op := _, type := _, pos := _, after := _, guard := _ }) rfl (fun K hK => ?_) AllReadyH.nil)
                  rw [if_pos (by rfl)]
                  refine wp_append_on _ (.tmp 61) (.tmp 64) rfl w4.drew.heap.size _ v [] m rfl (on_new w4.drew [] 0 rfl (by omega)) rfl (HQ2.out.o.rn.later (bl_self _ _)) (by simp) (by have h1 := HM.out.1; simp; omega) ?_
                  intro v5 w5 hn hg
                  rw [List.nil_append] at hn
                  have B5 : Hid (Below w4.drew.heap.size w4.drew w5) := Lib.hid ((bl_self w4.drew _).grown hg (by simp) (fun j e => by cases e; exact Nat.le_refl _))
                  have O5 := Lib.hid hn
                  refine hK.out _ _ (((bl_call HQ2.out.bel B5.out).cell (p := ⟨gp, _, none⟩) hgp).trans HA4.out) (fun hHeld5 => ?_)
                  clear hK K hn hg
                  (try simp only [Act.put, List.setIfInBounds_toArray, List.set_cons_zero, List.set_cons_succ])
                  refine wpAnyH_ready (rs := [11]) (by kernel_rfl) (by simp) (AllReadyH.cons (o := { dst := some 71, op := _, type := _, pos := _, after := _, guard := _ }) rfl (fun K hK => ?_) AllReadyH.nil)
                  rw [if_pos (by rfl)]
                  refine wp_append_on _ (.tmp 65) (.tmp 70) rfl w4.drew.heap.size _ (.slice Au q cu) m xs rfl O5.out rfl (HXS.out.later (bl_call HQ2.out.bel B5.out)) B5.out.size (by have h1 := HM.out.1; have h2 := HQL.out; omega) ?_
                  intro v6 w6 hn hg
                  have B6 : Hid (Below w4.drew.heap.size w4.drew w6) := Lib.hid (B5.out.grown hg B5.out.size (fun j e => (World.ownsRow.lt O5.out j e).1))
                  have HQ3 := Lib.hid (HQ2.out.step B6.out)
                  obtain ⟨A6, c6, rfl⟩ := hn.len
                  obtain ⟨n6, hn6⟩ : ∃ n6, (m ++ xs).length = n6 := ⟨_, rfl⟩
                  have HN6 : Hid (n6 ≤ 200 * (i + 1)) := Lib.hid (by rw [← hn6, List.length_append]; have h1 := HM.out.1; have h2 := HQL.out; omega)
                  have HL6 := Lib.hid hn6
                  rw [hn6] at hn ⊢
                  have HQ4 := Lib.hid (HQ3.out.bytes hk (hn.base HQ2.out.bel.size) (HQ3.out.bb.app HXB.out))
                  have cb := HQ3.out.rb.at (pr_get hk v v')
                  have fb := HQ3.out.rb.free k
                  refine hK.out _ _ (((HQ3.out.bel).cell (p := ⟨gp, _, none⟩) hgp).trans HA4.out) (fun hHeld6 => ?_)
                  clear hK K hn hg hn6
                  (try simp only [Act.put, List.setIfInBounds_toArray, List.set_cons_zero, List.set_cons_succ])
                  refine wpAnyH_take (i := 12) (oi := { dst := some 72, op := _, type := _, pos := _, after := _, guard := _ }) (v := ?v72x19) rfl (by kernel_rfl) (by kernel_rfl) (by kernel_rfl) (fun _ _ _ h => h) (Or.inl ⟨by rfl, ?y72x19⟩) hHeld6 ?r72x19
                  case y72x19 => intro w9 hSw; go_simp <;> with_reducible rfl
                  (try simp only [Act.put, List.setIfInBounds_toArray, List.set_cons_zero, List.set_cons_succ])
                  refine wpAnyH_ready (rs := [13]) (by kernel_rfl) (by simp) (AllReadyH.cons (o := { dst := none, op := _, type := _, pos := _, after := _, guard := _ }) rfl (fun K hK => ?_) AllReadyH.nil)
                  go_simp
                  refine hK.out _ _ (((HQ4.out.bel).cell (p := ⟨gp, _, none⟩) hgp).trans HA4.out) (fun hHeld7 => ?_)
                  clear hK K
                  (try simp only [Act.put, List.setIfInBounds_toArray, List.set_cons_zero, List.set_cons_succ])
                  refine wpAnyH_done (by kernel_rfl) ?_ _
                  go_wp2_with fail
                  go_meet
                  exact ⟨rfl, Lib.hid ⟨g, m ++ xs, _, g', m', v', HQ4.out, by rw [HL6.out]; exact HN6.out, by have := HM.out.2; omega⟩⟩
              · have b0 : ((r : Int) == 0) = false := by simp; omega
                have b1 : ((r : Int) == 1) = true := by simp; omega
                clear hr hr7
                have k2 : (k : Int) < 2 := by omega
                have iN : (i : Int) < (N : Int) := by omega
                go_upto_region 19 with fail
                have HQd : Hid (HQ w dh db k g m v m g' m' v' m' wc.drew) := Lib.hid (HQ0.out.step (bl_drewN 1 (Below.refl _ _)))
                have Ad : Hid (wc.drew.cell? ⟨gp, off + i * 3 + 2, none⟩ = some (.slice Au q cu)) := Lib.hid (((HQd.out.bel).cell (p := ⟨gp, _, none⟩) hgp).trans HA4.out)
                refine wp_region_held_drew (S := fun W => AR W dh 26 (pr k (P2 g) (P2 g')) ∧ W.cell? ⟨gp, off + i * 3 + 2, none⟩ = some (.slice Au q cu)) (by kernel_rfl) ⟨HQd.out.rh, Ad.out⟩ (fun hHeld => ?_)
                refine wpAnyH_take (i := 0) (oi := { dst := some 51, op := _, type := _, pos := _, after := _, guard := _ }) (v := ?v51x20) rfl (by kernel_rfl) (by kernel_rfl) (by kernel_rfl) (fun _ _ _ h => h) (Or.inl ⟨by rfl, ?y51x20⟩) hHeld ?r51x20
                case y51x20 => intro w9 hSw; go_simp <;> with_reducible rfl
                (try simp only [Act.put, List.setIfInBounds_toArray, List.set_cons_zero, List.set_cons_succ])
                refine wpAnyH_take (i := 1) (oi := { dst := some 52, op := _, type := _, pos := _, after := _, guard := _ }) (v := ?v52x21) rfl (by kernel_rfl) (by kernel_rfl) (by kernel_rfl) (fun _ _ _ h => h) (Or.inl ⟨by rfl, ?y52x21⟩) hHeld ?r52x21
                case y52x21 => intro w9 hSw; go_simp <;> with_reducible rfl
                (try simp only [Act.put, List.setIfInBounds_toArray, List.set_cons_zero, List.set_cons_succ])
                refine wpAnyH_take (i := 2) (oi := { dst := some 53, op := _, type := _, pos := _, after := _, guard := _ }) (v := ?v53x22) rfl (by kernel_rfl) (by kernel_rfl) (by kernel_rfl) (fun _ _ _ h => h) (Or.inl ⟨by rfl, ?y53x22⟩) hHeld ?r53x22
                case y53x22 => intro w9 hSw; have cc := AR.at hSw.1 (pr_get hk (P2 g) (P2 g')); go_simp <;> with_reducible rfl
                (try simp only [Act.put, List.setIfInBounds_toArray, List.set_cons_zero, List.set_cons_succ])
                refine wpAnyH_take (i := 3) (oi := { dst := some 54, op := _, type := _, pos := _, after := _, guard := _ }) (v := ?v54x23) rfl (by kernel_rfl) (by kernel_rfl) (by kernel_rfl) (fun _ _ _ h => h) (Or.inl ⟨by rfl, ?y54x23⟩) hHeld ?r54x23
                case y54x23 => intro w9 hSw; go_simp <;> with_reducible rfl
                (try simp only [Act.put, List.setIfInBounds_toArray, List.set_cons_zero, List.set_cons_succ])
                refine wpAnyH_take (i := 4) (oi := { dst := some 55, op := _, type := _, pos := _, after := _, guard := _ }) (v := ?v55x24) rfl (by kernel_rfl) (by kernel_rfl) (by kernel_rfl) (fun _ _ _ h => h) (Or.inl ⟨by rfl, ?y55x24⟩) hHeld ?r55x24
                case y55x24 => intro w9 hSw; go_simp <;> with_reducible rfl
                (try simp only [Act.put, List.setIfInBounds_toArray, List.set_cons_zero, List.set_cons_succ])
                refine wpAnyH_take (i := 5) (oi := { dst := some 56, op := _, type := _, pos := _, after := _, guard := _ }) (v := ?v56x25) rfl (by kernel_rfl) (by kernel_rfl) (by kernel_rfl) (fun _ _ _ h => h) (Or.inl ⟨by rfl, ?y56x25⟩) hHeld ?r56x25
                case y56x25 => intro w9 hSw; go_simp <;> with_reducible rfl
                (try simp only [Act.put, List.setIfInBounds_toArray, List.set_cons_zero, List.set_cons_succ])
                refine wpAnyH_take (i := 6) (oi := { dst := some 57, op := _, type := _, pos := _, after := _, guard := _ }) (v := ?v57x26) rfl (by kernel_rfl) (by kernel_rfl) (by kernel_rfl) (fun _ _ _ h => h) (Or.inl ⟨by rfl, ?y57x26⟩) hHeld ?r57x26
                case y57x26 => intro w9 hSw; go_simp <;> with_reducible rfl
                (try simp only [Act.put, List.setIfInBounds_toArray, List.set_cons_zero, List.set_cons_succ])
                refine wpAnyH_take (i := 7) (oi := { dst := some 58, op := _, type := _, pos := _, after := _, guard := _ }) (v := ?v58x27) rfl (by kernel_rfl) (by kernel_rfl) (by kernel_rfl) (fun _ _ _ h => h) (Or.inl ⟨by rfl, ?y58x27⟩) hHeld ?r58x27
                case y58x27 => intro w9 hSw; have cc := hSw.2; go_simp <;> with_reducible rfl
                (try simp only [Act.put, List.setIfInBounds_toArray, List.set_cons_zero, List.set_cons_succ])
                refine wpAnyH_ready (rs := [8]) (by kernel_rfl) (by simp) (AllReadyH.cons (o := { dst := some 59, op := _, type := _, pos := _, after := _, guard := _ }) rfl (fun K hK => ?_) AllReadyH.nil)
                go_simp
                go_at_call 14
                refine (write_any g m xs _ _ HQd.out.h (HXS.out.later HQd.out.bel) HXB.out (by have h1 := HM.out.1; have h2 := HQL.out; omega) (HV.out.below HQd.out.bel)).mono ?_
                rintro e w4 ⟨rfl, hh, hg⟩
                have HQ1 := Lib.hid (HQd.out.hashed hh hg)
                refine hK.out _ _ ⟨HQ1.out.rh, ((HQ1.out.bel).cell (p := ⟨gp, _, none⟩) hgp).trans HA4.out⟩ (fun hHeld2 => ?_)
                clear hK K hh hg
                (try simp only [Act.put, List.setIfInBounds_toArray, List.set_cons_zero, List.set_cons_succ])
                refine wpAnyH_ready (rs := [9]) (by kernel_rfl) (by simp) (AllReadyH.cons (o := { dst := some 7, op := _, type := _, pos := _, after := _, guard := _ }) rfl (fun K hK => ?_) AllReadyH.nil)
                go_simp
                refine hK.out _ _ ⟨HQ1.out.rh, ((HQ1.out.bel).cell (p := ⟨gp, _, none⟩) hgp).trans HA4.out⟩ (fun hHeld3 => ?_)
                clear hK K
                (try simp only [Act.put, List.setIfInBounds_toArray, List.set_cons_zero, List.set_cons_succ])
                refine wpAnyH_done (by kernel_rfl) ?_ _
                go_upto_region 20 with fail
                have HQ2 : Hid (HQ w dh db k g (m ++ xs) v m g' m' v' m' w4.drew) := Lib.hid (HQ1.out.step (bl_drewN 1 (Below.refl _ _)))
                have A2 : Hid (w4.drew.cell? ⟨gp, off + i * 3 + 2, none⟩ = some (.slice Au q cu)) := Lib.hid (((HQ2.out.bel).cell (p := ⟨gp, _, none⟩) hgp).trans HA4.out)
                clear HQ1 HQd Ad hHeld hHeld2 hHeld3
                refine wp_region_held_drew (S := fun W => W.cell? ⟨gp, off + i * 3 + 2, none⟩ = some (.slice Au q cu)) (by kernel_rfl) A2.out (fun hHeld => ?_)
                refine wpAnyH_take (i := 0) (oi := { dst := some 60, op := _, type := _, pos := _, after := _, guard := _ }) (v := ?v60x28) rfl (by kernel_rfl) (by kernel_rfl) (by kernel_rfl) (fun _ _ _ h => h) (Or.inl ⟨by rfl, ?y60x28⟩) hHeld ?r60x28
                case y60x28 => intro w9 hSw; go_simp <;> with_reducible rfl
                (try simp only [Act.put, List.setIfInBounds_toArray, List.set_cons_zero, List.set_cons_succ])
                refine wpAnyH_take (i := 2) (oi := { dst := some 62, op := _, type := _, pos := _, after := _, guard := _ }) (v := ?v62x29) rfl (by kernel_rfl) (by kernel_rfl) (by kernel_rfl) (fun _ _ _ h => h) (Or.inl ⟨by rfl, ?y62x29⟩) hHeld ?r62x29
                case y62x29 => intro w9 hSw; go_simp <;> with_reducible rfl
                (try simp only [Act.put, List.setIfInBounds_toArray, List.set_cons_zero, List.set_cons_succ])
                refine wpAnyH_take (i := 3) (oi := { dst := some 63, op := _, type := _, pos := _, after := _, guard := _ }) (v := ?v63x30) rfl (by kernel_rfl) (by kernel_rfl) (by kernel_rfl) (fun _ _ _ h => h) (Or.inl ⟨by rfl, ?y63x30⟩) hHeld ?r63x30
                case y63x30 => intro w9 hSw; go_simp <;> with_reducible rfl
                (try simp only [Act.put, List.setIfInBounds_toArray, List.set_cons_zero, List.set_cons_succ])
                refine wpAnyH_take (i := 6) (oi := { dst := some 66, op := _, type := _, pos := _, after := _, guard := _ }) (v := ?v66x31) rfl (by kernel_rfl) (by kernel_rfl) (by kernel_rfl) (fun _ _ _ h => h) (Or.inl ⟨by rfl, ?y66x31⟩) hHeld ?r66x31
                case y66x31 => intro w9 hSw; go_simp <;> with_reducible rfl
                (try simp only [Act.put, List.setIfInBounds_toArray, List.set_cons_zero, List.set_cons_succ])
                refine wpAnyH_take (i := 7) (oi := { dst := some 67, op := _, type := _, pos := _, after := _, guard := _ }) (v := ?v67x32) rfl (by kernel_rfl) (by kernel_rfl) (by kernel_rfl) (fun _ _ _ h => h) (Or.inl ⟨by rfl, ?y67x32⟩) hHeld ?r67x32
                case y67x32 => intro w9 hSw; go_simp <;> with_reducible rfl
                (try simp only [Act.put, List.setIfInBounds_toArray, List.set_cons_zero, List.set_cons_succ])
                refine wpAnyH_take (i := 8) (oi := { dst := some 68, op := _, type := _, pos := _, after := _, guard := _ }) (v := ?v68x33) rfl (by kernel_rfl) (by kernel_rfl) (by kernel_rfl) (fun _ _ _ h => h) (Or.inl ⟨by rfl, ?y68x33⟩) hHeld ?r68x33
                case y68x33 => intro w9 hSw; go_simp <;> with_reducible rfl
                (try simp only [Act.put, List.setIfInBounds_toArray, List.set_cons_zero, List.set_cons_succ])
                refine wpAnyH_take (i := 9) (oi := { dst := some 69, op := _, type := _, pos := _, after := _, guard := _ }) (v := ?v69x34) rfl (by kernel_rfl) (by kernel_rfl) (by kernel_rfl) (fun _ _ _ h => h) (Or.inl ⟨by rfl, ?y69x34⟩) hHeld ?r69x34
                case y69x34 => intro w9 hSw; go_simp <;> with_reducible rfl
                (try simp only [Act.put, List.setIfInBounds_toArray, List.set_cons_zero, List.set_cons_succ])
                refine wpAnyH_take (i := 10) (oi := { dst := some 70, op := _, type := _, pos := _, after := _, guard := _ }) (v := ?v70x35) rfl (by kernel_rfl) (by kernel_rfl) (by kernel_rfl) (fun _ _ _ h => h) (Or.inl ⟨by rfl, ?y70x35⟩) hHeld ?r70x35
                case y70x35 => intro w9 hSw; have cc := hSw; go_simp <;> with_reducible rfl
                (try simp only [Act.put, List.setIfInBounds_toArray, List.set_cons_zero, List.set_cons_succ])
                refine wpAnyH_ready (rs := [1, 4]) (by kernel_rfl) (by simp) (AllReadyH.cons (o := { dst := some 61, op := _, type := _, pos := _, after := _, guard := _ }) rfl (fun K hK => ?p36_1) (AllReadyH.cons (o := { dst := some 64, op := _, type := _, pos := _, after := _, guard := _ }) rfl (fun K hK => ?p36_4) AllReadyH.nil))
                case p36_1 =>
                  go_simp
                  refine hK.out _ _ (((bl_alloc _ HQ2.out.bel).cell (p := ⟨gp, _, none⟩) hgp).trans HA4.out) (fun hHeld4 => ?_)
                  clear hK K
                  (try simp only [Act.put, List.setIfInBounds_toArray, List.set_cons_zero, List.set_cons_succ])
                  refine wpAnyH_ready (rs := [4]) (by kernel_rfl) (by simp) (AllReadyH.cons (o := { dst := some 64, op := _, type := _, pos := _, after := _, guard := _ }) rfl (fun K hK => ?_) AllReadyH.nil)
                  have cb0 : (w4.alloc (.cells #[] 5)).cell? ⟨db, k, none⟩ = some v := ((show AR w4 db 28 (pr k v v') from HQ2.out.rb).more (.cells #[] 5)).at (pr_get hk v v')
                  go_simp
                  refine hK.out _ _ (((bl_alloc _ HQ2.out.bel).cell (p := ⟨gp, _, none⟩) hgp).trans HA4.out) (fun hHeld4b => ?_)
                  clear hK K cb0
                  (try simp only [Act.put, List.setIfInBounds_toArray, List.set_cons_zero, List.set_cons_succ])
                  refine wpAnyH_ready (rs := [5]) (by kernel_rfl) (by simp) (AllReadyH.cons (o := { dst := some 65, op := _, type := _, pos := _, after := _, guard := _ }) rfl (fun K hK => ?_) AllReadyH.nil)
                  rw [if_pos (by rfl)]
                  refine wp_append_on _ (.tmp 61) (.tmp 64) rfl w4.drew.heap.size _ v [] m rfl (on_new w4.drew [] 0 rfl (by omega)) rfl (HQ2.out.o.rn.later (bl_self _ _)) (by simp) (by have h1 := HM.out.1; simp; omega) ?_
                  intro v5 w5 hn hg
                  rw [List.nil_append] at hn
                  have B5 : Hid (Below w4.drew.heap.size w4.drew w5) := Lib.hid ((bl_self w4.drew _).grown hg (by simp) (fun j e => by cases e; exact Nat.le_refl _))
                  have O5 := Lib.hid hn
                  refine hK.out _ _ (((bl_call HQ2.out.bel B5.out).cell (p := ⟨gp, _, none⟩) hgp).trans HA4.out) (fun hHeld5 => ?_)
                  clear hK K hn hg
                  (try simp only [Act.put, List.setIfInBounds_toArray, List.set_cons_zero, List.set_cons_succ])
                  refine wpAnyH_ready (rs := [11]) (by kernel_rfl) (by simp) (AllReadyH.cons (o := { dst := some 71, op := _, type := _, pos := _, after := _, guard := _ }) rfl (fun K hK => ?_) AllReadyH.nil)
                  rw [if_pos (by rfl)]
                  refine wp_append_on _ (.tmp 65) (.tmp 70) rfl w4.drew.heap.size _ (.slice Au q cu) m xs rfl O5.out rfl (HXS.out.later (bl_call HQ2.out.bel B5.out)) B5.out.size (by have h1 := HM.out.1; have h2 := HQL.out; omega) ?_
                  intro v6 w6 hn hg
                  have B6 : Hid (Below w4.drew.heap.size w4.drew w6) := Lib.hid (B5.out.grown hg B5.out.size (fun j e => (World.ownsRow.lt O5.out j e).1))
                  have HQ3 := Lib.hid (HQ2.out.step B6.out)
                  obtain ⟨A6, c6, rfl⟩ := hn.len
                  obtain ⟨n6, hn6⟩ : ∃ n6, (m ++ xs).length = n6 := ⟨_, rfl⟩
                  have HN6 : Hid (n6 ≤ 200 * (i + 1)) := Lib.hid (by rw [← hn6, List.length_append]; have h1 := HM.out.1; have h2 := HQL.out; omega)
                  have HL6 := Lib.hid hn6
                  rw [hn6] at hn ⊢
                  have HQ4 := Lib.hid (HQ3.out.bytes hk (hn.base HQ2.out.bel.size) (HQ3.out.bb.app HXB.out))
                  have cb := HQ3.out.rb.at (pr_get hk v v')
                  have fb := HQ3.out.rb.free k
                  refine hK.out _ _ (((HQ3.out.bel).cell (p := ⟨gp, _, none⟩) hgp).trans HA4.out) (fun hHeld6 => ?_)
                  clear hK K hn hg hn6
                  (try simp only [Act.put, List.setIfInBounds_toArray, List.set_cons_zero, List.set_cons_succ])
                  refine wpAnyH_take (i := 12) (oi := { dst := some 72, op := _, type := _, pos := _, after := _, guard := _ }) (v := ?v72x37) rfl (by kernel_rfl) (by kernel_rfl) (by kernel_rfl) (fun _ _ _ h => h) (Or.inl ⟨by rfl, ?y72x37⟩) hHeld6 ?r72x37
                  case y72x37 => intro w9 hSw; go_simp <;> with_reducible rfl
                  (try simp only [Act.put, List.setIfInBounds_toArray, List.set_cons_zero, List.set_cons_succ])
                  refine wpAnyH_ready (rs := [13]) (by kernel_rfl) (by simp) (AllReadyH.cons (o := { dst := none, op := _, type := _, pos := _, after := _, guard := _ }) rfl (fun K hK => ?_) AllReadyH.nil)
                  go_simp
                  refine hK.out _ _ (((HQ4.out.bel).cell (p := ⟨gp, _, none⟩) hgp).trans HA4.out) (fun hHeld7 => ?_)
                  clear hK K
                  (try simp only [Act.put, List.setIfInBounds_toArray, List.set_cons_zero, List.set_cons_succ])
                  refine wpAnyH_done (by kernel_rfl) ?_ _
                  go_wp2_with fail
                  go_meet
                  exact ⟨rfl, Lib.hid ⟨g, m ++ xs, _, g', m', v', HQ4.out, by rw [HL6.out]; exact HN6.out, by have := HM.out.2; omega⟩⟩
                case p36_4 =>
                  have cb0 := HQ2.out.rb.at (pr_get hk v v')
                  go_simp
                  refine hK.out _ _ A2.out (fun hHeld4 => ?_)
                  clear hK K cb0
                  (try simp only [Act.put, List.setIfInBounds_toArray, List.set_cons_zero, List.set_cons_succ])
                  refine wpAnyH_ready (rs := [1]) (by kernel_rfl) (by simp) (AllReadyH.cons (o := { dst := some 61, op := _, type := _, pos := _, after := _, guard := _ }) rfl (fun K hK => ?_) AllReadyH.nil)
                  go_simp
                  refine hK.out _ _ (((bl_alloc _ HQ2.out.bel).cell (p := ⟨gp, _, none⟩) hgp).trans HA4.out) (fun hHeld4b => ?_)
                  clear hK K
                  (try simp only [Act.put, List.setIfInBounds_toArray, List.set_cons_zero, List.set_cons_succ])
                  refine wpAnyH_ready (rs := [5]) (by kernel_rfl) (by simp) (AllReadyH.cons (o := { dst := some 65, op := _, type := _, pos := _, after := _, guard := _ }) rfl (fun K hK => ?_) AllReadyH.nil)
                  rw [if_pos (by rfl)]
                  refine wp_append_on _ (.tmp 61) (.tmp 64) rfl w4.drew.heap.size _ v [] m rfl (on_new w4.drew [] 0 rfl (by omega)) rfl (HQ2.out.o.rn.later (bl_self _ _)) (by simp) (by have h1 := HM.out.1; simp; omega) ?_
                  intro v5 w5 hn hg
                  rw [List.nil_append] at hn
                  have B5 : Hid (Below w4.drew.heap.size w4.drew w5) := Lib.hid ((bl_self w4.drew _).grown hg (by simp) (fun j e => by cases e; exact Nat.le_refl _))
                  have O5 := Lib.hid hn
                  refine hK.out _ _ (((bl_call HQ2.out.bel B5.out).cell (p := ⟨gp, _, none⟩) hgp).trans HA4.out) (fun hHeld5 => ?_)
                  clear hK K hn hg
                  (try simp only [Act.put, List.setIfInBounds_toArray, List.set_cons_zero, List.set_cons_succ])
                  refine wpAnyH_ready (rs := [11]) (by kernel_rfl) (by simp) (AllReadyH.cons (o := { dst := some 71, op := _, type := _, pos := _, after := _, guard := _ }) rfl (fun K hK => ?_) AllReadyH.nil)
                  rw [if_pos (by rfl)]
                  refine wp_append_on _ (.tmp 65) (.tmp 70) rfl w4.drew.heap.size _ (.slice Au q cu) m xs rfl O5.out rfl (HXS.out.later (bl_call HQ2.out.bel B5.out)) B5.out.size (by have h1 := HM.out.1; have h2 := HQL.out; omega) ?_
                  intro v6 w6 hn hg
                  have B6 : Hid (Below w4.drew.heap.size w4.drew w6) := Lib.hid (B5.out.grown hg B5.out.size (fun j e => (World.ownsRow.lt O5.out j e).1))
                  have HQ3 := Lib.hid (HQ2.out.step B6.out)
                  obtain ⟨A6, c6, rfl⟩ := hn.len
                  obtain ⟨n6, hn6⟩ : ∃ n6, (m ++ xs).length = n6 := ⟨_, rfl⟩
                  have HN6 : Hid (n6 ≤ 200 * (i + 1)) := Lib.hid (by rw [← hn6, List.length_append]; have h1 := HM.out.1; have h2 := HQL.out; omega)
                  have HL6 := Lib.hid hn6
                  rw [hn6] at hn ⊢
                  have HQ4 := Lib.hid (HQ3.out.bytes hk (hn.base HQ2.out.bel.size) (HQ3.out.bb.app HXB.out))
                  have cb := HQ3.out.rb.at (pr_get hk v v')
                  have fb := HQ3.out.rb.free k
                  refine hK.out _ _ (((HQ3.out.bel).cell (p := ⟨gp, _, none⟩) hgp).trans HA4.out) (fun hHeld6 => ?_)
                  clear hK K hn hg hn6
                  (try simp only [Act.put, List.setIfInBounds_toArray, List.set_cons_zero, List.set_cons_succ])
                  refine wpAnyH_take (i := 12) (oi := { dst := some 72, op := _, type := _, pos := _, after := _, guard := _ }) (v := ?v72x38) rfl (by kernel_rfl) (by kernel_rfl) (by kernel_rfl) (fun _ _ _ h => h) (Or.inl ⟨by rfl, ?y72x38⟩) hHeld6 ?r72x38
                  case y72x38 => intro w9 hSw; go_simp <;> with_reducible rfl
                  (try simp only [Act.put, List.setIfInBounds_toArray, List.set_cons_zero, List.set_cons_succ])
                  refine wpAnyH_ready (rs := [13]) (by kernel_rfl) (by simp) (AllReadyH.cons (o := { dst := none, op := _, type := _, pos := _, after := _, guard := _ }) rfl (fun K hK => ?_) AllReadyH.nil)
                  go_simp
                  refine hK.out _ _ (((HQ4.out.bel).cell (p := ⟨gp, _, none⟩) hgp).trans HA4.out) (fun hHeld7 => ?_)
                  clear hK K
                  (try simp only [Act.put, List.setIfInBounds_toArray, List.set_cons_zero, List.set_cons_succ])
                  refine wpAnyH_done (by kernel_rfl) ?_ _
                  go_wp2_with fail
                  go_meet
                  exact ⟨rfl, Lib.hid ⟨g, m ++ xs, _, g', m', v', HQ4.out, by rw [HL6.out]; exact HN6.out, by have := HM.out.2; omega⟩⟩
              · have b0 : ((r : Int) == 0) = false := by simp; omega
                have b1 : ((r : Int) == 1) = false := by simp; omega
                have b2 : ((r : Int) == 2) = true := by simp; omega
                clear hr hr7
                have k2 : (k : Int) < 2 := by omega
                have iN : (i : Int) < (N : Int) := by omega
                go_upto_region 19 with fail
                have HQd : Hid (HQ w dh db k g m v m g' m' v' m' wc.drew) := Lib.hid (HQ0.out.step (bl_drewN 1 (Below.refl _ _)))
                have Ad : Hid (wc.drew.cell? ⟨gp, off + i * 3 + 2, none⟩ = some (.slice Au q cu)) := Lib.hid (((HQd.out.bel).cell (p := ⟨gp, _, none⟩) hgp).trans HA4.out)
                refine wp_region_held_drew (S := fun W => AR W dh 26 (pr k (P2 g) (P2 g')) ∧ W.cell? ⟨gp, off + i * 3 + 2, none⟩ = some (.slice Au q cu)) (by kernel_rfl) ⟨HQd.out.rh, Ad.out⟩ (fun hHeld => ?_)
                refine wpAnyH_take (i := 0) (oi := { dst := some 51, op := _, type := _, pos := _, after := _, guard := _ }) (v := ?v51x39) rfl (by kernel_rfl) (by kernel_rfl) (by kernel_rfl) (fun _ _ _ h => h) (Or.inl ⟨by rfl, ?y51x39⟩) hHeld ?r51x39
                case y51x39 => intro w9 hSw; go_simp <;> with_reducible rfl
                (try simp only [Act.put, List.setIfInBounds_toArray, List.set_cons_zero, List.set_cons_succ])
                refine wpAnyH_take (i := 1) (oi := { dst := some 52, op := _, type := _, pos := _, after := _, guard := _ }) (v := ?v52x40) rfl (by kernel_rfl) (by kernel_rfl) (by kernel_rfl) (fun _ _ _ h => h) (Or.inl ⟨by rfl, ?y52x40⟩) hHeld ?r52x40
                case y52x40 => intro w9 hSw; go_simp <;> with_reducible rfl
                (try simp only [Act.put, List.setIfInBounds_toArray, List.set_cons_zero, List.set_cons_succ])
                refine wpAnyH_take (i := 2) (oi := { dst := some 53, op := _, type := _, pos := _, after := _, guard := _ }) (v := ?v53x41) rfl (by kernel_rfl) (by kernel_rfl) (by kernel_rfl) (fun _ _ _ h => h) (Or.inl ⟨by rfl, ?y53x41⟩) hHeld ?r53x41
                case y53x41 => intro w9 hSw; have cc := AR.at hSw.1 (pr_get hk (P2 g) (P2 g')); go_simp <;> with_reducible rfl
                (try simp only [Act.put, List.setIfInBounds_toArray, List.set_cons_zero, List.set_cons_succ])
                refine wpAnyH_take (i := 3) (oi := { dst := some 54, op := _, type := _, pos := _, after := _, guard := _ }) (v := ?v54x42) rfl (by kernel_rfl) (by kernel_rfl) (by kernel_rfl) (fun _ _ _ h => h) (Or.inl ⟨by rfl, ?y54x42⟩) hHeld ?r54x42
                case y54x42 => intro w9 hSw; go_simp <;> with_reducible rfl
                (try simp only [Act.put, List.setIfInBounds_toArray, List.set_cons_zero, List.set_cons_succ])
                refine wpAnyH_take (i := 4) (oi := { dst := some 55, op := _, type := _, pos := _, after := _, guard := _ }) (v := ?v55x43) rfl (by kernel_rfl) (by kernel_rfl) (by kernel_rfl) (fun _ _ _ h => h) (Or.inl ⟨by rfl, ?y55x43⟩) hHeld ?r55x43
                case y55x43 => intro w9 hSw; go_simp <;> with_reducible rfl
                (try simp only [Act.put, List.setIfInBounds_toArray, List.set_cons_zero, List.set_cons_succ])
                refine wpAnyH_take (i := 5) (oi := { dst := some 56, op := _, type := _, pos := _, after := _, guard := _ }) (v := ?v56x44) rfl (by kernel_rfl) (by kernel_rfl) (by kernel_rfl) (fun _ _ _ h => h) (Or.inl ⟨by rfl, ?y56x44⟩) hHeld ?r56x44
                case y56x44 => intro w9 hSw; go_simp <;> with_reducible rfl
                (try simp only [Act.put, List.setIfInBounds_toArray, List.set_cons_zero, List.set_cons_succ])
                refine wpAnyH_take (i := 6) (oi := { dst := some 57, op := _, type := _, pos := _, after := _, guard := _ }) (v := ?v57x45) rfl (by kernel_rfl) (by kernel_rfl) (by kernel_rfl) (fun _ _ _ h => h) (Or.inl ⟨by rfl, ?y57x45⟩) hHeld ?r57x45
                case y57x45 => intro w9 hSw; go_simp <;> with_reducible rfl
                (try simp only [Act.put, List.setIfInBounds_toArray, List.set_cons_zero, List.set_cons_succ])
                refine wpAnyH_take (i := 7) (oi := { dst := some 58, op := _, type := _, pos := _, after := _, guard := _ }) (v := ?v58x46) rfl (by kernel_rfl) (by kernel_rfl) (by kernel_rfl) (fun _ _ _ h => h) (Or.inl ⟨by rfl, ?y58x46⟩) hHeld ?r58x46
                case y58x46 => intro w9 hSw; have cc := hSw.2; go_simp <;> with_reducible rfl
                (try simp only [Act.put, List.setIfInBounds_toArray, List.set_cons_zero, List.set_cons_succ])
                refine wpAnyH_ready (rs := [8]) (by kernel_rfl) (by simp) (AllReadyH.cons (o := { dst := some 59, op := _, type := _, pos := _, after := _, guard := _ }) rfl (fun K hK => ?_) AllReadyH.nil)
                go_simp
                go_at_call 14
                refine (write_any g m xs _ _ HQd.out.h (HXS.out.later HQd.out.bel) HXB.out (by have h1 := HM.out.1; have h2 := HQL.out; omega) (HV.out.below HQd.out.bel)).mono ?_
                rintro e w4 ⟨rfl, hh, hg⟩
                have HQ1 := Lib.hid (HQd.out.hashed hh hg)
                refine hK.out _ _ ⟨HQ1.out.rh, ((HQ1.out.bel).cell (p := ⟨gp, _, none⟩) hgp).trans HA4.out⟩ (fun hHeld2 => ?_)
                clear hK K hh hg
                (try simp only [Act.put, List.setIfInBounds_toArray, List.set_cons_zero, List.set_cons_succ])
                refine wpAnyH_ready (rs := [9]) (by kernel_rfl) (by simp) (AllReadyH.cons (o := { dst := some 7, op := _, type := _, pos := _, after := _, guard := _ }) rfl (fun K hK => ?_) AllReadyH.nil)
                go_simp
                refine hK.out _ _ ⟨HQ1.out.rh, ((HQ1.out.bel).cell (p := ⟨gp, _, none⟩) hgp).trans HA4.out⟩ (fun hHeld3 => ?_)
                clear hK K
                (try simp only [Act.put, List.setIfInBounds_toArray, List.set_cons_zero, List.set_cons_succ])
                refine wpAnyH_done (by kernel_rfl) ?_ _
                go_upto_region 20 with fail
                have HQ2 : Hid (HQ w dh db k g (m ++ xs) v m g' m' v' m' w4.drew) := Lib.hid (HQ1.out.step (bl_drewN 1 (Below.refl _ _)))
                have A2 : Hid (w4.drew.cell? ⟨gp, off + i * 3 + 2, none⟩ = some (.slice Au q cu)) := Lib.hid (((HQ2.out.bel).cell (p := ⟨gp, _, none⟩) hgp).trans HA4.out)
                clear HQ1 HQd Ad hHeld hHeld2 hHeld3
                refine wp_region_held_drew (S := fun W => W.cell? ⟨gp, off + i * 3 + 2, none⟩ = some (.slice Au q cu)) (by kernel_rfl) A2.out (fun hHeld => ?_)
                refine wpAnyH_take (i := 0) (oi := { dst := some 60, op := _, type := _, pos := _, after := _, guard := _ }) (v := ?v60x47) rfl (by kernel_rfl) (by kernel_rfl) (by kernel_rfl) (fun _ _ _ h => h) (Or.inl ⟨by rfl, ?y60x47⟩) hHeld ?r60x47
                case y60x47 => intro w9 hSw; go_simp <;> with_reducible rfl
                (try simp only [Act.put, List.setIfInBounds_toArray, List.set_cons_zero, List.set_cons_succ])
                refine wpAnyH_take (i := 2) (oi := { dst := some 62, op := _, type := _, pos := _, after := _, guard := _ }) (v := ?v62x48) rfl (by kernel_rfl) (by kernel_rfl) (by kernel_rfl) (fun _ _ _ h => h) (Or.inl ⟨by rfl, ?y62x48⟩) hHeld ?r62x48
                case y62x48 => intro w9 hSw; go_simp <;> with_reducible rfl
                (try simp only [Act.put, List.setIfInBounds_toArray, List.set_cons_zero, List.set_cons_succ])
                refine wpAnyH_take (i := 3) (oi := { dst := some 63, op := _, type := _, pos := _, after := _, guard := _ }) (v := ?v63x49) rfl (by kernel_rfl) (by kernel_rfl) (by kernel_rfl) (fun _ _ _ h => h) (Or.inl ⟨by rfl, ?y63x49⟩) hHeld ?r63x49
                case y63x49 => intro w9 hSw; go_simp <;> with_reducible rfl
                (try simp only [Act.put, List.setIfInBounds_toArray, List.set_cons_zero, List.set_cons_succ])
                refine wpAnyH_take (i := 6) (oi := { dst := some 66, op := _, type := _, pos := _, after := _, guard := _ }) (v := ?v66x50) rfl (by kernel_rfl) (by kernel_rfl) (by kernel_rfl) (fun _ _ _ h => h) (Or.inl ⟨by rfl, ?y66x50⟩) hHeld ?r66x50
                case y66x50 => intro w9 hSw; go_simp <;> with_reducible rfl
                (try simp only [Act.put, List.setIfInBounds_toArray, List.set_cons_zero, List.set_cons_succ])
                refine wpAnyH_take (i := 7) (oi := { dst := some 67, op := _, type := _, pos := _, after := _, guard := _ }) (v := ?v67x51) rfl (by kernel_rfl) (by kernel_rfl) (by kernel_rfl) (fun _ _ _ h => h) (Or.inl ⟨by rfl, ?y67x51⟩) hHeld ?r67x51
                case y67x51 => intro w9 hSw; go_simp <;> with_reducible rfl
                (try simp only [Act.put, List.setIfInBounds_toArray, List.set_cons_zero, List.set_cons_succ])
                refine wpAnyH_take (i := 8) (oi := { dst := some 68, op := _, type := _, pos := _, after := _, guard := _ }) (v := ?v68x52) rfl (by kernel_rfl) (by kernel_rfl) (by kernel_rfl) (fun _ _ _ h => h) (Or.inl ⟨by rfl, ?y68x52⟩) hHeld ?r68x52
                case y68x52 => intro w9 hSw; go_simp <;> with_reducible rfl
                (try simp only [Act.put, List.setIfInBounds_toArray, List.set_cons_zero, List.set_cons_succ])
                refine wpAnyH_take (i := 9) (oi := { dst := some 69, op := _, type := _, pos := _, after := _, guard := _ }) (v := ?v69x53) rfl (by kernel_rfl) (by kernel_rfl) (by kernel_rfl) (fun _ _ _ h => h) (Or.inl ⟨by rfl, ?y69x53⟩) hHeld ?r69x53
                case y69x53 => intro w9 hSw; go_simp <;> with_reducible rfl
                (try simp only [Act.put, List.setIfInBounds_toArray, List.set_cons_zero, List.set_cons_succ])
                refine wpAnyH_take (i := 10) (oi := { dst := some 70, op := _, type := _, pos := _, after := _, guard := _ }) (v := ?v70x54) rfl (by kernel_rfl) (by kernel_rfl) (by kernel_rfl) (fun _ _ _ h => h) (Or.inl ⟨by rfl, ?y70x54⟩) hHeld ?r70x54
                case y70x54 => intro w9 hSw; have cc := hSw; go_simp <;> with_reducible rfl
                (try simp only [Act.put, List.setIfInBounds_toArray, List.set_cons_zero, List.set_cons_succ])
                refine wpAnyH_ready (rs := [1, 4]) (by kernel_rfl) (by simp) (AllReadyH.cons (o := { dst := some 61, op := _, type := _, pos := _, after := _, guard := _ }) rfl (fun K hK => ?p55_1) (AllReadyH.cons (o := { dst := some 64, op := _, type := _, pos := _, after := _, guard := _ }) rfl (fun K hK => ?p55_4) AllReadyH.nil))
                case p55_1 =>
                  go_simp
                  refine hK.out _ _ (((bl_alloc _ HQ2.out.bel).cell (p := ⟨gp, _, none⟩) hgp).trans HA4.out) (fun hHeld4 => ?_)
                  clear hK K
                  (try simp only [Act.put, List.setIfInBounds_toArray, List.set_cons_zero, List.set_cons_succ])
                  refine wpAnyH_ready (rs := [4]) (by kernel_rfl) (by simp) (AllReadyH.cons (o := { dst := some 64, op := _, type := _, pos := _, after := _, guard := _ }) rfl (fun K hK => ?_) AllReadyH.nil)
                  have cb0 : (w4.alloc (.cells #[] 5)).cell? ⟨db, k, none⟩ = some v := ((show AR w4 db 28 (pr k v v') from HQ2.out.rb).more (.cells #[] 5)).at (pr_get hk v v')
                  go_simp
                  refine hK.out _ _ (((bl_alloc _ HQ2.out.bel).cell (p := ⟨gp, _, none⟩) hgp).trans HA4.out) (fun hHeld4b => ?_)
                  clear hK K cb0
                  (try simp only [Act.put, List.setIfInBounds_toArray, List.set_cons_zero, List.set_cons_succ])
                  refine wpAnyH_ready (rs := [5]) (by kernel_rfl) (by simp) (AllReadyH.cons (o := { dst := some 65, op := _, type := _, pos := _, after := _, guard := _ }) rfl (fun K hK => ?_) AllReadyH.nil)
                  rw [if_pos (by rfl)]
                  refine wp_append_on _ (.tmp 61) (.tmp 64) rfl w4.drew.heap.size _ v [] m rfl (on_new w4.drew [] 0 rfl (by omega)) rfl (HQ2.out.o.rn.later (bl_self _ _)) (by simp) (by have h1 := HM.out.1; simp; omega) ?_
                  intro v5 w5 hn hg
                  rw [List.nil_append] at hn
                  have B5 : Hid (Below w4.drew.heap.size w4.drew w5) := Lib.hid ((bl_self w4.drew _).grown hg (by simp) (fun j e => by cases e; exact Nat.le_refl _))
                  have O5 := Lib.hid hn
                  refine hK.out _ _ (((bl_call HQ2.out.bel B5.out).cell (p := ⟨gp, _, none⟩) hgp).trans HA4.out) (fun hHeld5 => ?_)
                  clear hK K hn hg
                  (try simp only [Act.put, List.setIfInBounds_toArray, List.set_cons_zero, List.set_cons_succ])
                  refine wpAnyH_ready (rs := [11]) (by kernel_rfl) (by simp) (AllReadyH.cons (o := { dst := some 71, op := _, type := _, pos := _, after := _, guard := _ }) rfl (fun K hK => ?_) AllReadyH.nil)
                  rw [if_pos (by rfl)]
                  refine wp_append_on _ (.tmp 65) (.tmp 70) rfl w4.drew.heap.size _ (.slice Au q cu) m xs rfl O5.out rfl (HXS.out.later (bl_call HQ2.out.bel B5.out)) B5.out.size (by have h1 := HM.out.1; have h2 := HQL.out; omega) ?_
                  intro v6 w6 hn hg
                  have B6 : Hid (Below w4.drew.heap.size w4.drew w6) := Lib.hid (B5.out.grown hg B5.out.size (fun j e => (World.ownsRow.lt O5.out j e).1))
                  have HQ3 := Lib.hid (HQ2.out.step B6.out)
                  obtain ⟨A6, c6, rfl⟩ := hn.len
                  obtain ⟨n6, hn6⟩ : ∃ n6, (m ++ xs).length = n6 := ⟨_, rfl⟩
                  have HN6 : Hid (n6 ≤ 200 * (i + 1)) := Lib.hid (by rw [← hn6, List.length_append]; have h1 := HM.out.1; have h2 := HQL.out; omega)
                  have HL6 := Lib.hid hn6
                  rw [hn6] at hn ⊢
                  have HQ4 := Lib.hid (HQ3.out.bytes hk (hn.base HQ2.out.bel.size) (HQ3.out.bb.app HXB.out))
                  have cb := HQ3.out.rb.at (pr_get hk v v')
                  have fb := HQ3.out.rb.free k
                  refine hK.out _ _ (((HQ3.out.bel).cell (p := ⟨gp, _, none⟩) hgp).trans HA4.out) (fun hHeld6 => ?_)
                  clear hK K hn hg hn6
                  (try simp only [Act.put, List.setIfInBounds_toArray, List.set_cons_zero, List.set_cons_succ])
                  refine wpAnyH_take (i := 12) (oi := { dst := some 72, op := _, type := _, pos := _, after := _, guard := _ }) (v := ?v72x56) rfl (by kernel_rfl) (by kernel_rfl) (by kernel_rfl) (fun _ _ _ h => h) (Or.inl ⟨by rfl, ?y72x56⟩) hHeld6 ?r72x56
                  case y72x56 => intro w9 hSw; go_simp <;> with_reducible rfl
                  (try simp only [Act.put, List.setIfInBounds_toArray, List.set_cons_zero, List.set_cons_succ])
                  refine wpAnyH_ready (rs := [13]) (by kernel_rfl) (by simp) (AllReadyH.cons (o := { dst := none, op := _, type := _, pos := _, after := _, guard := _ }) rfl (fun K hK => ?_) AllReadyH.nil)
                  go_simp
                  refine hK.out _ _ (((HQ4.out.bel).cell (p := ⟨gp, _, none⟩) hgp).trans HA4.out) (fun hHeld7 => ?_)
                  clear hK K
                  (try simp only [Act.put, List.setIfInBounds_toArray, List.set_cons_zero, List.set_cons_succ])
                  refine wpAnyH_done (by kernel_rfl) ?_ _
                  go_wp2_with fail
                  go_meet
                  exact ⟨rfl, Lib.hid ⟨g, m ++ xs, _, g', m', v', HQ4.out, by rw [HL6.out]; exact HN6.out, by have := HM.out.2; omega⟩⟩
                case p55_4 =>
                  have cb0 := HQ2.out.rb.at (pr_get hk v v')
                  go_simp
                  refine hK.out _ _ A2.out (fun hHeld4 => ?_)
                  clear hK K cb0
                  (try simp only [Act.put, List.setIfInBounds_toArray, List.set_cons_zero, List.set_cons_succ])
                  refine wpAnyH_ready (rs := [1]) (by kernel_rfl) (by simp) (AllReadyH.cons (o := { dst := some 61, op := _, type := _, pos := _, after := _, guard := _ }) rfl (fun K hK => ?_) AllReadyH.nil)
                  go_simp
                  refine hK.out _ _ (((bl_alloc _ HQ2.out.bel).cell (p := ⟨gp, _, none⟩) hgp).trans HA4.out) (fun hHeld4b => ?_)
                  clear hK K
                  (try simp only [Act.put, List.setIfInBounds_toArray, List.set_cons_zero, List.set_cons_succ])
                  refine wpAnyH_ready (rs := [5]) (by kernel_rfl) (by simp) (AllReadyH.cons (o := { dst := some 65, op := _, type := _, pos := _, after := _, guard := _ }) rfl (fun K hK => ?_) AllReadyH.nil)
                  rw [if_pos (by rfl)]
                  refine wp_append_on _ (.tmp 61) (.tmp 64) rfl w4.drew.heap.size _ v [] m rfl (on_new w4.drew [] 0 rfl (by omega)) rfl (HQ2.out.o.rn.later (bl_self _ _)) (by simp) (by have h1 := HM.out.1; simp; omega) ?_
                  intro v5 w5 hn hg
                  rw [List.nil_append] at hn
                  have B5 : Hid (Below w4.drew.heap.size w4.drew w5) := Lib.hid ((bl_self w4.drew _).grown hg (by simp) (fun j e => by cases e; exact Nat.le_refl _))
                  have O5 := Lib.hid hn
                  refine hK.out _ _ (((bl_call HQ2.out.bel B5.out).cell (p := ⟨gp, _, none⟩) hgp).trans HA4.out) (fun hHeld5 => ?_)
                  clear hK K hn hg
                  (try simp only [Act.put, List.setIfInBounds_toArray, List.set_cons_zero, List.set_cons_succ])
                  refine wpAnyH_ready (rs := [11]) (by kernel_rfl) (by simp) (AllReadyH.cons (o := { dst := some 71, op := _, type := _, pos := _, after := _, guard := _ }) rfl (fun K hK => ?_) AllReadyH.nil)
                  rw [if_pos (by rfl)]
                  refine wp_append_on _ (.tmp 65) (.tmp 70) rfl w4.drew.heap.size _ (.slice Au q cu) m xs rfl O5.out rfl (HXS.out.later (bl_call HQ2.out.bel B5.out)) B5.out.size (by have h1 := HM.out.1; have h2 := HQL.out; omega) ?_
                  intro v6 w6 hn hg
                  have B6 : Hid (Below w4.drew.heap.size w4.drew w6) := Lib.hid (B5.out.grown hg B5.out.size (fun j e => (World.ownsRow.lt O5.out j e).1))
                  have HQ3 := Lib.hid (HQ2.out.step B6.out)
                  obtain ⟨A6, c6, rfl⟩ := hn.len
                  obtain ⟨n6, hn6⟩ : ∃ n6, (m ++ xs).length = n6 := ⟨_, rfl⟩
                  have HN6 : Hid (n6 ≤ 200 * (i + 1)) := Lib.hid (by rw [← hn6, List.length_append]; have h1 := HM.out.1; have h2 := HQL.out; omega)
                  have HL6 := Lib.hid hn6
                  rw [hn6] at hn ⊢
                  have HQ4 := Lib.hid (HQ3.out.bytes hk (hn.base HQ2.out.bel.size) (HQ3.out.bb.app HXB.out))
                  have cb := HQ3.out.rb.at (pr_get hk v v')
                  have fb := HQ3.out.rb.free k
                  refine hK.out _ _ (((HQ3.out.bel).cell (p := ⟨gp, _, none⟩) hgp).trans HA4.out) (fun hHeld6 => ?_)
                  clear hK K hn hg hn6
                  (try simp only [Act.put, List.setIfInBounds_toArray, List.set_cons_zero, List.set_cons_succ])
                  refine wpAnyH_take (i := 12) (oi := { dst := some 72, op := _, type := _, pos := _, after := _, guard := _ }) (v := ?v72x57) rfl (by kernel_rfl) (by kernel_rfl) (by kernel_rfl) (fun _ _ _ h => h) (Or.inl ⟨by rfl, ?y72x57⟩) hHeld6 ?r72x57
                  case y72x57 => intro w9 hSw; go_simp <;> with_reducible rfl
                  (try simp only [Act.put, List.setIfInBounds_toArray, List.set_cons_zero, List.set_cons_succ])
                  refine wpAnyH_ready (rs := [13]) (by kernel_rfl) (by simp) (AllReadyH.cons (o := { dst := none, op := _, type := _, pos := _, after := _, guard := _ }) rfl (fun K hK => ?_) AllReadyH.nil)
                  go_simp
                  refine hK.out _ _ (((HQ4.out.bel).cell (p := ⟨gp, _, none⟩) hgp).trans HA4.out) (fun hHeld7 => ?_)
                  clear hK K
                  (try simp only [Act.put, List.setIfInBounds_toArray, List.set_cons_zero, List.set_cons_succ])
                  refine wpAnyH_done (by kernel_rfl) ?_ _
                  go_wp2_with fail
                  go_meet
                  exact ⟨rfl, Lib.hid ⟨g, m ++ xs, _, g', m', v', HQ4.out, by rw [HL6.out]; exact HN6.out, by have := HM.out.2; omega⟩⟩
              · have b0 : ((r : Int) == 0) = false := by simp; omega
                have b1 : ((r : Int) == 1) = false := by simp; omega
                have b2 : ((r : Int) == 2) = false := by simp; omega
                have b3 : ((r : Int) == 3) = true := by simp; omega
                clear hr hr7
                have k2 : (k : Int) < 2 := by omega
                have iN : (i : Int) < (N : Int) := by omega
                go_upto_region 19 with fail
                have HQd : Hid (HQ w dh db k g m v m g' m' v' m' wc.drew) := Lib.hid (HQ0.out.step (bl_drewN 1 (Below.refl _ _)))
                have Ad : Hid (wc.drew.cell? ⟨gp, off + i * 3 + 2, none⟩ = some (.slice Au q cu)) := Lib.hid (((HQd.out.bel).cell (p := ⟨gp, _, none⟩) hgp).trans HA4.out)
                refine wp_region_held_drew (S := fun W => AR W dh 26 (pr k (P2 g) (P2 g')) ∧ W.cell? ⟨gp, off + i * 3 + 2, none⟩ = some (.slice Au q cu)) (by kernel_rfl) ⟨HQd.out.rh, Ad.out⟩ (fun hHeld => ?_)
                refine wpAnyH_take (i := 0) (oi := { dst := some 51, op := _, type := _, pos := _, after := _, guard := _ }) (v := ?v51x58) rfl (by kernel_rfl) (by kernel_rfl) (by kernel_rfl) (fun _ _ _ h => h) (Or.inl ⟨by rfl, ?y51x58⟩) hHeld ?r51x58
                case y51x58 => intro w9 hSw; go_simp <;> with_reducible rfl
                (try simp only [Act.put, List.setIfInBounds_toArray, List.set_cons_zero, List.set_cons_succ])
                refine wpAnyH_take (i := 1) (oi := { dst := some 52, op := _, type := _, pos := _, after := _, guard := _ }) (v := ?v52x59) rfl (by kernel_rfl) (by kernel_rfl) (by kernel_rfl) (fun _ _ _ h => h) (Or.inl ⟨by rfl, ?y52x59⟩) hHeld ?r52x59
                case y52x59 => intro w9 hSw; go_simp <;> with_reducible rfl
                (try simp only [Act.put, List.setIfInBounds_toArray, List.set_cons_zero, List.set_cons_succ])
                refine wpAnyH_take (i := 2) (oi := { dst := some 53, op := _, type := _, pos := _, after := _, guard := _ }) (v := ?v53x60) rfl (by kernel_rfl) (by kernel_rfl) (by kernel_rfl) (fun _ _ _ h => h) (Or.inl ⟨by rfl, ?y53x60⟩) hHeld ?r53x60
                case y53x60 => intro w9 hSw; have cc := AR.at hSw.1 (pr_get hk (P2 g) (P2 g')); go_simp <;> with_reducible rfl
                (try simp only [Act.put, List.setIfInBounds_toArray, List.set_cons_zero, List.set_cons_succ])
                refine wpAnyH_take (i := 3) (oi := { dst := some 54, op := _, type := _, pos := _, after := _, guard := _ }) (v := ?v54x61) rfl (by kernel_rfl) (by kernel_rfl) (by kernel_rfl) (fun _ _ _ h => h) (Or.inl ⟨by rfl, ?y54x61⟩) hHeld ?r54x61
                case y54x61 => intro w9 hSw; go_simp <;> with_reducible rfl
                (try simp only [Act.put, List.setIfInBounds_toArray, List.set_cons_zero, List.set_cons_succ])
                refine wpAnyH_take (i := 4) (oi := { dst := some 55, op := _, type := _, pos := _, after := _, guard := _ }) (v := ?v55x62) rfl (by kernel_rfl) (by kernel_rfl) (by kernel_rfl) (fun _ _ _ h => h) (Or.inl ⟨by rfl, ?y55x62⟩) hHeld ?r55x62
                case y55x62 => intro w9 hSw; go_simp <;> with_reducible rfl
                (try simp only [Act.put, List.setIfInBounds_toArray, List.set_cons_zero, List.set_cons_succ])
                refine wpAnyH_take (i := 5) (oi := { dst := some 56, op := _, type := _, pos := _, after := _, guard := _ }) (v := ?v56x63) rfl (by kernel_rfl) (by kernel_rfl) (by kernel_rfl) (fun _ _ _ h => h) (Or.inl ⟨by rfl, ?y56x63⟩) hHeld ?r56x63
                case y56x63 => intro w9 hSw; go_simp <;> with_reducible rfl
                (try simp only [Act.put, List.setIfInBounds_toArray, List.set_cons_zero, List.set_cons_succ])
                refine wpAnyH_take (i := 6) (oi := { dst := some 57, op := _, type := _, pos := _, after := _, guard := _ }) (v := ?v57x64) rfl (by kernel_rfl) (by kernel_rfl) (by kernel_rfl) (fun _ _ _ h => h) (Or.inl ⟨by rfl, ?y57x64⟩) hHeld ?r57x64
                case y57x64 => intro w9 hSw; go_simp <;> with_reducible rfl
                (try simp only [Act.put, List.setIfInBounds_toArray, List.set_cons_zero, List.set_cons_succ])
                refine wpAnyH_take (i := 7) (oi := { dst := some 58, op := _, type := _, pos := _, after := _, guard := _ }) (v := ?v58x65) rfl (by kernel_rfl) (by kernel_rfl) (by kernel_rfl) (fun _ _ _ h => h) (Or.inl ⟨by rfl, ?y58x65⟩) hHeld ?r58x65
                case y58x65 => intro w9 hSw; have cc := hSw.2; go_simp <;> with_reducible rfl
                (try simp only [Act.put, List.setIfInBounds_toArray, List.set_cons_zero, List.set_cons_succ])
                refine wpAnyH_ready (rs := [8]) (by kernel_rfl) (by simp) (AllReadyH.cons (o := { dst := some 59, op := _, type := _, pos := _, after := _, guard := _ }) rfl (fun K hK => ?_) AllReadyH.nil)
                go_simp
                go_at_call 14
                refine (write_any g m xs _ _ HQd.out.h (HXS.out.later HQd.out.bel) HXB.out (by have h1 := HM.out.1; have h2 := HQL.out; omega) (HV.out.below HQd.out.bel)).mono ?_
                rintro e w4 ⟨rfl, hh, hg⟩
                have HQ1 := Lib.hid (HQd.out.hashed hh hg)
                refine hK.out _ _ ⟨HQ1.out.rh, ((HQ1.out.bel).cell (p := ⟨gp, _, none⟩) hgp).trans HA4.out⟩ (fun hHeld2 => ?_)
                clear hK K hh hg
                (try simp only [Act.put, List.setIfInBounds_toArray, List.set_cons_zero, List.set_cons_succ])
                refine wpAnyH_ready (rs := [9]) (by kernel_rfl) (by simp) (AllReadyH.cons (o := { dst := some 7, op := _, type := _, pos := _, after := _, guard := _ }) rfl (fun K hK => ?_) AllReadyH.nil)
                go_simp
                refine hK.out _ _ ⟨HQ1.out.rh, ((HQ1.out.bel).cell (p := ⟨gp, _, none⟩) hgp).trans HA4.out⟩ (fun hHeld3 => ?_)
                clear hK K
                (try simp only [Act.put, List.setIfInBounds_toArray, List.set_cons_zero, List.set_cons_succ])
                refine wpAnyH_done (by kernel_rfl) ?_ _
                go_upto_region 20 with fail
                have HQ2 : Hid (HQ w dh db k g (m ++ xs) v m g' m' v' m' w4.drew) := Lib.hid (HQ1.out.step (bl_drewN 1 (Below.refl _ _)))
                have A2 : Hid (w4.drew.cell? ⟨gp, off + i * 3 + 2, none⟩ = some (.slice Au q cu)) := Lib.hid (((HQ2.out.bel).cell (p := ⟨gp, _, none⟩) hgp).trans HA4.out)
                clear HQ1 HQd Ad hHeld hHeld2 hHeld3
                refine wp_region_held_drew (S := fun W => W.cell? ⟨gp, off + i * 3 + 2, none⟩ = some (.slice Au q cu)) (by kernel_rfl) A2.out (fun hHeld => ?_)
                refine wpAnyH_take (i := 0) (oi := { dst := some 60, op := _, type := _, pos := _, after := _, guard := _ }) (v := ?v60x66) rfl (by kernel_rfl) (by kernel_rfl) (by kernel_rfl) (fun _ _ _ h => h) (Or.inl ⟨by rfl, ?y60x66⟩) hHeld ?r60x66
                case y60x66 => intro w9 hSw; go_simp <;> with_reducible rfl
                (try simp only [Act.put, List.setIfInBounds_toArray, List.set_cons_zero, List.set_cons_succ])
                refine wpAnyH_take (i := 2) (oi := { dst := some 62, op := _, type := _, pos := _, after := _, guard := _ }) (v := ?v62x67) rfl (by kernel_rfl) (by kernel_rfl) (by kernel_rfl) (fun _ _ _ h => h) (Or.inl ⟨by rfl, ?y62x67⟩) hHeld ?r62x67
                case y62x67 => intro w9 hSw; go_simp <;> with_reducible rfl
                (try simp only [Act.put, List.setIfInBounds_toArray, List.set_cons_zero, List.set_cons_succ])
                refine wpAnyH_take (i := 3) (oi := { dst := some 63, op := _, type := _, pos := _, after := _, guard := _ }) (v := ?v63x68) rfl (by kernel_rfl) (by kernel_rfl) (by kernel_rfl) (fun _ _ _ h => h) (Or.inl ⟨by rfl, ?y63x68⟩) hHeld ?r63x68
                case y63x68 => intro w9 hSw; go_simp <;> with_reducible rfl
                (try simp only [Act.put, List.setIfInBounds_toArray, List.set_cons_zero, List.set_cons_succ])
                refine wpAnyH_take (i := 6) (oi := { dst := some 66, op := _, type := _, pos := _, after := _, guard := _ }) (v := ?v66x69) rfl (by kernel_rfl) (by kernel_rfl) (by kernel_rfl) (fun _ _ _ h => h) (Or.inl ⟨by rfl, ?y66x69⟩) hHeld ?r66x69
                case y66x69 => intro w9 hSw; go_simp <;> with_reducible rfl
                (try simp only [Act.put, List.setIfInBounds_toArray, List.set_cons_zero, List.set_cons_succ])
                refine wpAnyH_take (i := 7) (oi := { dst := some 67, op := _, type := _, pos := _, after := _, guard := _ }) (v := ?v67x70) rfl (by kernel_rfl) (by kernel_rfl) (by kernel_rfl) (fun _ _ _ h => h) (Or.inl ⟨by rfl, ?y67x70⟩) hHeld ?r67x70
                case y67x70 => intro w9 hSw; go_simp <;> with_reducible rfl
                (try simp only [Act.put, List.setIfInBounds_toArray, List.set_cons_zero, List.set_cons_succ])
                refine wpAnyH_take (i := 8) (oi := { dst := some 68, op := _, type := _, pos := _, after := _, guard := _ }) (v := ?v68x71) rfl (by kernel_rfl) (by kernel_rfl) (by kernel_rfl) (fun _ _ _ h => h) (Or.inl ⟨by rfl, ?y68x71⟩) hHeld ?r68x71
                case y68x71 => intro w9 hSw; go_simp <;> with_reducible rfl
                (try simp only [Act.put, List.setIfInBounds_toArray, List.set_cons_zero, List.set_cons_succ])
                refine wpAnyH_take (i := 9) (oi := { dst := some 69, op := _, type := _, pos := _, after := _, guard := _ }) (v := ?v69x72) rfl (by kernel_rfl) (by kernel_rfl) (by kernel_rfl) (fun _ _ _ h => h) (Or.inl ⟨by rfl, ?y69x72⟩) hHeld ?r69x72
                case y69x72 => intro w9 hSw; go_simp <;> with_reducible rfl
                (try simp only [Act.put, List.setIfInBounds_toArray, List.set_cons_zero, List.set_cons_succ])
                refine wpAnyH_take (i := 10) (oi := { dst := some 70, op := _, type := _, pos := _, after := _, guard := _ }) (v := ?v70x73) rfl (by kernel_rfl) (by kernel_rfl) (by kernel_rfl) (fun _ _ _ h => h) (Or.inl ⟨by rfl, ?y70x73⟩) hHeld ?r70x73
                case y70x73 => intro w9 hSw; have cc := hSw; go_simp <;> with_reducible rfl
                (try simp only [Act.put, List.setIfInBounds_toArray, List.set_cons_zero, List.set_cons_succ])
                refine wpAnyH_ready (rs := [1, 4]) (by kernel_rfl) (by simp) (AllReadyH.cons (o := { dst := some 61, op := _, type := _, pos := _, after := _, guard := _ }) rfl (fun K hK => ?p74_1) (AllReadyH.cons (o := { dst := some 64, op := _, type := _, pos := _, after := _, guard := _ }) rfl (fun K hK => ?p74_4) AllReadyH.nil))
                case p74_1 =>
                  go_simp
                  refine hK.out _ _ (((bl_alloc _ HQ2.out.bel).cell (p := ⟨gp, _, none⟩) hgp).trans HA4.out) (fun hHeld4 => ?_)
                  clear hK K
                  (try simp only [Act.put, List.setIfInBounds_toArray, List.set_cons_zero, List.set_cons_succ])
                  refine wpAnyH_ready (rs := [4]) (by kernel_rfl) (by simp) (AllReadyH.cons (o := { dst := some 64, op := _, type := _, pos := _, after := _, guard := _ }) rfl (fun K hK => ?_) AllReadyH.nil)
                  have cb0 : (w4.alloc (.cells #[] 5)).cell? ⟨db, k, none⟩ = some v := ((show AR w4 db 28 (pr k v v') from HQ2.out.rb).more (.cells #[] 5)).at (pr_get hk v v')
                  go_simp
                  refine hK.out _ _ (((bl_alloc _ HQ2.out.bel).cell (p := ⟨gp, _, none⟩) hgp).trans HA4.out) (fun hHeld4b => ?_)
                  clear hK K cb0
                  (try simp only [Act.put, List.setIfInBounds_toArray, List.set_cons_zero, List.set_cons_succ])
                  refine wpAnyH_ready (rs := [5]) (by kernel_rfl) (by simp) (AllReadyH.cons (o := { dst := some 65, op := _, type := _, pos := _, after := _, guard := _ }) rfl (fun K hK => ?_) AllReadyH.nil)
                  rw [if_pos (by rfl)]
                  refine wp_append_on _ (.tmp 61) (.tmp 64) rfl w4.drew.heap.size _ v [] m rfl (on_new w4.drew [] 0 rfl (by omega)) rfl (HQ2.out.o.rn.later (bl_self _ _)) (by simp) (by have h1 := HM.out.1; simp; omega) ?_
                  intro v5 w5 hn hg
                  rw [List.nil_append] at hn
                  have B5 : Hid (Below w4.drew.heap.size w4.drew w5) := Lib.hid ((bl_self w4.drew _).grown hg (by simp) (fun j e => by cases e; exact Nat.le_refl _))
                  have O5 := Lib.hid hn
                  refine hK.out _ _ (((bl_call HQ2.out.bel B5.out).cell (p := ⟨gp, _, none⟩) hgp).trans HA4.out) (fun hHeld5 => ?_)
                  clear hK K hn hg
                  (try simp only [Act.put, List.setIfInBounds_toArray, List.set_cons_zero, List.set_cons_succ])
                  refine wpAnyH_ready (rs := [11]) (by kernel_rfl) (by simp) (AllReadyH.cons (o := { dst := some 71, op := _, type := _, pos := _, after := _, guard := _ }) rfl (fun K hK => ?_) AllReadyH.nil)
                  rw [if_pos (by rfl)]
                  refine wp_append_on _ (.tmp 65) (.tmp 70) rfl w4.drew.heap.size _ (.slice Au q cu) m xs rfl O5.out rfl (HXS.out.later (bl_call HQ2.out.bel B5.out)) B5.out.size (by have h1 := HM.out.1; have h2 := HQL.out; omega) ?_
                  intro v6 w6 hn hg
                  have B6 : Hid (Below w4.drew.heap.size w4.drew w6) := Lib.hid (B5.out.grown hg B5.out.size (fun j e => (World.ownsRow.lt O5.out j e).1))
                  have HQ3 := Lib.hid (HQ2.out.step B6.out)
                  obtain ⟨A6, c6, rfl⟩ := hn.len
                  obtain ⟨n6, hn6⟩ : ∃ n6, (m ++ xs).length = n6 := ⟨_, rfl⟩
                  have HN6 : Hid (n6 ≤ 200 * (i + 1)) := Lib.hid (by rw [← hn6, List.length_append]; have h1 := HM.out.1; have h2 := HQL.out; omega)
                  have HL6 := Lib.hid hn6
                  rw [hn6] at hn ⊢
                  have HQ4 := Lib.hid (HQ3.out.bytes hk (hn.base HQ2.out.bel.size) (HQ3.out.bb.app HXB.out))
                  have cb := HQ3.out.rb.at (pr_get hk v v')
                  have fb := HQ3.out.rb.free k
                  refine hK.out _ _ (((HQ3.out.bel).cell (p := ⟨gp, _, none⟩) hgp).trans HA4.out) (fun hHeld6 => ?_)
                  clear hK K hn hg hn6
                  (try simp only [Act.put, List.setIfInBounds_toArray, List.set_cons_zero, List.set_cons_succ])
                  refine wpAnyH_take (i := 12) (oi := { dst := some 72, op := _, type := _, pos := _, after := _, guard := _ }) (v := ?v72x75) rfl (by kernel_rfl) (by kernel_rfl) (by kernel_rfl) (fun _ _ _ h => h) (Or.inl ⟨by rfl, ?y72x75⟩) hHeld6 ?r72x75
                  case y72x75 => intro w9 hSw; go_simp <;> with_reducible rfl
                  (try simp only [Act.put, List.setIfInBounds_toArray, List.set_cons_zero, List.set_cons_succ])
                  refine wpAnyH_ready (rs := [13]) (by kernel_rfl) (by simp) (AllReadyH.cons (o := { dst := none, op := _, type := _, pos := _, after := _, guard := _ }) rfl (fun K hK => ?_) AllReadyH.nil)
                  go_simp
                  refine hK.out _ _ (((HQ4.out.bel).cell (p := ⟨gp, _, none⟩) hgp).trans HA4.out) (fun hHeld7 => ?_)
                  clear hK K
                  (try simp only [Act.put, List.setIfInBounds_toArray, List.set_cons_zero, List.set_cons_succ])
                  refine wpAnyH_done (by kernel_rfl) ?_ _
                  go_wp2_with fail
                  go_meet
                  exact ⟨rfl, Lib.hid ⟨g, m ++ xs, _, g', m', v', HQ4.out, by rw [HL6.out]; exact HN6.out, by have := HM.out.2; omega⟩⟩
                case p74_4 =>
                  have cb0 := HQ2.out.rb.at (pr_get hk v v')
                  go_simp
                  refine hK.out _ _ A2.out (fun hHeld4 => ?_)
                  clear hK K cb0
                  (try simp only [Act.put, List.setIfInBounds_toArray, List.set_cons_zero, List.set_cons_succ])
                  refine wpAnyH_ready (rs := [1]) (by kernel_rfl) (by simp) (AllReadyH.cons (o := { dst := some 61, op := _, type := _, pos := _, after := _, guard := _ }) rfl (fun K hK => ?_) AllReadyH.nil)
                  go_simp
                  refine hK.out _ _ (((bl_alloc _ HQ2.out.bel).cell (p := ⟨gp, _, none⟩) hgp).trans HA4.out) (fun hHeld4b => ?_)
                  clear hK K
                  (try simp only [Act.put, List.setIfInBounds_toArray, List.set_cons_zero, List.set_cons_succ])
                  refine wpAnyH_ready (rs := [5]) (by kernel_rfl) (by simp) (AllReadyH.cons (o := { dst := some 65, op := _, type := _, pos := _, after := _, guard := _ }) rfl (fun K hK => ?_) AllReadyH.nil)
                  rw [if_pos (by rfl)]
                  refine wp_append_on _ (.tmp 61) (.tmp 64) rfl w4.drew.heap.size _ v [] m rfl (on_new w4.drew [] 0 rfl (by omega)) rfl (HQ2.out.o.rn.later (bl_self _ _)) (by simp) (by have h1 := HM.out.1; simp; omega) ?_
                  intro v5 w5 hn hg
                  rw [List.nil_append] at hn
                  have B5 : Hid (Below w4.drew.heap.size w4.drew w5) := Lib.hid ((bl_self w4.drew _).grown hg (by simp) (fun j e => by cases e; exact Nat.le_refl _))
                  have O5 := Lib.hid hn
                  refine hK.out _ _ (((bl_call HQ2.out.bel B5.out).cell (p := ⟨gp, _, none⟩) hgp).trans HA4.out) (fun hHeld5 => ?_)
                  clear hK K hn hg
                  (try simp only [Act.put, List.setIfInBounds_toArray, List.set_cons_zero, List.set_cons_succ])
                  refine wpAnyH_ready (rs := [11]) (by kernel_rfl) (by simp) (AllReadyH.cons (o := { dst := some 71, op := _, type := _, pos := _, after := _, guard := _ }) rfl (fun K hK => ?_) AllReadyH.nil)
                  rw [if_pos (by rfl)]
                  refine wp_append_on _ (.tmp 65) (.tmp 70) rfl w4.drew.heap.size _ (.slice Au q cu) m xs rfl O5.out rfl (HXS.out.later (bl_call HQ2.out.bel B5.out)) B5.out.size (by have h1 := HM.out.1; have h2 := HQL.out; omega) ?_
                  intro v6 w6 hn hg
                  have B6 : Hid (Below w4.drew.heap.size w4.drew w6) := Lib.hid (B5.out.grown hg B5.out.size (fun j e => (World.ownsRow.lt O5.out j e).1))
                  have HQ3 := Lib.hid (HQ2.out.step B6.out)
                  obtain ⟨A6, c6, rfl⟩ := hn.len
                  obtain ⟨n6, hn6⟩ : ∃ n6, (m ++ xs).length = n6 := ⟨_, rfl⟩
                  have HN6 : Hid (n6 ≤ 200 * (i + 1)) := Lib.hid (by rw [← hn6, List.length_append]; have h1 := HM.out.1; have h2 := HQL.out; omega)
                  have HL6 := Lib.hid hn6
                  rw [hn6] at hn ⊢
                  have HQ4 := Lib.hid (HQ3.out.bytes hk (hn.base HQ2.out.bel.size) (HQ3.out.bb.app HXB.out))
                  have cb := HQ3.out.rb.at (pr_get hk v v')
                  have fb := HQ3.out.rb.free k
                  refine hK.out _ _ (((HQ3.out.bel).cell (p := ⟨gp, _, none⟩) hgp).trans HA4.out) (fun hHeld6 => ?_)
                  clear hK K hn hg hn6
                  (try simp only [Act.put, List.setIfInBounds_toArray, List.set_cons_zero, List.set_cons_succ])
                  refine wpAnyH_take (i := 12) (oi := { dst := some 72, op := _, type := _, pos := _, after := _, guard := _ }) (v := ?v72x76) rfl (by kernel_rfl) (by kernel_rfl) (by kernel_rfl) (fun _ _ _ h => h) (Or.inl ⟨by rfl, ?y72x76⟩) hHeld6 ?r72x76
                  case y72x76 => intro w9 hSw; go_simp <;> with_reducible rfl
                  (try simp only [Act.put, List.setIfInBounds_toArray, List.set_cons_zero, List.set_cons_succ])
                  refine wpAnyH_ready (rs := [13]) (by kernel_rfl) (by simp) (AllReadyH.cons (o := { dst := none, op := _, type := _, pos := _, after := _, guard := _ }) rfl (fun K hK => ?_) AllReadyH.nil)
                  go_simp
                  refine hK.out _ _ (((HQ4.out.bel).cell (p := ⟨gp, _, none⟩) hgp).trans HA4.out) (fun hHeld7 => ?_)
                  clear hK K
                  (try simp only [Act.put, List.setIfInBounds_toArray, List.set_cons_zero, List.set_cons_succ])
                  refine wpAnyH_done (by kernel_rfl) ?_ _
                  go_wp2_with fail
                  go_meet
                  exact ⟨rfl, Lib.hid ⟨g, m ++ xs, _, g', m', v', HQ4.out, by rw [HL6.out]; exact HN6.out, by have := HM.out.2; omega⟩⟩
              · have b0 : ((r : Int) == 0) = false := by simp; omega
                have b1 : ((r : Int) == 1) = false := by simp; omega
                have b2 : ((r : Int) == 2) = false := by simp; omega
                have b3 : ((r : Int) == 3) = false := by simp; omega
                have b6 : ((r : Int) == 6) = false := by simp; omega
                have b7 : ((r : Int) == 7) = false := by simp; omega
                clear hr hr7
                go_wp2_with fail
                go_meet
                exact ⟨rfl, Lib.hid ⟨g, m, v, g', m', v', HQ0.out, by have := HM.out; omega, by have := HM.out; omega⟩⟩
              · have b0 : ((r : Int) == 0) = false := by simp; omega
                have b1 : ((r : Int) == 1) = false := by simp; omega
                have b2 : ((r : Int) == 2) = false := by simp; omega
                have b3 : ((r : Int) == 3) = false := by simp; omega
                have b6 : ((r : Int) == 6) = false := by simp; omega
                have b7 : ((r : Int) == 7) = false := by simp; omega
                clear hr hr7
                go_wp2_with fail
                go_meet
                exact ⟨rfl, Lib.hid ⟨g, m, v, g', m', v', HQ0.out, by have := HM.out; omega, by have := HM.out; omega⟩⟩
              · have b0 : ((r : Int) == 0) = false := by simp; omega
                have b1 : ((r : Int) == 1) = false := by simp; omega
                have b2 : ((r : Int) == 2) = false := by simp; omega
                have b3 : ((r : Int) == 3) = false := by simp; omega
                have b6 : ((r : Int) == 6) = true := by simp; omega
                clear hr hr7
                have k2 : (k : Int) < 2 := by omega
                have ch := HQ0.out.rh.at (pr_get hk (P2 g) (P2 g'))
                go_wp2_with (go_at_call 15; refine (reset_any g m _ HQ0.out.h (HV.out.below HQ0.out.bel)).mono ?_; rintro e w4 ⟨rfl, hh, hg⟩; have HQ1 := Lib.hid (HQ0.out.hashed hh hg); have cb := HQ1.out.rb.at (pr_get hk v v'); have fb := HQ1.out.rb.free k; clear hh hg)
                go_meet
                exact ⟨rfl, Lib.hid ⟨g, [], .slice none 0 0, g', m', v', HQ1.out.bytes hk (ON.nil _ _ HQ1.out.bel.size) BB.nil, by simp, by have := HM.out.2; omega⟩⟩
              · have b0 : ((r : Int) == 0) = false := by simp; omega
                have b1 : ((r : Int) == 1) = false := by simp; omega
                have b2 : ((r : Int) == 2) = false := by simp; omega
                have b3 : ((r : Int) == 3) = false := by simp; omega
                have b6 : ((r : Int) == 6) = false := by simp; omega
                have b7 : ((r : Int) == 7) = true := by simp; omega
                clear hr hr7
                obtain ⟨M, hM⟩ : ∃ M, m.length = M := ⟨_, rfl⟩
                obtain ⟨Av, cv, rfl⟩ := HQ0.out.o.len
                rw [hM] at HQ0
                have HML := Lib.hid hM
                clear hM
                obtain ⟨k2, hk2⟩ : ∃ k2, 1 - k = k2 := ⟨_, rfl⟩
                have e1 : IntKind.i64.wrap (k2 : Int) = (k2 : Int) := by rw [IntKind.wrap_i64]; omega
                have e2 : (1 : Int) - (k : Int) = (k2 : Int) := by omega
                have kb : (k : Int) < 2 := by omega
                have kb2 : (k2 : Int) < 2 := by omega
                have HK2 := Lib.hid hk2
                clear hk2
                have ch := HQ0.out.rh.at (pr_get hk (P2 g) (P2 g'))
                go_upto_region 26 with (go_at_call 16; refine (copy_any g m _ HQ0.out.h).mono ?_; rintro e w4 ⟨gc, rfl, hh, hg, hb⟩; have HQ1 := Lib.hid (HQ0.out.step hb); have HC := Lib.hid hh; have GC : Hid (w.heap.size ≤ gc ∧ g ≠ gc) := Lib.hid ⟨Nat.le_trans HQ0.out.bel.size hg, by have := HQ0.out.h.inside; omega⟩; clear hh hg hb)
                have HQ2 : Hid (HQ w dh db k g m (.slice Av M cv) m g' m' v' m' w4.drew) := Lib.hid (HQ1.out.step (bl_drewN 1 (Below.refl _ _)))
                have HC2 : Hid (HA w4.drew gc m) := Lib.hid (HC.out.step (bl_drewN 1 (Below.refl _ _)))
                have hq3 := HQ1.out.otherHash hk HC.out GC.out.1 GC.out.2
                have hq4 := hq3.otherBytes hk
                rw [HK2.out] at hq3 hq4
                have HQ3 := Lib.hid (hq3.step (bl_drewN 1 (Below.refl _ _)))
                have HQ4 := Lib.hid (hq4.step (bl_drewN 1 (Below.refl _ _)))
                clear hq3 hq4
                refine wp_region_held_drew (S := fun W => W.cell? ⟨db, k, none⟩ = some (.slice Av M cv)) (by kernel_rfl) (HQ2.out.rb.at (pr_get hk (.slice Av M cv) v')) (fun hHeld => ?_)
                refine wpAnyH_take (i := 0) (oi := { dst := some 90, op := _, type := _, pos := _, after := _, guard := _ }) (v := ?v90x77) rfl (by kernel_rfl) (by kernel_rfl) (by kernel_rfl) (fun _ _ _ h => h) (Or.inl ⟨by rfl, ?y90x77⟩) hHeld ?r90x77
                case y90x77 => intro w9 hSw; go_simp <;> with_reducible rfl
                (try simp only [Act.put, List.setIfInBounds_toArray, List.set_cons_zero, List.set_cons_succ])
                refine wpAnyH_take (i := 1) (oi := { dst := some 91, op := _, type := _, pos := _, after := _, guard := _ }) (v := ?v91x78) rfl (by kernel_rfl) (by kernel_rfl) (by kernel_rfl) (fun _ _ _ h => h) (Or.inl ⟨by rfl, ?y91x78⟩) hHeld ?r91x78
                case y91x78 => intro w9 hSw; go_simp <;> with_reducible rfl
                (try simp only [Act.put, List.setIfInBounds_toArray, List.set_cons_zero, List.set_cons_succ])
                refine wpAnyH_take (i := 2) (oi := { dst := some 92, op := _, type := _, pos := _, after := _, guard := _ }) (v := ?v92x79) rfl (by kernel_rfl) (by kernel_rfl) (by kernel_rfl) (fun _ _ _ h => h) (Or.inl ⟨by rfl, ?y92x79⟩) hHeld ?r92x79
                case y92x79 => intro w9 hSw; go_simp <;> with_reducible rfl
                (try simp only [Act.put, List.setIfInBounds_toArray, List.set_cons_zero, List.set_cons_succ])
                refine wpAnyH_take (i := 3) (oi := { dst := some 93, op := _, type := _, pos := _, after := _, guard := _ }) (v := ?v93x80) rfl (by kernel_rfl) (by kernel_rfl) (by kernel_rfl) (fun _ _ _ h => h) (Or.inl ⟨by rfl, ?y93x80⟩) hHeld ?r93x80
                case y93x80 => intro w9 hSw; go_simp <;> with_reducible rfl
                (try simp only [Act.put, List.setIfInBounds_toArray, List.set_cons_zero, List.set_cons_succ])
                refine wpAnyH_take (i := 4) (oi := { dst := some 94, op := _, type := _, pos := _, after := _, guard := _ }) (v := ?v94x81) rfl (by kernel_rfl) (by kernel_rfl) (by kernel_rfl) (fun _ _ _ h => h) (Or.inl ⟨by rfl, ?y94x81⟩) hHeld ?r94x81
                case y94x81 => intro w9 hSw; go_simp <;> with_reducible rfl
                (try simp only [Act.put, List.setIfInBounds_toArray, List.set_cons_zero, List.set_cons_succ])
                refine wpAnyH_take (i := 5) (oi := { dst := some 95, op := _, type := _, pos := _, after := _, guard := _ }) (v := ?v95x82) rfl (by kernel_rfl) (by kernel_rfl) (by kernel_rfl) (fun _ _ _ h => h) (Or.inl ⟨by rfl, ?y95x82⟩) hHeld ?r95x82
                case y95x82 => intro w9 hSw; go_simp <;> with_reducible rfl
                (try simp only [Act.put, List.setIfInBounds_toArray, List.set_cons_zero, List.set_cons_succ])
                refine wpAnyH_take (i := 6) (oi := { dst := some 96, op := _, type := _, pos := _, after := _, guard := _ }) (v := ?v96x83) rfl (by kernel_rfl) (by kernel_rfl) (by kernel_rfl) (fun _ _ _ h => h) (Or.inl ⟨by rfl, ?y96x83⟩) hHeld ?r96x83
                case y96x83 => intro w9 hSw; go_simp <;> with_reducible rfl
                (try simp only [Act.put, List.setIfInBounds_toArray, List.set_cons_zero, List.set_cons_succ])
                refine wpAnyH_take (i := 7) (oi := { dst := some 97, op := _, type := _, pos := _, after := _, guard := _ }) (v := ?v97x84) rfl (by kernel_rfl) (by kernel_rfl) (by kernel_rfl) (fun _ _ _ h => h) (Or.inl ⟨by rfl, ?y97x84⟩) hHeld ?r97x84
                case y97x84 => intro w9 hSw; have cc := hSw; go_simp <;> with_reducible rfl
                (try simp only [Act.put, List.setIfInBounds_toArray, List.set_cons_zero, List.set_cons_succ])
                refine wpAnyH_take (i := 8) (oi := { dst := some 98, op := _, type := _, pos := _, after := _, guard := _ }) (v := ?v98x85) rfl (by kernel_rfl) (by kernel_rfl) (by kernel_rfl) (fun _ _ _ h => h) (Or.inl ⟨by rfl, ?y98x85⟩) hHeld ?r98x85
                case y98x85 => intro w9 hSw; go_simp <;> with_reducible rfl
                (try simp only [Act.put, List.setIfInBounds_toArray, List.set_cons_zero, List.set_cons_succ])
                refine wpAnyH_take (i := 9) (oi := { dst := some 99, op := _, type := _, pos := _, after := _, guard := _ }) (v := ?v99x86) rfl (by kernel_rfl) (by kernel_rfl) (by kernel_rfl) (fun _ _ _ h => h) (Or.inl ⟨by rfl, ?y99x86⟩) hHeld ?r99x86
                case y99x86 => intro w9 hSw; go_simp <;> with_reducible rfl
                (try simp only [Act.put, List.setIfInBounds_toArray, List.set_cons_zero, List.set_cons_succ])
                have cb := HQ2.out.rh.at (pr_oth hk (P2 g) (P2 g'))
                rw [HK2.out] at cb
                have fb := HQ2.out.rh.free k2
                refine wpAnyH_ready (rs := [10]) (by kernel_rfl) (by simp) (AllReadyH.cons (o := { dst := none, op := _, type := _, pos := _, after := _, guard := _ }) rfl (fun K hK => ?_) AllReadyH.nil)
                go_simp
                refine hK.out _ _ (HQ3.out.rb.at (pr_get hk (.slice Av M cv) v')) (fun hHeld2 => ?_)
                clear hK K cb fb
                (try simp only [Act.put, List.setIfInBounds_toArray, List.set_cons_zero, List.set_cons_succ])
                have cb : (w4.setCell ⟨dh, k2, none⟩ (P2 gc)).cell? ⟨db, k2, none⟩ = some v' := by
                  have := HQ3.out.rb.at (pr_oth hk (.slice Av M cv) v')
                  rw [HK2.out] at this
                  exact this
                have fb : (w4.setCell ⟨dh, k2, none⟩ (P2 gc)).frozen? ⟨db, k2, none⟩ = false := HQ3.out.rb.free k2
                refine wpAnyH_take (i := 11) (oi := { dst := some 100, op := _, type := _, pos := _, after := _, guard := _ }) (v := ?v100x87) rfl (by kernel_rfl) (by kernel_rfl) (by kernel_rfl) (fun _ _ _ h => h) (Or.inl ⟨by rfl, ?y100x87⟩) hHeld2 ?r100x87
                case y100x87 => intro w9 hSw; go_simp <;> with_reducible rfl
                (try simp only [Act.put, List.setIfInBounds_toArray, List.set_cons_zero, List.set_cons_succ])
                refine wpAnyH_ready (rs := [12]) (by kernel_rfl) (by simp) (AllReadyH.cons (o := { dst := none, op := _, type := _, pos := _, after := _, guard := _ }) rfl (fun K hK => ?_) AllReadyH.nil)
                go_simp
                refine hK.out _ _ (HQ4.out.rb.at (pr_get hk (.slice Av M cv) (.slice Av M cv))) (fun hHeld3 => ?_)
                clear hK K cb fb
                (try simp only [Act.put, List.setIfInBounds_toArray, List.set_cons_zero, List.set_cons_succ])
                refine wpAnyH_ready (rs := [13]) (by kernel_rfl) (by simp) (AllReadyH.cons (o := { dst := some 7, op := _, type := _, pos := _, after := _, guard := _ }) rfl (fun K hK => ?_) AllReadyH.nil)
                go_simp
                refine hK.out _ _ (HQ4.out.rb.at (pr_get hk (.slice Av M cv) (.slice Av M cv))) (fun hHeld4 => ?_)
                clear hK K
                (try simp only [Act.put, List.setIfInBounds_toArray, List.set_cons_zero, List.set_cons_succ])
                refine wpAnyH_done (by kernel_rfl) ?_ _
                go_wp2_with fail
                go_meet
                exact ⟨rfl, Lib.hid ⟨g, m, _, gc, m, _, HQ4.out, by have := HM.out.1; omega, by have := HM.out.1; omega⟩⟩
            case rest =>
              obtain ⟨rfl, HK1⟩ := hcut
              obtain ⟨g, m, v, g', m', v', hq0, hm, hm'⟩ := HK1.out
              obtain ⟨M, hM⟩ : ∃ M, m.length = M := ⟨_, rfl⟩
              obtain ⟨Av, cv, rfl⟩ := hq0.o.len
              rw [hM] at hq0 hm
              have HQ0 := Lib.hid hq0; have HML := Lib.hid hM; have HMM := Lib.hid (And.intro hm hm')
              have hM4 : M ≤ 5000 := by omega
              clear hq0 hM hm hm'
              have kb : (k : Int) < 2 := by omega
              have ch := HQ0.out.rh.at (pr_get hk (P2 g) (P2 g'))
              go_upto_region 29 with (first
                | (go_at_call 17; refine (hsum_any g m _ HQ0.out.h (by rw [HML.out]; omega) (HV.out.below HQ0.out.bel)).mono ?_; rintro e w4 ⟨rfl, hb⟩; have HQ1 := Lib.hid (HQ0.out.step hb); clear hb)
                | ((with_reducible refine atOp ⟨none, .store 36 _ _, _, _, _, _⟩ ?_); refine wpList_store_row rfl 36 (.tmp 10) (.tmp 106) rfl w4.heap.size (yV (shaL m)) rfl rfl 36 (yV (List.replicate 32 0)) (AR.made _ _ _) (info32 _ (shaL_len _)) (by rw [yV_size, yV_size, shaL_len]; rfl) (yV_one _) ?_; rw [World.setRow_alloc_new]; have HQ2 := Lib.hid (HQ1.out.step (bl_self w4 (.cells (yV (shaL m)) 36))); have ch2 := HQ2.out.rh.at (pr_get hk (P2 g) (P2 g')))
                | (go_at_call 18; refine (hlen_any g m _ HQ2.out.h (by rw [HML.out]; omega)).mono ?_; rintro e w5 ⟨rfl, rfl⟩; rw [HML.out]))
              obtain ⟨T, hT⟩ : ∃ T, shaL m = T := ⟨_, rfl⟩
              have HT := Lib.hid hT
              have HTL : Hid (T.length = 32) := Lib.hid (by rw [← hT]; exact shaL_len _)
              rw [hT] at HQ2 ⊢
              have AD : Hid (AR (w4.alloc (.cells (yV T) 36)).drew w4.heap.size 36 (yV T)) := Lib.hid ((AR.made _ _ _).drawn 1)
              have HQ3 : Hid (HQ w dh db k g m (.slice Av M cv) m g' m' v' m' (w4.alloc (.cells (yV T) 36)).drew) := Lib.hid (HQ2.out.step (bl_drewN 1 (Below.refl _ _)))
              clear hT ch2 ch
              refine wp_region_held_drew (S := fun W => AR W w4.heap.size 36 (yV T) ∧ W.cell? ⟨db, k, none⟩ = some (.slice Av M cv)) (by kernel_rfl) ⟨AD.out, HQ3.out.rb.at (pr_get hk (.slice Av M cv) v')⟩ (fun hHeld => ?_)
              refine wpAnyH_take (i := 0) (oi := { dst := some 115, op := _, type := _, pos := _, after := _, guard := _ }) (v := ?v115x88) rfl (by kernel_rfl) (by kernel_rfl) (by kernel_rfl) (fun _ _ _ h => h) (Or.inl ⟨by rfl, ?y115x88⟩) hHeld ?r115x88
              case y115x88 => intro w9 hSw; go_simp <;> with_reducible rfl
              (try simp only [Act.put, List.setIfInBounds_toArray, List.set_cons_zero, List.set_cons_succ])
              refine wpAnyH_take (i := 1) (oi := { dst := some 116, op := _, type := _, pos := _, after := _, guard := _ }) (v := ?v116x89) rfl (by kernel_rfl) (by kernel_rfl) (by kernel_rfl) (fun _ _ _ h => h) (Or.inl ⟨by rfl, ?y116x89⟩) hHeld ?r116x89
              case y116x89 => intro w9 hSw; go_simp <;> with_reducible rfl
              (try simp only [Act.put, List.setIfInBounds_toArray, List.set_cons_zero, List.set_cons_succ])
              refine wpAnyH_take (i := 2) (oi := { dst := some 117, op := _, type := _, pos := _, after := _, guard := _ }) (v := ?v117x90) rfl (by kernel_rfl) (by kernel_rfl) (by kernel_rfl) (fun _ _ _ h => h) (Or.inl ⟨by rfl, ?y117x90⟩) hHeld ?r117x90
              case y117x90 => intro w9 hSw; go_simp <;> with_reducible rfl
              (try simp only [Act.put, List.setIfInBounds_toArray, List.set_cons_zero, List.set_cons_succ])
              refine wpAnyH_take (i := 3) (oi := { dst := some 118, op := _, type := _, pos := _, after := _, guard := _ }) (v := ?v118x91) rfl (by kernel_rfl) (by kernel_rfl) (by kernel_rfl) (fun _ _ _ h => h) (Or.inl ⟨by rfl, ?y118x91⟩) hHeld ?r118x91
              case y118x91 => intro w9 hSw; go_simp <;> with_reducible rfl
              (try simp only [Act.put, List.setIfInBounds_toArray, List.set_cons_zero, List.set_cons_succ])
              refine wpAnyH_take (i := 4) (oi := { dst := some 119, op := _, type := _, pos := _, after := _, guard := _ }) (v := ?v119x92) rfl (by kernel_rfl) (by kernel_rfl) (by kernel_rfl) (fun _ _ _ h => h) (Or.inl ⟨by rfl, ?y119x92⟩) hHeld ?r119x92
              case y119x92 => intro w9 hSw; go_simp <;> with_reducible rfl
              (try simp only [Act.put, List.setIfInBounds_toArray, List.set_cons_zero, List.set_cons_succ])
              refine wpAnyH_take (i := 5) (oi := { dst := some 120, op := _, type := _, pos := _, after := _, guard := _ }) (v := ?v120x93) rfl (by kernel_rfl) (by kernel_rfl) (by kernel_rfl) (fun _ _ _ h => h) (Or.inl ⟨by rfl, ?y120x93⟩) hHeld ?r120x93
              case y120x93 => intro w9 hSw; go_simp <;> with_reducible rfl
              (try simp only [Act.put, List.setIfInBounds_toArray, List.set_cons_zero, List.set_cons_succ])
              refine wpAnyH_take (i := 6) (oi := { dst := some 121, op := _, type := _, pos := _, after := _, guard := _ }) (v := ?v121x94) rfl (by kernel_rfl) (by kernel_rfl) (by kernel_rfl) (fun _ _ _ h => h) (Or.inl ⟨by rfl, ?y121x94⟩) hHeld ?r121x94
              case y121x94 => intro w9 hSw; go_simp <;> with_reducible rfl
              (try simp only [Act.put, List.setIfInBounds_toArray, List.set_cons_zero, List.set_cons_succ])
              refine wpAnyH_take (i := 7) (oi := { dst := some 122, op := _, type := _, pos := _, after := _, guard := _ }) (v := ?v122x95) rfl (by kernel_rfl) (by kernel_rfl) (by kernel_rfl) (fun _ _ _ h => h) (Or.inl ⟨by rfl, ?y122x95⟩) hHeld ?r122x95
              case y122x95 => intro w9 hSw; go_simp <;> with_reducible rfl
              (try simp only [Act.put, List.setIfInBounds_toArray, List.set_cons_zero, List.set_cons_succ])
              refine wpAnyH_take (i := 8) (oi := { dst := some 123, op := _, type := _, pos := _, after := _, guard := _ }) (v := ?v123x96) rfl (by kernel_rfl) (by kernel_rfl) (by kernel_rfl) (fun _ _ _ h => h) (Or.inl ⟨by rfl, ?y123x96⟩) hHeld ?r123x96
              case y123x96 => intro w9 hSw; go_simp <;> with_reducible rfl
              (try simp only [Act.put, List.setIfInBounds_toArray, List.set_cons_zero, List.set_cons_succ])
              refine wpAnyH_take (i := 9) (oi := { dst := some 124, op := _, type := _, pos := _, after := _, guard := _ }) (v := ?v124x97) rfl (by kernel_rfl) (by kernel_rfl) (by kernel_rfl) (fun _ _ _ h => h) (Or.inl ⟨by rfl, ?y124x97⟩) hHeld ?r124x97
              case y124x97 => intro w9 hSw; go_simp <;> with_reducible rfl
              (try simp only [Act.put, List.setIfInBounds_toArray, List.set_cons_zero, List.set_cons_succ])
              refine wpAnyH_take (i := 10) (oi := { dst := some 125, op := _, type := _, pos := _, after := _, guard := _ }) (v := ?v125x98) rfl (by kernel_rfl) (by kernel_rfl) (by kernel_rfl) (fun _ _ _ h => h) (Or.inl ⟨by rfl, ?y125x98⟩) hHeld ?r125x98
              case y125x98 => intro w9 hSw; go_simp <;> with_reducible rfl
              (try simp only [Act.put, List.setIfInBounds_toArray, List.set_cons_zero, List.set_cons_succ])
              refine wpAnyH_take (i := 11) (oi := { dst := some 126, op := _, type := _, pos := _, after := _, guard := _ }) rfl (by kernel_rfl) (by kernel_rfl) (by kernel_rfl) (fun _ _ _ h => h) (yields_row (by rfl) 36 (.tmp 10) rfl w4.heap.size rfl 36 (yV T) _ (fun _ h => h.1) Tryd.underlying36 rfl (info32 T HTL.out)) hHeld ?_
              (try simp only [Act.put, List.setIfInBounds_toArray, List.set_cons_zero, List.set_cons_succ])
              refine wpAnyH_take (i := 12) (oi := { dst := some 127, op := _, type := _, pos := _, after := _, guard := _ }) (v := ?v127x99) rfl (by kernel_rfl) (by kernel_rfl) (by kernel_rfl) (fun _ _ _ h => h) (Or.inl ⟨by rfl, ?y127x99⟩) hHeld ?r127x99
              case y127x99 => intro w9 hSw; go_simp <;> with_reducible rfl
              (try simp only [Act.put, List.setIfInBounds_toArray, List.set_cons_zero, List.set_cons_succ])
              refine wpAnyH_take (i := 13) (oi := { dst := some 128, op := _, type := _, pos := _, after := _, guard := _ }) (v := ?v128x100) rfl (by kernel_rfl) (by kernel_rfl) (by kernel_rfl) (fun _ _ _ h => h) (Or.inl ⟨by rfl, ?y128x100⟩) hHeld ?r128x100
              case y128x100 => intro w9 hSw; go_simp <;> with_reducible rfl
              (try simp only [Act.put, List.setIfInBounds_toArray, List.set_cons_zero, List.set_cons_succ])
              refine wpAnyH_take (i := 14) (oi := { dst := some 129, op := _, type := _, pos := _, after := _, guard := _ }) (v := ?v129x101) rfl (by kernel_rfl) (by kernel_rfl) (by kernel_rfl) (fun _ _ _ h => h) (Or.inl ⟨by rfl, ?y129x101⟩) hHeld ?r129x101
              case y129x101 => intro w9 hSw; have cc := hSw.2; go_simp <;> with_reducible rfl
              (try simp only [Act.put, List.setIfInBounds_toArray, List.set_cons_zero, List.set_cons_succ])
              refine wpAnyH_ready (rs := [15]) (by kernel_rfl) (by simp) (AllReadyH.cons (o := { dst := some 130, op := _, type := _, pos := _, after := _, guard := _ }) rfl (fun K hK => ?_) AllReadyH.nil)
              go_simp
              go_at_call 19
              refine (rsum_any m _ _ (by have := HQ3.out.o.rn; exact this) HQ3.out.bb (by rw [HML.out]; omega)).mono ?_
              rintro e w7 ⟨rfl, hb⟩
              rw [HT.out]
              have HQ7 := Lib.hid (HQ3.out.step hb)
              refine hK.out _ _ ⟨AD.out.step hb, HQ7.out.rb.at (pr_get hk (.slice Av M cv) v')⟩ (fun hHeld7 => ?_)
              clear hK K hb
              (try simp only [Act.put, List.setIfInBounds_toArray, List.set_cons_zero, List.set_cons_succ])
              refine wpAnyH_take (i := 16) (oi := { dst := some 131, op := _, type := _, pos := _, after := _, guard := _ }) (v := ?v131x102) rfl (by kernel_rfl) (by kernel_rfl) (by kernel_rfl) (fun _ _ _ h => h) (Or.inl ⟨by rfl, ?y131x102⟩) hHeld7 ?r131x102
              case y131x102 => intro w9 hSw; have e1 := eq32 T HTL.out w9; go_simp <;> with_reducible rfl
              (try simp only [Act.put, List.setIfInBounds_toArray, List.set_cons_zero, List.set_cons_succ])
              refine wpAnyH_take (i := 17) (oi := { dst := some 132, op := _, type := _, pos := _, after := _, guard := _ }) (v := ?v132x103) rfl (by kernel_rfl) (by kernel_rfl) (by kernel_rfl) (fun _ _ _ h => h) (Or.inl ⟨by rfl, ?y132x103⟩) hHeld7 ?r132x103
              case y132x103 => intro w9 hSw; go_simp <;> with_reducible rfl
              (try simp only [Act.put, List.setIfInBounds_toArray, List.set_cons_zero, List.set_cons_succ])
              refine wpAnyH_take (i := 18) (oi := { dst := some 133, op := _, type := _, pos := _, after := _, guard := _ }) (v := ?v133x104) rfl (by kernel_rfl) (by kernel_rfl) (by kernel_rfl) (fun _ _ _ h => h) (Or.inl ⟨by rfl, ?y133x104⟩) hHeld7 ?r133x104
              case y133x104 => intro w9 hSw; go_simp <;> with_reducible rfl
              (try simp only [Act.put, List.setIfInBounds_toArray, List.set_cons_zero, List.set_cons_succ])
              refine wpAnyH_take (i := 19) (oi := { dst := some 134, op := _, type := _, pos := _, after := _, guard := _ }) (v := ?v134x105) rfl (by kernel_rfl) (by kernel_rfl) (by kernel_rfl) (fun _ _ _ h => h) (Or.inl ⟨by rfl, ?y134x105⟩) hHeld7 ?r134x105
              case y134x105 => intro w9 hSw; go_simp <;> with_reducible rfl
              (try simp only [Act.put, List.setIfInBounds_toArray, List.set_cons_zero, List.set_cons_succ])
              refine wpAnyH_take (i := 20) (oi := { dst := some 135, op := _, type := _, pos := _, after := _, guard := _ }) (v := ?v135x106) rfl (by kernel_rfl) (by kernel_rfl) (by kernel_rfl) (fun _ _ _ h => h) (Or.inl ⟨by rfl, ?y135x106⟩) hHeld7 ?r135x106
              case y135x106 => intro w9 hSw; go_simp <;> with_reducible rfl
              (try simp only [Act.put, List.setIfInBounds_toArray, List.set_cons_zero, List.set_cons_succ])
              refine wpAnyH_take (i := 21) (oi := { dst := some 136, op := _, type := _, pos := _, after := _, guard := _ }) (v := ?v136x107) rfl (by kernel_rfl) (by kernel_rfl) (by kernel_rfl) (fun _ _ _ h => h) (Or.inl ⟨by rfl, ?y136x107⟩) hHeld7 ?r136x107
              case y136x107 => intro w9 hSw; go_simp <;> with_reducible rfl
              (try simp only [Act.put, List.setIfInBounds_toArray, List.set_cons_zero, List.set_cons_succ])
              refine wpAnyH_take (i := 22) (oi := { dst := some 137, op := _, type := _, pos := _, after := _, guard := _ }) (v := ?v137x108) rfl (by kernel_rfl) (by kernel_rfl) (by kernel_rfl) (fun _ _ _ h => h) (Or.inl ⟨by rfl, ?y137x108⟩) hHeld7 ?r137x108
              case y137x108 => intro w9 hSw; have cc := hSw.2; go_simp <;> with_reducible rfl
              (try simp only [Act.put, List.setIfInBounds_toArray, List.set_cons_zero, List.set_cons_succ])
              refine wpAnyH_take (i := 23) (oi := { dst := some 138, op := _, type := _, pos := _, after := _, guard := _ }) (v := ?v138x109) rfl (by kernel_rfl) (by kernel_rfl) (by kernel_rfl) (fun _ _ _ h => h) (Or.inl ⟨by rfl, ?y138x109⟩) hHeld7 ?r138x109
              case y138x109 => intro w9 hSw; go_simp <;> with_reducible rfl
              (try simp only [Act.put, List.setIfInBounds_toArray, List.set_cons_zero, List.set_cons_succ])
              refine wpAnyH_take (i := 24) (oi := { dst := some 139, op := _, type := _, pos := _, after := _, guard := _ }) (v := ?v139x110) rfl (by kernel_rfl) (by kernel_rfl) (by kernel_rfl) (fun _ _ _ h => h) (Or.inl ⟨by rfl, ?y139x110⟩) hHeld7 ?r139x110
              case y139x110 => intro w9 hSw; go_simp <;> with_reducible rfl
              (try simp only [Act.put, List.setIfInBounds_toArray, List.set_cons_zero, List.set_cons_succ])
              refine wpAnyH_take (i := 25) (oi := { dst := some 140, op := _, type := _, pos := _, after := _, guard := _ }) (v := ?v140x111) rfl (by kernel_rfl) (by kernel_rfl) (by kernel_rfl) (fun _ _ _ h => h) (Or.inl ⟨by rfl, ?y140x111⟩) hHeld7 ?r140x111
              case y140x111 => intro w9 hSw; go_simp <;> with_reducible rfl
              (try simp only [Act.put, List.setIfInBounds_toArray, List.set_cons_zero, List.set_cons_succ])
              refine wpAnyH_done (by kernel_rfl) ?_ _
              go_wp2_with fail
              go_roundw
              case rel => exact ⟨i + 1, by omega, by go_num, Lib.hid (HK.head ⟨g, m, _, g', m', v', HQ7.out, by rw [HML.out]; have := HMM.out; omega, HMM.out.2⟩ hk)⟩
              case measure => simp [intOf]; omega
        · go_wp2_with (go_at_call 12; refine (shown_any _ (HV.out.below HB0.out)).mono ?_; rintro e w4 ⟨rfl, hb⟩; have B4 := Lib.hid (bl_call HB0.out hb); clear hb)
          go_ret
          exact ⟨rfl, B4.out⟩
      · go_wp2_with (go_at_call 12; refine (shown_any _ (HV.out.below HB0.out)).mono ?_; rintro e w4 ⟨rfl, hb⟩; have B4 := Lib.hid (bl_call HB0.out hb); clear hb)
        go_ret
        exact ⟨rfl, B4.out⟩
  · go_enter Tryd.func3, Tryd.ntmps3
    go_wp2_with (go_at_call 12; refine (shown_any _ (HV.out.below (Below.refl _ _))).mono ?_; rintro e w3 ⟨rfl, hb⟩; have B3 := Lib.hid (bl_call (Below.refl _ _) hb); clear hb)
    go_ret
    exact ⟨rfl, B3.out⟩
end Go.Proofs.YtaeicjgkoofmpaaDoor
