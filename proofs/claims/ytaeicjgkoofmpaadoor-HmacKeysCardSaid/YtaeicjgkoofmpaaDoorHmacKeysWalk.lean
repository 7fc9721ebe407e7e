/- The law HmacKeys: the walk. -/
import Derived.Test.YtaeicjgkoofmpaaDoorHmacT
namespace Go.Proofs.YtaeicjgkoofmpaaDoor
open Go.RowKit
set_option linter.unusedVariables false

set_option maxRecDepth 20000 in
set_option maxHeartbeats 4000000 in
theorem hkeys_any (v0 v1 : Value) (key xs : List Nat) (z : Nat) (w : World) (hv0 : RN w v0 key) (hbv0 : BB key) (hv1 : RN w v1 xs) (hbv1 : BB xs) (hz : z < 256) (hV : VK w) :
    Calls Tryd.prog 9 #[v0, v1, .int .u8 z] w (Gives w (.bool true)) := by
  obtain ⟨A, c, rfl⟩ := hv0.len
  obtain ⟨B, e0, rfl⟩ := hv1.len
  obtain ⟨p, hp⟩ : ∃ p, key.length = p := ⟨_, rfl⟩
  rw [hp] at hv0 ⊢
  have Rv0 := Lib.hid hv0; have Bv0 := Lib.hid hbv0; have Lv0 := Lib.hid hp
  obtain ⟨q, hq⟩ : ∃ q, xs.length = q := ⟨_, rfl⟩
  rw [hq] at hv1 ⊢
  have Rv1 := Lib.hid hv1; have Bv1 := Lib.hid hbv1; have Lv1 := Lib.hid hq
  clear hv0 hbv0 hp hv1 hbv1 hq
  have HV := Lib.hid hV; clear hV
  by_cases h1 : p ≤ 300
  · by_cases h2 : q ≤ 300
    · obtain ⟨T, hT⟩ : ∃ T, tagL key xs = T := ⟨_, rfl⟩
      have HT := Lib.hid hT
      have HTL : Hid (T.length = 32) := Lib.hid (by rw [← hT]; exact tagL_len _ _)
      clear hT
      go_enter Tryd.func9, Tryd.ntmps9
      go_upto_region 4 with (first
        | (go_at_call 23; refine (htag_any key xs _ _ _ Rv0.out Bv0.out (by rw [Lv0.out]; omega) Rv1.out Bv1.out (by rw [Lv1.out]; omega) HV.out).mono ?_; rintro e w1 ⟨rfl, hb⟩; have B1 := Lib.hid hb; clear hb; rw [HT.out])
        | ((with_reducible refine atOp ⟨none, .store 36 (.tmp 7) _, _, _, _, _⟩ ?_); refine wpList_store_row rfl 36 (.tmp 7) (.tmp 22) rfl w1.heap.size (yV T) rfl rfl 36 (yV (List.replicate 32 0)) (AR.made _ _ _) (info32 T HTL.out) (by rw [yV_size, yV_size, HTL.out]; rfl) (yV_one _) ?_; rw [World.setRow_alloc_new]))
      have HD : Hid (AR (w1.alloc (.cells (yV T) 36)) w1.heap.size 36 (yV T)) := Lib.hid (AR.made _ _ _)
      have B2 := Lib.hid (bl_alloc (.cells (yV T) 36) B1.out)
      generalize w1.alloc (.cells (yV T) 36) = w2 at HD B2 ⊢
      generalize w1.heap.size = d at HD ⊢
      clear B1
      by_cases h64 : 64 < p
      · go_upto_region 6 with (first
          | (go_at_call 34; refine (sum_any key _ _ (Rv0.out.later B2.out) Bv0.out (by rw [Lv0.out]; omega) (HV.out.below B2.out)).mono ?_; rintro e w3 ⟨rfl, hb⟩; have B3 := Lib.hid (bl_call B2.out hb); have D3 := Lib.hid (HD.out.step hb); clear hb)
          | ((with_reducible refine atOp ⟨none, .store 36 (.tmp 8) _, _, _, _, _⟩ ?_); refine wpList_store_row rfl 36 (.tmp 8) (.tmp 27) rfl w3.heap.size (yV (shaL key)) rfl rfl 36 (yV (List.replicate 32 0)) (AR.made _ _ _) (info32 _ (shaL_len _)) (by rw [yV_size, yV_size, shaL_len]; rfl) (yV_one _) ?_; rw [World.setRow_alloc_new]))
        have D4 : Hid (AR (w3.alloc (.cells (yV (shaL key)) 36)).drew d 36 (yV T)) := Lib.hid ((D3.out.more _).drawn 1)
        have G4 : Hid (AR (w3.alloc (.cells (yV (shaL key)) 36)).drew w3.heap.size 36 (yV (shaL key))) := Lib.hid ((AR.made _ _ _).drawn 1)
        have B4 : Hid (Below w.heap.size w (w3.alloc (.cells (yV (shaL key)) 36)).drew) := Lib.hid (bl_drewN 1 (bl_alloc _ B3.out))
        have HSAME : Hid (tagL (shaL key) xs = T) := Lib.hid (by rw [tagL_sha xs (by rw [Lv0.out]; exact h64)]; exact HT.out)
        refine wp_region_held_drew (S := fun W => AR W d 36 (yV T)) (by kernel_rfl) D4.out (fun hHeld => ?_)
        refine wpAnyH_take (i := 0) (oi := { dst := some 28, op := _, type := _, pos := _, after := _, guard := _ }) (v := ?v28x1) rfl (by kernel_rfl) (by kernel_rfl) (by kernel_rfl) (fun _ _ _ h => h) (Or.inl ⟨by rfl, ?y28x1⟩) hHeld ?r28x1
        case y28x1 => intro w9 hSw; go_simp <;> with_reducible rfl
        (try simp only [Act.put, List.setIfInBounds_toArray, List.set_cons_zero, List.set_cons_succ])
        refine wpAnyH_take (i := 1) (oi := { dst := some 29, op := _, type := _, pos := _, after := _, guard := _ }) (v := ?v29x2) rfl (by kernel_rfl) (by kernel_rfl) (by kernel_rfl) (fun _ _ _ h => h) (Or.inl ⟨by rfl, ?y29x2⟩) hHeld ?r29x2
        case y29x2 => intro w9 hSw; go_simp <;> with_reducible rfl
        (try simp only [Act.put, List.setIfInBounds_toArray, List.set_cons_zero, List.set_cons_succ])
        refine wpAnyH_take (i := 3) (oi := { dst := some 31, op := _, type := _, pos := _, after := _, guard := _ }) rfl (by kernel_rfl) (by kernel_rfl) (by kernel_rfl) (fun _ _ _ h => h) (yields_row (by rfl) 36 (.tmp 7) rfl d rfl 36 (yV T) _ (fun _ h => h) Tryd.underlying36 rfl (info32 T HTL.out)) hHeld ?_
        (try simp only [Act.put, List.setIfInBounds_toArray, List.set_cons_zero, List.set_cons_succ])
        refine wpAnyH_ready (rs := [2]) (by kernel_rfl) (by simp) (AllReadyH.cons (o := { dst := some 30, op := _, type := _, pos := _, after := _, guard := _ }) rfl (fun K hK => ?_) AllReadyH.nil)
        go_simp
        go_at_call 23
        refine (htag_any (shaL key) xs _ _ _ (RN.whole G4.out (shaL_len _) (by omega) (by omega)) (shaL_bb _) (by rw [shaL_len]; omega) (Rv1.out.later B4.out) Bv1.out (by rw [Lv1.out]; omega) (HV.out.below B4.out)).mono ?_
        rintro e w7 ⟨rfl, hb⟩
        rw [HSAME.out]
        have B7 := Lib.hid (bl_call B4.out hb)
        have D7 := Lib.hid (D4.out.step hb)
        refine hK.out _ _ D7.out (fun hHeld7 => ?_)
        clear hK K hb
        (try simp only [Act.put, List.setIfInBounds_toArray, List.set_cons_zero, List.set_cons_succ])
        refine wpAnyH_take (i := 4) (oi := { dst := some 32, op := _, type := _, pos := _, after := _, guard := _ }) (v := ?v32x3) rfl (by kernel_rfl) (by kernel_rfl) (by kernel_rfl) (fun _ _ _ h => h) (Or.inl ⟨by rfl, ?y32x3⟩) hHeld7 ?r32x3
        case y32x3 => intro w9 hSw; have e1 := eq32 T HTL.out w9; go_simp <;> with_reducible rfl
        (try simp only [Act.put, List.setIfInBounds_toArray, List.set_cons_zero, List.set_cons_succ])
        refine wpAnyH_take (i := 5) (oi := { dst := some 33, op := _, type := _, pos := _, after := _, guard := _ }) (v := ?v33x4) rfl (by kernel_rfl) (by kernel_rfl) (by kernel_rfl) (fun _ _ _ h => h) (Or.inl ⟨by rfl, ?y33x4⟩) hHeld7 ?r33x4
        case y33x4 => intro w9 hSw; go_simp <;> with_reducible rfl
        (try simp only [Act.put, List.setIfInBounds_toArray, List.set_cons_zero, List.set_cons_succ])
        refine wpAnyH_ready (rs := [6]) (by kernel_rfl) (by simp) (AllReadyH.cons (o := { dst := some 34, op := _, type := _, pos := _, after := _, guard := _ }) rfl (fun K hK => ?_) AllReadyH.nil)
        go_simp
        go_at_call 20
        refine (hshown_any _ (HV.out.below B7.out)).mono ?_
        rintro e w8 ⟨rfl, hb⟩
        have B8 := Lib.hid (bl_call B7.out hb)
        have D8 := Lib.hid (D7.out.step hb)
        refine hK.out _ _ D8.out (fun hHeld8 => ?_)
        clear hK K hb
        (try simp only [Act.put, List.setIfInBounds_toArray, List.set_cons_zero, List.set_cons_succ])
        refine wpAnyH_take (i := 7) (oi := { dst := some 35, op := _, type := _, pos := _, after := _, guard := _ }) (v := ?v35x5) rfl (by kernel_rfl) (by kernel_rfl) (by kernel_rfl) (fun _ _ _ h => h) (Or.inl ⟨by rfl, ?y35x5⟩) hHeld8 ?r35x5
        case y35x5 => intro w9 hSw; go_simp <;> with_reducible rfl
        (try simp only [Act.put, List.setIfInBounds_toArray, List.set_cons_zero, List.set_cons_succ])
        refine wpAnyH_ready (rs := [8]) (by kernel_rfl) (by simp) (AllReadyH.cons (o := { dst := some 6, op := _, type := _, pos := _, after := _, guard := _ }) rfl (fun K hK => ?_) AllReadyH.nil)
        go_simp
        refine hK.out _ _ D8.out (fun hHeld9 => ?_)
        clear hK K
        (try simp only [Act.put, List.setIfInBounds_toArray, List.set_cons_zero, List.set_cons_succ])
        refine wpAnyH_done (by kernel_rfl) ?_ _
        go_wp2_with fail
        go_ret
        exact ⟨rfl, B8.out⟩
      · go_wp2_with (at_builtin; refine wpList_append_on _ rfl _ _ rfl w2.heap.size _ (.slice A p c) [] key rfl (on_new w2 [] 0 rfl (by omega)) rfl (Rv0.out.later (bl_alloc _ B2.out)) (by simp) (by have := Lv0.out; simp; omega) ?_; intro v3 w3 hn hg; rw [List.nil_append] at hn; have P3 : Hid (PdA w2.heap.size d 36 (yV T) w v3 key w3) := Lib.hid ⟨(HD.out.more _).grownY hg (by intro e; cases e; exact absurd HD.out.inside (Nat.lt_irrefl _)), hn, (bl_alloc _ B2.out).grown hg (by have := B2.out.size; simp; omega) (fun k e => by cases e; exact B2.out.size), B2.out.size, by have := hg.size; simp at this; omega⟩; clear hn hg)
        clear HD B2
        go_loopw [9, 10] (fun v i wr => ∃ k : Nat, k ≤ z ∧ p + k ≤ 64 ∧ i = .int .i64 k ∧ Hid (PdA w2.heap.size d 36 (yV T) w v (key ++ List.replicate k 0) wr)) (fun _ i _ => 64 - (intOf i).toNat)
        case atStart => exact ⟨0, by omega, by omega, rfl, Lib.hid (by rw [List.replicate_zero, List.append_nil]; exact P3.out)⟩
        case round =>
          clear P3
          obtain ⟨k, hk, hpk, rfl, HR⟩ := hrel
          obtain ⟨Av, cv, hva⟩ := HR.out.own.len
          subst hva
          obtain ⟨n, hn⟩ : ∃ n, p + k = n := ⟨_, rfl⟩
          have htl : (key ++ List.replicate k 0).length = n := by rw [List.length_append, List.length_replicate, Lv0.out]; exact hn
          rw [htl] at HR ⊢
          have HTN := Lib.hid htl
          have hn64 : n ≤ 64 := by omega
          have hkz : k ≤ 64 := by omega
          have HNN := Lib.hid hn
          clear htl hn
          by_cases hlt : k < z ∧ n < 64
          · obtain ⟨h3, h4⟩ := hlt
            have HN : Hid (key ++ List.replicate (k + 1) 0 = (key ++ List.replicate k 0) ++ [0]) := Lib.hid (by rw [List.append_assoc, ← List.replicate_succ'])
            have h3i : (k : Int) < (z : Int) := by omega
            go_wp2_with (at_builtin; have P1 := Lib.hid (HR.out.step (bl_self wr (.cells #[.int .u8 0] 5))); refine wpList_append_on _ rfl _ _ rfl w2.heap.size _ (.slice (some ⟨wr.heap.size, 0, none⟩) 1 1) (key ++ List.replicate k 0) [0] rfl P1.out.own rfl (rn_one wr 0) P1.out.inB (by rw [HTN.out]; simp; omega) ?_; intro v4 w4 hn hg; rw [← HN.out] at hn; have P2 := Lib.hid (P1.out.append (by decide) hn hg); clear hn hg P1)
            go_roundw
            case rel => exact ⟨k + 1, by omega, by have := HNN.out; omega, by go_num, P2⟩
            case measure => have := HNN.out; simp [intOf]; omega
          · have HSAME : Hid (tagL (key ++ List.replicate k 0) xs = T) := Lib.hid (by rw [tagL_zeros xs (by rw [Lv0.out]; exact hpk)]; exact HT.out)
            have D4 : Hid (AR wr.drew d 36 (yV T)) := Lib.hid (HR.out.row.drawn 1)
            have B4 : Hid (Below w.heap.size w wr.drew) := Lib.hid (bl_drewN 1 HR.out.bel)
            have R4 : Hid (RN wr.drew (.slice Av n cv) (key ++ List.replicate k 0)) := Lib.hid (HR.out.own.rn.drawn 1)
            by_cases h3 : k < z
            · have h4 : n = 64 := by omega
              subst h4
              go_upto_region 12 with fail
              refine wp_region_held_drew (S := fun W => AR W d 36 (yV T)) (by kernel_rfl) D4.out (fun hHeld => ?_)
              refine wpAnyH_take (i := 0) (oi := { dst := some 53, op := _, type := _, pos := _, after := _, guard := _ }) (v := ?v53x6) rfl (by kernel_rfl) (by kernel_rfl) (by kernel_rfl) (fun _ _ _ h => h) (Or.inl ⟨by rfl, ?y53x6⟩) hHeld ?r53x6
              case y53x6 => intro w9 hSw; go_simp <;> with_reducible rfl
              (try simp only [Act.put, List.setIfInBounds_toArray, List.set_cons_zero, List.set_cons_succ])
              refine wpAnyH_take (i := 1) (oi := { dst := some 54, op := _, type := _, pos := _, after := _, guard := _ }) (v := ?v54x7) rfl (by kernel_rfl) (by kernel_rfl) (by kernel_rfl) (fun _ _ _ h => h) (Or.inl ⟨by rfl, ?y54x7⟩) hHeld ?r54x7
              case y54x7 => intro w9 hSw; go_simp <;> with_reducible rfl
              (try simp only [Act.put, List.setIfInBounds_toArray, List.set_cons_zero, List.set_cons_succ])
              refine wpAnyH_take (i := 3) (oi := { dst := some 56, op := _, type := _, pos := _, after := _, guard := _ }) rfl (by kernel_rfl) (by kernel_rfl) (by kernel_rfl) (fun _ _ _ h => h) (yields_row (by rfl) 36 (.tmp 7) rfl d rfl 36 (yV T) _ (fun _ h => h) Tryd.underlying36 rfl (info32 T HTL.out)) hHeld ?_
              (try simp only [Act.put, List.setIfInBounds_toArray, List.set_cons_zero, List.set_cons_succ])
              refine wpAnyH_ready (rs := [2]) (by kernel_rfl) (by simp) (AllReadyH.cons (o := { dst := some 55, op := _, type := _, pos := _, after := _, guard := _ }) rfl (fun K hK => ?_) AllReadyH.nil)
              go_simp
              go_at_call 23
              refine (htag_any (key ++ List.replicate k 0) xs _ _ _ R4.out (Bv0.out.app (BB.zeros _)) (by rw [HTN.out]; omega) (Rv1.out.later B4.out) Bv1.out (by rw [Lv1.out]; omega) (HV.out.below B4.out)).mono ?_
              rintro e w7 ⟨rfl, hb⟩
              rw [HSAME.out]
              have B7 := Lib.hid (bl_call B4.out hb)
              have D7 := Lib.hid (D4.out.step hb)
              refine hK.out _ _ D7.out (fun hHeld7 => ?_)
              clear hK K hb
              (try simp only [Act.put, List.setIfInBounds_toArray, List.set_cons_zero, List.set_cons_succ])
              refine wpAnyH_take (i := 4) (oi := { dst := some 57, op := _, type := _, pos := _, after := _, guard := _ }) (v := ?v57x8) rfl (by kernel_rfl) (by kernel_rfl) (by kernel_rfl) (fun _ _ _ h => h) (Or.inl ⟨by rfl, ?y57x8⟩) hHeld7 ?r57x8
              case y57x8 => intro w9 hSw; have e1 := eq32 T HTL.out w9; go_simp <;> with_reducible rfl
              (try simp only [Act.put, List.setIfInBounds_toArray, List.set_cons_zero, List.set_cons_succ])
              refine wpAnyH_take (i := 5) (oi := { dst := some 58, op := _, type := _, pos := _, after := _, guard := _ }) (v := ?v58x9) rfl (by kernel_rfl) (by kernel_rfl) (by kernel_rfl) (fun _ _ _ h => h) (Or.inl ⟨by rfl, ?y58x9⟩) hHeld7 ?r58x9
              case y58x9 => intro w9 hSw; go_simp <;> with_reducible rfl
              (try simp only [Act.put, List.setIfInBounds_toArray, List.set_cons_zero, List.set_cons_succ])
              refine wpAnyH_ready (rs := [6]) (by kernel_rfl) (by simp) (AllReadyH.cons (o := { dst := some 59, op := _, type := _, pos := _, after := _, guard := _ }) rfl (fun K hK => ?_) AllReadyH.nil)
              go_simp
              go_at_call 20
              refine (hshown_any _ (HV.out.below B7.out)).mono ?_
              rintro e w8 ⟨rfl, hb⟩
              have B8 := Lib.hid (bl_call B7.out hb)
              have D8 := Lib.hid (D7.out.step hb)
              refine hK.out _ _ D8.out (fun hHeld8 => ?_)
              clear hK K hb
              (try simp only [Act.put, List.setIfInBounds_toArray, List.set_cons_zero, List.set_cons_succ])
              refine wpAnyH_take (i := 7) (oi := { dst := some 60, op := _, type := _, pos := _, after := _, guard := _ }) (v := ?v60x10) rfl (by kernel_rfl) (by kernel_rfl) (by kernel_rfl) (fun _ _ _ h => h) (Or.inl ⟨by rfl, ?y60x10⟩) hHeld8 ?r60x10
              case y60x10 => intro w9 hSw; go_simp <;> with_reducible rfl
              (try simp only [Act.put, List.setIfInBounds_toArray, List.set_cons_zero, List.set_cons_succ])
              refine wpAnyH_ready (rs := [8]) (by kernel_rfl) (by simp) (AllReadyH.cons (o := { dst := some 6, op := _, type := _, pos := _, after := _, guard := _ }) rfl (fun K hK => ?_) AllReadyH.nil)
              go_simp
              refine hK.out _ _ D8.out (fun hHeld9 => ?_)
              clear hK K
              (try simp only [Act.put, List.setIfInBounds_toArray, List.set_cons_zero, List.set_cons_succ])
              refine wpAnyH_done (by kernel_rfl) ?_ _
              go_wp2_with fail
              go_ret
              exact ⟨rfl, B8.out⟩
            · go_upto_region 12 with fail
              refine wp_region_held_drew (S := fun W => AR W d 36 (yV T)) (by kernel_rfl) D4.out (fun hHeld => ?_)
              refine wpAnyH_take (i := 0) (oi := { dst := some 53, op := _, type := _, pos := _, after := _, guard := _ }) (v := ?v53x11) rfl (by kernel_rfl) (by kernel_rfl) (by kernel_rfl) (fun _ _ _ h => h) (Or.inl ⟨by rfl, ?y53x11⟩) hHeld ?r53x11
              case y53x11 => intro w9 hSw; go_simp <;> with_reducible rfl
              (try simp only [Act.put, List.setIfInBounds_toArray, List.set_cons_zero, List.set_cons_succ])
              refine wpAnyH_take (i := 1) (oi := { dst := some 54, op := _, type := _, pos := _, after := _, guard := _ }) (v := ?v54x12) rfl (by kernel_rfl) (by kernel_rfl) (by kernel_rfl) (fun _ _ _ h => h) (Or.inl ⟨by rfl, ?y54x12⟩) hHeld ?r54x12
              case y54x12 => intro w9 hSw; go_simp <;> with_reducible rfl
              (try simp only [Act.put, List.setIfInBounds_toArray, List.set_cons_zero, List.set_cons_succ])
              refine wpAnyH_take (i := 3) (oi := { dst := some 56, op := _, type := _, pos := _, after := _, guard := _ }) rfl (by kernel_rfl) (by kernel_rfl) (by kernel_rfl) (fun _ _ _ h => h) (yields_row (by rfl) 36 (.tmp 7) rfl d rfl 36 (yV T) _ (fun _ h => h) Tryd.underlying36 rfl (info32 T HTL.out)) hHeld ?_
              (try simp only [Act.put, List.setIfInBounds_toArray, List.set_cons_zero, List.set_cons_succ])
              refine wpAnyH_ready (rs := [2]) (by kernel_rfl) (by simp) (AllReadyH.cons (o := { dst := some 55, op := _, type := _, pos := _, after := _, guard := _ }) rfl (fun K hK => ?_) AllReadyH.nil)
              go_simp
              go_at_call 23
              refine (htag_any (key ++ List.replicate k 0) xs _ _ _ R4.out (Bv0.out.app (BB.zeros _)) (by rw [HTN.out]; omega) (Rv1.out.later B4.out) Bv1.out (by rw [Lv1.out]; omega) (HV.out.below B4.out)).mono ?_
              rintro e w7 ⟨rfl, hb⟩
              rw [HSAME.out]
              have B7 := Lib.hid (bl_call B4.out hb)
              have D7 := Lib.hid (D4.out.step hb)
              refine hK.out _ _ D7.out (fun hHeld7 => ?_)
              clear hK K hb
              (try simp only [Act.put, List.setIfInBounds_toArray, List.set_cons_zero, List.set_cons_succ])
              refine wpAnyH_take (i := 4) (oi := { dst := some 57, op := _, type := _, pos := _, after := _, guard := _ }) (v := ?v57x13) rfl (by kernel_rfl) (by kernel_rfl) (by kernel_rfl) (fun _ _ _ h => h) (Or.inl ⟨by rfl, ?y57x13⟩) hHeld7 ?r57x13
              case y57x13 => intro w9 hSw; have e1 := eq32 T HTL.out w9; go_simp <;> with_reducible rfl
              (try simp only [Act.put, List.setIfInBounds_toArray, List.set_cons_zero, List.set_cons_succ])
              refine wpAnyH_take (i := 5) (oi := { dst := some 58, op := _, type := _, pos := _, after := _, guard := _ }) (v := ?v58x14) rfl (by kernel_rfl) (by kernel_rfl) (by kernel_rfl) (fun _ _ _ h => h) (Or.inl ⟨by rfl, ?y58x14⟩) hHeld7 ?r58x14
              case y58x14 => intro w9 hSw; go_simp <;> with_reducible rfl
              (try simp only [Act.put, List.setIfInBounds_toArray, List.set_cons_zero, List.set_cons_succ])
              refine wpAnyH_ready (rs := [6]) (by kernel_rfl) (by simp) (AllReadyH.cons (o := { dst := some 59, op := _, type := _, pos := _, after := _, guard := _ }) rfl (fun K hK => ?_) AllReadyH.nil)
              go_simp
              go_at_call 20
              refine (hshown_any _ (HV.out.below B7.out)).mono ?_
              rintro e w8 ⟨rfl, hb⟩
              have B8 := Lib.hid (bl_call B7.out hb)
              have D8 := Lib.hid (D7.out.step hb)
              refine hK.out _ _ D8.out (fun hHeld8 => ?_)
              clear hK K hb
              (try simp only [Act.put, List.setIfInBounds_toArray, List.set_cons_zero, List.set_cons_succ])
              refine wpAnyH_take (i := 7) (oi := { dst := some 60, op := _, type := _, pos := _, after := _, guard := _ }) (v := ?v60x15) rfl (by kernel_rfl) (by kernel_rfl) (by kernel_rfl) (fun _ _ _ h => h) (Or.inl ⟨by rfl, ?y60x15⟩) hHeld8 ?r60x15
              case y60x15 => intro w9 hSw; go_simp <;> with_reducible rfl
              (try simp only [Act.put, List.setIfInBounds_toArray, List.set_cons_zero, List.set_cons_succ])
              refine wpAnyH_ready (rs := [8]) (by kernel_rfl) (by simp) (AllReadyH.cons (o := { dst := some 6, op := _, type := _, pos := _, after := _, guard := _ }) rfl (fun K hK => ?_) AllReadyH.nil)
              go_simp
              refine hK.out _ _ D8.out (fun hHeld9 => ?_)
              clear hK K
              (try simp only [Act.put, List.setIfInBounds_toArray, List.set_cons_zero, List.set_cons_succ])
              refine wpAnyH_done (by kernel_rfl) ?_ _
              go_wp2_with fail
              go_ret
              exact ⟨rfl, B8.out⟩
    · go_enter Tryd.func9, Tryd.ntmps9
      go_wp2_with (go_at_call 20; refine (hshown_any _ (HV.out)).mono ?_; rintro e w1 ⟨rfl, hb⟩; have HB := Lib.hid hb; clear hb)
      go_ret
      exact ⟨rfl, HB.out⟩
  · go_enter Tryd.func9, Tryd.ntmps9
    go_wp2_with (go_at_call 20; refine (hshown_any _ (HV.out)).mono ?_; rintro e w1 ⟨rfl, hb⟩; have HB := Lib.hid hb; clear hb)
    go_ret
    exact ⟨rfl, HB.out⟩
theorem hkeys_int (v0 v1 : Value) (key xs : List Nat) (z : Int) (w : World) (hv0 : RN w v0 key) (hbv0 : BB key) (hv1 : RN w v1 xs) (hbv1 : BB xs) (hz : (Lit.int .u8 z).wf = true) (hV : VK w) :
    Calls Tryd.prog 9 #[v0, v1, .int .u8 z] w (Gives w (.bool true)) := by
  obtain ⟨h0, h1⟩ := wf_u8 z hz
  obtain ⟨m, rfl⟩ : ∃ m : Nat, z = m := ⟨z.toNat, by omega⟩
  exact hkeys_any v0 v1 key xs m w hv0 hbv0 hv1 hbv1 (by omega) hV
end Go.Proofs.YtaeicjgkoofmpaaDoor
