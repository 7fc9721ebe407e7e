/- The law IntsBack: the walk. -/
import Derived.Test.YtkidgijoopdidaaIntsBb
import Derived.Test.YtkidgijoopdidaaIntsVb
namespace Go.Proofs.Ytkidgijoopdidaa
open Go.RowKit
set_option linter.unusedVariables false

set_option maxRecDepth 100000 in
set_option maxHeartbeats 8000000 in
theorem backLaw_any (v : Value) (xs : List Int) (n : Int) (u : Nat) (b : Int) (s : Bool) (w : World) (hv : RB w v xs) (hby : BY xs) (hml : xs.length ≤ maxLen) (hn : -9223372036854775808 ≤ n ∧ n ≤ 9223372036854775807) (hu : u < 18446744073709551616) (hb : -9223372036854775808 ≤ b ∧ b ≤ 9223372036854775807) :
    Calls Try.prog 8 #[v, .agg #[.int .i64 n, .int .u64 u, .int .i64 b, .bool s]] w fun e w' => e = .returned (.bool true) ∧ Below w.heap.size w w' := by
  obtain ⟨n0, n1⟩ := hn
  obtain ⟨b0, b1⟩ := hb
  obtain ⟨A, c, hvl⟩ := hv.len
  obtain ⟨L, hL⟩ : ∃ L, xs.length = L := ⟨_, rfl⟩
  rw [hL] at hvl hml
  unfold maxLen at hml
  subst hvl
  have HV := Lib.hid (V4.start (n := n) (u := u) (b := b) (s := s) 37 hv); clear hv
  have HBY := Lib.hid hby; clear hby
  by_cases hlong : 100 < L
  · go_enter Try.func8, Try.ntmps8
    go_wp2_with (go_at_call 12; (with_reducible refine (awake_any _).mono ?_); rintro e w2 ⟨rfl, hb⟩; replace HV := Lib.hid (HV.out.step hb); clear hb)
    go_ret
    exact ⟨rfl, HV.out.bel⟩
  · have HL := Lib.hid hL
    have HS : Hid (xs.length ≤ 100) := Lib.hid (by omega)
    clear hL
    obtain ⟨SX, hSX⟩ : ∃ T, strOfNums xs = T := ⟨_, rfl⟩
    have HSX := Lib.hid hSX; clear hSX
    have q1 : (SX.toList != SX.toList) = false := bne_self_eq_false _
    have q2 : ((u : Int) != (u : Int)) = false := bne_self_eq_false _
    go_enter Try.func8, Try.ntmps8
    go_wp2_with fail
    go_loopw [5] (fun i wr => ∃ k : Nat, 1 ≤ k ∧ k ≤ 9 ∧ i = .int .i64 k ∧ Hid (V4 w (.slice A L c) xs n u b s wr)) (fun i _ => 9 - (intOf i).toNat)
    case atStart => exact ⟨1, by omega, by omega, rfl, HV⟩
    case round =>
      obtain ⟨k, k1, k9, rfl, HVr⟩ := hrel
      clear HV
      have HV := HVr; clear HVr
      have x0 := HV.out.c0
      have x1 := HV.out.c1
      have x2 := HV.out.c2
      have x3 := HV.out.c3
      have xb := cvb HSX HV
      by_cases hk : k ≤ 8
      · as_aux_lemma =>
        have t1 : True := trivial
        have t2 : True := trivial
        have t3 : True := trivial
        have t4 : True := trivial
        obtain ⟨r, hr⟩ : ∃ T, getE xs k = T := ⟨_, rfl⟩
        obtain ⟨z, hz⟩ : ∃ T, getV xs k = T := ⟨_, rfl⟩
        obtain ⟨rs, hrs⟩ : ∃ T, getR xs k = T := ⟨_, rfl⟩
        by_cases hlen : k ≤ L
        case' neg =>
          have hr10 : r = 10 := by rw [← hr]; unfold getE; rw [if_neg (by omega), Int.toNat_natCast, if_pos (by have := HL.out; omega)]
          subst hr10
        case' pos =>
          have hr0 : getE xs k = 0 := by unfold getE; rw [if_neg (by omega), Int.toNat_natCast, if_neg (by have := HL.out; omega)]
          have hr10 : r = 0 := by rw [← hr, hr0]
          subst hr10
          have hpg := put_get (k := k) HBY.out (by have := HL.out; omega)
          have hzz : z = gN (xs.take k) := by rw [← hz]; unfold getV; rw [hr0, if_pos rfl, Int.toNat_natCast]
          have hrr : rs = xs.drop k := by rw [← hrs]; unfold getR; rw [hr0, if_pos rfl, Int.toNat_natCast]
          have hz64 : z < 18446744073709551616 := by have h1 := fitB_lt hpg.1; have h2 := pw_le64 (k := 8 * k) (by omega); rw [hzz]; omega
          obtain ⟨ys, hys⟩ : ∃ T, beL z k = T := ⟨_, rfl⟩
          obtain ⟨SA, hSA⟩ : ∃ T, strOfNums ys = T := ⟨_, rfl⟩
          obtain ⟨SB, hSB⟩ : ∃ T, strOfNums rs = T := ⟨_, rfl⟩
          have HAB := Lib.hid (add_str (xs := ys) (ys := rs) (zs := xs) (by rw [← hys, hzz, hpg.2, hrr, List.take_append_drop]) (by have := HS.out; omega) hSA hSB HSX.out)
          have hadd := HAB.out
          have HF1 : Hid (fitB z (8 * k) = true) := Lib.hid (by rw [hzz]; exact hpg.1)
          have HYS := Lib.hid hys; have HSA := Lib.hid hSA; have HSB := Lib.hid hSB
          clear hpg hzz hrr hys hSA hSB hr0
        all_goals
          have H1 := Lib.hid hz; have H2 := Lib.hid hrs; have H3 := Lib.hid hr
          clear hz hrs hr
          cases hf : fitB u (8 * k)
          case' false => have HF := Lib.hid hf; clear hf
          case' true =>
            have hgp := get_put (xs := xs) hf
            obtain ⟨zs, hzs⟩ : ∃ T, beL u k = T := ⟨_, rfl⟩
            rw [hzs] at hgp
            have hzl : zs.length = k := by rw [← hzs]; exact beL_len u k
            have hzb : BY zs := by rw [← hzs]; exact beL_by u k
            have hle : (zs ++ xs).length ≤ 1000 := by rw [List.length_append]; have := HS.out; omega
            have e0 : getE (zs ++ xs) k = 0 := by unfold getE; rw [if_neg (by omega), Int.toNat_natCast, if_neg (by rw [List.length_append]; omega)]
            have e1 : getV (zs ++ xs) k = u := by unfold getV; rw [e0, if_pos rfl, Int.toNat_natCast]; exact hgp.1
            have e2 : getR (zs ++ xs) k = xs := by unfold getR; rw [e0, if_pos rfl, Int.toNat_natCast]; exact hgp.2
            have HF := Lib.hid hf; have HZS := Lib.hid hzs; have HZB := Lib.hid (hzb.app HBY.out); have HLE := Lib.hid hle; have HE0 := Lib.hid e0; have HE1 := Lib.hid e1; have HE2 := Lib.hid e2
            have HZL : Hid (zs.length + xs.length ≤ 2000) := Lib.hid (by rw [List.length_append] at hle; omega)
            clear hf hgp hzs hzl hzb hle e0 e1 e2
          all_goals
            go_wp2_with (first
              | (go_at_call 15; have _t := t1; (refine (get_l _ xs k z rs _ _ HV.out.ia HBY.out (by have := HS.out; omega) H1.out H2.out H3.out).mono ?_); rintro e w1 ⟨v1, rfl, hr1, hb⟩; have HR1 := Lib.hid hr1; replace HV := Lib.hid (HV.out.step hb); replace x0 := HV.out.c0; replace x1 := HV.out.c1; replace x2 := HV.out.c2; replace x3 := HV.out.c3; replace xb := cvb HSX HV; clear hb hr1 t1 _t)
              | (go_at_call 13; have _t := t2; (refine (put_o z k ys _ k1 hk hz64 HF1.out HYS.out).mono ?_); rintro e w2 ⟨v2, rfl, ho2, hb⟩; have j1 := cvs HSB (HR1.out.later hb); have j2 := cvs HSA ho2.rb; replace HV := Lib.hid (HV.out.step hb); replace x0 := HV.out.c0; replace x1 := HV.out.c1; replace x2 := HV.out.c2; replace x3 := HV.out.c3; replace xb := cvb HSX HV; clear hb ho2 t2 _t)
              | (go_at_call 13; have _t := t3; (refine (put_x u k _ k1 hk hu HF.out).mono ?_); rintro e w3 ⟨rfl, rfl⟩; clear t3 _t)
              | (go_at_call 13; have _t := t3; (refine (put_o u k zs _ k1 hk hu HF.out HZS.out).mono ?_); rintro e w3 ⟨v3, rfl, ho3, hb⟩; have HO3 := Lib.hid ho3; have HBS := Lib.hid hb; have HVP := HV; replace HV := Lib.hid (HV.out.step hb); replace x0 := HV.out.c0; replace x1 := HV.out.c1; replace x2 := HV.out.c2; replace x3 := HV.out.c3; replace xb := cvb HSX HV; clear hb ho3 t3 _t)
              | (at_builtin; refine wpList_append_rb _ rfl _ _ rfl _ _ _ zs xs rfl HO3.out rfl HV.out.ia HBS.out.size HZL.out ?_; intro v4 w4 ho4 hb4; have hb := HBS.out.trans hb4; have HR4 := Lib.hid ho4.rb; replace HV := HVP; replace HV := Lib.hid (HV.out.step hb); replace x0 := HV.out.c0; replace x1 := HV.out.c1; replace x2 := HV.out.c2; replace x3 := HV.out.c3; replace xb := cvb HSX HV; clear hb hb4 ho4)
              | (go_at_call 15; have _t := t4; (refine (get_l _ (zs ++ xs) k u xs 0 _ HR4.out HZB.out HLE.out HE1.out HE2.out HE0.out).mono ?_); rintro e w5 ⟨v5, rfl, hr5, hb⟩; have j5 := cvs HSX hr5; replace HV := Lib.hid (HV.out.step hb); replace x0 := HV.out.c0; replace x1 := HV.out.c1; replace x2 := HV.out.c2; replace x3 := HV.out.c3; replace xb := cvb HSX HV; clear hb hr5 t4 _t))
            go_roundw
            case rel => exact ⟨k + 1, by omega, by omega, by go_num, HV⟩
            case measure => simp [intOf]; omega
      · obtain rfl : k = 9 := by omega
        obtain ⟨z, hz⟩ : ∃ T, gvV xs = T := ⟨_, rfl⟩
        obtain ⟨rs, hrs⟩ : ∃ T, gvR xs = T := ⟨_, rfl⟩
        obtain ⟨r, hr⟩ : ∃ T, (gv xs 0).1 = T := ⟨_, rfl⟩
        have hpv : r = 0 → varL z ++ rs = xs := fun h => by rw [← hz, ← hrs]; exact putvar_get HBY.out (hr.trans h)
        have hz64 : z < 18446744073709551616 := gvV_lt HBY.out hz
        have HPV := Lib.hid hpv
        have H1 := Lib.hid hz; have H2 := Lib.hid hrs; have H3 := Lib.hid hr
        clear hz hrs hr hpv
        go_upto_region 19 with (go_at_call 17; (refine (getvar_l _ xs z rs r _ HV.out.ia HBY.out (by have := HS.out; omega) H1.out H2.out H3.out).mono ?_); rintro e w1 ⟨v1, rfl, hr1, hb⟩; have HR1 := Lib.hid hr1; replace HV := Lib.hid (HV.out.step hb); replace x0 := HV.out.c0; replace x1 := HV.out.c1; replace x2 := HV.out.c2; replace x3 := HV.out.c3; replace xb := cvb HSX HV; clear hb hr1)
        go_cut [115] (fun s115 wc => s115 = .bool false ∧ Hid (V4 w (.slice A L c) xs n u b s wc))
        case first => as_aux_lemma =>
          by_cases hr0 : r = 0
          · subst hr0
            have hpv := HPV.out rfl
            obtain ⟨ys, hys⟩ : ∃ T, varL z = T := ⟨_, rfl⟩
            rw [hys] at hpv
            obtain ⟨SA, hSA⟩ : ∃ T, strOfNums ys = T := ⟨_, rfl⟩
            obtain ⟨SB, hSB⟩ : ∃ T, strOfNums rs = T := ⟨_, rfl⟩
            have hadd := add_str hpv (by have := HS.out; omega) hSA hSB HSX.out
            have HYS := Lib.hid hys; have HSA := Lib.hid hSA; have HSB := Lib.hid hSB
            clear hys hSA hSB hpv
            have HVd : Hid (V4 w (.slice A L c) xs n u b s w1.drew) := Lib.hid (HV.out.step (bl_drewN 1 (Below.refl _ _)))
            have HRd : Hid (RB w1.drew v1 rs) := Lib.hid HR1.out
            have y1 := cvs HSB HRd.out
            have y2 := cvb HSX HVd
            refine wp_region_held_drew (S := fun w' => Below w1.drew.heap.size w1.drew w') (by kernel_rfl) (Below.refl _ _) (fun hHeld => ?_)
            refine wpAnyH_take (i := 0) (oi := { dst := some 103, op := _, type := _, pos := _, after := _, guard := _ }) (v := ?v103) rfl (by kernel_rfl) (by kernel_rfl) (by kernel_rfl) (fun _ _ _ h => h) (Or.inl ⟨by rfl, ?y103⟩) (by assumption) ?r103
            case y103 => intro w9 hSw; go_simp <;> with_reducible rfl
            (try simp only [Act.put, List.setIfInBounds_toArray, List.set_cons_zero, List.set_cons_succ])
            refine wpAnyH_take (i := 1) (oi := { dst := some 104, op := _, type := _, pos := _, after := _, guard := _ }) (v := ?v104) rfl (by kernel_rfl) (by kernel_rfl) (by kernel_rfl) (fun _ _ _ h => h) (Or.inl ⟨by rfl, ?y104⟩) (by assumption) ?r104
            case y104 => intro w9 hSw; go_simp <;> with_reducible rfl
            (try simp only [Act.put, List.setIfInBounds_toArray, List.set_cons_zero, List.set_cons_succ])
            refine wpAnyH_take (i := 2) (oi := { dst := some 105, op := _, type := _, pos := _, after := _, guard := _ }) (v := ?v105) rfl (by kernel_rfl) (by kernel_rfl) (by kernel_rfl) (fun _ _ _ h => h) (Or.inl ⟨by rfl, ?y105⟩) (by assumption) ?r105
            case y105 => intro w9 hSw; go_simp <;> with_reducible rfl
            (try simp only [Act.put, List.setIfInBounds_toArray, List.set_cons_zero, List.set_cons_succ])
            refine wpAnyH_take (i := 3) (oi := { dst := some 106, op := _, type := _, pos := _, after := _, guard := _ }) (v := ?v106) rfl (by kernel_rfl) (by kernel_rfl) (by kernel_rfl) (fun _ _ _ h => h) (Or.inl ⟨by rfl, ?y106⟩) (by assumption) ?r106
            case y106 => intro w9 hSw; go_simp <;> with_reducible rfl
            (try simp only [Act.put, List.setIfInBounds_toArray, List.set_cons_zero, List.set_cons_succ])
            refine wpAnyH_take (i := 6) (oi := { dst := some 109, op := _, type := _, pos := _, after := _, guard := _ }) (v := ?v109) rfl (by kernel_rfl) (by kernel_rfl) (by kernel_rfl) (fun _ _ _ h => h) (Or.inl ⟨by rfl, ?y109⟩) (by assumption) ?r109
            case y109 => intro w9 hSw; go_simp <;> with_reducible rfl
            (try simp only [Act.put, List.setIfInBounds_toArray, List.set_cons_zero, List.set_cons_succ])
            refine wpAnyH_take (i := 7) (oi := { dst := some 110, op := _, type := _, pos := _, after := _, guard := _ }) (v := ?v110) rfl (by kernel_rfl) (by kernel_rfl) (by kernel_rfl) (fun _ _ _ h => h) (Or.inl ⟨by rfl, ?y110⟩) (by assumption) ?r110
            case y110 => intro w9 hSw; have HV9 := Lib.hid (HVd.out.step hSw); have c1 := cvs HSB (HRd.out.later hSw); have c2 := cvb HSX HV9; go_simp <;> with_reducible rfl
            (try simp only [Act.put, List.setIfInBounds_toArray, List.set_cons_zero, List.set_cons_succ])
            refine wpAnyH_take (i := 9) (oi := { dst := some 112, op := _, type := _, pos := _, after := _, guard := _ }) (v := ?v112) rfl (by kernel_rfl) (by kernel_rfl) (by kernel_rfl) (fun _ _ _ h => h) (Or.inl ⟨by rfl, ?y112⟩) (by assumption) ?r112
            case y112 => intro w9 hSw; go_simp <;> with_reducible rfl
            (try simp only [Act.put, List.setIfInBounds_toArray, List.set_cons_zero, List.set_cons_succ])
            refine wpAnyH_take (i := 10) (oi := { dst := some 113, op := _, type := _, pos := _, after := _, guard := _ }) (v := ?v113) rfl (by kernel_rfl) (by kernel_rfl) (by kernel_rfl) (fun _ _ _ h => h) (Or.inl ⟨by rfl, ?y113⟩) (by assumption) ?r113
            case y113 => intro w9 hSw; have HV9 := Lib.hid (HVd.out.step hSw); have c1 := cvs HSB (HRd.out.later hSw); have c2 := cvb HSX HV9; go_simp <;> with_reducible rfl
            (try simp only [Act.put, List.setIfInBounds_toArray, List.set_cons_zero, List.set_cons_succ])
            refine wpAnyH_ready (rs := [4]) (by kernel_rfl) (by simp) (AllReadyH.cons (o := { dst := some 107, op := _, type := _, pos := _, after := _, guard := _ }) rfl (fun K hK => ?_) AllReadyH.nil)
            go_simp
            go_at_call 19; refine (putvar_o z ys _ hz64 HYS.out).mono ?_; rintro e wa ⟨va, rfl, ra, hb⟩; have HVe := Lib.hid (HVd.out.step hb); have RA := Lib.hid ra; have HBa := Lib.hid hb; clear hb ra
            refine hK.out _ _ ?_ (fun hHeld107 => ?_)
            · exact HBa.out
            clear hK K
            (try simp only [Act.put, List.setIfInBounds_toArray, List.set_cons_zero, List.set_cons_succ])
            refine held_more (S' := fun w' => Below wa.heap.size wa w') (fun _ h => bl_call HBa.out h) _ _ _ _ ?_
            have hHa : (fun w' => Below wa.heap.size wa w') wa := Below.refl _ _
            refine wpAnyH_take (i := 5) (oi := { dst := some 108, op := _, type := _, pos := _, after := _, guard := _ }) (v := ?v108) rfl (by kernel_rfl) (by kernel_rfl) (by kernel_rfl) (fun _ _ _ h => h) (Or.inl ⟨by rfl, ?y108⟩) (by assumption) ?r108
            case y108 => intro w9 hSw; have c1 := cvs HSA (RA.out.rb.later hSw); go_simp <;> with_reducible rfl
            (try simp only [Act.put, List.setIfInBounds_toArray, List.set_cons_zero, List.set_cons_succ])
            refine wpAnyH_take (i := 8) (oi := { dst := some 111, op := _, type := _, pos := _, after := _, guard := _ }) (v := ?v111) rfl (by kernel_rfl) (by kernel_rfl) (by kernel_rfl) (fun _ _ _ h => h) (Or.inl ⟨by rfl, ?y111⟩) (by assumption) ?r111
            case y111 => intro w9 hSw; go_simp <;> with_reducible rfl
            (try simp only [Act.put, List.setIfInBounds_toArray, List.set_cons_zero, List.set_cons_succ])
            refine wpAnyH_take (i := 11) (oi := { dst := some 114, op := _, type := _, pos := _, after := _, guard := _ }) (v := ?v114) rfl (by kernel_rfl) (by kernel_rfl) (by kernel_rfl) (fun _ _ _ h => h) (Or.inl ⟨by rfl, ?y114⟩) (by assumption) ?r114
            case y114 => intro w9 hSw; go_simp <;> with_reducible rfl
            (try simp only [Act.put, List.setIfInBounds_toArray, List.set_cons_zero, List.set_cons_succ])
            refine wpAnyH_take (i := 12) (oi := { dst := some 115, op := _, type := _, pos := _, after := _, guard := _ }) (v := ?v115) rfl (by kernel_rfl) (by kernel_rfl) (by kernel_rfl) (fun _ _ _ h => h) (Or.inl ⟨by rfl, ?y115⟩) (by assumption) ?r115
            case y115 => intro w9 hSw; go_simp <;> with_reducible rfl
            (try simp only [Act.put, List.setIfInBounds_toArray, List.set_cons_zero, List.set_cons_succ])
            refine wpAnyH_done (by kernel_rfl) ?_ _
            go_wp2_with fail
            go_meet
            exact ⟨rfl, HVe⟩
          · have j : (r == 0) = false := beq_eq_false_iff_ne.2 hr0
            go_quiet (fail)
            go_wp2_with fail
            go_meet
            exact ⟨rfl, Lib.hid (HV.out.step (bl_drewN _ (Below.refl _ _)))⟩
        case rest =>
          obtain ⟨rfl, hcut⟩ := hcut
          clear HV x0 x1 x2 x3 xb
          have HV := hcut; clear hcut
          have x0 := HV.out.c0
          have x1 := HV.out.c1
          have x2 := HV.out.c2
          have x3 := HV.out.c3
          have xb := cvb HSX HV
          clear H1 H2 H3 HPV HR1 hz64
          obtain ⟨zs, hzs⟩ : ∃ T, varL u = T := ⟨_, rfl⟩
          have hgp := getvar_put (n := u) xs hu
          have hzb : BY zs := by rw [← hzs]; exact varL_by u
          have hzl := (varL_ten hu).2
          rw [hzs] at hgp hzl
          have HZS := Lib.hid hzs
          have HE1 := Lib.hid hgp.1; have HE2 := Lib.hid hgp.2.1; have HE0 := Lib.hid hgp.2.2
          have HZB := Lib.hid (hzb.app HBY.out)
          have HLE : Hid ((zs ++ xs).length ≤ 1100) := Lib.hid (by rw [List.length_append]; have := HS.out; omega)
          have HZL : Hid (zs.length + xs.length ≤ 2000) := Lib.hid (by have := HS.out; omega)
          clear hzs hgp hzb hzl
          go_upto_region 22 with (first
            | (go_at_call 19; (refine (putvar_o u zs _ hu HZS.out).mono ?_); rintro e w3 ⟨v3, rfl, ho3, hb⟩; have HO3 := Lib.hid ho3; have HBS := Lib.hid hb; have HVP := HV; replace HV := Lib.hid (HV.out.step hb); replace x0 := HV.out.c0; replace x1 := HV.out.c1; replace x2 := HV.out.c2; replace x3 := HV.out.c3; replace xb := cvb HSX HV; clear hb ho3)
            | (at_builtin; refine wpList_append_rb _ rfl _ _ rfl _ _ _ zs xs rfl HO3.out rfl HV.out.ia HBS.out.size HZL.out ?_; intro v4 w4 ho4 hb4; have hb := HBS.out.trans hb4; have HR4 := Lib.hid ho4.rb; replace HV := HVP; replace HV := Lib.hid (HV.out.step hb); replace x0 := HV.out.c0; replace x1 := HV.out.c1; replace x2 := HV.out.c2; replace x3 := HV.out.c3; replace xb := cvb HSX HV; clear hb hb4 ho4)
            | (go_at_call 17; (refine (getvar_l _ (zs ++ xs) u xs 0 _ HR4.out HZB.out HLE.out HE1.out HE2.out HE0.out).mono ?_); rintro e w5 ⟨v5, rfl, hr5, hb⟩; have HR5 := Lib.hid hr5; replace HV := Lib.hid (HV.out.step hb); replace x0 := HV.out.c0; replace x1 := HV.out.c1; replace x2 := HV.out.c2; replace x3 := HV.out.c3; replace xb := cvb HSX HV; clear hb hr5))
          clear HBY HO3 HBS HVP HR4 HZS HE1 HE2 HE0 HZB HLE HZL
          go_cut [158] (fun s158 wc => s158 = .bool false ∧ Hid (V4 w (.slice A L c) xs n u b s wc))
          case first => as_aux_lemma =>
            have HVd : Hid (V4 w (.slice A L c) xs n u b s w5.drew) := Lib.hid (HV.out.step (bl_drewN 1 (Below.refl _ _)))
            have HRd : Hid (RB w5.drew v5 xs) := Lib.hid HR5.out
            have q3 : (n != n) = false := bne_self_eq_false _
            obtain ⟨Z, hZ⟩ : ∃ T, zigI n = T := ⟨_, rfl⟩
            obtain ⟨G, hG⟩ : ∃ T, zagI (u : Int) = T := ⟨_, rfl⟩
            have hZ0 : 0 ≤ Z ∧ Z ≤ 18446744073709551615 := by rw [← hZ]; unfold zigI; split <;> omega
            have hG0 : -9223372036854775808 ≤ G ∧ G ≤ 9223372036854775807 := by rw [← hG]; unfold zagI; split <;> omega
            have hZZ : zagI Z = n := by rw [← hZ, zag_zig]
            have hGG : zigI G = u := by rw [← hG, zig_zag (by omega)]
            have HZ := Lib.hid hZ; have HG := Lib.hid hG; have HZZ := Lib.hid hZZ; have HGG := Lib.hid hGG; have HZ0 := Lib.hid hZ0; have HG0 := Lib.hid hG0
            clear hZ hG hZZ hGG hZ0 hG0 HV x0 x1 x2 x3 xb
            refine wp_region_held_drew (S := fun w' => Below w5.drew.heap.size w5.drew w') (by kernel_rfl) (Below.refl _ _) (fun hHeld => ?_)
            refine wpAnyH_take (i := 0) (oi := { dst := some 126, op := _, type := _, pos := _, after := _, guard := _ }) (v := ?v126) rfl (by kernel_rfl) (by kernel_rfl) (by kernel_rfl) (fun _ _ _ h => h) (Or.inl ⟨by rfl, ?y126⟩) (by assumption) ?r126
            case y126 => intro w9 hSw; go_simp <;> with_reducible rfl
            (try simp only [Act.put, List.setIfInBounds_toArray, List.set_cons_zero, List.set_cons_succ])
            refine wpAnyH_take (i := 1) (oi := { dst := some 127, op := _, type := _, pos := _, after := _, guard := _ }) (v := ?v127) rfl (by kernel_rfl) (by kernel_rfl) (by kernel_rfl) (fun _ _ _ h => h) (Or.inl ⟨by rfl, ?y127⟩) (by assumption) ?r127
            case y127 => intro w9 hSw; go_simp <;> with_reducible rfl
            (try simp only [Act.put, List.setIfInBounds_toArray, List.set_cons_zero, List.set_cons_succ])
            refine wpAnyH_take (i := 2) (oi := { dst := some 128, op := _, type := _, pos := _, after := _, guard := _ }) (v := ?v128) rfl (by kernel_rfl) (by kernel_rfl) (by kernel_rfl) (fun _ _ _ h => h) (Or.inl ⟨by rfl, ?y128⟩) (by assumption) ?r128
            case y128 => intro w9 hSw; go_simp <;> with_reducible rfl
            (try simp only [Act.put, List.setIfInBounds_toArray, List.set_cons_zero, List.set_cons_succ])
            refine wpAnyH_take (i := 3) (oi := { dst := some 129, op := _, type := _, pos := _, after := _, guard := _ }) (v := ?v129) rfl (by kernel_rfl) (by kernel_rfl) (by kernel_rfl) (fun _ _ _ h => h) (Or.inl ⟨by rfl, ?y129⟩) (by assumption) ?r129
            case y129 => intro w9 hSw; go_simp <;> with_reducible rfl
            (try simp only [Act.put, List.setIfInBounds_toArray, List.set_cons_zero, List.set_cons_succ])
            refine wpAnyH_take (i := 4) (oi := { dst := some 130, op := _, type := _, pos := _, after := _, guard := _ }) (v := ?v130) rfl (by kernel_rfl) (by kernel_rfl) (by kernel_rfl) (fun _ _ _ h => h) (Or.inl ⟨by rfl, ?y130⟩) (by assumption) ?r130
            case y130 => intro w9 hSw; go_simp <;> with_reducible rfl
            (try simp only [Act.put, List.setIfInBounds_toArray, List.set_cons_zero, List.set_cons_succ])
            refine wpAnyH_take (i := 5) (oi := { dst := some 131, op := _, type := _, pos := _, after := _, guard := _ }) (v := ?v131) rfl (by kernel_rfl) (by kernel_rfl) (by kernel_rfl) (fun _ _ _ h => h) (Or.inl ⟨by rfl, ?y131⟩) (by assumption) ?r131
            case y131 => intro w9 hSw; have HV9 := Lib.hid (HVd.out.step hSw); have c0 := HV9.out.c0; have c1 := HV9.out.c1; go_simp <;> with_reducible rfl
            (try simp only [Act.put, List.setIfInBounds_toArray, List.set_cons_zero, List.set_cons_succ])
            refine wpAnyH_take (i := 6) (oi := { dst := some 132, op := _, type := _, pos := _, after := _, guard := _ }) (v := ?v132) rfl (by kernel_rfl) (by kernel_rfl) (by kernel_rfl) (fun _ _ _ h => h) (Or.inl ⟨by rfl, ?y132⟩) (by assumption) ?r132
            case y132 => intro w9 hSw; go_simp <;> with_reducible rfl
            (try simp only [Act.put, List.setIfInBounds_toArray, List.set_cons_zero, List.set_cons_succ])
            refine wpAnyH_take (i := 7) (oi := { dst := some 133, op := _, type := _, pos := _, after := _, guard := _ }) (v := ?v133) rfl (by kernel_rfl) (by kernel_rfl) (by kernel_rfl) (fun _ _ _ h => h) (Or.inl ⟨by rfl, ?y133⟩) (by assumption) ?r133
            case y133 => intro w9 hSw; go_simp <;> with_reducible rfl
            (try simp only [Act.put, List.setIfInBounds_toArray, List.set_cons_zero, List.set_cons_succ])
            refine wpAnyH_take (i := 8) (oi := { dst := some 134, op := _, type := _, pos := _, after := _, guard := _ }) (v := ?v134) rfl (by kernel_rfl) (by kernel_rfl) (by kernel_rfl) (fun _ _ _ h => h) (Or.inl ⟨by rfl, ?y134⟩) (by assumption) ?r134
            case y134 => intro w9 hSw; go_simp <;> with_reducible rfl
            (try simp only [Act.put, List.setIfInBounds_toArray, List.set_cons_zero, List.set_cons_succ])
            refine wpAnyH_take (i := 9) (oi := { dst := some 135, op := _, type := _, pos := _, after := _, guard := _ }) (v := ?v135) rfl (by kernel_rfl) (by kernel_rfl) (by kernel_rfl) (fun _ _ _ h => h) (Or.inl ⟨by rfl, ?y135⟩) (by assumption) ?r135
            case y135 => intro w9 hSw; go_simp <;> with_reducible rfl
            (try simp only [Act.put, List.setIfInBounds_toArray, List.set_cons_zero, List.set_cons_succ])
            refine wpAnyH_take (i := 10) (oi := { dst := some 136, op := _, type := _, pos := _, after := _, guard := _ }) (v := ?v136) rfl (by kernel_rfl) (by kernel_rfl) (by kernel_rfl) (fun _ _ _ h => h) (Or.inl ⟨by rfl, ?y136⟩) (by assumption) ?r136
            case y136 => intro w9 hSw; have HV9 := Lib.hid (HVd.out.step hSw); have c1 := cvs HSX (HRd.out.later hSw); have c2 := cvb HSX HV9; go_simp <;> with_reducible rfl
            (try simp only [Act.put, List.setIfInBounds_toArray, List.set_cons_zero, List.set_cons_succ])
            refine wpAnyH_take (i := 11) (oi := { dst := some 137, op := _, type := _, pos := _, after := _, guard := _ }) (v := ?v137) rfl (by kernel_rfl) (by kernel_rfl) (by kernel_rfl) (fun _ _ _ h => h) (Or.inl ⟨by rfl, ?y137⟩) (by assumption) ?r137
            case y137 => intro w9 hSw; go_simp <;> with_reducible rfl
            (try simp only [Act.put, List.setIfInBounds_toArray, List.set_cons_zero, List.set_cons_succ])
            refine wpAnyH_take (i := 12) (oi := { dst := some 138, op := _, type := _, pos := _, after := _, guard := _ }) (v := ?v138) rfl (by kernel_rfl) (by kernel_rfl) (by kernel_rfl) (fun _ _ _ h => h) (Or.inl ⟨by rfl, ?y138⟩) (by assumption) ?r138
            case y138 => intro w9 hSw; have HV9 := Lib.hid (HVd.out.step hSw); have c1 := cvs HSX (HRd.out.later hSw); have c2 := cvb HSX HV9; go_simp <;> with_reducible rfl
            (try simp only [Act.put, List.setIfInBounds_toArray, List.set_cons_zero, List.set_cons_succ])
            refine wpAnyH_take (i := 13) (oi := { dst := some 139, op := _, type := _, pos := _, after := _, guard := _ }) (v := ?v139) rfl (by kernel_rfl) (by kernel_rfl) (by kernel_rfl) (fun _ _ _ h => h) (Or.inl ⟨by rfl, ?y139⟩) (by assumption) ?r139
            case y139 => intro w9 hSw; go_simp <;> with_reducible rfl
            (try simp only [Act.put, List.setIfInBounds_toArray, List.set_cons_zero, List.set_cons_succ])
            refine wpAnyH_take (i := 14) (oi := { dst := some 140, op := _, type := _, pos := _, after := _, guard := _ }) (v := ?v140) rfl (by kernel_rfl) (by kernel_rfl) (by kernel_rfl) (fun _ _ _ h => h) (Or.inl ⟨by rfl, ?y140⟩) (by assumption) ?r140
            case y140 => intro w9 hSw; go_simp <;> with_reducible rfl
            (try simp only [Act.put, List.setIfInBounds_toArray, List.set_cons_zero, List.set_cons_succ])
            refine wpAnyH_take (i := 15) (oi := { dst := some 141, op := _, type := _, pos := _, after := _, guard := _ }) (v := ?v141) rfl (by kernel_rfl) (by kernel_rfl) (by kernel_rfl) (fun _ _ _ h => h) (Or.inl ⟨by rfl, ?y141⟩) (by assumption) ?r141
            case y141 => intro w9 hSw; go_simp <;> with_reducible rfl
            (try simp only [Act.put, List.setIfInBounds_toArray, List.set_cons_zero, List.set_cons_succ])
            refine wpAnyH_take (i := 16) (oi := { dst := some 142, op := _, type := _, pos := _, after := _, guard := _ }) (v := ?v142) rfl (by kernel_rfl) (by kernel_rfl) (by kernel_rfl) (fun _ _ _ h => h) (Or.inl ⟨by rfl, ?y142⟩) (by assumption) ?r142
            case y142 => intro w9 hSw; go_simp <;> with_reducible rfl
            (try simp only [Act.put, List.setIfInBounds_toArray, List.set_cons_zero, List.set_cons_succ])
            refine wpAnyH_take (i := 17) (oi := { dst := some 143, op := _, type := _, pos := _, after := _, guard := _ }) (v := ?v143) rfl (by kernel_rfl) (by kernel_rfl) (by kernel_rfl) (fun _ _ _ h => h) (Or.inl ⟨by rfl, ?y143⟩) (by assumption) ?r143
            case y143 => intro w9 hSw; have HV9 := Lib.hid (HVd.out.step hSw); have c0 := HV9.out.c0; have c1 := HV9.out.c1; go_simp <;> with_reducible rfl
            (try simp only [Act.put, List.setIfInBounds_toArray, List.set_cons_zero, List.set_cons_succ])
            refine wpAnyH_take (i := 20) (oi := { dst := some 146, op := _, type := _, pos := _, after := _, guard := _ }) (v := ?v146) rfl (by kernel_rfl) (by kernel_rfl) (by kernel_rfl) (fun _ _ _ h => h) (Or.inl ⟨by rfl, ?y146⟩) (by assumption) ?r146
            case y146 => intro w9 hSw; go_simp <;> with_reducible rfl
            (try simp only [Act.put, List.setIfInBounds_toArray, List.set_cons_zero, List.set_cons_succ])
            refine wpAnyH_take (i := 21) (oi := { dst := some 147, op := _, type := _, pos := _, after := _, guard := _ }) (v := ?v147) rfl (by kernel_rfl) (by kernel_rfl) (by kernel_rfl) (fun _ _ _ h => h) (Or.inl ⟨by rfl, ?y147⟩) (by assumption) ?r147
            case y147 => intro w9 hSw; have HV9 := Lib.hid (HVd.out.step hSw); have c0 := HV9.out.c0; have c1 := HV9.out.c1; go_simp <;> with_reducible rfl
            (try simp only [Act.put, List.setIfInBounds_toArray, List.set_cons_zero, List.set_cons_succ])
            refine wpAnyH_ready (rs := [18]) (by kernel_rfl) (by simp) (AllReadyH.cons (o := { dst := some 144, op := _, type := _, pos := _, after := _, guard := _ }) rfl (fun K hK => ?_) AllReadyH.nil)
            go_simp
            go_at_call 21; refine (zig_any n _ n0 n1).mono ?_; rintro e w6 ⟨rfl, rfl⟩; rw [HZ.out]
            refine hK.out _ _ ?_ (fun hHeld144 => ?_)
            · exact Below.refl _ _
            clear hK K
            (try simp only [Act.put, List.setIfInBounds_toArray, List.set_cons_zero, List.set_cons_succ])
            refine wpAnyH_ready (rs := [19]) (by kernel_rfl) (by simp) (AllReadyH.cons (o := { dst := some 145, op := _, type := _, pos := _, after := _, guard := _ }) rfl (fun K hK => ?_) AllReadyH.nil)
            go_simp
            go_at_call 23; refine (zag_any Z _ HZ0.out.1 HZ0.out.2).mono ?_; rintro e w6 ⟨rfl, rfl⟩; rw [HZZ.out]
            refine hK.out _ _ ?_ (fun hHeld145 => ?_)
            · exact Below.refl _ _
            clear hK K
            (try simp only [Act.put, List.setIfInBounds_toArray, List.set_cons_zero, List.set_cons_succ])
            refine wpAnyH_take (i := 22) (oi := { dst := some 148, op := _, type := _, pos := _, after := _, guard := _ }) (v := ?v148) rfl (by kernel_rfl) (by kernel_rfl) (by kernel_rfl) (fun _ _ _ h => h) (Or.inl ⟨by rfl, ?y148⟩) (by assumption) ?r148
            case y148 => intro w9 hSw; go_simp <;> with_reducible rfl
            (try simp only [Act.put, List.setIfInBounds_toArray, List.set_cons_zero, List.set_cons_succ])
            refine wpAnyH_take (i := 23) (oi := { dst := some 149, op := _, type := _, pos := _, after := _, guard := _ }) (v := ?v149) rfl (by kernel_rfl) (by kernel_rfl) (by kernel_rfl) (fun _ _ _ h => h) (Or.inl ⟨by rfl, ?y149⟩) (by assumption) ?r149
            case y149 => intro w9 hSw; go_simp <;> with_reducible rfl
            (try simp only [Act.put, List.setIfInBounds_toArray, List.set_cons_zero, List.set_cons_succ])
            refine wpAnyH_take (i := 24) (oi := { dst := some 150, op := _, type := _, pos := _, after := _, guard := _ }) (v := ?v150) rfl (by kernel_rfl) (by kernel_rfl) (by kernel_rfl) (fun _ _ _ h => h) (Or.inl ⟨by rfl, ?y150⟩) (by assumption) ?r150
            case y150 => intro w9 hSw; go_simp <;> with_reducible rfl
            (try simp only [Act.put, List.setIfInBounds_toArray, List.set_cons_zero, List.set_cons_succ])
            refine wpAnyH_take (i := 25) (oi := { dst := some 151, op := _, type := _, pos := _, after := _, guard := _ }) (v := ?v151) rfl (by kernel_rfl) (by kernel_rfl) (by kernel_rfl) (fun _ _ _ h => h) (Or.inl ⟨by rfl, ?y151⟩) (by assumption) ?r151
            case y151 => intro w9 hSw; go_simp <;> with_reducible rfl
            (try simp only [Act.put, List.setIfInBounds_toArray, List.set_cons_zero, List.set_cons_succ])
            refine wpAnyH_take (i := 26) (oi := { dst := some 152, op := _, type := _, pos := _, after := _, guard := _ }) (v := ?v152) rfl (by kernel_rfl) (by kernel_rfl) (by kernel_rfl) (fun _ _ _ h => h) (Or.inl ⟨by rfl, ?y152⟩) (by assumption) ?r152
            case y152 => intro w9 hSw; have HV9 := Lib.hid (HVd.out.step hSw); have c0 := HV9.out.c0; have c1 := HV9.out.c1; go_simp <;> with_reducible rfl
            (try simp only [Act.put, List.setIfInBounds_toArray, List.set_cons_zero, List.set_cons_succ])
            refine wpAnyH_take (i := 29) (oi := { dst := some 155, op := _, type := _, pos := _, after := _, guard := _ }) (v := ?v155) rfl (by kernel_rfl) (by kernel_rfl) (by kernel_rfl) (fun _ _ _ h => h) (Or.inl ⟨by rfl, ?y155⟩) (by assumption) ?r155
            case y155 => intro w9 hSw; go_simp <;> with_reducible rfl
            (try simp only [Act.put, List.setIfInBounds_toArray, List.set_cons_zero, List.set_cons_succ])
            refine wpAnyH_take (i := 30) (oi := { dst := some 156, op := _, type := _, pos := _, after := _, guard := _ }) (v := ?v156) rfl (by kernel_rfl) (by kernel_rfl) (by kernel_rfl) (fun _ _ _ h => h) (Or.inl ⟨by rfl, ?y156⟩) (by assumption) ?r156
            case y156 => intro w9 hSw; have HV9 := Lib.hid (HVd.out.step hSw); have c0 := HV9.out.c0; have c1 := HV9.out.c1; go_simp <;> with_reducible rfl
            (try simp only [Act.put, List.setIfInBounds_toArray, List.set_cons_zero, List.set_cons_succ])
            refine wpAnyH_ready (rs := [27]) (by kernel_rfl) (by simp) (AllReadyH.cons (o := { dst := some 153, op := _, type := _, pos := _, after := _, guard := _ }) rfl (fun K hK => ?_) AllReadyH.nil)
            go_simp
            go_at_call 23; refine (zag_any (u : Int) _ (by omega) (by omega)).mono ?_; rintro e w6 ⟨rfl, rfl⟩; rw [HG.out]
            refine hK.out _ _ ?_ (fun hHeld153 => ?_)
            · exact Below.refl _ _
            clear hK K
            (try simp only [Act.put, List.setIfInBounds_toArray, List.set_cons_zero, List.set_cons_succ])
            refine wpAnyH_ready (rs := [28]) (by kernel_rfl) (by simp) (AllReadyH.cons (o := { dst := some 154, op := _, type := _, pos := _, after := _, guard := _ }) rfl (fun K hK => ?_) AllReadyH.nil)
            go_simp
            go_at_call 21; refine (zig_any G _ HG0.out.1 HG0.out.2).mono ?_; rintro e w6 ⟨rfl, rfl⟩; rw [HGG.out]
            refine hK.out _ _ ?_ (fun hHeld154 => ?_)
            · exact Below.refl _ _
            clear hK K
            (try simp only [Act.put, List.setIfInBounds_toArray, List.set_cons_zero, List.set_cons_succ])
            refine wpAnyH_take (i := 31) (oi := { dst := some 157, op := _, type := _, pos := _, after := _, guard := _ }) (v := ?v157) rfl (by kernel_rfl) (by kernel_rfl) (by kernel_rfl) (fun _ _ _ h => h) (Or.inl ⟨by rfl, ?y157⟩) (by assumption) ?r157
            case y157 => intro w9 hSw; go_simp <;> with_reducible rfl
            (try simp only [Act.put, List.setIfInBounds_toArray, List.set_cons_zero, List.set_cons_succ])
            refine wpAnyH_take (i := 32) (oi := { dst := some 158, op := _, type := _, pos := _, after := _, guard := _ }) (v := ?v158) rfl (by kernel_rfl) (by kernel_rfl) (by kernel_rfl) (fun _ _ _ h => h) (Or.inl ⟨by rfl, ?y158⟩) (by assumption) ?r158
            case y158 => intro w9 hSw; go_simp <;> with_reducible rfl
            (try simp only [Act.put, List.setIfInBounds_toArray, List.set_cons_zero, List.set_cons_succ])
            refine wpAnyH_done (by kernel_rfl) ?_ _
            go_wp2_with fail
            go_meet
            exact ⟨rfl, HVd⟩
          case rest =>
            obtain ⟨rfl, hcut⟩ := hcut
            clear HV x0 x1 x2 x3 xb HR5
            have HV := hcut; clear hcut
            have x0 := HV.out.c0
            have x1 := HV.out.c1
            have x2 := HV.out.c2
            have x3 := HV.out.c3
            obtain ⟨fv, hfv⟩ : ∃ T, fVal n b s = T := ⟨_, rfl⟩
            obtain ⟨fe, hfe⟩ : ∃ T, fErr n b s = T := ⟨_, rfl⟩
            obtain ⟨wv, hwv⟩ : ∃ T, wVal u b s = T := ⟨_, rfl⟩
            obtain ⟨we, hwe⟩ : ∃ T, wErr u b s = T := ⟨_, rfl⟩
            have HFV := Lib.hid hfv; have HFE := Lib.hid hfe; have HWV := Lib.hid hwv; have HWE := Lib.hid hwe
            clear hfv hfe hwv hwe
            have q3 : (n != n) = false := bne_self_eq_false _
            go_upto_if 170 with (go_at_call 25; refine (fit_any n b s _ n0 n1 b0 b1).mono ?_; rintro e w6 ⟨rfl, rfl⟩; rw [HFV.out, HFE.out])
            go_cut [] (fun wd => Hid (V4 w (.slice A L c) xs n u b s wd))
            case first => as_aux_lemma =>
              by_cases hf0 : fe = 0
              · obtain ⟨m, hm, hm64, hmw, hme⟩ := widen_fit (HFE.out.trans hf0)
                obtain rfl : fv = (m : Int) := by rw [← HFV.out]; exact hm
                subst hf0
                have HMW := Lib.hid hmw; have HME := Lib.hid hme
                clear hmw hme hm
                go_wp2_with (go_at_call 27; refine (widen_any m b s _ hm64 b0 b1).mono ?_; rintro e w6 ⟨rfl, rfl⟩; rw [HMW.out, HME.out])
                go_meet
                exact HV
              · have j : (fe == 0) = false := beq_eq_false_iff_ne.2 hf0
                go_wp2_with fail
                go_meet
                exact HV
            case rest => as_aux_lemma =>
              clear HV x0 x1 x2 x3
              have HV := hcut; clear hcut
              have x0 := HV.out.c0
              have x1 := HV.out.c1
              have x2 := HV.out.c2
              have x3 := HV.out.c3
              go_upto_if 199 with (go_at_call 27; refine (widen_any u b s _ hu b0 b1).mono ?_; rintro e w6 ⟨rfl, rfl⟩; rw [HWV.out, HWE.out])
              go_cut [] (fun wd => Hid (V4 w (.slice A L c) xs n u b s wd))
              case first => as_aux_lemma =>
                by_cases hw0 : we = 0
                · have hfw := fit_widen (HWE.out.trans hw0)
                  rw [HWV.out] at hfw
                  obtain ⟨r0, r1, h3, h4⟩ := hfw
                  subst hw0
                  have HF3 := Lib.hid h3; have HF4 := Lib.hid h4
                  clear h3 h4
                  go_wp2_with (go_at_call 25; refine (fit_any wv b s _ r0 r1 b0 b1).mono ?_; rintro e w6 ⟨rfl, rfl⟩; rw [HF3.out, HF4.out])
                  go_meet
                  exact HV
                · have j : (we == 0) = false := beq_eq_false_iff_ne.2 hw0
                  go_wp2_with fail
                  go_meet
                  exact HV
              case rest => as_aux_lemma =>
                clear HV x0 x1 x2 x3
                have HV := hcut; clear hcut
                go_wp2_with (go_at_call 12; (with_reducible refine (awake_any _).mono ?_); rintro e w2 ⟨rfl, hb⟩; replace HV := Lib.hid (HV.out.step hb); clear hb)
                go_ret
                exact ⟨rfl, HV.out.bel⟩
end Go.Proofs.Ytkidgijoopdidaa
