/- The law HmacParts: the walk. -/
import Derived.Test.YtaeicjgkoofmpaaDoorHmacT
namespace Go.Proofs.YtaeicjgkoofmpaaDoor
open Go.RowKit
set_option linter.unusedVariables false

theorem ON.cell {w : World} {B i n c : Nat} {A : Option Addr} {l : List Nat} (h : ON w B (.slice A n c) l) (hn : l.length = n) (hi : i < n) : ∃ g, A = some ⟨g, 0, none⟩ ∧ B ≤ g ∧ w.cell? ⟨g, i, none⟩ = some (.int .u8 (l.getD i 0 : Nat)) ∧ w.frozen? ⟨g, i, none⟩ = false := by
  have h' : w.ownsRow B 5 1 (.slice A n c) l.length (yL l) := h
  rcases h'.2 with ⟨e, h0⟩ | ⟨g, c', cur, e, hb, _⟩
  · omega
  · simp only [Value.slice.injEq] at e
    obtain ⟨rfl, hn', rfl⟩ := e
    rw [hn'] at h'
    refine ⟨g, rfl, hb, ?_, h'.frozenAt i⟩
    rw [h'.cellAt i (by omega), yL_get (by omega)]
theorem ON.put {w : World} {B i n c g x : Nat} {l : List Nat} (h : ON w B (.slice (some ⟨g, 0, none⟩) n c) l) (hn : l.length = n) : ON (w.setCell ⟨g, i, none⟩ (.int .u8 x)) B (.slice (some ⟨g, 0, none⟩) n c) (l.set i x) ∧ w.grownBy (w.setCell ⟨g, i, none⟩ (.int .u8 x)) (some g) := by
  subst hn
  have h' : w.ownsRow B 5 1 (.slice (some ⟨g, 0, none⟩) l.length c) l.length (yL l) := h
  obtain ⟨h1, h2⟩ := h'.stored i (.int .u8 x)
  refine ⟨?_, h2⟩
  unfold ON
  rw [List.length_set, show yL (l.set i x) = (yL l).set i (.int .u8 x) by simp [yL, List.map_set]]
  exact h1
/-- A mac, and bytes of one's own beside it. -/
structure MS (w wr : World) (g h : Nat) (key : List Nat) (v : Value) (m : List Nat) : Prop where
  lo : w.heap.size ≤ g ∧ w.heap.size ≤ h
  mx : MX wr g h key m
  own : ON wr w.heap.size v m
  bel : Below w.heap.size w wr
  bb : BB m
structure MT (w wr : World) (g h : Nat) (key : List Nat) (v : Value) (m xs : List Nat) : Prop where
  lo : w.heap.size ≤ g ∧ w.heap.size ≤ h
  mx : MX wr g h key (m ++ xs)
  own : ON wr w.heap.size v m
  bel : Below w.heap.size w wr
  bb : BB (m ++ xs)
theorem MS.write {w wr w1 : World} {g h : Nat} {key m xs : List Nat} {v : Value} (k : MS w wr g h key v m) (hb : BB xs) (hx : MX w1 g h key (m ++ xs)) (hg : wr.grownBy w1 (some h)) : MT w w1 g h key v m xs :=
  ⟨k.lo, hx, k.own.grown k.mx.hash hg, k.bel.grown hg k.bel.size (fun j e => by cases e; exact k.lo.2), k.bb.app hb⟩
theorem MX.beside {w1 w2 : World} {g h B : Nat} {key m xs : List Nat} {v : Value} (k : MX w1 g h key m) (ho : ON w1 B v xs) (hg : w1.grownBy w2 v.ownBlock) : MX w2 g h key m :=
  ⟨k.mac.grownY hg (ho.apartX k.mac (by decide)), k.hash.grown hg (ho.apart k.hash)⟩
theorem MT.append {w w1 w2 : World} {g h : Nat} {key m xs : List Nat} {v v2 : Value} (k : MT w w1 g h key v m xs) (hn : ON w2 w.heap.size v2 (m ++ xs)) (hg : w1.grownBy w2 v.ownBlock) : MS w w2 g h key v2 (m ++ xs) :=
  ⟨k.lo, k.mx.beside k.own hg, hn, k.bel.grown hg k.bel.size (fun j e => (World.ownsRow.lt k.own j e).1), k.bb⟩
theorem MS.step {w wr W : World} {g h : Nat} {key m : List Nat} {v : Value} (k : MS w wr g h key v m) (hb : Below wr.heap.size wr W) : MS w W g h key v m :=
  ⟨k.lo, k.mx.step hb, k.own.later hb, bl_call k.bel hb, k.bb⟩
/-- A mac, and the bytes of which its key was copied. -/
structure ML (w wr : World) (g h : Nat) (key : List Nat) (v : Value) (p : Nat) (l : List Nat) : Prop where
  lo : w.heap.size ≤ g ∧ w.heap.size ≤ h
  mx : MX wr g h key []
  own : ON wr w.heap.size v l
  bel : Below w.heap.size w wr
  bb : BB l
  len : l.length = p
theorem BB.set {l : List Nat} (h : BB l) (i : Nat) {x : Nat} (hx : x < 256) : BB (l.set i x) := fun y hy => (List.mem_or_eq_of_mem_set hy).elim (h y) (fun e => by rw [e]; exact hx)
theorem ML.put {w wr : World} {g h p c gm i x : Nat} {key l : List Nat} (k : ML w wr g h key (.slice (some ⟨gm, 0, none⟩) p c) p l) (hx : x < 256) : ML w (wr.setCell ⟨gm, i, none⟩ (.int .u8 x)) g h key (.slice (some ⟨gm, 0, none⟩) p c) p (l.set i x) := by
  obtain ⟨h1, h2⟩ := k.own.put (i := i) (x := x) k.len
  exact ⟨k.lo, k.mx.beside k.own h2, h1, k.bel.grown h2 k.bel.size (fun j e => (World.ownsRow.lt k.own j e).1), k.bb.set i hx, by rw [List.length_set]; exact k.len⟩

set_option maxRecDepth 100000 in
set_option maxHeartbeats 8000000 in
theorem hparts_any (v0 v1 : Value) (key : List Nat) (ps : List (List Nat)) (w : World) (hv0 : RN w v0 key) (hbv0 : BB key) (hp1 : PN w v1 ps) (hV : VK w) :
    Calls Tryd.prog 8 #[v0, v1] w (Gives w (.bool true)) := by
  obtain ⟨A0, c0, rfl⟩ := hv0.len
  obtain ⟨p, hp⟩ : ∃ p, key.length = p := ⟨_, rfl⟩
  rw [hp] at hv0 ⊢
  have Rv0 := Lib.hid hv0; have Bv0 := Lib.hid hbv0; have Lv0 := Lib.hid hp
  obtain ⟨N, hN⟩ : ∃ N, ps.length = N := ⟨_, rfl⟩
  obtain ⟨A, c, rfl⟩ := hp1.len
  have HP := Lib.hid hp1
  rw [hN] at HP ⊢
  have HNN := Lib.hid hN
  clear hv0 hbv0 hp hN hp1
  have HV := Lib.hid hV; clear hV
  by_cases hN10 : N ≤ 10
  · by_cases h1 : p ≤ 300
    · go_enter Tryd.func8, Tryd.ntmps8
      go_wp2_with (first
        | (at_builtin; refine wpList_append_on _ rfl _ _ rfl w.heap.size _ (.slice A0 p c0) [] key rfl (on_new w [] 0 rfl (by omega)) rfl (Rv0.out.later (bl_self w _)) (by simp) (by have := Lv0.out; simp; omega) ?_; intro v3 w3 hn hg; rw [List.nil_append] at hn; have O3 : Hid (ON w3 w.heap.size v3 key) := Lib.hid hn; have B3 : Hid (Below w.heap.size w w3) := Lib.hid ((bl_self w _).grown hg (by simp) (fun k e => by cases e; exact Nat.le_refl _)); clear hn hg)
        | (go_at_call 29; refine (hnew_any key _ _ O3.out.rn Bv0.out (by rw [Lv0.out]; omega) (HV.out.below B3.out)).mono ?_; rintro e w4 ⟨g, h, rfl, h1', h2', h3', h4', hb⟩; have L4 : Hid (ML w w4 g h key v3 p key) := Lib.hid ⟨⟨Nat.le_trans B3.out.size h3', Nat.le_trans B3.out.size h4'⟩, ⟨h1', by rw [List.append_nil]; exact h2'⟩, O3.out.later hb, bl_call B3.out hb, Bv0.out, Lv0.out⟩; clear h1' h2' h3' h4' hb))
      obtain ⟨A3, c3, hv3⟩ := L4.out.own.len
      rw [Lv0.out] at hv3
      subst hv3
      clear O3 B3
      go_loopw [7] (fun i wr => ∃ (k : Nat) (l : List Nat), k ≤ p ∧ i = .int .i64 k ∧ Hid (ML w wr g h key (.slice A3 p c3) p l)) (fun i _ => p - (intOf i).toNat)
      case atStart => exact ⟨0, key, by omega, rfl, L4⟩
      case round =>
        clear L4
        obtain ⟨k, l, hk, rfl, HL⟩ := hrel
        by_cases hlt : k < p
        · obtain ⟨gm, rfl, hgm, cm, fm⟩ := HL.out.own.cell HL.out.len hlt
          obtain ⟨x, hx⟩ : ∃ x, l.getD k 0 = x := ⟨_, rfl⟩
          rw [hx] at cm
          have hx8 : x < 256 := by rw [← hx]; exact HL.out.bb.get k
          obtain ⟨z, hz⟩ : ∃ z, (x ^^^ 255) = z := ⟨_, rfl⟩
          have he : bits .xor .u8 (x : Int) 255 = (z : Int) := by rw [← hz]; exact u8_xor_nat x 255 hx8 (by omega)
          have hz8 : z < 256 := by rw [← hz]; exact Nat.xor_lt_two_pow (n := 8) hx8 (by omega)
          have HN2 := Lib.hid (HL.out.put (i := k) hz8)
          clear hx hz
          go_wp2_with fail
          go_roundw
          case rel => exact ⟨k + 1, l.set k z, by omega, by go_num, HN2⟩
          case measure => simp [intOf]; omega
        · have HS : Hid (MS w wr g h key (.slice none 0 0) []) := Lib.hid ⟨HL.out.lo, HL.out.mx, ON.nil _ _ HL.out.bel.size, HL.out.bel, BB.nil⟩
          clear HL

          go_wp2_with fail
          go_loopw [8, 9] (fun a i wr => ∃ (k : Nat) (m : List Nat), i = .int .i64 k ∧ k ≤ N ∧ Hid (MS w wr g h key a m) ∧ Hid (m.length ≤ 200 * k)) (fun _ i _ => N - (intOf i).toNat)
          case atStart => exact ⟨0, [], rfl, by omega, HS, Lib.hid (by simp)⟩
          case round =>
            clear HS
            obtain ⟨k, m, rfl, hk, HPS, HM⟩ := hrel
            by_cases hlt : k < N
            · obtain ⟨gp, off, u, xs, hvA, hu, hcell, hrn, hbb⟩ : ∃ gp off u, ∃ xs : List Nat, A = some ⟨gp, off, none⟩ ∧ gp < w.heap.size ∧ w.cell? ⟨gp, off + k, none⟩ = some u ∧ RN w u xs ∧ BB xs := by
                have hpn := HP.out
                rcases hpn with ⟨A', c', hv, rfl⟩ | ⟨gp, off, c', hv, hg, h0, h1, h2, hi⟩
                · have := HNN.out; simp at this; omega
                · obtain ⟨u, hu1, hu2, hu3, _⟩ := hi k (by rw [HNN.out]; exact hlt)
                  simp only [Value.slice.injEq] at hv
                  exact ⟨gp, off, u, _, hv.1, hg, hu1, hu2, hu3⟩
              subst hvA
              obtain ⟨Au, cu, rfl⟩ := hrn.len
              obtain ⟨q, hq⟩ : ∃ q, xs.length = q := ⟨_, rfl⟩
              rw [hq] at hcell hrn
              have c1 : wr.cell? ⟨gp, off + k, none⟩ = some (.slice Au q cu) := (HPS.out.bel.cell (p := ⟨gp, _, none⟩) hu).trans hcell
              have HX := Lib.hid hrn; have HXB := Lib.hid hbb; have HQ := Lib.hid hq; have HCE := Lib.hid hcell
              clear hrn hbb hq hcell
              by_cases hq200 : q ≤ 200
              · obtain ⟨Q, hQ⟩ : ∃ Q, (m ++ xs).length = Q := ⟨_, rfl⟩
                have hQb : Q ≤ 200 * (k + 1) := by have h1 := HM.out; have h2 := HQ.out; rw [List.length_append] at hQ; omega
                have hQ6 : Q ≤ 10000 := by omega
                have HQQ := Lib.hid hQ
                clear hQ
                go_upto_region 18 with (first
                  | (go_at_call 30; refine (mwrite_any g h key m xs _ _ HPS.out.mx (HX.out.later HPS.out.bel) HXB.out (by have := HQQ.out; rw [List.length_append] at this; omega) (HV.out.below HPS.out.bel)).mono ?_; rintro e w2 ⟨rfl, hh, hg⟩; have HPT : Hid (MT w w2 g h key _ m xs) := Lib.hid (HPS.out.write HXB.out hh hg); have c2 : w2.cell? ⟨gp, off + k, none⟩ = some (.slice Au q cu) := (HPT.out.bel.cell (p := ⟨gp, _, none⟩) hu).trans HCE.out; clear hh hg)
                  | (at_builtin; refine wpList_append_on _ rfl _ _ rfl w.heap.size _ (.slice Au q cu) m xs rfl HPT.out.own rfl (HX.out.later HPT.out.bel) HPT.out.bel.size (by have := HQQ.out; rw [List.length_append] at this; omega) ?_; intro v3 w3 hn hg; have HP3 : Hid (MS w w3 g h key v3 (m ++ xs)) := Lib.hid (HPT.out.append hn hg); clear hn hg; obtain ⟨A3', c3', rfl⟩ := HP3.out.own.len; rw [HQQ.out])
                  | (go_at_call 32; refine (mtag_any g h key (m ++ xs) _ HP3.out.mx Bv0.out HP3.out.bb (by rw [HQQ.out]; omega) (HV.out.below HP3.out.bel)).mono ?_; rintro e w4 ⟨rfl, hb⟩; have HP4 := Lib.hid (HP3.out.step hb); clear hb)
                  | ((with_reducible refine atOp ⟨none, .store 36 _ _, _, _, _, _⟩ ?_); refine wpList_store_row rfl 36 (.tmp 11) (.tmp 71) rfl w4.heap.size (yV (tagL key (m ++ xs))) rfl rfl 36 (yV (List.replicate 32 0)) (AR.made _ _ _) (info32 _ (tagL_len _ _)) (by rw [yV_size, yV_size, tagL_len]; rfl) (yV_one _) ?_; rw [World.setRow_alloc_new]))
                obtain ⟨T, hT⟩ : ∃ T, tagL key (m ++ xs) = T := ⟨_, rfl⟩
                have HT := Lib.hid hT
                have HTL : Hid (T.length = 32) := Lib.hid (by rw [← hT]; exact tagL_len _ _)
                rw [hT]
                have AD : Hid (AR (w4.alloc (.cells (yV T) 36)).drew w4.heap.size 36 (yV T)) := Lib.hid ((AR.made _ _ _).drawn 1)
                have HP6 : Hid (MS w (w4.alloc (.cells (yV T) 36)).drew g h key (.slice A3' Q c3') (m ++ xs)) := Lib.hid (by have := (HP4.out.step (bl_self _ (.cells (yV T) 36))).step (bl_drewN 1 (Below.refl _ _)); rw [HQQ.out] at this; exact this)
                clear hT
                refine wp_region_held_drew (S := fun W => AR W w4.heap.size 36 (yV T)) (by kernel_rfl) AD.out (fun hHeld => ?_)
                refine wpAnyH_take (i := 0) (oi := { dst := some 73, op := _, type := _, pos := _, after := _, guard := _ }) (v := ?v73x1) rfl (by kernel_rfl) (by kernel_rfl) (by kernel_rfl) (fun _ _ _ h => h) (Or.inl ⟨by rfl, ?y73x1⟩) hHeld ?r73x1
                case y73x1 => intro w9 hSw; go_simp <;> with_reducible rfl
                (try simp only [Act.put, List.setIfInBounds_toArray, List.set_cons_zero, List.set_cons_succ])
                refine wpAnyH_take (i := 1) (oi := { dst := some 74, op := _, type := _, pos := _, after := _, guard := _ }) (v := ?v74x2) rfl (by kernel_rfl) (by kernel_rfl) (by kernel_rfl) (fun _ _ _ h => h) (Or.inl ⟨by rfl, ?y74x2⟩) hHeld ?r74x2
                case y74x2 => intro w9 hSw; go_simp <;> with_reducible rfl
                (try simp only [Act.put, List.setIfInBounds_toArray, List.set_cons_zero, List.set_cons_succ])
                refine wpAnyH_take (i := 2) (oi := { dst := some 75, op := _, type := _, pos := _, after := _, guard := _ }) (v := ?v75x3) rfl (by kernel_rfl) (by kernel_rfl) (by kernel_rfl) (fun _ _ _ h => h) (Or.inl ⟨by rfl, ?y75x3⟩) hHeld ?r75x3
                case y75x3 => intro w9 hSw; go_simp <;> with_reducible rfl
                (try simp only [Act.put, List.setIfInBounds_toArray, List.set_cons_zero, List.set_cons_succ])
                refine wpAnyH_take (i := 3) (oi := { dst := some 76, op := _, type := _, pos := _, after := _, guard := _ }) (v := ?v76x4) rfl (by kernel_rfl) (by kernel_rfl) (by kernel_rfl) (fun _ _ _ h => h) (Or.inl ⟨by rfl, ?y76x4⟩) hHeld ?r76x4
                case y76x4 => intro w9 hSw; go_simp <;> with_reducible rfl
                (try simp only [Act.put, List.setIfInBounds_toArray, List.set_cons_zero, List.set_cons_succ])
                refine wpAnyH_take (i := 4) (oi := { dst := some 77, op := _, type := _, pos := _, after := _, guard := _ }) (v := ?v77x5) rfl (by kernel_rfl) (by kernel_rfl) (by kernel_rfl) (fun _ _ _ h => h) (Or.inl ⟨by rfl, ?y77x5⟩) hHeld ?r77x5
                case y77x5 => intro w9 hSw; go_simp <;> with_reducible rfl
                (try simp only [Act.put, List.setIfInBounds_toArray, List.set_cons_zero, List.set_cons_succ])
                refine wpAnyH_take (i := 5) (oi := { dst := some 78, op := _, type := _, pos := _, after := _, guard := _ }) (v := ?v78x6) rfl (by kernel_rfl) (by kernel_rfl) (by kernel_rfl) (fun _ _ _ h => h) (Or.inl ⟨by rfl, ?y78x6⟩) hHeld ?r78x6
                case y78x6 => intro w9 hSw; go_simp <;> with_reducible rfl
                (try simp only [Act.put, List.setIfInBounds_toArray, List.set_cons_zero, List.set_cons_succ])
                refine wpAnyH_take (i := 6) (oi := { dst := some 79, op := _, type := _, pos := _, after := _, guard := _ }) (v := ?v79x7) rfl (by kernel_rfl) (by kernel_rfl) (by kernel_rfl) (fun _ _ _ h => h) (Or.inl ⟨by rfl, ?y79x7⟩) hHeld ?r79x7
                case y79x7 => intro w9 hSw; go_simp <;> with_reducible rfl
                (try simp only [Act.put, List.setIfInBounds_toArray, List.set_cons_zero, List.set_cons_succ])
                refine wpAnyH_take (i := 7) (oi := { dst := some 80, op := _, type := _, pos := _, after := _, guard := _ }) rfl (by kernel_rfl) (by kernel_rfl) (by kernel_rfl) (fun _ _ _ h => h) (yields_row (by rfl) 36 (.tmp 11) rfl w4.heap.size rfl 36 (yV T) _ (fun _ h => h) Tryd.underlying36 rfl (info32 T HTL.out)) hHeld ?_
                (try simp only [Act.put, List.setIfInBounds_toArray, List.set_cons_zero, List.set_cons_succ])
                refine wpAnyH_take (i := 8) (oi := { dst := some 81, op := _, type := _, pos := _, after := _, guard := _ }) (v := ?v81x8) rfl (by kernel_rfl) (by kernel_rfl) (by kernel_rfl) (fun _ _ _ h => h) (Or.inl ⟨by rfl, ?y81x8⟩) hHeld ?r81x8
                case y81x8 => intro w9 hSw; go_simp <;> with_reducible rfl
                (try simp only [Act.put, List.setIfInBounds_toArray, List.set_cons_zero, List.set_cons_succ])
                refine wpAnyH_take (i := 9) (oi := { dst := some 82, op := _, type := _, pos := _, after := _, guard := _ }) (v := ?v82x9) rfl (by kernel_rfl) (by kernel_rfl) (by kernel_rfl) (fun _ _ _ h => h) (Or.inl ⟨by rfl, ?y82x9⟩) hHeld ?r82x9
                case y82x9 => intro w9 hSw; go_simp <;> with_reducible rfl
                (try simp only [Act.put, List.setIfInBounds_toArray, List.set_cons_zero, List.set_cons_succ])
                refine wpAnyH_ready (rs := [10]) (by kernel_rfl) (by simp) (AllReadyH.cons (o := { dst := some 83, op := _, type := _, pos := _, after := _, guard := _ }) rfl (fun K hK => ?_) AllReadyH.nil)
                go_simp
                go_at_call 23
                refine (htag_any key (m ++ xs) _ _ _ (Rv0.out.later HP6.out.bel) Bv0.out (by rw [Lv0.out]; omega) HP6.out.own.rn HP6.out.bb (by rw [HQQ.out]; omega) (HV.out.below HP6.out.bel)).mono ?_
                rintro e w7 ⟨rfl, hb⟩
                rw [HT.out]
                have HP7 := Lib.hid (HP6.out.step hb)
                refine hK.out _ _ (AD.out.step hb) (fun hHeld7 => ?_)
                clear hK K hb
                (try simp only [Act.put, List.setIfInBounds_toArray, List.set_cons_zero, List.set_cons_succ])
                refine wpAnyH_take (i := 11) (oi := { dst := some 84, op := _, type := _, pos := _, after := _, guard := _ }) (v := ?v84x10) rfl (by kernel_rfl) (by kernel_rfl) (by kernel_rfl) (fun _ _ _ h => h) (Or.inl ⟨by rfl, ?y84x10⟩) hHeld7 ?r84x10
                case y84x10 => intro w9 hSw; have e1 := eq32 T HTL.out w9; go_simp <;> with_reducible rfl
                (try simp only [Act.put, List.setIfInBounds_toArray, List.set_cons_zero, List.set_cons_succ])
                refine wpAnyH_take (i := 12) (oi := { dst := some 85, op := _, type := _, pos := _, after := _, guard := _ }) (v := ?v85x11) rfl (by kernel_rfl) (by kernel_rfl) (by kernel_rfl) (fun _ _ _ h => h) (Or.inl ⟨by rfl, ?y85x11⟩) hHeld7 ?r85x11
                case y85x11 => intro w9 hSw; go_simp <;> with_reducible rfl
                (try simp only [Act.put, List.setIfInBounds_toArray, List.set_cons_zero, List.set_cons_succ])
                refine wpAnyH_done (by kernel_rfl) ?_ _
                go_wp2_with fail
                go_roundw
                case rel => exact ⟨k + 1, m ++ xs, by go_num, by omega, HP7, Lib.hid (by rw [HQQ.out]; exact hQb)⟩
                case measure => simp [intOf]; omega
              · go_wp2_with (go_at_call 20; refine (hshown_any _ (HV.out.below HPS.out.bel)).mono ?_; rintro e w3 ⟨rfl, hb⟩; have B3 := Lib.hid (bl_call HPS.out.bel hb); clear hb)
                go_ret
                exact ⟨rfl, B3.out⟩
            · have hm : m.length ≤ 2000 := by have := HM.out; omega
              go_upto_region 23 with (first
                | (go_at_call 33; refine (mreset_any g h key m _ HPS.out.mx Bv0.out (HV.out.below HPS.out.bel)).mono ?_; rintro e w2 ⟨rfl, hh, hg⟩; have X2 := Lib.hid hh; have B2 := Lib.hid (HPS.out.bel.grown hg HPS.out.bel.size (fun j e => by cases e; exact HPS.out.lo.2)); clear hh hg)
                | (go_at_call 32; refine (mtag_any g h key [] _ X2.out Bv0.out BB.nil (by simp) (HV.out.below B2.out)).mono ?_; rintro e w4 ⟨rfl, hb⟩; have B4 := Lib.hid (bl_call B2.out hb); clear hb)
                | ((with_reducible refine atOp ⟨none, .store 36 _ _, _, _, _, _⟩ ?_); refine wpList_store_row rfl 36 (.tmp 13) (.tmp 92) rfl w4.heap.size (yV (tagL key [])) rfl rfl 36 (yV (List.replicate 32 0)) (AR.made _ _ _) (info32 _ (tagL_len _ _)) (by rw [yV_size, yV_size, tagL_len]; rfl) (yV_one _) ?_; rw [World.setRow_alloc_new]))
              obtain ⟨T, hT⟩ : ∃ T, tagL key [] = T := ⟨_, rfl⟩
              have HT := Lib.hid hT
              have HTL : Hid (T.length = 32) := Lib.hid (by rw [← hT]; exact tagL_len _ _)
              rw [hT]
              have AD : Hid (AR (w4.alloc (.cells (yV T) 36)).drew w4.heap.size 36 (yV T)) := Lib.hid ((AR.made _ _ _).drawn 1)
              have B6 : Hid (Below w.heap.size w (w4.alloc (.cells (yV T) 36)).drew) := Lib.hid (bl_drewN 1 (bl_alloc _ B4.out))
              clear hT
              refine wp_region_held_drew (S := fun W => AR W w4.heap.size 36 (yV T)) (by kernel_rfl) AD.out (fun hHeld => ?_)
              refine wpAnyH_take (i := 0) (oi := { dst := some 94, op := _, type := _, pos := _, after := _, guard := _ }) (v := ?v94x12) rfl (by kernel_rfl) (by kernel_rfl) (by kernel_rfl) (fun _ _ _ h => h) (Or.inl ⟨by rfl, ?y94x12⟩) hHeld ?r94x12
              case y94x12 => intro w9 hSw; go_simp <;> with_reducible rfl
              (try simp only [Act.put, List.setIfInBounds_toArray, List.set_cons_zero, List.set_cons_succ])
              refine wpAnyH_take (i := 1) (oi := { dst := some 95, op := _, type := _, pos := _, after := _, guard := _ }) (v := ?v95x13) rfl (by kernel_rfl) (by kernel_rfl) (by kernel_rfl) (fun _ _ _ h => h) (Or.inl ⟨by rfl, ?y95x13⟩) hHeld ?r95x13
              case y95x13 => intro w9 hSw; go_simp <;> with_reducible rfl
              (try simp only [Act.put, List.setIfInBounds_toArray, List.set_cons_zero, List.set_cons_succ])
              refine wpAnyH_take (i := 2) (oi := { dst := some 96, op := _, type := _, pos := _, after := _, guard := _ }) (v := ?v96x14) rfl (by kernel_rfl) (by kernel_rfl) (by kernel_rfl) (fun _ _ _ h => h) (Or.inl ⟨by rfl, ?y96x14⟩) hHeld ?r96x14
              case y96x14 => intro w9 hSw; go_simp <;> with_reducible rfl
              (try simp only [Act.put, List.setIfInBounds_toArray, List.set_cons_zero, List.set_cons_succ])
              refine wpAnyH_take (i := 3) (oi := { dst := some 97, op := _, type := _, pos := _, after := _, guard := _ }) rfl (by kernel_rfl) (by kernel_rfl) (by kernel_rfl) (fun _ _ _ h => h) (yields_row (by rfl) 36 (.tmp 13) rfl w4.heap.size rfl 36 (yV T) _ (fun _ h => h) Tryd.underlying36 rfl (info32 T HTL.out)) hHeld ?_
              (try simp only [Act.put, List.setIfInBounds_toArray, List.set_cons_zero, List.set_cons_succ])
              refine wpAnyH_take (i := 4) (oi := { dst := some 98, op := _, type := _, pos := _, after := _, guard := _ }) (v := ?v98x15) rfl (by kernel_rfl) (by kernel_rfl) (by kernel_rfl) (fun _ _ _ h => h) (Or.inl ⟨by rfl, ?y98x15⟩) hHeld ?r98x15
              case y98x15 => intro w9 hSw; go_simp <;> with_reducible rfl
              (try simp only [Act.put, List.setIfInBounds_toArray, List.set_cons_zero, List.set_cons_succ])
              refine wpAnyH_ready (rs := [5]) (by kernel_rfl) (by simp) (AllReadyH.cons (o := { dst := some 99, op := _, type := _, pos := _, after := _, guard := _ }) rfl (fun K hK => ?_) AllReadyH.nil)
              go_simp
              go_at_call 23
              refine (htag_any key [] _ _ _ (Rv0.out.later B6.out) Bv0.out (by rw [Lv0.out]; omega) (RN.nil _) BB.nil (by simp) (HV.out.below B6.out)).mono ?_
              rintro e w7 ⟨rfl, hb⟩
              rw [HT.out]
              have B7 := Lib.hid (bl_call B6.out hb)
              have A7 := Lib.hid (AD.out.step hb)
              refine hK.out _ _ A7.out (fun hHeld7 => ?_)
              clear hK K hb
              (try simp only [Act.put, List.setIfInBounds_toArray, List.set_cons_zero, List.set_cons_succ])
              refine wpAnyH_take (i := 6) (oi := { dst := some 100, op := _, type := _, pos := _, after := _, guard := _ }) (v := ?v100x16) rfl (by kernel_rfl) (by kernel_rfl) (by kernel_rfl) (fun _ _ _ h => h) (Or.inl ⟨by rfl, ?y100x16⟩) hHeld7 ?r100x16
              case y100x16 => intro w9 hSw; have e1 := eq32 T HTL.out w9; go_simp <;> with_reducible rfl
              (try simp only [Act.put, List.setIfInBounds_toArray, List.set_cons_zero, List.set_cons_succ])
              refine wpAnyH_take (i := 7) (oi := { dst := some 101, op := _, type := _, pos := _, after := _, guard := _ }) (v := ?v101x17) rfl (by kernel_rfl) (by kernel_rfl) (by kernel_rfl) (fun _ _ _ h => h) (Or.inl ⟨by rfl, ?y101x17⟩) hHeld7 ?r101x17
              case y101x17 => intro w9 hSw; go_simp <;> with_reducible rfl
              (try simp only [Act.put, List.setIfInBounds_toArray, List.set_cons_zero, List.set_cons_succ])
              refine wpAnyH_take (i := 8) (oi := { dst := some 102, op := _, type := _, pos := _, after := _, guard := _ }) (v := ?v102x18) rfl (by kernel_rfl) (by kernel_rfl) (by kernel_rfl) (fun _ _ _ h => h) (Or.inl ⟨by rfl, ?y102x18⟩) hHeld7 ?r102x18
              case y102x18 => intro w9 hSw; go_simp <;> with_reducible rfl
              (try simp only [Act.put, List.setIfInBounds_toArray, List.set_cons_zero, List.set_cons_succ])
              refine wpAnyH_ready (rs := [9]) (by kernel_rfl) (by simp) (AllReadyH.cons (o := { dst := some 103, op := _, type := _, pos := _, after := _, guard := _ }) rfl (fun K hK => ?_) AllReadyH.nil)
              go_simp
              go_at_call 20
              refine (hshown_any _ (HV.out.below B7.out)).mono ?_
              rintro e w8 ⟨rfl, hb⟩
              have B8 := Lib.hid (bl_call B7.out hb)
              have A8 := Lib.hid (A7.out.step hb)
              refine hK.out _ _ A8.out (fun hHeld8 => ?_)
              clear hK K hb
              (try simp only [Act.put, List.setIfInBounds_toArray, List.set_cons_zero, List.set_cons_succ])
              refine wpAnyH_take (i := 10) (oi := { dst := some 104, op := _, type := _, pos := _, after := _, guard := _ }) (v := ?v104x19) rfl (by kernel_rfl) (by kernel_rfl) (by kernel_rfl) (fun _ _ _ h => h) (Or.inl ⟨by rfl, ?y104x19⟩) hHeld8 ?r104x19
              case y104x19 => intro w9 hSw; go_simp <;> with_reducible rfl
              (try simp only [Act.put, List.setIfInBounds_toArray, List.set_cons_zero, List.set_cons_succ])
              refine wpAnyH_ready (rs := [11]) (by kernel_rfl) (by simp) (AllReadyH.cons (o := { dst := some 4, op := _, type := _, pos := _, after := _, guard := _ }) rfl (fun K hK => ?_) AllReadyH.nil)
              go_simp
              refine hK.out _ _ A8.out (fun hHeld9 => ?_)
              clear hK K
              (try simp only [Act.put, List.setIfInBounds_toArray, List.set_cons_zero, List.set_cons_succ])
              refine wpAnyH_done (by kernel_rfl) ?_ _
              go_wp2_with fail
              go_ret
              exact ⟨rfl, B8.out⟩
    · go_enter Tryd.func8, Tryd.ntmps8
      go_wp2_with (go_at_call 20; refine (hshown_any _ (HV.out)).mono ?_; rintro e w1 ⟨rfl, hb⟩; have HB := Lib.hid hb; clear hb)
      go_ret
      exact ⟨rfl, HB.out⟩
  · go_enter Tryd.func8, Tryd.ntmps8
    go_wp2_with (go_at_call 20; refine (hshown_any _ (HV.out)).mono ?_; rintro e w1 ⟨rfl, hb⟩; have HB := Lib.hid hb; clear hb)
    go_ret
    exact ⟨rfl, HB.out⟩
end Go.Proofs.YtaeicjgkoofmpaaDoor
