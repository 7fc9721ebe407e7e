/- Parse, on both sides. -/
import Derived.Test.YtipcanphkdodaaaDoorShaHa
import Derived.Test.YtipcanphkdodaaaDoorShaZe
import Derived.Test.YtipcanphkdodaaaDoorShaT
namespace Go.Proofs.YtipcanphkdodaaaDoor
open Go.RowKit
set_option linter.unusedVariables false

def okS (f : Nat → Nat) (i : Nat) : Bool := (List.range i).all (fun j => decide (0 ≤ digI (f (2 * j))) && decide (0 ≤ digI (f (2 * j + 1))))
def valS (f : Nat → Nat) : List Nat := (List.range 32).map (fun j => (16 * digI (f (2 * j)) + digI (f (2 * j + 1))).toNat)
theorem valS_len (f : Nat → Nat) : (valS f).length = 32 := by simp [valS]
theorem valS_get (f : Nat → Nat) {j : Nat} (h : j < 32) : (valS f).getD j 0 = (16 * digI (f (2 * j)) + digI (f (2 * j + 1))).toNat := by
  unfold valS
  rw [List.getD_eq_getElem?_getD, List.getElem?_map, List.getElem?_range h]; rfl
theorem okS_succ (f : Nat → Nat) (i : Nat) : okS f (i + 1) = (okS f i && (decide (0 ≤ digI (f (2 * i))) && decide (0 ≤ digI (f (2 * i + 1))))) := by
  unfold okS; rw [List.range_succ, List.all_append]; simp
theorem okS_le (f : Nat → Nat) {i n : Nat} (h : i ≤ n) (hn : okS f n = true) : okS f i = true := by
  unfold okS at *
  rw [List.all_eq_true] at *
  exact fun j hj => hn j (List.mem_range.2 (Nat.lt_of_lt_of_le (List.mem_range.1 hj) h))
/-- What Parse returns of a string of n bytes f. -/
def pD (n : Nat) (f : Nat → Nat) : List Nat := if n = 64 ∧ okS f 32 = true then valS f else List.replicate 32 0
def pE (n : Nat) (f : Nat → Nat) : Int := if n = 64 ∧ okS f 32 = true then 0 else 6
theorem pD_len (n : Nat) (f : Nat → Nat) : (pD n f).length = 32 := by unfold pD; split; exact valS_len f; simp
/-- The string s has the bytes f. -/
def Str (s : ByteArray) (f : Nat → Nat) : Prop := ∀ i (h : i < s.size), (s[i]'h).toNat = f i
structure PaI (w : World) (f : Nat → Nat) (i : Nat) (W : World) : Prop where
  res : AR W w.heap.size 32 (yV (List.replicate 32 0))
  row : AR W (w.heap.size + 1) 32 (yV (mix (valS f) (List.replicate 32 0) i))
  bel : Below w.heap.size w W
theorem PaI.start (w : World) (f : Nat → Nat) {Z Y : Array Value} (hZ : Z = yV (List.replicate 32 0)) (hY : Y = yV (List.replicate 32 0)) : PaI w f 0 ((w.alloc (.cells Z 32)).alloc (.cells Y 32)) := by
  subst hZ hY
  refine ⟨(AR.made _ _ _).more _, ?_, bl_alloc _ (bl_self _ _)⟩
  have := AR.made (w.alloc (.cells (yV (List.replicate 32 0)) 32)) 32 (yV (List.replicate 32 0))
  rw [size_more] at this
  exact this
theorem PaI.step {w W W' : World} {f : Nat → Nat} {i : Nat} (h : PaI w f i W) (hb : Below W.heap.size W W') : PaI w f i W' := ⟨h.res.step hb, h.row.step hb, bl_call h.bel hb⟩
theorem PaI.put {w W : World} {f : Nat → Nat} {i : Nat} (h : PaI w f i W) (hi : i < 32) {x : Nat} (hx : (valS f).getD i 0 = x) : PaI w f (i + 1) (W.setCell ⟨w.heap.size + 1, i, none⟩ (.int .u8 x)) := by
  subst hx
  refine ⟨h.res.kept (by simp) _, ?_, bl_set _ h.bel (show w.heap.size ≤ w.heap.size + 1 by omega)⟩
  have := h.row.put i (.int .u8 ((valS f).getD i 0 : Nat))
  rw [yV_set, mix_set (by rw [valS_len]; omega) (by rw [List.length_replicate]; omega)] at this
  exact this
set_option maxRecDepth 20000 in
set_option maxHeartbeats 2000000 in
theorem rparse_any (s : ByteArray) (f : Nat → Nat) (w : World) (hs : Str s f) (hf : ∀ i, f i < 256) (hsz : s.size ≤ 1000) :
    Calls Tryd.prog 24 #[.string s] w (Gives w (.tuple #[.agg (yV (pD s.size f)), .int .i64 (pE s.size f)])) := by
  have HST := Lib.hid hs; have HF := Lib.hid hf
  clear hs hf
  have HS : Hid (PaI w f 0 ((w.alloc (.cells (yV (List.replicate 32 0)) 32)).alloc (.cells (yV (List.replicate 32 0)) 32))) := Lib.hid (PaI.start w f rfl rfl)
  obtain ⟨n, hn⟩ : ∃ n, s.size = n := ⟨_, rfl⟩
  obtain ⟨D, hD⟩ : ∃ D, pD n f = D := ⟨_, rfl⟩
  obtain ⟨E, hE⟩ : ∃ E, pE n f = E := ⟨_, rfl⟩
  rw [hn, hD, hE]
  rw [hn] at hsz
  have HN := Lib.hid hn; have HD := Lib.hid hD; have HE := Lib.hid hE
  clear hD hE
  by_cases h64 : n = 64
  · subst h64
    go_enter Tryd.func24, Tryd.ntmps24
    go_wp2_with fail
    go_loopw [5] (fun t wr => ∃ i : Nat, i ≤ 32 ∧ t = .int .i64 i ∧ Hid (okS f i = true) ∧ Hid (PaI w f i wr)) (fun t _ => 32 - (intOf t).toNat)
    case atStart => exact ⟨0, by omega, rfl, Lib.hid rfl, HS⟩
    case round =>
      clear HS
      obtain ⟨i, hi, rfl, HOK, HP⟩ := hrel
      by_cases hlt : i < 32
      · obtain ⟨p, hp⟩ : ∃ p, 2 * i = p := ⟨_, rfl⟩
        obtain ⟨p1, hp1⟩ : ∃ p1, 2 * i + 1 = p1 := ⟨_, rfl⟩
        have e0 : IntKind.i64.wrap (2 * (i : Int)) = (p : Int) := by rw [IntKind.wrap_i64]; omega
        have e1 : IntKind.i64.wrap ((p : Int) + 1) = (p1 : Int) := by rw [IntKind.wrap_i64]; omega
        have r0 : (p : Int) < 64 := by omega
        have r1 : (p1 : Int) < 64 := by omega
        have q0 : (p : Int) < (s.size : Int) := by omega
        have q1 : (p1 : Int) < (s.size : Int) := by omega
        have m0 : p < s.size := by omega
        have m1 : p1 < s.size := by omega
        obtain ⟨x, hx⟩ : ∃ x, f p = x := ⟨_, rfl⟩
        obtain ⟨y, hy⟩ : ∃ y, f p1 = y := ⟨_, rfl⟩
        have hx8 : x < 256 := by rw [← hx]; exact HF.out _
        have hy8 : y < 256 := by rw [← hy]; exact HF.out _
        have s0 : ∀ h : p < s.size, (s[p]'h).toNat = x := fun h => (HST.out p h).trans hx
        have s1 : ∀ h : p1 < s.size, (s[p1]'h).toNat = y := fun h => (HST.out p1 h).trans hy
        obtain ⟨a, ha⟩ : ∃ a, digI x = a := ⟨_, rfl⟩
        obtain ⟨b, hb⟩ : ∃ b, digI y = b := ⟨_, rfl⟩
        have la := digI_le x; have lb := digI_le y
        rw [ha] at la; rw [hb] at lb
        obtain ⟨la1, la0⟩ := la; obtain ⟨lb1, lb0⟩ := lb
        have hok := okS_succ f i
        have hval := valS_get f hlt
        rw [HOK.out, Bool.true_and, hp1, hp, hx, hy, ha, hb] at hok
        rw [hp1, hp, hx, hy, ha, hb] at hval
        have HA := Lib.hid ha; have HB := Lib.hid hb; have HK := Lib.hid hok; have HVL := Lib.hid hval
        clear ha hb hok hval hx hy hp hp1
        go_upto_region 7 with fail
        refine wp_region_held_drew (S := fun W => Below wr.heap.size wr W) (by kernel_rfl) (bl_drewN 1 (Below.refl _ _)) (fun hHeld => ?_)
        refine wpAnyH_take (i := 0) (oi := { dst := some 16, op := _, type := _, pos := _, after := _, guard := _ }) (v := ?v16) rfl (by kernel_rfl) (by kernel_rfl) (by kernel_rfl) (fun _ _ _ h => h) (Or.inl ⟨by rfl, ?y16⟩) (by assumption) ?r16
        case y16 => intro w9 hSw; go_simp <;> with_reducible rfl
        (try simp only [Act.put, List.setIfInBounds_toArray, List.set_cons_zero, List.set_cons_succ])
        refine wpAnyH_take (i := 1) (oi := { dst := some 17, op := _, type := _, pos := _, after := _, guard := _ }) (v := ?v17) rfl (by kernel_rfl) (by kernel_rfl) (by kernel_rfl) (fun _ _ _ h => h) (Or.inl ⟨by rfl, ?y17⟩) (by assumption) ?r17
        case y17 => intro w9 hSw; go_simp <;> with_reducible rfl
        (try simp only [Act.put, List.setIfInBounds_toArray, List.set_cons_zero, List.set_cons_succ])
        refine wpAnyH_take (i := 2) (oi := { dst := some 18, op := _, type := _, pos := _, after := _, guard := _ }) (v := ?v18) rfl (by kernel_rfl) (by kernel_rfl) (by kernel_rfl) (fun _ _ _ h => h) (Or.inl ⟨by rfl, ?y18⟩) (by assumption) ?r18
        case y18 => intro w9 hSw; go_simp <;> with_reducible rfl
        (try simp only [Act.put, List.setIfInBounds_toArray, List.set_cons_zero, List.set_cons_succ])
        refine wpAnyH_take (i := 3) (oi := { dst := some 19, op := _, type := _, pos := _, after := _, guard := _ }) (v := .int .u8 (x : Int)) rfl (by kernel_rfl) (by kernel_rfl) (by kernel_rfl) (fun _ _ _ h => h) (Or.inl ⟨by rfl, ?y19⟩) (by assumption) ?r19
        case y19 => intro w9 hSw; go_simp <;> with_reducible rfl
        (try simp only [Act.put, List.setIfInBounds_toArray, List.set_cons_zero, List.set_cons_succ])
        refine wpAnyH_take (i := 5) (oi := { dst := some 21, op := _, type := _, pos := _, after := _, guard := _ }) (v := ?v21) rfl (by kernel_rfl) (by kernel_rfl) (by kernel_rfl) (fun _ _ _ h => h) (Or.inl ⟨by rfl, ?y21⟩) (by assumption) ?r21
        case y21 => intro w9 hSw; go_simp <;> with_reducible rfl
        (try simp only [Act.put, List.setIfInBounds_toArray, List.set_cons_zero, List.set_cons_succ])
        refine wpAnyH_take (i := 6) (oi := { dst := some 22, op := _, type := _, pos := _, after := _, guard := _ }) (v := ?v22) rfl (by kernel_rfl) (by kernel_rfl) (by kernel_rfl) (fun _ _ _ h => h) (Or.inl ⟨by rfl, ?y22⟩) (by assumption) ?r22
        case y22 => intro w9 hSw; go_simp <;> with_reducible rfl
        (try simp only [Act.put, List.setIfInBounds_toArray, List.set_cons_zero, List.set_cons_succ])
        refine wpAnyH_take (i := 7) (oi := { dst := some 23, op := _, type := _, pos := _, after := _, guard := _ }) (v := ?v23) rfl (by kernel_rfl) (by kernel_rfl) (by kernel_rfl) (fun _ _ _ h => h) (Or.inl ⟨by rfl, ?y23⟩) (by assumption) ?r23
        case y23 => intro w9 hSw; go_simp <;> with_reducible rfl
        (try simp only [Act.put, List.setIfInBounds_toArray, List.set_cons_zero, List.set_cons_succ])
        refine wpAnyH_take (i := 8) (oi := { dst := some 24, op := _, type := _, pos := _, after := _, guard := _ }) (v := ?v24) rfl (by kernel_rfl) (by kernel_rfl) (by kernel_rfl) (fun _ _ _ h => h) (Or.inl ⟨by rfl, ?y24⟩) (by assumption) ?r24
        case y24 => intro w9 hSw; go_simp <;> with_reducible rfl
        (try simp only [Act.put, List.setIfInBounds_toArray, List.set_cons_zero, List.set_cons_succ])
        refine wpAnyH_take (i := 9) (oi := { dst := some 25, op := _, type := _, pos := _, after := _, guard := _ }) (v := .int .u8 (y : Int)) rfl (by kernel_rfl) (by kernel_rfl) (by kernel_rfl) (fun _ _ _ h => h) (Or.inl ⟨by rfl, ?y25⟩) (by assumption) ?r25
        case y25 => intro w9 hSw; go_simp <;> with_reducible rfl
        (try simp only [Act.put, List.setIfInBounds_toArray, List.set_cons_zero, List.set_cons_succ])
        refine wpAnyH_ready (rs := [4]) (by kernel_rfl) (by simp) (AllReadyH.cons (o := { dst := some 20, op := _, type := _, pos := _, after := _, guard := _ }) rfl (fun K hK => ?_) AllReadyH.nil)
        go_simp
        go_at_call 45; (with_reducible refine (digit_any x _ hx8).mono ?_); rintro e w' ⟨rfl, rfl⟩; rw [HA.out]
        refine hK.out _ _ ?_ (fun hHeld20 => ?_)
        · exact bl_drewN 1 (Below.refl _ _)
        clear hK K
        (try simp only [Act.put, List.setIfInBounds_toArray, List.set_cons_zero, List.set_cons_succ])
        refine wpAnyH_ready (rs := [10]) (by kernel_rfl) (by simp) (AllReadyH.cons (o := { dst := some 26, op := _, type := _, pos := _, after := _, guard := _ }) rfl (fun K hK => ?_) AllReadyH.nil)
        go_simp
        go_at_call 45; (with_reducible refine (digit_any y _ hy8).mono ?_); rintro e w' ⟨rfl, rfl⟩; rw [HB.out]
        refine hK.out _ _ ?_ (fun hHeld26 => ?_)
        · exact bl_drewN 1 (Below.refl _ _)
        clear hK K
        (try simp only [Act.put, List.setIfInBounds_toArray, List.set_cons_zero, List.set_cons_succ])
        refine wpAnyH_take (i := 11) (oi := { dst := some 6, op := _, type := _, pos := _, after := _, guard := _ }) (v := ?v6) rfl (by kernel_rfl) (by kernel_rfl) (by kernel_rfl) (fun _ _ _ h => h) (Or.inl ⟨by rfl, ?y6⟩) (by assumption) ?r6
        case y6 => intro w9 hSw; go_simp <;> with_reducible rfl
        (try simp only [Act.put, List.setIfInBounds_toArray, List.set_cons_zero, List.set_cons_succ])
        refine wpAnyH_take (i := 12) (oi := { dst := some 7, op := _, type := _, pos := _, after := _, guard := _ }) (v := ?v7) rfl (by kernel_rfl) (by kernel_rfl) (by kernel_rfl) (fun _ _ _ h => h) (Or.inl ⟨by rfl, ?y7⟩) (by assumption) ?r7
        case y7 => intro w9 hSw; go_simp <;> with_reducible rfl
        (try simp only [Act.put, List.setIfInBounds_toArray, List.set_cons_zero, List.set_cons_succ])
        refine wpAnyH_done (by kernel_rfl) ?_ _
        have HPd : Hid (PaI w f i wr.drew) := Lib.hid (HP.out.step (bl_drewN 1 (Below.refl _ _)))
        clear hHeld hHeld20 hHeld26 HP
        generalize wr.drew = wq at *
        by_cases hab : 0 ≤ a ∧ 0 ≤ b
        · obtain ⟨A, rfl⟩ : ∃ A : Nat, a = A := ⟨a.toNat, by omega⟩
          obtain ⟨B, rfl⟩ : ∃ B : Nat, b = B := ⟨b.toNat, by omega⟩
          have HOK2 : Hid (okS f (i + 1) = true) := Lib.hid (by rw [HK.out, decide_eq_true hab.1, decide_eq_true hab.2]; rfl)
          obtain ⟨z, hz⟩ : ∃ z, 16 * A + B = z := ⟨_, rfl⟩
          have hzz : (valS f).getD i 0 = z := by rw [HVL.out]; omega
          have HZ := Lib.hid hzz
          have v1 : IntKind.u8.wrap (16 * (A : Int) + B) = (z : Int) := by rw [IntKind.wrap_u8]; omega
          have v2 : (16 * (A : Int) + B) % 256 = (z : Int) := by omega
          have gk := HPd.out.row.at (i := i) (v := .int .u8 0) (yV_get (hole (valS_len f) hlt))
          have fk := HPd.out.row.free i
          clear hab hz hzz HVL HK
          go_wp2_with fail
          go_roundw
          case rel => exact ⟨i + 1, by omega, by go_num, HOK2, Lib.hid (HPd.out.put hlt HZ.out)⟩
          case measure => simp [intOf]; omega
        · have hno : okS f 32 = false := by
            have h1 : okS f (i + 1) = false := by
              rw [HK.out]
              rcases Decidable.em (0 ≤ a) with ha | ha
              · rw [decide_eq_false (show ¬ 0 ≤ b from fun hb => hab ⟨ha, hb⟩), Bool.and_false]
              · rw [decide_eq_false ha, Bool.false_and]
            cases hq : okS f 32 with
            | false => rfl
            | true => rw [okS_le f (show i + 1 ≤ 32 by omega) hq] at h1; cases h1
          have hD0 : D = List.replicate 32 0 := by rw [← HD.out]; unfold pD; rw [if_neg (by rw [hno]; simp)]
          have hE0 : E = 6 := by rw [← HE.out]; unfold pE; rw [if_neg (by rw [hno]; simp)]
          subst hD0 hE0
          have FIN : Hid (∀ W, W = wq → True) := Lib.hid (fun _ _ => trivial)
          rcases Decidable.em (a < 0) with han | han
          · have g1 : decide (a < 0) = true := decide_eq_true han
            clear hab HK HVL
            go_wp2_with (first
              | ((with_reducible refine atOp ⟨some 33, _, _, _, _, _⟩ ?_); refine wpList_buildTo rfl 32 #[] rfl (some 33) rfl (yV z32) built_dig0 ?_)
              | ((with_reducible refine atOp ⟨none, .store 32 _ _, _, _, _, _⟩ ?_); refine wpList_store_row rfl 32 (.tmp 2) (.tmp 33) rfl w.heap.size (yV z32) rfl rfl 32 (yV (List.replicate 32 0)) HPd.out.res (info32 z32 z32_len) rfl (yV_one _) ?_))
            refine bodyPost_ret (v := .tuple #[.agg (yV z32), .int .i64 6]) (results_row_tmp Tryd.results24 _ _ w.heap.size 32 _ (0, 0) _ _ rfl rfl (HPd.out.res.row _) Tryd.underlying32 rfl (info32 z32 z32_len)) rfl ⟨rfl, bl_row _ HPd.out.bel (Nat.le_refl _)⟩
          · have g1 : decide (a < 0) = false := decide_eq_false han
            have g2 : decide (b < 0) = true := decide_eq_true (by omega)
            clear hab HK HVL
            go_wp2_with (first
              | ((with_reducible refine atOp ⟨some 33, _, _, _, _, _⟩ ?_); refine wpList_buildTo rfl 32 #[] rfl (some 33) rfl (yV z32) built_dig0 ?_)
              | ((with_reducible refine atOp ⟨none, .store 32 _ _, _, _, _, _⟩ ?_); refine wpList_store_row rfl 32 (.tmp 2) (.tmp 33) rfl w.heap.size (yV z32) rfl rfl 32 (yV (List.replicate 32 0)) HPd.out.res (info32 z32 z32_len) rfl (yV_one _) ?_))
            refine bodyPost_ret (v := .tuple #[.agg (yV z32), .int .i64 6]) (results_row_tmp Tryd.results24 _ _ w.heap.size 32 _ (0, 0) _ _ rfl rfl (HPd.out.res.row _) Tryd.underlying32 rfl (info32 z32 z32_len)) rfl ⟨rfl, bl_row _ HPd.out.bel (Nat.le_refl _)⟩
      · have hi32 : i = 32 := by omega
        have hD1 : D = valS f := by rw [← HD.out]; unfold pD; rw [if_pos ⟨rfl, by rw [← hi32]; exact HOK.out⟩]
        have hE1 : E = 0 := by rw [← HE.out]; unfold pE; rw [if_pos ⟨rfl, by rw [← hi32]; exact HOK.out⟩]
        subst hD1 hE1
        have HF2 : Hid (AR wr (w.heap.size + 1) 32 (yV (valS f))) := Lib.hid (by have := HP.out.row; rw [hi32, mix_full (valS_len f) (by rw [List.length_replicate])] at this; exact this)
        clear hi32
        go_wp2_with (first
          | ((with_reducible refine atOp ⟨some 41, _, _, _, _, _⟩ ?_); refine wpList_load_row rfl 32 _ rfl (w.heap.size + 1) rfl 32 (yV (valS f)) (0, 0) _ HF2.out Tryd.underlying32 rfl (info32 _ (valS_len f)) ?_)
          | ((with_reducible refine atOp ⟨none, .store 32 _ _, _, _, _, _⟩ ?_); refine wpList_store_row rfl 32 (.tmp 2) (.tmp 41) rfl w.heap.size (yV (valS f)) rfl rfl 32 (yV (List.replicate 32 0)) HP.out.res (info32 _ (valS_len f)) (by rw [yV_size, yV_size, valS_len]; rfl) (yV_one _) ?_))
        refine bodyPost_ret (v := .tuple #[.agg (yV (valS f)), .int .i64 0]) (results_row_tmp Tryd.results24 _ _ w.heap.size 32 _ (0, 0) _ _ rfl rfl (HP.out.res.row _) Tryd.underlying32 rfl (info32 _ (valS_len f))) rfl ⟨rfl, bl_row _ HP.out.bel (Nat.le_refl _)⟩
  · have hD0 : D = List.replicate 32 0 := by rw [← HD.out]; unfold pD; rw [if_neg (fun h => h64 h.1)]
    have hE0 : E = 6 := by rw [← HE.out]; unfold pE; rw [if_neg (fun h => h64 h.1)]
    subst hD0 hE0
    have g1 : ((n : Int) != 64) = true := bne_iff_ne.2 (by omega)
    go_enter Tryd.func24, Tryd.ntmps24
    go_wp2_with (first
      | ((with_reducible refine atOp ⟨some 11, _, _, _, _, _⟩ ?_); refine wpList_load_row rfl 32 _ rfl (w.heap.size + 1) rfl 32 (yV z32) (0, 0) _ HS.out.row Tryd.underlying32 rfl (info32 z32 z32_len) ?_)
      | ((with_reducible refine atOp ⟨none, .store 32 _ _, _, _, _, _⟩ ?_); refine wpList_store_row rfl 32 (.tmp 2) (.tmp 11) rfl w.heap.size (yV z32) rfl rfl 32 (yV (List.replicate 32 0)) HS.out.res (info32 z32 z32_len) rfl (yV_one _) ?_))
    refine bodyPost_ret (v := .tuple #[.agg (yV z32), .int .i64 6]) (results_row_tmp Tryd.results24 _ _ w.heap.size 32 _ (0, 0) _ _ rfl rfl (HS.out.res.row _) Tryd.underlying32 rfl (info32 z32 z32_len)) rfl ⟨rfl, bl_row _ HS.out.bel (Nat.le_refl _)⟩
end Go.Proofs.YtipcanphkdodaaaDoor
