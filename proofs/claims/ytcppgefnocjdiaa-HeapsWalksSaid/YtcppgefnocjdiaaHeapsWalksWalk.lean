/- HeapsWalks: the walk. -/
import Derived.Test.YtcppgefnocjdiaaHeapsVb
import Derived.StillTailTactics
namespace Go.Proofs.Ytcppgefnocjdiaa
open Go.RowKit Go.Lib Go.Sort Go.Shelf
set_option linter.unusedVariables false
attribute [local go_sem] Oper.semAt_some

set_option maxRecDepth 100000 in
set_option maxHeartbeats 8000000 in
theorem walks_in (n : Nat) (lv bv : Value) (l : List Int) (bs : List Nat) (W : World) (hn : n < 256) (hl : RI W lv l) (hle : l.length ≤ 100) (hb : RY W bv bs) :
    CallsIn Fence.wide 5 Try.prog 8 #[.int .u8 n, lv, bv] W fun e w' => e = .returned (.bool true) ∧ Go.RowKit.Below W.heap.size W w' := by
  obtain ⟨w1, hw1⟩ : ∃ w1, (W.alloc (.cells #[bv] 66)).alloc (.cells #[.bool false] 4) = w1 := ⟨_, rfl⟩
  have hb1 : Go.RowKit.Below W.heap.size W w1 := by rw [← hw1]; exact ((Go.RowKit.Below.refl _ W).alloc (Nat.le_refl _) _).alloc (by simp) _
  have k1 := made_any n lv l w1 hn (hl.later hb1) (by omega)
  have k2 : ∀ w2, Go.RowKit.Below w1.heap.size w1 w2 → _ := fun w2 h => made_any n lv l w2 hn ((hl.later hb1).later h) (by omega)
  generalize decide (n % 2 = 1) = odd at k1 k2
  obtain ⟨A, c, rfl⟩ := hl.len
  obtain ⟨A2, c2, rfl⟩ := hb.len
  obtain ⟨m, hm⟩ : ∃ m, l.length = m := ⟨_, rfl⟩
  rw [hm] at hle hl k1
  have HM := Lib.hid hm; have HL := Lib.hid hl; have HBY := Lib.hid hb; have HW1 := Lib.hid hw1; have HB1 := Lib.hid hb1; have K2 := Lib.hid k2
  have hmz : ¬ (m : Int) > 100 := by omega
  rw [hm]
  clear hm hl hb hw1 hb1 k2
  refine callsIn_of_wp_marks Try.func8 rfl trivial ?_ rfl
  simp only [Try.ntmps8, List.size_toArray, List.length_cons, List.length_nil, Nat.reduceAdd, Nat.reduceSub, Array.replicate_succ, Array.replicate_zero, List.push_toArray, List.append_toArray, List.nil_append, List.cons_append]
  gi_wp2_with (first
    | (refine ⟨trivial, ?_⟩; rw [HW1.out]; gi_at_call 27; refine (callsIn_wide.2 k1).mono ?_; rintro e w2 ⟨qb, mb, v0, rfl, H1⟩; have k2 := K2.out w2 H1.out.bel; rw [HM.out] at k2; clear k1)
    | (refine ⟨trivial, ?_⟩; gi_at_call 27; refine (callsIn_wide.2 k2).mono ?_; rintro e w3 ⟨qp, mp, v1, rfl, H2⟩; clear k2)
    | (refine ⟨trivial, ?_⟩; gi_at_call 34; refine (callsIn_wide.2 (all_any _ _)).mono ?_; rintro e w' ⟨rfl, rfl⟩))
  obtain ⟨w4, hw4⟩ : ∃ w4, (((w3.alloc (.cells #[.pointer (some ⟨qb, 0, none⟩)] 27)).alloc (.cells #[.pointer (some ⟨qp, 0, none⟩)] 27)).alloc (.cells #[.int .i64 0] 3)).alloc (.cells #[.pointer (some ⟨qb, 0, none⟩)] 27) = w4 := ⟨_, rfl⟩
  have hsz : w4.heap.size = w3.heap.size + 1 + 1 + 1 + 1 := by rw [← hw4]; simp
  have hb4 : Go.RowKit.Below w3.heap.size w3 w4 := by
    rw [← hw4]; exact ((((Go.RowKit.Below.refl _ w3).alloc (Nat.le_refl _) _).alloc (by simp) _).alloc (by simp <;> omega) _).alloc (by simp <;> omega) _
  have f7 : w4.heap[w3.heap.size]? = some (.cells #[.pointer (some ⟨qb, 0, none⟩)] 27 (0, 0)) := by
    rw [← hw4, Go.RowKit.Below.heap_alloc _ _ _ (by simp <;> omega), Go.RowKit.Below.heap_alloc _ _ _ (by simp <;> omega), Go.RowKit.Below.heap_alloc _ _ _ (by simp <;> omega)]; exact heap_alloc_new w3 _
  have f8 : w4.heap[w3.heap.size + 1]? = some (.cells #[.pointer (some ⟨qp, 0, none⟩)] 27 (0, 0)) := by
    rw [← hw4, Go.RowKit.Below.heap_alloc _ _ _ (by simp <;> omega), Go.RowKit.Below.heap_alloc _ _ _ (by simp <;> omega)]; have := heap_alloc_new (w3.alloc (.cells #[.pointer (some ⟨qb, 0, none⟩)] 27)) (.cells #[.pointer (some ⟨qp, 0, none⟩)] 27); simpa using this
  have f9 : w4.heap[w3.heap.size + 1 + 1]? = some (.cells #[.int .i64 0] 3 (0, 0)) := by
    rw [← hw4, Go.RowKit.Below.heap_alloc _ _ _ (by simp <;> omega)]; have := heap_alloc_new ((w3.alloc (.cells #[.pointer (some ⟨qb, 0, none⟩)] 27)).alloc (.cells #[.pointer (some ⟨qp, 0, none⟩)] 27)) (.cells #[.int .i64 0] 3); simpa using this
  have fa : w4.heap[w3.heap.size + 1 + 1 + 1]? = some (.cells #[.pointer (some ⟨qb, 0, none⟩)] 27 (0, 0)) := by
    rw [← hw4]; have := heap_alloc_new (((w3.alloc (.cells #[.pointer (some ⟨qb, 0, none⟩)] 27)).alloc (.cells #[.pointer (some ⟨qp, 0, none⟩)] 27)).alloc (.cells #[.int .i64 0] 3)) (.cells #[.pointer (some ⟨qb, 0, none⟩)] 27); simpa using this
  rw [hw4]
  clear hw4
  have hz1 : w1.heap.size = W.heap.size + 2 := by rw [← HW1.out]; simp
  have hb14 : Go.RowKit.Below w1.heap.size w1 w4 := (H1.out.bel.trans (H2.out.bel.mono H1.out.bel.size)).trans (hb4.mono (Nat.le_trans H1.out.bel.size H2.out.bel.size))
  have hbW4 : Go.RowKit.Below W.heap.size W w4 := HB1.out.trans (hb14.mono HB1.out.size)
  have f5 : w4.heap[W.heap.size]? = some (.cells #[.slice A2 bs.length c2] 66 (0, 0)) := by
    rw [hb14.block _ (by omega), ← HW1.out, Go.RowKit.Below.heap_alloc _ _ _ (by simp)]; exact heap_alloc_new W _
  have f6 : ∃ u, w4.heap[W.heap.size + 1]? = some (.cells #[u] 4 (0, 0)) := by
    refine ⟨.bool false, ?_⟩
    rw [hb14.block _ (by omega), ← HW1.out]; have := heap_alloc_new (W.alloc (.cells #[.slice A2 bs.length c2] 66)) (.cells #[.bool false] 4); simpa using this
  obtain ⟨bx, hbx⟩ : ∃ bx, [W.heap.size, W.heap.size + 1, w3.heap.size, w3.heap.size + 1, w3.heap.size + 2] = bx := ⟨_, rfl⟩
  obtain ⟨M, hM⟩ : ∃ M, w4.heap.size = M := ⟨_, rfl⟩
  obtain ⟨hA, L, hLl, hTw, v, hQS⟩ := walks_start hz1 H1.out H2.out hb4 (show w3.heap.size + 3 ≤ M by omega) hbx.symm
  rw [HM.out] at hLl hTw hQS
  have hNB : W.heap.size + 2 ≤ w3.heap.size := by have := H1.out.bel.size; have := H2.out.bel.size; omega
  clear H1 H2 K2 HW1 hb4 hb14 hz1
  obtain ⟨B, hB⟩ : ∃ B, w3.heap.size = B := ⟨_, rfl⟩
  rw [hB] at hsz f7 f8 f9 fa hbx hNB ⊢
  clear hB HB1
  have HA := Lib.hid hA; have HQ := Lib.hid hQS
  obtain ⟨z6, f6⟩ := f6
  have mem5 : W.heap.size ∈ bx := by rw [← hbx]; simp
  have mem6 : W.heap.size + 1 ∈ bx := by rw [← hbx]; simp
  have mem7 : B ∈ bx := by rw [← hbx]; simp
  have mem8 : B + 1 ∈ bx := by rw [← hbx]; simp
  have mem9 : B + 1 + 1 ∈ bx := by rw [← hbx]; simp
  have HF : Hid (∀ hi n i T W', WkS W.heap.size M qb mb qp mp (B + 1 + 1) bx (ordF odd) (ordL odd) ((m : Int) + 1) w4 hi n i T W' →
      (W'.cell? ⟨B + 1 + 1, 0, none⟩ = some (.int .i64 i) ∧ W'.frozen? ⟨B + 1 + 1, 0, none⟩ = false) ∧ W'.cell? ⟨W.heap.size, 0, none⟩ = some (.slice A2 bs.length c2) ∧ W'.cell? ⟨B, 0, none⟩ = some (.pointer (some ⟨qb, 0, none⟩)) ∧ W'.cell? ⟨B + 1, 0, none⟩ = some (.pointer (some ⟨qp, 0, none⟩)) ∧
      (W'.cell? ⟨W.heap.size + 1, 0, none⟩ = some z6 ∧ W'.frozen? ⟨W.heap.size + 1, 0, none⟩ = false)) := Lib.hid fun hi n i T W' h =>
    ⟨cell_of1 h.ic, (cell_of1 ((h.box _ mem5 (by omega)).trans f5)).1, (cell_of1 ((h.box _ mem7 (by omega)).trans f7)).1, (cell_of1 ((h.box _ mem8 (by omega)).trans f8)).1, cell_of1 ((h.box _ mem6 (by omega)).trans f6)⟩
  have hI0 : ∀ hi, WkS W.heap.size M qb mb qp mp (B + 1 + 1) bx (ordF odd) (ordL odd) ((m : Int) + 1) w4 hi m 0 L w4 := fun hi => ⟨⟨_, L, hTw hi, by omega, by omega⟩, fun _ _ _ => rfl, f9, Go.RowKit.Below.refl _ _, by omega⟩
  have hcq := (cell_of1 fa).1
  have HY : Hid (∀ W', Go.RowKit.Below W.heap.size w4 W' → RY W' (.slice A2 bs.length c2) bs) := Lib.hid fun W' h => HBY.out.later (hbW4.trans h)
  have HBW := Lib.hid hbW4
  have hMB : M = B + 1 + 1 + 1 + 1 := by omega
  have HLL := Lib.hid hLl
  have HSV : Hid (∀ W', Go.RowKit.Below w4.heap.size w4 W' → SaveC (.pointer (some ⟨qb, 0, none⟩)) ((m : Int) + 1) L W') := Lib.hid (saves_any _ qb mb _ _ _ _ L w4 hQS (sortC_all (by omega)))
  have HF6 := Lib.hid f6
  have HSZ := Lib.hid hsz
  clear f5 f6 f7 f8 f9 fa hbx hTw hQS hA hbW4 HBY HQ
  refine wpIn_rangeFunc_rng (w0 := w4) (n₀ := W.heap.size) rfl (by omega) (gf := 58) (lb := #[.pointer (some ⟨B + 1 + 1 + 1, 0, none⟩)]) rfl trivial (enters_of Try.func58 (by kernel_rfl) rfl)
    (all_seq 4 (B + 1 + 1 + 1) W.heap.size (some ⟨qb, 0, none⟩) ((m : Int) + 1) L w4 hcq (by omega) HSV.out) (by omega) (Go.RowKit.Below.refl _ _) (fun _ => rfl)
    (fun hi pre W' => pre <+: L ∧ WkS W.heap.size M qb mb qp mp (B + 1 + 1) bx (ordF odd) (ordL odd) ((m : Int) + 1) w4 hi (m + pre.length) pre.length (L.drop pre.length) W') (fun _ _ pre _ => ¬ pre <+: L) ?hI ?hIx (fun hi => ⟨List.nil_prefix, hI0 hi⟩)
    (fun x a' W' => a' = { tmps := #[.int .u8 n, .slice A m c, .slice A2 bs.length c2, undef, undef, .pointer (some ⟨W.heap.size, 0, none⟩), .pointer (some ⟨W.heap.size + 1, 0, none⟩), .pointer (some ⟨B, 0, none⟩), .pointer (some ⟨B + 1, 0, none⟩), .pointer (some ⟨B + 1 + 1, 0, none⟩), .int .i64 x.1, .int .i64 x.2, undef, undef, undef, .slice A m c, .int .i64 m, .bool false, undef, .int .u8 n, .slice A m c, .pointer (some ⟨qb, 0, none⟩), .int .u8 n, .slice A m c, .pointer (some ⟨qp, 0, none⟩), .pointer (some ⟨qb, 0, none⟩), .bool false, .bool false, .pointer (some ⟨qp, 0, none⟩), .bool false, .bool false, .pointer (some ⟨qb, 0, none⟩), .func (.func 58) #[] #[.pointer (some ⟨B + 1 + 1 + 1, 0, none⟩)], .int .i64 x.1, .int .i64 x.2, undef, undef, undef, undef, undef, undef, undef, undef, undef, undef, undef, undef, undef, undef, undef, undef, undef, undef, undef, undef, undef, undef, undef, undef, undef, undef, undef, undef, undef, undef, undef, undef, undef, undef, undef, undef, undef, undef, undef, undef, undef, undef, undef, undef, undef, undef, undef, undef, undef, undef, undef, undef, undef, undef, undef, undef, undef, undef], defers := [] })
    ?hAx ?assign ?body ?done ?stop
  case hI => exact fun hi pre C D row h hgr hr => ⟨h.1, h.2.own HA.out mem9 (by omega) hgr (by rw [← hM]; exact hr)⟩
  case hIx => exact fun hi c pre C D row h _ _ => h
  case hAx => exact fun x a' u C D row h _ _ => h
  case assign =>
    rintro hi l pre ⟨xh, xv⟩ W' K hlo hle hI hK
    gi_wp2
    exact hK _ _ (KeepsFrom.refl _ _) (KpR.refl _ _ _ _) hI rfl
  case body =>
    rintro hi l pre x a' W' hlo hle ⟨hpre, hS⟩ rfl hlen
    obtain ⟨xh, xv⟩ := x
    obtain ⟨⟨yh, yv⟩, T, hd, hd1, hpx⟩ := drop_one hpre hlen
    rw [hd] at hS
    obtain ⟨p, hp⟩ : ∃ p, pre.length = p := ⟨_, rfl⟩
    have hp100 : p < 100 := by omega
    rw [hp] at hS hd1
    have kp := hS.pop HA.out mem9 hle
    have HP := Lib.hid hp; have HD1 := Lib.hid hd1; have HPX := Lib.hid hpx; have HS := Lib.hid hS; have HPR := Lib.hid hpre
    obtain ⟨⟨c9, g9⟩, c5, c7, c8, c6, g6⟩ := HF.out _ _ _ _ _ hS
    have i1 : ¬ (p : Int) > 100 := by omega
    have i2 : IntKind.i64.wrap ((p : Int) + 1) = (p : Int) + 1 := IntWalk.i64_in _ (by omega)
    have i3 : (WkS W.heap.size M qb mb qp mp (B + 1 + 1) bx (ordF odd) (ordL odd) ((m : Int) + 1) w4 hi (m + p) p ((yh, yv) :: T) W') := hS
    have H3 := Lib.hid i3
    clear hp hd1 hpx hS hpre hd i3 hlen
    by_cases hx : xh = yh ∧ xv = yv
    · obtain ⟨rfl, rfl⟩ := hx
      have HFIN : Hid (∀ n w6, n ≤ m + p + 1 → WkS W.heap.size M qb mb qp mp (B + 1 + 1) bx (ordF odd) (ordL odd) ((m : Int) + 1) w4 hi n p T w6 → WkK W.heap.size M hi W' w6 →
          KeepsFrom w4.heap.size W' (w6.setCell ⟨B + 1 + 1, 0, none⟩ (.int .i64 ((p : Int) + 1))) ∧ KpR W.heap.size (w4.heap.size + 2) hi W' (w6.setCell ⟨B + 1 + 1, 0, none⟩ (.int .i64 ((p : Int) + 1))) ∧
          (pre ++ [(xh, xv)] <+: L ∧ WkS W.heap.size M qb mb qp mp (B + 1 + 1) bx (ordF odd) (ordL odd) ((m : Int) + 1) w4 hi (m + (pre ++ [(xh, xv)]).length) (pre ++ [(xh, xv)]).length (L.drop (pre ++ [(xh, xv)]).length) (w6.setCell ⟨B + 1 + 1, 0, none⟩ (.int .i64 ((p : Int) + 1))))) := Lib.hid fun n w6 hn h6 hk => by
        obtain ⟨g1, g2⟩ := (h6.up hn).count HA.out mem9 (by omega) (show M + 2 ≤ hi by omega) ((p : Int) + 1) (p + 1) (by simp)
        have e : (pre ++ [(xh, xv)]).length = p + 1 := by rw [List.length_append, HP.out]; rfl
        have hk2 := hk.trans g2
        rw [hM, e, HD1.out]
        exact ⟨hk2.kf, hk2.kr, (HPX.out _).2 rfl, g1⟩
      dsimp only
      by_cases hlt : p < bs.length
      · obtain ⟨g, off, rfl, -⟩ := (HY.out W' HS.out.bel).cell hlt
        obtain ⟨b, hb⟩ : ∃ b, bs.getD p 0 = b := ⟨_, rfl⟩
        have HE : Hid (∀ w5, Go.RowKit.Below W.heap.size w4 w5 → w5.cell? ⟨g, off + p, none⟩ = some (.int .u8 b)) := Lib.hid fun w5 h => by
          obtain ⟨g', off', e, hc⟩ := (HY.out w5 h).cell hlt
          cases e
          rw [← hb]; exact hc
        have hlt' : (p : Int) < (bs.length : Int) := by omega
        clear hb
        gi_wp2_with (first
          | (refine ⟨trivial, ?_⟩; gi_at_call 21; refine (CallsIn.inRound l (callsIn_wide.2 kp)).mono ?_; rintro e w5 ⟨rfl, H5⟩; obtain ⟨⟨d9, e9⟩, d5, d7, d8, d6, e6⟩ := HF.out _ _ _ _ _ H5.out.1; have dE := HE.out w5 H5.out.1.bel; clear kp)
          | (refine ⟨trivial, ?_⟩; gi_at_call 24; refine (CallsIn.inRound l (callsIn_wide.2 (H5.out.1.remove HA.out mem9 (Nat.le_trans hle H5.out.2.kf.size) _))).mono ?_; rintro e w6 ⟨ra, rb, rfl, H6⟩; obtain ⟨⟨k9, l9⟩, -⟩ := HF.out _ _ _ _ _ H6.out.1)
          | (refine ⟨trivial, ?_⟩; gi_at_call 20; refine (CallsIn.inRound l (callsIn_wide.2 (H5.out.1.push HA.out mem9 (Nat.le_trans hle H5.out.2.kf.size) (by omega) _))).mono ?_; rintro e w6 ⟨ra, rb, rfl, H6⟩; obtain ⟨⟨k9, l9⟩, -⟩ := HF.out _ _ _ _ _ H6.out.1)
          | (refine ⟨trivial, ?_⟩; gi_at_call 25; refine (CallsIn.inRound l (callsIn_wide.2 (H5.out.1.set HA.out mem9 (Nat.le_trans hle H5.out.2.kf.size) _ _))).mono ?_; rintro e w6 ⟨ra, rfl, H6⟩; obtain ⟨⟨k9, l9⟩, -⟩ := HF.out _ _ _ _ _ H6.out.1))
        all_goals first
          | exact HFIN.out _ _ (Nat.le_refl _) H6.out.1 (H5.out.2.trans H6.out.2)
          | exact HFIN.out _ _ (Nat.le_succ _) H5.out.1 H5.out.2
      · have hlt' : ¬ (p : Int) < (bs.length : Int) := by omega
        gi_wp2_with (first
          | (refine ⟨trivial, ?_⟩; gi_at_call 21; refine (CallsIn.inRound l (callsIn_wide.2 kp)).mono ?_; rintro e w5 ⟨rfl, H5⟩; obtain ⟨⟨d9, e9⟩, d5, d7, d8, d6, e6⟩ := HF.out _ _ _ _ _ H5.out.1; clear kp))
        all_goals exact HFIN.out _ _ (Nat.le_succ _) H5.out.1 H5.out.2
    · have HIX : Hid (¬ pre ++ [(xh, xv)] <+: L) := Lib.hid fun h => hx (by have := (HPX.out _).1 h; cases this; exact ⟨rfl, rfl⟩)
      by_cases hx1 : xh = yh
      · subst hx1
        have hx2 : ¬ xv = yv := fun e => hx ⟨rfl, e⟩
        clear hx
        gi_wp2_with (first
          | (refine ⟨trivial, ?_⟩; gi_at_call 21; refine (CallsIn.inRound l (callsIn_wide.2 kp)).mono ?_; rintro e w5 ⟨rfl, H5⟩; obtain ⟨⟨d9, e9⟩, d5, d7, d8, d6, e6⟩ := HF.out _ _ _ _ _ H5.out.1; clear kp))
        all_goals exact ⟨by rw [hM]; exact H5.out.2.kf.trans ((KeepsOthers.setCell _ _ _).from _), HIX.out⟩
      · clear hx
        gi_wp2_with (first
          | (refine ⟨trivial, ?_⟩; gi_at_call 21; refine (CallsIn.inRound l (callsIn_wide.2 kp)).mono ?_; rintro e w5 ⟨rfl, H5⟩; obtain ⟨⟨d9, e9⟩, d5, d7, d8, d6, e6⟩ := HF.out _ _ _ _ _ H5.out.1; clear kp))
        all_goals exact ⟨by rw [hM]; exact H5.out.2.kf.trans ((KeepsOthers.setCell _ _ _).from _), HIX.out⟩
  case done =>
    rintro hi xs W' hxs ⟨-, h⟩ hD
    rw [hxs, HLL.out] at h
    obtain ⟨⟨c9, g9⟩, c5, c7, c8, c6, g6⟩ := HF.out _ _ _ _ _ h
    have HH := Lib.hid h; have HD := Lib.hid hD
    clear h hD hxs
    have F6 := Lib.hid ((HH.out.box _ mem6 (by omega)).trans HF6.out)
    gi_wp2_with (refine ⟨trivial, ?_⟩; gi_at_call 10; refine (callsIn_wide.2 (awake_any _)).mono ?_; rintro e w6 ⟨rfl, hb6⟩; have h6 := (hb6.block (W.heap.size + 1) (Array.getElem?_eq_some_iff.1 F6.out).1).trans F6.out; obtain ⟨d6, e6⟩ := cell_of1 h6; have HB6 := Lib.hid hb6; have H6 := Lib.hid h6; clear hb6 h6)
    have hD := HD.out
    rw [HSZ.out] at hD
    have hlt := (Array.getElem?_eq_some_iff.1 hD).1
    have t1 := heap_set1 H6.out (.bool true)
    have hD7 : (w6.setCell ⟨W.heap.size + 1, 0, none⟩ (.bool true)).heap[B + 1 + 1 + 1 + 1]? = some (.deferred (some [])) := (Go.RowKit.Below.heap_setCell _ _ _ _ (show B + 1 + 1 + 1 + 1 ≠ W.heap.size + 1 by omega)).trans ((HB6.out.block _ hlt).trans hD)
    have t2 : ∀ o, ((w6.setCell ⟨W.heap.size + 1, 0, none⟩ (.bool true)).putObj (B + 1 + 1 + 1 + 1) o).cell? ⟨W.heap.size + 1, 0, none⟩ = some (.bool true) := fun o => (cell_of1 ((World.putObj_heap_other (by omega)).trans t1)).1
    refine ⟨by simp, .inl ⟨_, _, rfl, run_takeDeferred hD7, ?_⟩⟩
    refine ⟨.bool true, by simp [results, Try.f8, go_sem, t2], ⟨rfl, ?_⟩⟩
    have hbel := HBW.out.trans HH.out.bel
    exact ((hbel.trans (HB6.out.mono hbel.size)).setCell (p := ⟨W.heap.size + 1, 0, none⟩) (Nat.le_succ _) _).trans ⟨rfl, rfl, rfl, by simp, fun k hk => World.putObj_heap_other (by omega)⟩
  case stop => exact fun hi c pre W' hs h _ => (h hs).elim
end Go.Proofs.Ytcppgefnocjdiaa
