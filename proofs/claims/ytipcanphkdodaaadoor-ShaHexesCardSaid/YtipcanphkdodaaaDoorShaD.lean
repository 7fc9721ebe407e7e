/- The contract of the program's Block. -/
import Derived.Test.YtipcanphkdodaaaDoorShaC
namespace Go.Proofs.YtipcanphkdodaaaDoor
open Go.RowKit Go.Lib
set_option linter.unusedVariables false

theorem stepL_any (st : List Nat) (k x : Nat) (w : World) (hl : st.length = 8) (hw : WW st) (hk : k < 4294967296) (hx : x < 4294967296) :
    Calls Tryd.prog 37 #[.agg (uV st), .int .u32 k, .int .u32 x] w fun r w' => r = .returned (.agg (uV (stepL st k x))) ∧ Below w.heap.size w w' := by
  obtain ⟨a, b, c, d, e, f, g, h, rfl⟩ := len8 hl
  have hm : ∀ z ∈ [a, b, c, d, e, f, g, h], z < 4294967296 := hw
  simp only [List.mem_cons, List.not_mem_nil, or_false] at hm
  exact step_any a b c d e f g h k x w (hm _ (by simp)) (hm _ (by simp)) (hm _ (by simp)) (hm _ (by simp)) (hm _ (by simp)) (hm _ (by simp)) (hm _ (by simp)) (hm _ (by simp)) hk hx

/-- What is read of the program's variables. -/
structure VK (W : World) : Prop where
  k : ∃ t fr, W.heap[0]? = some (.cells (uV kL) t fr)
  h : ∃ t fr, W.heap[1]? = some (.cells (uV hL) t fr)
theorem VK.below {W W' : World} (h : VK W) (hb : Below W.heap.size W W') : VK W' := by
  obtain ⟨⟨t, fr, h1⟩, u, gr, h2⟩ := h
  exact ⟨⟨t, fr, (hb.block _ (Array.getElem?_eq_some_iff.1 h1).1).trans h1⟩, u, gr, (hb.block _ (Array.getElem?_eq_some_iff.1 h2).1).trans h2⟩
theorem VK.cell {W : World} (h : VK W) {i : Nat} (hi : i < 64) : W.cell? ⟨0, i, none⟩ = some (.int .u32 (kL.getD i 0)) := by
  obtain ⟨⟨t, fr, h1⟩, _⟩ := h
  rw [cell_of_row W _ i _ t fr h1, uV_get (x := kL.getD i 0)]
  rw [List.getD_eq_getElem?_getD, List.getElem?_eq_getElem (show i < kL.length from hi)]; rfl

structure BlkW (w : World) (st bs s : List Nat) (W : World) : Prop where
  st : AR W w.heap.size 23 (uV st)
  bx : AR W (w.heap.size + 1) 24 (yV bs)
  rs : AR W (w.heap.size + 1 + 1) 23 (uV (List.replicate 8 0))
  sx : AR W (w.heap.size + 1 + 1 + 1) 74 (uV s)
  bel : Below w.heap.size w W
theorem BlkW.drawn {w W : World} {st bs s : List Nat} (h : BlkW w st bs s W) (n : Nat) : BlkW w st bs s (W.drewN n) := ⟨h.st, h.bx, h.rs, h.sx, bl_drewN n h.bel⟩
theorem BlkW.call {w W W' : World} {st bs s : List Nat} (h : BlkW w st bs s W) (hb : Below W.heap.size W W') : BlkW w st bs s W' := ⟨h.st.step hb, h.bx.step hb, h.rs.step hb, h.sx.step hb, bl_call h.bel hb⟩
theorem BlkW.putS {w W : World} {st bs s : List Nat} (h : BlkW w st bs s W) (i x : Nat) : BlkW w st bs (s.set i x) (W.setCell ⟨w.heap.size + 1 + 1 + 1, i, none⟩ (.int .u32 x)) := by
  refine ⟨h.st.kept (show w.heap.size ≠ w.heap.size + 1 + 1 + 1 by omega) _, h.bx.kept (show w.heap.size + 1 ≠ w.heap.size + 1 + 1 + 1 by omega) _, h.rs.kept (show w.heap.size + 1 + 1 ≠ w.heap.size + 1 + 1 + 1 by omega) _, ?_, bl_set _ h.bel (show w.heap.size ≤ w.heap.size + 1 + 1 + 1 by omega)⟩
  have := h.sx.put i (.int .u32 x)
  rw [uV_set] at this
  exact this
theorem BlkW.putT {w W : World} {st bs s : List Nat} (h : BlkW w st bs s W) (i x : Nat) : BlkW w (st.set i x) bs s (W.setCell ⟨w.heap.size, i, none⟩ (.int .u32 x)) := by
  refine ⟨?_, h.bx.kept (show w.heap.size + 1 ≠ w.heap.size by omega) _, h.rs.kept (show w.heap.size + 1 + 1 ≠ w.heap.size by omega) _, h.sx.kept (show w.heap.size + 1 + 1 + 1 ≠ w.heap.size by omega) _, bl_set _ h.bel (show w.heap.size ≤ w.heap.size by omega)⟩
  have := h.st.put i (.int .u32 x)
  rw [uV_set] at this
  exact this
theorem BlkW.rowS {w W : World} {st bs s : List Nat} (h : BlkW w st bs s W) (s' : List Nat) : BlkW w st bs s' (W.setRow (w.heap.size + 1 + 1 + 1) (uV s')) :=
  ⟨h.st.apart (show w.heap.size ≠ w.heap.size + 1 + 1 + 1 by omega) _, h.bx.apart (show w.heap.size + 1 ≠ w.heap.size + 1 + 1 + 1 by omega) _, h.rs.apart (show w.heap.size + 1 + 1 ≠ w.heap.size + 1 + 1 + 1 by omega) _, h.sx.row _, bl_row _ h.bel (show w.heap.size ≤ w.heap.size + 1 + 1 + 1 by omega)⟩
theorem BlkW.start (w : World) (st bs : List Nat) {Z Y : Array Value} (hZ : Z = uV (List.replicate 8 0)) (hY : Y = uV (List.replicate 8 0)) :
    BlkW w st bs (List.replicate 8 0) ((((w.alloc (.cells (uV st) 23)).alloc (.cells (yV bs) 24)).alloc (.cells Z 23)).alloc (.cells Y 74)) := by
  subst hZ hY
  refine ⟨(((AR.made _ _ _).more _).more _).more _, ?_, ?_, ?_, bl_alloc _ (bl_alloc _ (bl_alloc _ (bl_alloc _ (Below.refl _ _))))⟩
  · have := AR.made (w.alloc (.cells (uV st) 23)) 24 (yV bs)
    rw [size_more] at this
    exact (this.more _).more _
  · have := AR.made ((w.alloc (.cells (uV st) 23)).alloc (.cells (yV bs) 24)) 23 (uV (List.replicate 8 0))
    rw [size_more, size_more] at this
    exact this.more _
  · have := AR.made (((w.alloc (.cells (uV st) 23)).alloc (.cells (yV bs) 24)).alloc (.cells (uV (List.replicate 8 0)) 23)) 74 (uV (List.replicate 8 0))
    rw [size_more, size_more, size_more] at this
    exact this
theorem rep8 {k : Nat} (h : k < 8) : (List.replicate 8 0).getD k 0 = 0 := by rw [List.getD_eq_getElem?_getD, List.getElem?_replicate, if_pos h]; rfl
theorem index8 (l : List Nat) (h : l.length = 8) (i : Nat) (hi : i < 8) (w : World) : (Instr.index 23 (.agg (uV l)) (.int .i64 i)).run Tryd.prog w = .ok (.int .u32 (l.getD i 0)) w :=
  run_index_one Tryd.underlying23 Tryd.underlying22 rfl (by kernel_rfl) hi (uV_get (by rw [List.getD_eq_getElem?_getD, List.getElem?_eq_getElem (by omega)]; rfl))
theorem index8w (l : List Nat) (h : l.length = 8) (i : Nat) (hi : i < 8) (w : World) : (Instr.index 74 (.agg (uV l)) (.int .i64 i)).run Tryd.prog w = .ok (.int .u32 (l.getD i 0)) w :=
  run_index_one Tryd.underlying74 Tryd.underlying73 rfl (by kernel_rfl) hi (uV_get (by rw [List.getD_eq_getElem?_getD, List.getElem?_eq_getElem (by omega)]; rfl))
theorem index64w (l : List Nat) (h : l.length = 64) (i : Nat) (hi : i < 64) (w : World) : (Instr.index 75 (.agg (uV l)) (.int .i64 i)).run Tryd.prog w = .ok (.int .u32 (l.getD i 0)) w :=
  run_index_one Tryd.underlying75 Tryd.underlying73 rfl (by kernel_rfl) hi (uV_get (by rw [List.getD_eq_getElem?_getD, List.getElem?_eq_getElem (by omega)]; rfl))
theorem info8 (l : List Nat) (h : l.length = 8) : (Tryd.prog.info? 23).map (·.size) = some (uV l).size := by rw [uV_size, h]; kernel_rfl
theorem info8w (l : List Nat) (h : l.length = 8) : (Tryd.prog.info? 74).map (·.size) = some (uV l).size := by rw [uV_size, h]; kernel_rfl
theorem info64 (l : List Nat) (h : l.length = 64) : (Tryd.prog.info? 24).map (·.size) = some (yV l).size := by rw [yV_size, h]; kernel_rfl

set_option maxRecDepth 20000 in
set_option maxHeartbeats 4000000 in
theorem block_any (st bs : List Nat) (w : World) (hst : st.length = 8) (hsw : WW st) (hbs : BB bs) (hlen : bs.length = 64) (hV : VK w) :
    Calls Tryd.prog 12 #[.agg (uV st), .agg (yV bs)] w fun r w' => r = .returned (.agg (uV (blockL st bs))) ∧ Below w.heap.size w w' := by
  have HST := Lib.hid hst; have HL := Lib.hid hlen; have HBB := Lib.hid hbs; have HSW := Lib.hid hsw; have HVK := Lib.hid hV
  clear hst hlen hbs hsw hV
  go_enter Tryd.func12, Tryd.ntmps12
  go_wp2_with ((with_reducible refine atOp ⟨some 12, _, _, _, _, _⟩ ?_); refine wpList_load_row rfl 23 _ rfl w.heap.size rfl 23 (uV st) (0, 0) _ (BlkW.start w st bs (by kernel_rfl) (by kernel_rfl)).st Tryd.underlying23 rfl (info8 st HST.out) ?_)
  go_loopw [13] (fun i wr => ∃ k : Nat, k ≤ 8 ∧ i = .int .i64 k ∧ Hid (BlkW w st bs (mix st (List.replicate 8 0) k) wr)) (fun i _ => 8 - (intOf i).toNat)
  case atStart => exact ⟨0, by omega, rfl, Lib.hid (BlkW.start w st bs (by kernel_rfl) (by kernel_rfl))⟩
  case round =>
    obtain ⟨k, hk, rfl, HB⟩ := hrel
    by_cases hlt : k < 8
    · obtain ⟨x, hx⟩ : ∃ x, st.getD k 0 = x := ⟨_, rfl⟩
      have ix := index8 st HST.out k hlt
      rw [hx] at ix
      have hg := HB.out.sx.at (i := k) (v := .int .u32 0) (uV_get (by rw [mix_get (by rw [HST.out]; omega) (by simp; omega), rep8 hlt]))
      have hf := HB.out.sx.free k
      have rk : (k : Int) < 8 := by omega
      have HX := Lib.hid hx; clear hx
      go_wp2_with fail
      go_roundw
      case rel => exact ⟨k + 1, by omega, by go_num, Lib.hid (by
        have := HB.out.putS k x
        rw [← HX.out, mix_set (by rw [HST.out]; omega) (by simp; omega)] at this
        rw [← HX.out]
        exact this)⟩
      case measure => simp [intOf]; omega
    · have HK8 : Hid (k = 8) := Lib.hid (by omega)
      replace HB : Hid (BlkW w st bs st wr) := Lib.hid (by have := HB.out; rw [HK8.out, mix_full HST.out (by simp)] at this; exact this)
      go_wp2_with (first
        | ((with_reducible refine atOp ⟨some 21, _, _, _, _, _⟩ ?_); refine wpList_load_row rfl 24 _ rfl (w.heap.size + 1) rfl 24 (yV bs) (0, 0) _ HB.out.bx Tryd.underlying24 rfl (info64 bs HL.out) ?_)
        | (go_at_call 36; (with_reducible refine (schedule_any bs _ HBB.out HL.out).mono ?_); rintro e w1 ⟨rfl, hb⟩; replace HB := Lib.hid (HB.out.call hb); clear hb))
      go_loopw [23] (fun i wr => ∃ t : Nat, t ≤ 64 ∧ i = .int .i64 t ∧ Hid (BlkW w st bs (runL (sched bs) st t) wr)) (fun i _ => 64 - (intOf i).toNat)
      case atStart => exact ⟨0, by omega, rfl, HB⟩
      case round =>
        obtain ⟨t, ht, rfl, HT⟩ := hrel
        by_cases hlt2 : t < 64
        · obtain ⟨x, hx⟩ : ∃ x, (sched bs).getD t 0 = x := ⟨_, rfl⟩
          have ix := index64w (sched bs) (sched_len bs) t hlt2
          rw [hx] at ix
          have hx4 : x < 4294967296 := by rw [← hx]; exact (sched_ww HBB.out).get _
          obtain ⟨y, hy⟩ : ∃ y, kL.getD t 0 = y := ⟨_, rfl⟩
          have hy4 : y < 4294967296 := by rw [← hy]; exact kL_ww.get _
          have hc := (HVK.out.below HT.out.bel).cell hlt2
          rw [hy] at hc
          obtain ⟨s1, hs1⟩ : ∃ s1, runL (sched bs) st t = s1 := ⟨_, rfl⟩
          have h8 : s1.length = 8 := by rw [← hs1]; exact runL_len _ HST.out t
          have hw8 : WW s1 := by rw [← hs1]; exact runL_ww _ HST.out HSW.out t
          have hnext : runL (sched bs) st (t + 1) = stepL s1 y x := by rw [← hs1, ← hx, ← hy]; rfl
          rw [hs1] at HT
          have rt : (t : Int) < 64 := by omega
          have H8 := Lib.hid h8; have HW8 := Lib.hid hw8; have HN := Lib.hid hnext
          clear hx hy hs1 h8 hw8 hnext
          go_upto_region 10 with fail
          refine wp_region_still_tail 5 (by kernel_rfl) (by kernel_rfl) ?_
          simp only [List.take_succ_cons, List.take_zero, List.drop_succ_cons, List.drop_zero]
          refine still_load_row (by rfl) 74 (.tmp 5) rfl (w.heap.size + 1 + 1 + 1) rfl 74 (uV s1) (0, 0) _ (HT.out.drawn 1).sx Tryd.underlying74 rfl (info8w s1 H8.out) ?_
          repeat still_step
          try refine wpStill_nil ?_
          change wpList _ _ _ _ _ wr.drew
          go_wp2_with (first
              | (go_at_call 37; (with_reducible refine (stepL_any s1 y x _ H8.out HW8.out hy4 hx4).mono ?_); rintro e w2 ⟨rfl, hb⟩; have HB2 := Lib.hid ((HT.out.drawn 1).call hb); clear hb)
              | ((with_reducible refine atOp ⟨none, .store 74 _ _, _, _, _, _⟩ ?_); refine wpList_store_row rfl 74 (.tmp 5) (.tmp 32) rfl (w.heap.size + 1 + 1 + 1) (uV (stepL s1 y x)) rfl rfl 74 (uV s1) HB2.out.sx (info8w _ (stepL_len H8.out _ _)) (by rw [uV_size, uV_size, H8.out, stepL_len H8.out]) (uV_one _) ?_))
          go_roundw
          case rel => exact ⟨t + 1, by omega, by go_num, Lib.hid (by rw [HN.out]; exact HB2.out.rowS _)⟩
          case measure => simp [intOf]; omega
        · have HK64 : Hid (t = 64) := Lib.hid (by omega)
          obtain ⟨s8, hs8⟩ : ∃ s8, runL (sched bs) st 64 = s8 := ⟨_, rfl⟩
          have h8 : s8.length = 8 := by rw [← hs8]; exact runL_len _ HST.out 64
          replace HT : Hid (BlkW w st bs s8 wr) := Lib.hid (by have := HT.out; rw [HK64.out, hs8] at this; exact this)
          obtain ⟨tt, htt⟩ : ∃ tt, blockL st bs = tt := ⟨_, rfl⟩
          have hg8 : ∀ k, k < 8 → addN (st.getD k 0) (s8.getD k 0) = tt.getD k 0 := fun k hk => by rw [← htt, ← hs8]; exact (blockL_get HST.out hk).symm
          have ht8 : tt.length = 8 := by rw [← htt]; exact blockL_len _ HST.out
          have H8 := Lib.hid h8; have HG8 := Lib.hid hg8; have HT8 := Lib.hid ht8; have HTT := Lib.hid htt
          clear hs8 h8 hg8 ht8
          go_wp2_with ((with_reducible refine atOp ⟨some 34, _, _, _, _, _⟩ ?_); refine wpList_load_row rfl 74 _ rfl (w.heap.size + 1 + 1 + 1) rfl 74 (uV s8) (0, 0) _ HT.out.sx Tryd.underlying74 rfl (info8w s8 H8.out) ?_)
          go_loopw [35] (fun i wr => ∃ k : Nat, k ≤ 8 ∧ i = .int .i64 k ∧ Hid (BlkW w (mix tt st k) bs s8 wr)) (fun i _ => 8 - (intOf i).toNat)
          case atStart => exact ⟨0, by omega, rfl, HT⟩
          case round =>
            obtain ⟨k2, hk2, rfl, HU⟩ := hrel
            by_cases hlt3 : k2 < 8
            · obtain ⟨x, hx⟩ : ∃ x, s8.getD k2 0 = x := ⟨_, rfl⟩
              obtain ⟨y, hy⟩ : ∃ y, st.getD k2 0 = y := ⟨_, rfl⟩
              have ix := index8w s8 H8.out k2 hlt3
              rw [hx] at ix
              have hg := HU.out.st.at (i := k2) (v := .int .u32 y) (uV_get (by rw [mix_get (by rw [HT8.out]; omega) (by rw [HST.out]; omega), hy]))
              have hf := HU.out.st.free k2
              have rk : (k2 : Int) < 8 := by omega
              have HA := Lib.hid (HG8.out k2 hlt3)
              rw [hx, hy] at HA
              clear hx hy
              go_wp2_with fail
              go_roundw
              case rel => exact ⟨k2 + 1, by omega, by go_num, Lib.hid (by
                have := HU.out.putT k2 (addN y x)
                rw [HA.out, mix_set (by rw [HT8.out]; omega) (by rw [HST.out]; omega)] at this
                rw [add_bits, HA.out]
                exact this)⟩
              case measure => simp [intOf]; omega
            · have HK3 : Hid (k2 = 8) := Lib.hid (by omega)
              replace HU : Hid (BlkW w tt bs s8 wr) := Lib.hid (by have := HU.out; rw [HK3.out, mix_full HT8.out HST.out] at this; exact this)
              go_wp2_with (first
                | ((with_reducible refine atOp ⟨some 46, _, _, _, _, _⟩ ?_); refine wpList_load_row rfl 23 _ rfl w.heap.size rfl 23 (uV tt) (0, 0) _ HU.out.st Tryd.underlying23 rfl (info8 tt HT8.out) ?_)
                | ((with_reducible refine atOp ⟨none, .store 23 _ _, _, _, _, _⟩ ?_); refine wpList_store_row rfl 23 (.tmp 4) (.tmp 46) rfl (w.heap.size + 1 + 1) (uV tt) rfl rfl 23 (uV (List.replicate 8 0)) HU.out.rs (info8 _ HT8.out) (by rw [uV_size, uV_size, HT8.out]; rfl) (uV_one _) ?_))
              refine bodyPost_ret (v := .agg (uV tt)) (results_cell_row Tryd.results12 _ _ (w.heap.size + 1 + 1) 23 _ (0, 0) _ rfl (HU.out.rs.row _) Tryd.underlying23 rfl (info8 tt HT8.out)) rfl ⟨by rw [HTT.out], bl_row _ HU.out.bel (by omega)⟩
end Go.Proofs.YtipcanphkdodaaaDoor
