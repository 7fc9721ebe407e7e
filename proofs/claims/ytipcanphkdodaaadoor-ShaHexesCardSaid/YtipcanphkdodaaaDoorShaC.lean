/- The contract of the program's schedule. -/
import Derived.Test.YtipcanphkdodaaaDoorShaB
namespace Go.Proofs.YtipcanphkdodaaaDoor
open Go.RowKit Go.Lib
set_option linter.unusedVariables false

structure SchW (w : World) (bs l : List Nat) (W : World) : Prop where
  box : AR W w.heap.size 24 (yV bs)
  res : AR W (w.heap.size + 1) 75 (uV (List.replicate 64 0))
  row : AR W (w.heap.size + 1 + 1) 75 (uV (pre64 l))
  bel : Below w.heap.size w W
theorem SchW.drawn {w W : World} {bs l : List Nat} (h : SchW w bs l W) (n : Nat) : SchW w bs l (W.drewN n) := ⟨h.box, h.res, h.row, bl_drewN n h.bel⟩
theorem SchW.put {w W : World} {bs l : List Nat} (h : SchW w bs l W) (hl : l.length < 64) (x : Nat) {i : Nat} (hi : i = l.length) : SchW w bs (l ++ [x]) (W.setCell ⟨w.heap.size + 1 + 1, i, none⟩ (.int .u32 x)) := by
  subst hi
  refine ⟨h.box.kept (show w.heap.size ≠ w.heap.size + 1 + 1 by omega) _, h.res.kept (show w.heap.size + 1 ≠ w.heap.size + 1 + 1 by omega) _, ?_, bl_set _ h.bel (show w.heap.size ≤ w.heap.size + 1 + 1 by omega)⟩
  have := h.row.put l.length (.int .u32 x)
  rw [uV_set, pre64_set hl] at this
  exact this
theorem SchW.get {w W : World} {bs l : List Nat} (h : SchW w bs l W) {i : Nat} (hi : i < l.length) : W.cell? ⟨w.heap.size + 1 + 1, i, none⟩ = some (.int .u32 (l.getD i 0)) := h.row.at (uV_get (pre64_get hi))
theorem SchW.byte {w W : World} {bs l : List Nat} (h : SchW w bs l W) {i : Nat} (hi : i < bs.length) : W.cell? ⟨w.heap.size, i, none⟩ = some (.int .u8 (bs.getD i 0)) :=
  h.box.at (yV_get (by rw [List.getD_eq_getElem?_getD, List.getElem?_eq_getElem hi]; rfl))

theorem size_more (w : World) (o : Obj) : (w.alloc o).heap.size = w.heap.size + 1 := by simp
theorem SchW.start (w : World) (bs : List Nat) {Z Y : Array Value} (hZ : Z = uV (List.replicate 64 0)) (hY : Y = uV (List.replicate 64 0)) : SchW w bs [] (((w.alloc (.cells (yV bs) 24)).alloc (.cells Z 75)).alloc (.cells Y 75)) := by
  subst hZ hY
  refine ⟨((AR.made _ _ _).more _).more _, ?_, ?_, bl_alloc _ (bl_alloc _ (bl_alloc _ (Below.refl _ _)))⟩
  · have := AR.made (w.alloc (.cells (yV bs) 24)) 75 (uV (List.replicate 64 0))
    rw [size_more] at this
    exact this.more _
  · have := AR.made ((w.alloc (.cells (yV bs) 24)).alloc (.cells (uV (List.replicate 64 0)) 75)) 75 (uV (List.replicate 64 0))
    rw [size_more, size_more] at this
    exact this

theorem sched_info (bs : List Nat) : (Tryd.prog.info? 75).map (·.size) = some (uV (sched bs)).size := by rw [uV_size, sched_len]; kernel_rfl
theorem sched_same (bs : List Nat) : (uV (List.replicate 64 0)).size = (uV (sched bs)).size := by rw [uV_size, uV_size, sched_len]; rfl

set_option maxRecDepth 20000 in
set_option maxHeartbeats 2000000 in
theorem schedule_any (bs : List Nat) (w : World) (hbs : BB bs) (hlen : bs.length = 64) :
    Calls Tryd.prog 36 #[.agg (yV bs)] w fun r w' => r = .returned (.agg (uV (sched bs))) ∧ Below w.heap.size w w' := by
  have HL := Lib.hid hlen; clear hlen
  have HBB := Lib.hid hbs; clear hbs
  go_enter Tryd.func36, Tryd.ntmps36
  go_wp2_with fail
  go_loopw [6] (fun i wr => ∃ k : Nat, k ≤ 16 ∧ i = .int .i64 k ∧ Hid (SchW w bs ((List.range k).map (w0N bs)) wr)) (fun i _ => 16 - (intOf i).toNat)
  case atStart => exact ⟨0, by omega, rfl, Lib.hid (SchW.start w bs (by kernel_rfl) (by kernel_rfl))⟩
  case round =>
    obtain ⟨k, hk, rfl, HS⟩ := hrel
    by_cases hlt : k < 16
    · obtain ⟨p, hp⟩ : ∃ p : Nat, p = 4 * k := ⟨_, rfl⟩
      obtain ⟨p1, hp1⟩ : ∃ p1 : Nat, p1 = 4 * k + 1 := ⟨_, rfl⟩
      obtain ⟨p2, hp2⟩ : ∃ p2 : Nat, p2 = 4 * k + 2 := ⟨_, rfl⟩
      obtain ⟨p3, hp3⟩ : ∃ p3 : Nat, p3 = 4 * k + 3 := ⟨_, rfl⟩
      have g0 := HS.out.byte (i := p) (by have := HL.out; omega)
      have g1 := HS.out.byte (i := p1) (by have := HL.out; omega)
      have g2 := HS.out.byte (i := p2) (by have := HL.out; omega)
      have g3 := HS.out.byte (i := p3) (by have := HL.out; omega)
      obtain ⟨x0, hx0⟩ : ∃ x, bs.getD p 0 = x := ⟨_, rfl⟩
      obtain ⟨x1, hx1⟩ : ∃ x, bs.getD p1 0 = x := ⟨_, rfl⟩
      obtain ⟨x2, hx2⟩ : ∃ x, bs.getD p2 0 = x := ⟨_, rfl⟩
      obtain ⟨x3, hx3⟩ : ∃ x, bs.getD p3 0 = x := ⟨_, rfl⟩
      rw [hx0] at g0; rw [hx1] at g1; rw [hx2] at g2; rw [hx3] at g3
      have b0 : x0 < 256 := by rw [← hx0]; exact HBB.out.get _
      have b1 : x1 < 256 := by rw [← hx1]; exact HBB.out.get _
      have b2 : x2 < 256 := by rw [← hx2]; exact HBB.out.get _
      have b3 : x3 < 256 := by rw [← hx3]; exact HBB.out.get _
      have HX : (x0 * 2 ^ 24 ||| x1 * 2 ^ 16 ||| x2 * 2 ^ 8 ||| x3 = w0N bs k) := (by rw [← hx0, ← hx1, ← hx2, ← hx3, hp, hp1, hp2, hp3]; rfl)
      have EX := or4_wrap b0 b1 b2 b3
      rw [HX] at EX
      clear HX
      have e0 : IntKind.i64.wrap (4 * (k : Int)) = (p : Int) := by rw [IntKind.wrap_i64]; omega
      have e1 : IntKind.i64.wrap ((p : Int) + 1) = (p1 : Int) := by rw [IntKind.wrap_i64]; omega
      have e2 : IntKind.i64.wrap ((p : Int) + 2) = (p2 : Int) := by rw [IntKind.wrap_i64]; omega
      have e3 : IntKind.i64.wrap ((p : Int) + 3) = (p3 : Int) := by rw [IntKind.wrap_i64]; omega
      have q0 : (p : Int) < 64 := by omega
      have q1 : (p1 : Int) < 64 := by omega
      have q2 : (p2 : Int) < 64 := by omega
      have q3 : (p3 : Int) < 64 := by omega
      have qk : (k : Int) < 64 := by omega
      clear hp hp1 hp2 hp3 hx0 hx1 hx2 hx3
      go_wp2_with fail
      go_still_tail 31, (by kernel_rfl)
      change wpList _ _ _ _ _ wr.drew
      have gk := HS.out.row.at (i := k) (v := .int .u32 0) (uV_get (pre64_hole (by simp) (by omega)))
      have fk := HS.out.row.free k
      go_wp2_with fail
      go_roundw
      case rel => exact ⟨k + 1, by omega, by go_num, Lib.hid (by rw [range_map_succ]; exact (HS.out.drawn 1).put (by simp; omega) _ (by simp))⟩
      case measure => simp [intOf]; omega
    · have HK16 : Hid (k = 16) := Lib.hid (by omega)
      replace HS : Hid (SchW w bs (schN bs 0) wr) := Lib.hid (by have := HS.out; rw [HK16.out] at this; exact this)
      go_wp2_with fail
      go_loopw [5] (fun i wr => ∃ n : Nat, n ≤ 48 ∧ i = .int .i64 ((16 + n : Nat) : Int) ∧ Hid (SchW w bs (schN bs n) wr)) (fun i _ => 64 - (intOf i).toNat)
      case atStart => exact ⟨0, by omega, rfl, HS⟩
      case round =>
        obtain ⟨n, hn, rfl, HT⟩ := hrel
        have HSL := Lib.hid (schN_len bs n)
        by_cases hlt : n < 48
        · obtain ⟨j2, hj2⟩ : ∃ j : Nat, j = n + 14 := ⟨_, rfl⟩
          obtain ⟨j7, hj7⟩ : ∃ j : Nat, j = n + 9 := ⟨_, rfl⟩
          obtain ⟨j15, hj15⟩ : ∃ j : Nat, j = n + 1 := ⟨_, rfl⟩
          obtain ⟨j, hj⟩ : ∃ j : Nat, j = 16 + n := ⟨_, rfl⟩
          rw [← hj]
          obtain ⟨y2, hy2⟩ : ∃ y, (schN bs n).getD j2 0 = y := ⟨_, rfl⟩
          obtain ⟨y7, hy7⟩ : ∃ y, (schN bs n).getD j7 0 = y := ⟨_, rfl⟩
          obtain ⟨y15, hy15⟩ : ∃ y, (schN bs n).getD j15 0 = y := ⟨_, rfl⟩
          obtain ⟨y16, hy16⟩ : ∃ y, (schN bs n).getD n 0 = y := ⟨_, rfl⟩
          have hww := schN_ww HBB.out n
          have b2 : y2 < 4294967296 := by rw [← hy2]; exact hww.get _
          have b7 : y7 < 4294967296 := by rw [← hy7]; exact hww.get _
          have b15 : y15 < 4294967296 := by rw [← hy15]; exact hww.get _
          have b16 : y16 < 4294967296 := by rw [← hy16]; exact hww.get _
          have hget : ∀ W, SchW w bs (schN bs n) W → W.cell? ⟨w.heap.size + 1 + 1, j2, none⟩ = some (.int .u32 y2) ∧ W.cell? ⟨w.heap.size + 1 + 1, j7, none⟩ = some (.int .u32 y7) ∧ W.cell? ⟨w.heap.size + 1 + 1, j15, none⟩ = some (.int .u32 y15) ∧ W.cell? ⟨w.heap.size + 1 + 1, n, none⟩ = some (.int .u32 y16) := fun W h => by
            have hl := HSL.out
            have q2 := h.get (i := j2) (by omega); have q7 := h.get (i := j7) (by omega); have q15 := h.get (i := j15) (by omega); have q16 := h.get (i := n) (by omega)
            rw [hy2] at q2; rw [hy7] at q7; rw [hy15] at q15; rw [hy16] at q16
            exact ⟨q2, q7, q15, q16⟩
          have HX : Hid (addN (addN (addN (sm1 y2) y7) (sm0 y15)) y16 = extN (schN bs n)) := Lib.hid (by
            unfold extN
            rw [HSL.out, ← hy2, ← hy7, ← hy15, ← hy16, hj2, hj7, hj15, show 16 + n - 2 = n + 14 by omega, show 16 + n - 7 = n + 9 by omega, show 16 + n - 15 = n + 1 by omega, show 16 + n - 16 = n by omega])
          have e2 : IntKind.i64.wrap ((j : Int) - 2) = (j2 : Int) := by rw [IntKind.wrap_i64]; omega
          have e7 : IntKind.i64.wrap ((j : Int) - 7) = (j7 : Int) := by rw [IntKind.wrap_i64]; omega
          have e15 : IntKind.i64.wrap ((j : Int) - 15) = (j15 : Int) := by rw [IntKind.wrap_i64]; omega
          have e16 : IntKind.i64.wrap ((j : Int) - 16) = (n : Int) := by rw [IntKind.wrap_i64]; omega
          have r2 : (j2 : Int) < 64 := by omega
          have r7 : (j7 : Int) < 64 := by omega
          have r15 : (j15 : Int) < 64 := by omega
          have r16 : (n : Int) < 64 := by omega
          have rj : (j : Int) < 64 := by omega
          have HJ : Hid (j = 16 + n) := Lib.hid hj
          have HG := Lib.hid hget
          have gk := HT.out.row.at (i := j) (v := .int .u32 0) (uV_get (pre64_hole (by rw [HSL.out]; omega) (by omega)))
          have fk := HT.out.row.free j
          have HK : Hid (∀ (W : World) (v : Value), (W.cell? ⟨w.heap.size + 1 + 1, j2, none⟩ = some (.int .u32 y2) ∧ W.cell? ⟨w.heap.size + 1 + 1, j7, none⟩ = some (.int .u32 y7) ∧ W.cell? ⟨w.heap.size + 1 + 1, j15, none⟩ = some (.int .u32 y15) ∧ W.cell? ⟨w.heap.size + 1 + 1, n, none⟩ = some (.int .u32 y16)) → ((W.setCell ⟨w.heap.size + 1 + 1, j, none⟩ v).cell? ⟨w.heap.size + 1 + 1, j2, none⟩ = some (.int .u32 y2) ∧ (W.setCell ⟨w.heap.size + 1 + 1, j, none⟩ v).cell? ⟨w.heap.size + 1 + 1, j7, none⟩ = some (.int .u32 y7) ∧ (W.setCell ⟨w.heap.size + 1 + 1, j, none⟩ v).cell? ⟨w.heap.size + 1 + 1, j15, none⟩ = some (.int .u32 y15) ∧ (W.setCell ⟨w.heap.size + 1 + 1, j, none⟩ v).cell? ⟨w.heap.size + 1 + 1, n, none⟩ = some (.int .u32 y16))) := Lib.hid (fun W v h => by
            obtain ⟨h1, h2, h3, h4⟩ := h
            have ne : ∀ i : Nat, i ≠ j → (⟨w.heap.size + 1 + 1, j, none⟩ : Addr) ≠ ⟨w.heap.size + 1 + 1, i, none⟩ := fun i hi e => by injection e with _ e2; omega
            refine ⟨?_, ?_, ?_, ?_⟩
            · rw [World.cell?_setCell_other _ _ _ _ (ne j2 (by omega))]; exact h1
            · rw [World.cell?_setCell_other _ _ _ _ (ne j7 (by omega))]; exact h2
            · rw [World.cell?_setCell_other _ _ _ _ (ne j15 (by omega))]; exact h3
            · rw [World.cell?_setCell_other _ _ _ _ (ne n (by omega))]; exact h4)
          clear hj hj2 hj7 hj15 hy2 hy7 hy15 hy16 hww hget
          go_wp2_with fail
          go_region_held3 (fun W => W.cell? ⟨w.heap.size + 1 + 1, j2, none⟩ = some (.int .u32 y2) ∧ W.cell? ⟨w.heap.size + 1 + 1, j7, none⟩ = some (.int .u32 y7) ∧ W.cell? ⟨w.heap.size + 1 + 1, j15, none⟩ = some (.int .u32 y15) ∧ W.cell? ⟨w.heap.size + 1 + 1, n, none⟩ = some (.int .u32 y16)) (first | exact HG.out _ (HT.out.drawn 1) | exact HG.out _ (HT.out.drawn _) | exact HK.out _ _ (HG.out _ (HT.out.drawn _))) (first
            | (go_at_call 50; refine (small1_any y2 _ b2).mono ?_; rintro e w1 ⟨rfl, q1, rfl⟩)
            | (go_at_call 51; refine (small0_any y15 _ b15).mono ?_; rintro e w1 ⟨rfl, q1, rfl⟩))
          go_wp2_with fail
          go_roundw
          case rel => exact ⟨n + 1, by omega, by rw [HJ.out]; go_num, Lib.hid (by
            rw [add_bits, add_bits, add_bits, HX.out]
            exact (HT.out.drawn _).put (by rw [HSL.out]; omega) _ (by rw [HSL.out, HJ.out]))⟩
          case measure => simp [intOf]; omega
        · have HN : Hid (n = 48) := Lib.hid (by omega)
          have HF : Hid (SchW w bs (sched bs) wr) := Lib.hid (by have := HT.out; rw [HN.out] at this; exact this)
          have hrow := HF.out.row
          rw [pre64_full (sched_len bs)] at hrow
          have HR := Lib.hid hrow; clear hrow HT HN HSL
          go_wp2_with (first
            | ((with_reducible refine atOp ⟨some 68, _, _, _, _, _⟩ ?_); refine wpList_load_row rfl 75 _ rfl (w.heap.size + 1 + 1) rfl 75 (uV (sched bs)) (0, 0) _ HR.out Tryd.underlying75 rfl (sched_info bs) ?_)
            | ((with_reducible refine atOp ⟨none, .store 75 _ _, _, _, _, _⟩ ?_); refine wpList_store_row rfl 75 _ _ rfl (w.heap.size + 1) (uV (sched bs)) rfl rfl 75 (uV (List.replicate 64 0)) HF.out.res (sched_info bs) (sched_same bs) (uV_one _) ?_))
          refine bodyPost_ret (v := .agg (uV (sched bs))) (results_cell_row Tryd.results36 _ _ (w.heap.size + 1) 75 _ (0, 0) _ rfl (HF.out.res.row _) Tryd.underlying75 rfl (sched_info bs)) rfl ⟨rfl, bl_row _ HF.out.bel (by omega)⟩
end Go.Proofs.YtipcanphkdodaaaDoor
