/- The reference's block. -/
import Derived.Test.YtipcanphkdodaaaDoorShaZf
namespace Go.Proofs.YtipcanphkdodaaaDoor
open Go.RowKit
set_option linter.unusedVariables false

/-- The memory of the reference's block in the rounds: the state s lies at d. -/
structure RtW (w : World) (st bs : List Nat) (d : Nat) (s : List Nat) (W : World) : Prop where
  lo : w.heap.size + 1 + 1 + 1 + 1 < d
  ks : AR W w.heap.size 26 (uV kL)
  st : AR W (w.heap.size + 1) 23 (uV st)
  rs : AR W (w.heap.size + 1 + 1 + 1) 23 (uV (List.replicate 8 0))
  row : AR W (w.heap.size + 1 + 1 + 1 + 1) 26 (uV (sched bs))
  sx : AR W d 23 (uV s)
  bel : Below w.heap.size w W
theorem RtW.start {w W : World} {st bs : List Nat} (h : RbW w st bs (sched bs) W) : RtW w st bs W.heap.size st (W.alloc (.cells (uV st) 23)) := by
  have hr := h.row
  rw [pre64_full (sched_len bs)] at hr
  exact ⟨hr.inside, h.ks.more _, h.st.more _, h.rs.more _, hr.more _, AR.made _ _ _, bl_alloc _ h.bel⟩
theorem RtW.drawn {w W : World} {st bs s : List Nat} {d : Nat} (h : RtW w st bs d s W) (n : Nat) : RtW w st bs d s (W.drewN n) := ⟨h.lo, h.ks, h.st, h.rs, h.row, h.sx, bl_drewN n h.bel⟩
theorem RtW.rowS {w W : World} {st bs s : List Nat} {d : Nat} (h : RtW w st bs d s W) (s' : List Nat) : RtW w st bs d s' (W.setRow d (uV s')) := by
  have hl := h.lo
  exact ⟨h.lo, h.ks.apart (show w.heap.size ≠ d by omega) _, h.st.apart (show w.heap.size + 1 ≠ d by omega) _, h.rs.apart (show w.heap.size + 1 + 1 + 1 ≠ d by omega) _, h.row.apart (show w.heap.size + 1 + 1 + 1 + 1 ≠ d by omega) _, h.sx.row _, bl_row _ h.bel (by omega)⟩
theorem RtW.put {w W : World} {st bs s : List Nat} {d : Nat} (h : RtW w st bs d s W) (i x : Nat) : RtW w st bs d (s.set i x) (W.setCell ⟨d, i, none⟩ (.int .u32 x)) := by
  have hl := h.lo
  refine ⟨h.lo, h.ks.kept (show w.heap.size ≠ d by omega) _, h.st.kept (show w.heap.size + 1 ≠ d by omega) _, h.rs.kept (show w.heap.size + 1 + 1 + 1 ≠ d by omega) _, h.row.kept (show w.heap.size + 1 + 1 + 1 + 1 ≠ d by omega) _, ?_, bl_set _ h.bel (show w.heap.size ≤ d by omega)⟩
  have := h.sx.put i (.int .u32 x)
  rw [uV_set] at this
  exact this
theorem getD_at {l : List Nat} {i : Nat} (h : i < l.length) : l[i]? = some (l.getD i 0) := by rw [List.getD_eq_getElem?_getD, List.getElem?_eq_getElem h]; rfl
set_option maxRecDepth 20000 in
set_option maxHeartbeats 4000000 in
theorem rblock_any (st bs : List Nat) (w : World) (hst : st.length = 8) (hsw : WW st) (hbs : BB bs) (hlen : bs.length = 64) :
    Calls Tryd.prog 38 #[.agg (uV kL), .agg (uV st), .agg (yV bs)] w (Gives w (.agg (uV (blockL st bs)))) := by
  have HST := Lib.hid hst; have HL := Lib.hid hlen; have HBB := Lib.hid hbs; have HSW := Lib.hid hsw
  clear hst hlen hbs hsw
  go_enter Tryd.func38, Tryd.ntmps38
  go_wp2_with fail
  go_loopw [8] (fun i wr => ∃ k : Nat, k ≤ 16 ∧ i = .int .i64 k ∧ Hid (RbW w st bs ((List.range k).map (w0N bs)) wr)) (fun i _ => 16 - (intOf i).toNat)
  case atStart => exact ⟨0, by omega, rfl, Lib.hid (RbW.start w st bs (by kernel_rfl) (by kernel_rfl))⟩
  case round =>
    obtain ⟨k, hk, rfl, HS⟩ := hrel
    by_cases hlt : k < 16
    · obtain ⟨p, hp⟩ : ∃ p : Nat, p = 4 * k := ⟨_, rfl⟩
      obtain ⟨p1, hp1⟩ : ∃ p1 : Nat, p1 = 4 * k + 1 := ⟨_, rfl⟩
      obtain ⟨p2, hp2⟩ : ∃ p2 : Nat, p2 = 4 * k + 2 := ⟨_, rfl⟩
      obtain ⟨p3, hp3⟩ : ∃ p3 : Nat, p3 = 4 * k + 3 := ⟨_, rfl⟩
      have g0 := HS.out.byte (i := p) (by have := HL.out; omega)
      have g1 := HS.out.byte (i := p1) (by have := HL.out; omega)
      have g2 := HS.out.byte (i := p2) (by have := HL.out; omega)
      have g3 := HS.out.byte (i := p3) (by have := HL.out; omega)
      obtain ⟨x0, hx0⟩ : ∃ x, bs.getD p 0 = x := ⟨_, rfl⟩
      obtain ⟨x1, hx1⟩ : ∃ x, bs.getD p1 0 = x := ⟨_, rfl⟩
      obtain ⟨x2, hx2⟩ : ∃ x, bs.getD p2 0 = x := ⟨_, rfl⟩
      obtain ⟨x3, hx3⟩ : ∃ x, bs.getD p3 0 = x := ⟨_, rfl⟩
      rw [hx0] at g0; rw [hx1] at g1; rw [hx2] at g2; rw [hx3] at g3
      have b0 : x0 < 256 := by rw [← hx0]; exact HBB.out.get _
      have b1 : x1 < 256 := by rw [← hx1]; exact HBB.out.get _
      have b2 : x2 < 256 := by rw [← hx2]; exact HBB.out.get _
      have b3 : x3 < 256 := by rw [← hx3]; exact HBB.out.get _
      have HX : (x0 * 2 ^ 24 ||| x1 * 2 ^ 16 ||| x2 * 2 ^ 8 ||| x3 = w0N bs k) := (by rw [← hx0, ← hx1, ← hx2, ← hx3, hp, hp1, hp2, hp3]; rfl)
      have EX := or4_wrap b0 b1 b2 b3
      rw [HX] at EX
      clear HX
      have e0 : IntKind.i64.wrap (4 * (k : Int)) = (p : Int) := by rw [IntKind.wrap_i64]; omega
      have e1 : IntKind.i64.wrap ((p : Int) + 1) = (p1 : Int) := by rw [IntKind.wrap_i64]; omega
      have e2 : IntKind.i64.wrap ((p : Int) + 2) = (p2 : Int) := by rw [IntKind.wrap_i64]; omega
      have e3 : IntKind.i64.wrap ((p : Int) + 3) = (p3 : Int) := by rw [IntKind.wrap_i64]; omega
      have q0 : (p : Int) < 64 := by omega
      have q1 : (p1 : Int) < 64 := by omega
      have q2 : (p2 : Int) < 64 := by omega
      have q3 : (p3 : Int) < 64 := by omega
      have qk : (k : Int) < 64 := by omega
      clear hp hp1 hp2 hp3 hx0 hx1 hx2 hx3
      go_wp2_with fail
      go_still_tail 31, (by kernel_rfl)
      change wpList _ _ _ _ _ wr.drew
      have gk := HS.out.row.at (i := k) (v := .int .u32 0) (uV_get (pre64_hole (by simp) (by omega)))
      have fk := HS.out.row.free k
      go_wp2_with fail
      go_roundw
      case rel => exact ⟨k + 1, by omega, by go_num, Lib.hid (by rw [range_map_succ]; exact (HS.out.drawn 1).put (by simp; omega) _ (by simp))⟩
      case measure => simp [intOf]; omega
    · have HK16 : Hid (k = 16) := Lib.hid (by omega)
      replace HS : Hid (RbW w st bs (schN bs 0) wr) := Lib.hid (by have := HS.out; rw [HK16.out] at this; exact this)
      go_wp2_with fail
      go_loopw [9] (fun i wr => ∃ n : Nat, n ≤ 48 ∧ i = .int .i64 ((16 + n : Nat) : Int) ∧ Hid (RbW w st bs (schN bs n) wr)) (fun i _ => 64 - (intOf i).toNat)
      case atStart => exact ⟨0, by omega, rfl, HS⟩
      case round =>
        clear HS HK16
        obtain ⟨n, hn, rfl, HT⟩ := hrel
        have HSL := Lib.hid (schN_len bs n)
        by_cases hlt : n < 48
        · obtain ⟨j2, hj2⟩ : ∃ j : Nat, j = n + 14 := ⟨_, rfl⟩
          obtain ⟨j7, hj7⟩ : ∃ j : Nat, j = n + 9 := ⟨_, rfl⟩
          obtain ⟨j15, hj15⟩ : ∃ j : Nat, j = n + 1 := ⟨_, rfl⟩
          obtain ⟨j, hj⟩ : ∃ j : Nat, j = 16 + n := ⟨_, rfl⟩
          rw [← hj]
          obtain ⟨y2, hy2⟩ : ∃ y, (schN bs n).getD j2 0 = y := ⟨_, rfl⟩
          obtain ⟨y7, hy7⟩ : ∃ y, (schN bs n).getD j7 0 = y := ⟨_, rfl⟩
          obtain ⟨y15, hy15⟩ : ∃ y, (schN bs n).getD j15 0 = y := ⟨_, rfl⟩
          obtain ⟨y16, hy16⟩ : ∃ y, (schN bs n).getD n 0 = y := ⟨_, rfl⟩
          have hww := schN_ww HBB.out n
          have b2 : y2 < 4294967296 := by rw [← hy2]; exact hww.get _
          have b7 : y7 < 4294967296 := by rw [← hy7]; exact hww.get _
          have b15 : y15 < 4294967296 := by rw [← hy15]; exact hww.get _
          have b16 : y16 < 4294967296 := by rw [← hy16]; exact hww.get _
          have q2 := HT.out.get (i := j2) (by have := HSL.out; omega); have q7 := HT.out.get (i := j7) (by have := HSL.out; omega); have q15 := HT.out.get (i := j15) (by have := HSL.out; omega); have q16 := HT.out.get (i := n) (by have := HSL.out; omega)
          rw [hy2] at q2; rw [hy7] at q7; rw [hy15] at q15; rw [hy16] at q16
          have HX : Hid (addN (addN (addN (sm1 y2) y7) (sm0 y15)) y16 = extN (schN bs n)) := Lib.hid (by
            unfold extN
            rw [HSL.out, ← hy2, ← hy7, ← hy15, ← hy16, hj2, hj7, hj15, show 16 + n - 2 = n + 14 by omega, show 16 + n - 7 = n + 9 by omega, show 16 + n - 15 = n + 1 by omega, show 16 + n - 16 = n by omega])
          have e2 : IntKind.i64.wrap ((j : Int) - 2) = (j2 : Int) := by rw [IntKind.wrap_i64]; omega
          have e7 : IntKind.i64.wrap ((j : Int) - 7) = (j7 : Int) := by rw [IntKind.wrap_i64]; omega
          have e15 : IntKind.i64.wrap ((j : Int) - 15) = (j15 : Int) := by rw [IntKind.wrap_i64]; omega
          have e16 : IntKind.i64.wrap ((j : Int) - 16) = (n : Int) := by rw [IntKind.wrap_i64]; omega
          have r2 : (j2 : Int) < 64 := by omega
          have r7 : (j7 : Int) < 64 := by omega
          have r15 : (j15 : Int) < 64 := by omega
          have r16 : (n : Int) < 64 := by omega
          have rj : (j : Int) < 64 := by omega
          have HJ : Hid (j = 16 + n) := Lib.hid hj
          have gk := HT.out.row.at (i := j) (v := .int .u32 0) (uV_get (pre64_hole (by rw [HSL.out]; omega) (by omega)))
          have fk := HT.out.row.free j
          obtain ⟨r17, h17⟩ : ∃ r, rotN y2 17 = r := ⟨_, rfl⟩
          obtain ⟨r19, h19⟩ : ∃ r, rotN y2 19 = r := ⟨_, rfl⟩
          obtain ⟨r07, h07⟩ : ∃ r, rotN y15 7 = r := ⟨_, rfl⟩
          obtain ⟨r18, h18⟩ : ∃ r, rotN y15 18 = r := ⟨_, rfl⟩
          have HSM1 := xor3_bits (rotN_lt 17 b2) (rotN_lt 19 b2) (div_lt (n := 10) b2)
          have HSM0 := xor3_bits (rotN_lt 7 b15) (rotN_lt 18 b15) (div_lt (n := 3) b15)
          rw [h17, h19] at HSM1; rw [h07, h18] at HSM0
          have H17 := Lib.hid h17; have H19 := Lib.hid h19; have H07 := Lib.hid h07; have H18 := Lib.hid h18
          obtain ⟨m1, hm1⟩ : ∃ m, sm1 y2 = m := ⟨_, rfl⟩
          obtain ⟨m0, hm0⟩ : ∃ m, sm0 y15 = m := ⟨_, rfl⟩
          have E1 : bits .xor .u32 (bits .xor .u32 (r17 : Int) (r19 : Int)) ((y2 : Int) / 1024) = (m1 : Int) := by
            rw [← hm1, show (y2 : Int) / 1024 = ((y2 / 2 ^ 10 : Nat) : Int) by omega, HSM1, ← h17, ← h19]; rfl
          have E0 : bits .xor .u32 (bits .xor .u32 (r07 : Int) (r18 : Int)) ((y15 : Int) / 8) = (m0 : Int) := by
            rw [← hm0, show (y15 : Int) / 8 = ((y15 / 2 ^ 3 : Nat) : Int) by omega, HSM0, ← h07, ← h18]; rfl
          rw [hm1, hm0] at HX
          have tk1 : True := trivial; have tk2 : True := trivial; have tk3 : True := trivial; have tk4 : True := trivial
          clear hj hj2 hj7 hj15 hy2 hy7 hy15 hy16 hww h17 h19 h07 h18 HSM1 HSM0 hm1 hm0
          go_wp2_with fail
          go_region_held3 (fun W => W.cell? ⟨w.heap.size + 1 + 1 + 1 + 1, j2, none⟩ = some (.int .u32 y2) ∧ W.cell? ⟨w.heap.size + 1 + 1 + 1 + 1, j15, none⟩ = some (.int .u32 y15)) (exact ⟨q2, q15⟩) (fail)
          replace HT : Hid (RbW w st bs (schN bs n) wr.drew) := Lib.hid (HT.out.drawn 1)
          replace q7 : wr.drew.cell? ⟨w.heap.size + 1 + 1 + 1 + 1, j7, none⟩ = some (.int .u32 y7) := q7
          replace q16 : wr.drew.cell? ⟨w.heap.size + 1 + 1 + 1 + 1, n, none⟩ = some (.int .u32 y16) := q16
          replace gk : wr.drew.cell? ⟨w.heap.size + 1 + 1 + 1 + 1, j, none⟩ = some (.int .u32 0) := gk
          replace fk : wr.drew.frozen? ⟨w.heap.size + 1 + 1 + 1 + 1, j, none⟩ = false := fk
          clear q2 q15
          generalize wr.drew = wq at *
          go_wp2_with (first
            | (go_at_call 56; have _t := tk1; (with_reducible refine (rrot_at y2 17 r17 _ _ b2 (by omega) (by omega) (by omega) H17.out).mono ?_); rintro e w' ⟨rfl, rfl⟩; clear tk1 _t)
            | (go_at_call 56; have _t := tk2; (with_reducible refine (rrot_at y2 19 r19 _ _ b2 (by omega) (by omega) (by omega) H19.out).mono ?_); rintro e w' ⟨rfl, rfl⟩; clear tk2 _t)
            | (go_at_call 56; have _t := tk3; (with_reducible refine (rrot_at y15 7 r07 _ _ b15 (by omega) (by omega) (by omega) H07.out).mono ?_); rintro e w' ⟨rfl, rfl⟩; clear tk3 _t)
            | (go_at_call 56; have _t := tk4; (with_reducible refine (rrot_at y15 18 r18 _ _ b15 (by omega) (by omega) (by omega) H18.out).mono ?_); rintro e w' ⟨rfl, rfl⟩; clear tk4 _t))
          go_still_tail 15, (by kernel_rfl)
          have gkd : wq.drew.cell? ⟨w.heap.size + 1 + 1 + 1 + 1, j, none⟩ = some (.int .u32 0) := gk
          have fkd : wq.drew.frozen? ⟨w.heap.size + 1 + 1 + 1 + 1, j, none⟩ = false := fk
          change wpList _ _ _ _ _ wq.drew
          go_wp2_with fail
          go_roundw
          case rel => exact ⟨n + 1, by omega, by rw [HJ.out]; go_num, Lib.hid (by
            rw [show ((m1 : Int) + y7 + m0 + y16) % 4294967296 = ((addN (addN (addN m1 y7) m0) y16 : Nat) : Int) by unfold addN; omega, HX.out]
            exact (HT.out.put (by rw [HSL.out]; omega) _ (by rw [HSL.out, HJ.out])).drawn 1)⟩
          case measure => simp [intOf]; omega
        · have HN : Hid (n = 48) := Lib.hid (by omega)
          have HF : Hid (RbW w st bs (sched bs) wr) := Lib.hid (by have := HT.out; rw [HN.out] at this; exact this)
          clear HT HN HSL
          go_wp2_with (first
            | ((with_reducible refine atOp ⟨some 103, _, _, _, _, _⟩ ?_); refine wpList_load_row rfl 23 _ rfl (w.heap.size + 1) rfl 23 (uV st) (0, 0) _ HF.out.st Tryd.underlying23 rfl (info8 st HST.out) ?_)
            | ((with_reducible refine atOp ⟨none, .store 23 _ _, _, _, _, _⟩ ?_); refine wpList_store_row rfl 23 (.tmp 14) (.tmp 103) rfl wr.heap.size (uV st) rfl rfl 23 (uV (List.replicate 8 0)) (AR.made wr _ _) (info8 _ HST.out) (by rw [uV_size, uV_size, HST.out]; rfl) (uV_one _) ?_; rw [World.setRow_alloc_new]))
          obtain ⟨d, hd⟩ : ∃ d, wr.heap.size = d := ⟨_, rfl⟩
          have HR : Hid (RtW w st bs d st (wr.alloc (.cells (uV st) 23))) := Lib.hid (by rw [← hd]; exact RtW.start HF.out)
          rw [hd]
          clear HF
          go_loopw [15] (fun i wx => ∃ t : Nat, t ≤ 64 ∧ i = .int .i64 t ∧ Hid (RtW w st bs d (runL (sched bs) st t) wx)) (fun i _ => 64 - (intOf i).toNat)
          case atStart => exact ⟨0, by omega, rfl, HR⟩
          case round =>
            clear HR hd
            obtain ⟨t, ht, rfl, HT⟩ := hrel
            by_cases hlt2 : t < 64
            · obtain ⟨x, hx⟩ : ∃ x, (sched bs).getD t 0 = x := ⟨_, rfl⟩
              obtain ⟨y, hy⟩ : ∃ y, kL.getD t 0 = y := ⟨_, rfl⟩
              have cx := HT.out.row.at (i := t) (v := .int .u32 x) (uV_get (by rw [getD_at (by rw [sched_len]; exact hlt2), hx]))
              have cy := HT.out.ks.at (i := t) (v := .int .u32 y) (uV_get (by rw [getD_at (by rw [kL_len]; exact hlt2), hy]))
              have hx4 : x < 4294967296 := by rw [← hx]; exact (sched_ww HBB.out).get _
              have hy4 : y < 4294967296 := by rw [← hy]; exact kL_ww.get _
              obtain ⟨s1, hs1⟩ : ∃ s1, runL (sched bs) st t = s1 := ⟨_, rfl⟩
              have h8 : s1.length = 8 := by rw [← hs1]; exact runL_len _ HST.out t
              have hw8 : WW s1 := by rw [← hs1]; exact runL_ww _ HST.out HSW.out t
              have hnext : runL (sched bs) st (t + 1) = stepL s1 y x := by rw [← hs1, ← hx, ← hy]; rfl
              rw [hs1] at HT
              obtain ⟨s0, s2, s3, s4, s5, s6, s7, s8, rfl⟩ := len8 h8
              have hm : ∀ z ∈ [s0, s2, s3, s4, s5, s6, s7, s8], z < 4294967296 := hw8
              simp only [List.mem_cons, List.not_mem_nil, or_false] at hm
              have l0 := hm s0 (by simp); have l2 := hm s2 (by simp); have l3 := hm s3 (by simp); have l4 := hm s4 (by simp)
              have l5 := hm s5 (by simp); have l6 := hm s6 (by simp); have l7 := hm s7 (by simp); have l8 := hm s8 (by simp)
              have c0 := HT.out.sx.at (i := 0) (v := .int .u32 s0) rfl
              have c1 := HT.out.sx.at (i := 1) (v := .int .u32 s2) rfl
              have c2 := HT.out.sx.at (i := 2) (v := .int .u32 s3) rfl
              have c3 := HT.out.sx.at (i := 3) (v := .int .u32 s4) rfl
              have c4 := HT.out.sx.at (i := 4) (v := .int .u32 s5) rfl
              have c5 := HT.out.sx.at (i := 5) (v := .int .u32 s6) rfl
              have c6 := HT.out.sx.at (i := 6) (v := .int .u32 s7) rfl
              have c7 := HT.out.sx.at (i := 7) (v := .int .u32 s8) rfl
              have rt : (t : Int) < 64 := by omega
              have HN := Lib.hid hnext
              clear hx hy hs1 h8 hw8 hm hnext
              have hsg : IntKind.u32.signed = false := rfl
              obtain ⟨r6, h6⟩ : ∃ r, rotN s5 6 = r := ⟨_, rfl⟩
              obtain ⟨r11, h11⟩ : ∃ r, rotN s5 11 = r := ⟨_, rfl⟩
              obtain ⟨r25, h25⟩ : ∃ r, rotN s5 25 = r := ⟨_, rfl⟩
              obtain ⟨r2, h2⟩ : ∃ r, rotN s0 2 = r := ⟨_, rfl⟩
              obtain ⟨r13, h13⟩ : ∃ r, rotN s0 13 = r := ⟨_, rfl⟩
              obtain ⟨r22, h22⟩ : ∃ r, rotN s0 22 = r := ⟨_, rfl⟩
              obtain ⟨g1, hg1⟩ : ∃ m, lg1 s5 = m := ⟨_, rfl⟩
              obtain ⟨g0, hg0⟩ : ∃ m, lg0 s0 = m := ⟨_, rfl⟩
              obtain ⟨ch, hch⟩ : ∃ m, chN s5 s6 s7 = m := ⟨_, rfl⟩
              obtain ⟨mj, hmj⟩ : ∃ m, mjN s0 s2 s3 = m := ⟨_, rfl⟩
              have EG1 : bits .xor .u32 (bits .xor .u32 (r6 : Int) (r11 : Int)) (r25 : Int) = (g1 : Int) := by
                rw [← h6, ← h11, ← h25, xor3_bits (rotN_lt 6 l5) (rotN_lt 11 l5) (rotN_lt 25 l5), ← hg1]; rfl
              have EG0 : bits .xor .u32 (bits .xor .u32 (r2 : Int) (r13 : Int)) (r22 : Int) = (g0 : Int) := by
                rw [← h2, ← h13, ← h22, xor3_bits (rotN_lt 2 l0) (rotN_lt 13 l0) (rotN_lt 22 l0), ← hg0]; rfl
              have ECH : bits .xor .u32 (bits .and .u32 (s5 : Int) (s6 : Int)) (bits .and .u32 (bits .xor .u32 IntKind.u32.max (s5 : Int)) (s7 : Int)) = (ch : Int) := by
                rw [not_u32 l5, u32_and_nat _ _ l5 l6, u32_and_nat _ _ (by omega) l7, u32_xor_nat _ _ (and_lt _ l5) (and_lt _ (by omega)), chN_xor l5, hch]
              have EMJ : bits .xor .u32 (bits .xor .u32 (bits .and .u32 (s0 : Int) (s2 : Int)) (bits .and .u32 (s0 : Int) (s3 : Int))) (bits .and .u32 (s2 : Int) (s3 : Int)) = (mj : Int) := by
                rw [u32_and_nat _ _ l0 l2, u32_and_nat _ _ l0 l3, u32_and_nat _ _ l2 l3, u32_xor_nat _ _ (and_lt _ l0) (and_lt _ l0), u32_xor_nat _ _ (xor_lt (and_lt _ l0) (and_lt _ l0)) (and_lt _ l2), mjN_xor, hmj]
              have H6 := Lib.hid h6; have H11 := Lib.hid h11; have H25 := Lib.hid h25; have H2 := Lib.hid h2; have H13 := Lib.hid h13; have H22 := Lib.hid h22
              have HG1 := Lib.hid hg1; have HG0 := Lib.hid hg0; have HCH := Lib.hid hch; have HMJ := Lib.hid hmj
              clear h6 h11 h25 h2 h13 h22 hg1 hg0 hch hmj
              go_wp2_with fail
              go_region_held3 (fun W => W.cell? ⟨d, 0, none⟩ = some (.int .u32 s0) ∧ W.cell? ⟨d, 1, none⟩ = some (.int .u32 s2) ∧ W.cell? ⟨d, 2, none⟩ = some (.int .u32 s3) ∧ W.cell? ⟨d, 4, none⟩ = some (.int .u32 s5) ∧ W.cell? ⟨d, 5, none⟩ = some (.int .u32 s6) ∧ W.cell? ⟨d, 6, none⟩ = some (.int .u32 s7)) (exact ⟨c0, c1, c2, c4, c5, c6⟩) (fail)
              replace HT : Hid (RtW w st bs d [s0, s2, s3, s4, s5, s6, s7, s8] wr.drew) := Lib.hid (HT.out.drawn 1)
              replace c3 : wr.drew.cell? ⟨d, 3, none⟩ = some (.int .u32 s4) := c3
              replace c7 : wr.drew.cell? ⟨d, 7, none⟩ = some (.int .u32 s8) := c7
              replace cx : wr.drew.cell? ⟨w.heap.size + 1 + 1 + 1 + 1, t, none⟩ = some (.int .u32 x) := cx
              replace cy : wr.drew.cell? ⟨w.heap.size, t, none⟩ = some (.int .u32 y) := cy
              clear c0 c1 c2 c4 c5 c6
              generalize wr.drew = wq at *
              go_wp2_with fail
              go_region_held3 (fun W => W.cell? ⟨d, 7, none⟩ = some (.int .u32 s8) ∧ W.cell? ⟨w.heap.size + 1 + 1 + 1 + 1, t, none⟩ = some (.int .u32 x) ∧ W.cell? ⟨w.heap.size, t, none⟩ = some (.int .u32 y)) (exact ⟨c7, cx, cy⟩) (first
                | (go_at_call 56; (with_reducible refine (rrot_at s5 6 r6 _ _ l5 (by omega) (by omega) (by omega) H6.out).mono ?_); rintro e w' ⟨rfl, rfl⟩)
                | (go_at_call 56; (with_reducible refine (rrot_at s5 11 r11 _ _ l5 (by omega) (by omega) (by omega) H11.out).mono ?_); rintro e w' ⟨rfl, rfl⟩)
                | (go_at_call 56; (with_reducible refine (rrot_at s5 25 r25 _ _ l5 (by omega) (by omega) (by omega) H25.out).mono ?_); rintro e w' ⟨rfl, rfl⟩))
              rw [add_wrap, add_wrap, add_wrap, add_wrap]
              obtain ⟨u, hu⟩ : ∃ u, addN (addN (addN (addN s8 g1) ch) y) x = u := ⟨_, rfl⟩
              obtain ⟨v, hv⟩ : ∃ v, addN g0 mj = v := ⟨_, rfl⟩
              obtain ⟨n0, hn0⟩ : ∃ v', addN u v = v' := ⟨_, rfl⟩
              obtain ⟨n4, hn4⟩ : ∃ v', addN s4 u = v' := ⟨_, rfl⟩
              rw [hu]
              have v1 : IntKind.u32.wrap ((g0 : Int) + mj) = (v : Int) := by rw [add_wrap, hv]
              have v2 : IntKind.u32.wrap ((u : Int) + v) = (n0 : Int) := by rw [add_wrap, hn0]
              have v3 : IntKind.u32.wrap ((s4 : Int) + u) = (n4 : Int) := by rw [add_wrap, hn4]
              have v4 : ((g0 : Int) + mj) % 4294967296 = (v : Int) := by rw [add_bits, hv]
              have v5 : ((u : Int) + v) % 4294967296 = (n0 : Int) := by rw [add_bits, hn0]
              have v6 : ((s4 : Int) + u) % 4294967296 = (n4 : Int) := by rw [add_bits, hn4]
              have HNX : Hid (stepL [s0, s2, s3, s4, s5, s6, s7, s8] y x = [n0, s0, s2, s3, n4, s5, s6, s7]) := Lib.hid (by
                rw [← hn0, ← hn4, ← hu, ← hv, ← HG1.out, ← HG0.out, ← HCH.out, ← HMJ.out]; rfl)
              replace HT : Hid (RtW w st bs d [s0, s2, s3, s4, s5, s6, s7, s8] wq.drew) := Lib.hid (HT.out.drawn 1)
              replace c3 : wq.drew.cell? ⟨d, 3, none⟩ = some (.int .u32 s4) := c3
              clear c7 cx cy EG1 ECH hu hv hn0 hn4
              generalize wq.drew = wp at *
              go_wp2_with (first
                | (go_at_call 56; (with_reducible refine (rrot_at s0 2 r2 _ _ l0 (by omega) (by omega) (by omega) H2.out).mono ?_); rintro e w' ⟨rfl, rfl⟩)
                | (go_at_call 56; (with_reducible refine (rrot_at s0 13 r13 _ _ l0 (by omega) (by omega) (by omega) H13.out).mono ?_); rintro e w' ⟨rfl, rfl⟩)
                | (go_at_call 56; (with_reducible refine (rrot_at s0 22 r22 _ _ l0 (by omega) (by omega) (by omega) H22.out).mono ?_); rintro e w' ⟨rfl, rfl⟩)
                | ((with_reducible refine atOp ⟨none, .store 23 _ _, _, _, _, _⟩ ?_); refine wpList_store_row rfl 23 (.tmp 14) (.tmp 181) rfl d (uV [n0, s0, s2, s3, n4, s5, s6, s7]) rfl rfl 23 (uV [s0, s2, s3, s4, s5, s6, s7, s8]) HT.out.sx (info8 _ rfl) rfl (uV_one _) ?_))
              go_roundw
              case rel => exact ⟨t + 1, by omega, by go_num, Lib.hid (by rw [HN.out, HNX.out]; exact HT.out.rowS _)⟩
              case measure => simp [intOf]; omega
            · have HK64 : Hid (t = 64) := Lib.hid (by omega)
              obtain ⟨z8, hz8⟩ : ∃ z8, runL (sched bs) st 64 = z8 := ⟨_, rfl⟩
              have h8 : z8.length = 8 := by rw [← hz8]; exact runL_len _ HST.out 64
              replace HT : Hid (RtW w st bs d z8 wr) := Lib.hid (by have := HT.out; rw [HK64.out, hz8] at this; exact this)
              obtain ⟨tt, htt⟩ : ∃ tt, blockL st bs = tt := ⟨_, rfl⟩
              have hg8 : ∀ k, k < 8 → addN (z8.getD k 0) (st.getD k 0) = tt.getD k 0 := fun k hk => by
                rw [← htt, ← hz8]
                have := (blockL_get (bs := bs) HST.out hk).symm
                rw [← this]; unfold addN; rw [Nat.add_comm]
              have ht8 : tt.length = 8 := by rw [← htt]; exact blockL_len _ HST.out
              have H8 := Lib.hid h8; have HG8 := Lib.hid hg8; have HT8 := Lib.hid ht8; have HTT := Lib.hid htt
              clear hz8 h8 hg8 ht8 htt
              go_wp2_with fail
              go_loopw [24] (fun i wr => ∃ k : Nat, k ≤ 8 ∧ i = .int .i64 k ∧ Hid (RtW w st bs d (mix tt z8 k) wr)) (fun i _ => 8 - (intOf i).toNat)
              case atStart => exact ⟨0, by omega, rfl, HT⟩
              case round =>
                clear HT
                obtain ⟨k2, hk2, rfl, HU⟩ := hrel
                by_cases hlt3 : k2 < 8
                · obtain ⟨x, hx⟩ : ∃ x, z8.getD k2 0 = x := ⟨_, rfl⟩
                  obtain ⟨y, hy⟩ : ∃ y, st.getD k2 0 = y := ⟨_, rfl⟩
                  have hg := HU.out.sx.at (i := k2) (v := .int .u32 x) (uV_get (by rw [mix_get (by rw [HT8.out]; omega) (by rw [H8.out]; omega), hx]))
                  have hf := HU.out.sx.free k2
                  have hs := HU.out.st.at (i := k2) (v := .int .u32 y) (uV_get (by rw [getD_at (by rw [HST.out]; omega), hy]))
                  have rk : (k2 : Int) < 8 := by omega
                  have HA := HG8.out k2 hlt3
                  rw [hx, hy] at HA
                  obtain ⟨z, hz⟩ : ∃ z, tt.getD k2 0 = z := ⟨_, rfl⟩
                  rw [hz] at HA
                  have v1 : IntKind.u32.wrap ((x : Int) + y) = (z : Int) := by rw [add_wrap, HA]
                  have v2 : ((x : Int) + y) % 4294967296 = (z : Int) := by rw [add_bits, HA]
                  have HZ := Lib.hid hz
                  clear hx hy HA hz
                  go_wp2_with fail
                  go_still_tail 9, (by kernel_rfl)
                  have hgd : wr.drew.cell? ⟨d, k2, none⟩ = some (.int .u32 x) := hg
                  have hfd : wr.drew.frozen? ⟨d, k2, none⟩ = false := hf
                  change wpList _ _ _ _ _ wr.drew
                  go_wp2_with fail
                  go_roundw
                  case rel => exact ⟨k2 + 1, by omega, by go_num, Lib.hid (by
                    have := (HU.out.put k2 z).drawn 1
                    rw [← HZ.out, mix_set (by rw [HT8.out]; omega) (by rw [H8.out]; omega)] at this
                    rw [← HZ.out]
                    exact this)⟩
                  case measure => simp [intOf]; omega
                · have HK3 : Hid (k2 = 8) := Lib.hid (by omega)
                  replace HU : Hid (RtW w st bs d tt wr) := Lib.hid (by have := HU.out; rw [HK3.out, mix_full HT8.out H8.out] at this; exact this)
                  go_wp2_with (first
                    | ((with_reducible refine atOp ⟨some 195, _, _, _, _, _⟩ ?_); refine wpList_load_row rfl 23 _ rfl d rfl 23 (uV tt) (0, 0) _ HU.out.sx Tryd.underlying23 rfl (info8 tt HT8.out) ?_)
                    | ((with_reducible refine atOp ⟨none, .store 23 _ _, _, _, _, _⟩ ?_); refine wpList_store_row rfl 23 (.tmp 6) (.tmp 195) rfl (w.heap.size + 1 + 1 + 1) (uV tt) rfl rfl 23 (uV (List.replicate 8 0)) HU.out.rs (info8 _ HT8.out) (by rw [uV_size, uV_size, HT8.out]; rfl) (uV_one _) ?_))
                  refine bodyPost_ret (v := .agg (uV tt)) (results_cell_row Tryd.results38 _ _ (w.heap.size + 1 + 1 + 1) 23 _ (0, 0) _ rfl (HU.out.rs.row _) Tryd.underlying23 rfl (info8 tt HT8.out)) rfl ⟨by rw [HTT.out], bl_row _ HU.out.bel (by omega)⟩
end Go.Proofs.YtipcanphkdodaaaDoor
