/- HeapsHandles: the walk. -/
import Derived.Test.YtcppgefnocjdiaaHeapsTb
import Derived.StillTailTactics
namespace Go.Proofs.Ytcppgefnocjdiaa
open Go.RowKit Go.Lib Go.Sort Go.Shelf
set_option linter.unusedVariables false

theorem HdR.base {W w0 : World} {qb mb : Nat} {odd : Bool} {bs : List Nat} {nx : Int} {S : List HItem} {w2 w' : World} (h : HdR W w0 qb mb odd bs nx S w2) (hb : Go.RowKit.Below w2.heap.size w2 w') (cs : List Nat) (hc : ∀ b ∈ cs, b < w'.heap.size ∧ (w2.heap.size ≤ b ∨ b < W.heap.size)) : HdR W w' qb mb odd cs nx S w' := by
  obtain ⟨v, h1, h2, h3⟩ := h
  refine ⟨v, h1.later hb, h2.trans (hb.mono h2.size), fun b hb' => ⟨?_, rfl⟩⟩
  obtain ⟨xs, hq, _⟩ := h1.mem
  have hl := hq.lt
  have hlo := hq.lo
  obtain ⟨c1, c2⟩ := hc b hb'
  refine ⟨c1, by omega, by omega, fun e => ?_⟩
  have := hq.row.lt b e
  omega
/-- What is known of the queue ahead of the changes. -/
structure Ha0 (l : List Int) (m : Nat) (S0 : List HItem) : Prop where
  perm : S0.Perm (itemsOf l)
  len : S0.length = m
theorem itemsOf_at {l : List Int} {r : Nat} (h : r < l.length) : ((r : Int) + 1, l.getD r 0) ∈ itemsOf l := by
  unfold itemsOf
  refine List.mem_map.2 ⟨(l.getD r 0, r), List.mem_iff_getElem?.2 ⟨r, ?_⟩, rfl⟩
  rw [List.getElem?_zipIdx, List.getElem?_eq_getElem h, List.getD_eq_getElem?_getD, List.getElem?_eq_getElem h]
  simp
theorem MaR.hd {w1 wr : World} {qb mb : Nat} {odd : Bool} {l : List Int} {v : Value} (h : MaR w1 qb mb odd l v wr) : ∃ S0, S0.Perm (itemsOf l) ∧ S0.length = l.length ∧ HdR w1 w1 qb mb odd [] ((l.length : Int) + 1) S0 wr := by
  obtain ⟨S, h1, h2, h3⟩ := h
  exact ⟨S, h2, by rw [h2.length_eq, itemsOf_len], v, h1, h3, fun b hb => by cases hb⟩
theorem HdR.kept {W w0 : World} {qb mb : Nat} {odd : Bool} {bs : List Nat} {nx : Int} {S : List HItem} {wr : World} (h : HdR W w0 qb mb odd bs nx S wr) : ∀ b ∈ bs, wr.heap[b]? = w0.heap[b]? := by
  obtain ⟨v, _, _, h3⟩ := h
  exact fun b hb => (h3 b hb).2
/-- The blocks that the law keeps. -/
def haB (yb bb : Nat) (u : Value) : List Nat := yb :: bb :: u.ownBlock.toList
/-- A round's world, of the law's changes: the queue has S. -/
structure HaR (w1 w4 : World) (qb mb : Nat) (odd : Bool) (yb bb : Nat) (u : Value) (y0 y1 nx0 : Int) (S0 : List HItem) (nx : Int) (S : List HItem) (wr : World) : Prop where
  hd : HdR w1 w4 qb mb odd (haB yb bb u) nx S wr
  y0 : wr.cell? ⟨yb, 0, none⟩ = some (.int .i64 y0)
  y1 : wr.cell? ⟨yb, 1, none⟩ = some (.int .i64 y1)
  n0 : wr.cell? ⟨bb, 0, none⟩ = some (.int .i64 nx0)
  it : wr.cell? ⟨bb, 1, none⟩ = some u
  rh : RH wr u S0
theorem HaR.of {w1 w4 : World} {qb mb : Nat} {odd : Bool} {yb bb : Nat} {u : Value} {y0 y1 nx0 : Int} {S0 : List HItem} {nx ny : Int} {S T : List HItem} {wr w' : World} (h : HaR w1 w4 qb mb odd yb bb u y0 y1 nx0 S0 nx S wr) (k : HdR w1 w4 qb mb odd (haB yb bb u) ny T w') : HaR w1 w4 qb mb odd yb bb u y0 y1 nx0 S0 ny T w' := by
  have e : ∀ b ∈ haB yb bb u, w'.heap[b]? = wr.heap[b]? := fun b hb => (k.kept b hb).trans (h.hd.kept b hb).symm
  have ey : ∀ j, w'.cell? ⟨yb, j, none⟩ = wr.cell? ⟨yb, j, none⟩ := fun j => World.cell?_of_block (a := ⟨yb, j, none⟩) (e yb (by simp [haB]))
  have eb : ∀ j, w'.cell? ⟨bb, j, none⟩ = wr.cell? ⟨bb, j, none⟩ := fun j => World.cell?_of_block (a := ⟨bb, j, none⟩) (e bb (by simp [haB]))
  refine ⟨k, (ey 0).trans h.y0, (ey 1).trans h.y1, (eb 0).trans h.n0, (eb 1).trans h.it, ?_⟩
  rcases h.rh with h1 | ⟨g, off, cap, rfl, h2, h3⟩
  · exact .inl h1
  · have hg := e g (by simp [haB, Value.ownBlock])
    refine .inr ⟨g, off, cap, rfl, ?_, fun i s hi => ⟨(World.cell?_of_block (a := ⟨g, off + i * 2, none⟩) hg).trans (h3 i s hi).1, (World.cell?_of_block (a := ⟨g, off + i * 2 + 1, none⟩) hg).trans (h3 i s hi).2⟩⟩
    rcases Nat.lt_or_ge g w'.heap.size with hlt | hge
    · exact hlt
    · rw [Array.getElem?_eq_none hge, Array.getElem?_eq_getElem h2] at hg
      cases hg
theorem HaR.later {w1 w4 : World} {qb mb : Nat} {odd : Bool} {yb bb : Nat} {u : Value} {y0 y1 nx0 : Int} {S0 : List HItem} {nx : Int} {S : List HItem} {wr w' : World} (h : HaR w1 w4 qb mb odd yb bb u y0 y1 nx0 S0 nx S wr) (hb : Go.RowKit.Below wr.heap.size wr w') : HaR w1 w4 qb mb odd yb bb u y0 y1 nx0 S0 nx S w' := h.of (h.hd.later hb)
/-- Two rows that grow in turn. -/
structure TwR (wB : World) (vc vd : Value) (lc ld : List HItem) (wr : World) : Prop where
  c : OH wr wB.heap.size vc lc
  d : OH wr wB.heap.size vd ld
  ne : ∀ x, vc.ownBlock = some x → vd.ownBlock ≠ some x
  bel : Go.RowKit.Below wB.heap.size wB wr
theorem TwR.later {wB : World} {vc vd : Value} {lc ld : List HItem} {wr w' : World} (h : TwR wB vc vd lc ld wr) (hb : Go.RowKit.Below wr.heap.size wr w') : TwR wB vc vd lc ld w' :=
  ⟨h.c.same fun g hg => hb.block g (h.c.lt g hg).2, h.d.same fun g hg => hb.block g (h.d.lt g hg).2, h.ne, h.bel.trans (hb.mono h.bel.size)⟩
theorem TwR.growC {wB : World} {vc vd vc' : Value} {lc ld lc' : List HItem} {wr w' : World} (h : TwR wB vc vd lc ld wr) (hn : OH w' wB.heap.size vc' lc') (hg : wr.grownBy w' vc.ownBlock) (hb : vc'.ownBlock = vc.ownBlock ∨ vc'.ownBlock = some wr.heap.size) : TwR wB vc' vd lc' ld w' := by
  refine ⟨hn, h.d.same fun g hg' => hg.block g (h.d.lt g hg').2 fun e => h.ne g e.symm hg', fun x hx => ?_, h.bel.grown hg h.bel.size fun k e => (h.c.lt k e).1⟩
  rcases hb with hb | hb
  · rw [hb] at hx; exact h.ne x hx
  · rw [hb] at hx
    intro e
    have := (h.d.lt x e).2
    have := Option.some.inj hx
    omega
theorem TwR.swap {wB : World} {vc vd : Value} {lc ld : List HItem} {wr : World} (h : TwR wB vc vd lc ld wr) : TwR wB vd vc ld lc wr := ⟨h.d, h.c, fun x hx e => h.ne x e hx, h.bel⟩
theorem butH_len (h : Int) (l : List HItem) : (butH h l).length ≤ l.length := List.length_filter_le _ _
set_option maxRecDepth 100000 in
set_option maxHeartbeats 8000000 in
theorem handles_some (n : Nat) (lv : Value) (l : List Int) (y0 y1 : Int) (W : World) (hn : n < 256) (hl : RI W lv l) (hle : l.length ≤ 100) (hy : -9223372036854775808 ≤ y1 ∧ y1 ≤ 9223372036854775807) :
    Calls Try.prog 6 #[.int .u8 n, lv, .agg #[.int .i64 y0, .int .i64 y1]] W fun e w' => e = .returned (.bool true) ∧ Go.RowKit.Below W.heap.size W w' := by
  have mixed : Try.prog.follows .mixedOrders = true := by kernel_rfl
  have hb1 : Go.RowKit.Below W.heap.size W (W.alloc (.cells #[.int .i64 y0, .int .i64 y1] 62)) := (Go.RowKit.Below.refl _ W).alloc (Nat.le_refl _) _
  obtain ⟨w1, hw1⟩ : ∃ w1, W.alloc (.cells #[.int .i64 y0, .int .i64 y1] 62) = w1 := ⟨_, rfl⟩
  have k1 := made_any n lv l w1 hn (hl.later (by rw [← hw1]; exact hb1)) (by omega)
  generalize decide (n % 2 = 1) = odd at k1
  obtain ⟨A, c, rfl⟩ := hl.len
  obtain ⟨m, hm⟩ : ∃ m, l.length = m := ⟨_, rfl⟩
  rw [hm] at hle hl k1 ⊢
  have HM := Lib.hid hm; have HL := Lib.hid hl
  have hmz : ¬ (m : Int) > 100 := by omega
  have HW1 := Lib.hid hw1
  have HB1 := Lib.hid hb1
  clear hm hl hb1
  go_enter Try.func6, Try.ntmps6
  go_upto_region 1 with fail
  clear hw1
  go_upto_region 6 with (first
    | (go_at_call 27; refine k1.mono ?_; rintro e w2 ⟨qb, mb, v0, rfl, H1⟩))
  obtain ⟨S0, p1, p2, p3⟩ := H1.out.hd
  have k2 := p3.save (by rw [p2, HM.out]; omega)
  rw [p2, HM.out] at k2
  rw [HM.out] at p2 p3
  have H0 := Lib.hid (show Ha0 l m S0 from ⟨p1, p2⟩)
  have HP3 := Lib.hid p3
  clear k1 p1 p2 p3 H1
  obtain ⟨nx0, hnx⟩ : ∃ x, (m : Int) + 1 = x := ⟨_, rfl⟩
  rw [hnx] at k2 HP3
  have HNX := Lib.hid hnx
  clear hnx
  go_upto_region 7 with (first
    | (go_at_call 17; refine k2.mono ?_; rintro e w3 ⟨A2, c2, rfl, H2⟩))
  have HA : Hid (HaR w1 (w3.alloc (.cells #[.int .i64 nx0, .slice A2 m c2] 24)) qb mb odd W.heap.size w3.heap.size (.slice A2 m c2) y0 y1 nx0 S0 nx0 S0 (w3.alloc (.cells #[.int .i64 nx0, .slice A2 m c2] 24))) := Lib.hid (by
    obtain ⟨q1, q2, q3, q4⟩ := H2.out
    have hsz := q4.size
    have hs1 := HP3.out.lo.size
    have hw1 := HW1.out
    have hws : w1.heap.size = W.heap.size + 1 := by rw [← hw1]; simp
    have hb4 : Go.RowKit.Below w2.heap.size w2 (w3.alloc (.cells #[.int .i64 nx0, .slice A2 m c2] 24)) := q4.alloc hsz _
    have hb5 : Go.RowKit.Below w1.heap.size w1 (w3.alloc (.cells #[.int .i64 nx0, .slice A2 m c2] 24)) := HP3.out.lo.trans (hb4.mono hs1)
    obtain ⟨y2, y3⟩ := box2 W (.int .i64 y0) (.int .i64 y1) 62 W.heap.size rfl
    rw [hw1] at y2 y3
    obtain ⟨b2, b3⟩ := box2 w3 (.int .i64 nx0) (.slice A2 m c2) 24 w3.heap.size rfl
    refine ⟨HP3.out.base hb4 _ fun b hb => ?_, (World.cell?_of_block (a := ⟨W.heap.size, 0, none⟩) (hb5.block W.heap.size (by omega))).trans y2, (World.cell?_of_block (a := ⟨W.heap.size, 1, none⟩) (hb5.block W.heap.size (by omega))).trans y3, b2, b3, q2.later ((Go.RowKit.Below.refl _ w3).alloc (Nat.le_refl _) _)⟩
    simp only [haB, List.mem_cons, Option.mem_toList, Option.mem_def] at hb
    rcases hb with rfl | rfl | hb
    · exact ⟨by simp; omega, .inr (by omega)⟩
    · exact ⟨by simp, .inl hsz⟩
    · have := q3.lt b hb
      exact ⟨by simp; omega, .inl this.1⟩)
  clear H2 k2 HP3
  generalize w3.alloc (.cells #[.int .i64 nx0, .slice A2 m c2] 24) = w4 at HA ⊢
  generalize w3.heap.size = bb at HA ⊢
  have HBZ : Hid (Go.RowKit.Below W.heap.size W w1) := Lib.hid (by rw [← HW1.out]; exact HB1.out)
  go_wp2_with fail
  go_loopw [9] (fun vi wr => ∃ (i : Nat), vi = .int .i64 i ∧ i ≤ 3 ∧ Hid (HaR w1 w4 qb mb odd W.heap.size bb (.slice A2 m c2) y0 y1 nx0 S0 (nx0 + i) S0 wr)) (fun vi _ => 3 - (intOf vi).toNat)
  case atStart => exact ⟨0, rfl, by omega, Lib.hid (by have := HA.out; simpa using this)⟩
  case round =>
    clear HA
    obtain ⟨i, rfl, hi, HR⟩ := hrel
    by_cases hlt : i < 3
    · have c0 := HR.out.y0
      have c1 := HR.out.n0
      obtain ⟨hv, hhv⟩ : ∃ hv, nx0 + (i : Int) = hv := ⟨_, rfl⟩
      have i0 : (i : Int) < 3 := by omega
      have i1 : IntKind.i64.wrap (nx0 + (i : Int)) = hv := by rw [IntWalk.i64_in _ (by have := HNX.out; omega), hhv]
      have i2 : IntKind.i64.wrap ((i : Int) + 1) = (i : Int) + 1 := IntWalk.i64_in _ (by omega)
      obtain ⟨k, hk, kp⟩ := HR.out.hd.push y0 (by rw [H0.out.len]; omega) (by have := HNX.out; omega)
      rw [hhv] at kp
      have hP := putL_at (l := S0) (hv, y0) hk
      have hC := putL_cut (l := S0) (hv, y0) hk
      have krm : ∀ w5, Hid (HaR w1 w4 qb mb odd W.heap.size bb (.slice A2 m c2) y0 y1 nx0 S0 (hv + 1) (putL S0 k (hv, y0)) w5) → Calls Try.prog 24 #[.pointer (some ⟨qb, 0, none⟩), .int .i64 hv] w5 fun e w' => e = .returned (.tuple #[.int .i64 y0, .int .i64 0]) ∧ Hid (HaR w1 w4 qb mb odd W.heap.size bb (.slice A2 m c2) y0 y1 nx0 S0 (hv + 1) S0 w') := fun w5 H => (H.out.hd.remove hP).mono fun e w' ⟨he, h⟩ => ⟨he, Lib.hid (H.out.of (by have := h.out; rw [hC] at this; exact this))⟩
      have ksv : ∀ w6, Hid (HaR w1 w4 qb mb odd W.heap.size bb (.slice A2 m c2) y0 y1 nx0 S0 (hv + 1) S0 w6) → Calls Try.prog 17 #[.pointer (some ⟨qb, 0, none⟩)] w6 fun e w' => ∃ A c, e = .returned (.agg #[.int .i64 (hv + 1), .slice A m c]) ∧ Hid (HaR w1 w4 qb mb odd W.heap.size bb (.slice A2 m c2) y0 y1 nx0 S0 (hv + 1) S0 w' ∧ RH w' (.slice A m c) S0) := fun w6 H => by
        have := H.out.hd.save (by rw [H0.out.len]; omega)
        rw [H0.out.len] at this
        exact this.mono fun e w' ⟨A, c, he, h⟩ => ⟨A, c, he, Lib.hid ⟨H.out.of h.out.1, h.out.2.1⟩⟩
      have HHV := Lib.hid hhv
      clear hP hC hhv hk
      go_upto_region 14 with (first
        | (go_at_call 20; refine kp.mono ?_; rintro e w5 ⟨rfl, h5⟩; have H5 := Lib.hid (HR.out.of h5.out); clear h5 kp; have cn2 := H5.out.n0)
        | (go_at_call 24; refine (krm w5 H5).mono ?_; rintro e w6 ⟨rfl, H6⟩; clear krm))
      have H7 := Lib.hid (H6.out.later ((Go.RowKit.Below.refl _ w6).drew))
      have d0 := H7.out.y0
      have d1 := H7.out.it
      have hfd : ∀ (x : Int) (A : Option Addr) (m c : Nat) (w : World), (Instr.field 24 (.agg #[.int .i64 x, .slice A m c]) 1).run Try.prog w = .ok (.slice A m c) w := fun _ _ _ _ _ => by kernel_rfl
      have ks := ksv _ H7
      clear ksv H5 H6
      go_region_with (first
        | (go_at_call 17; refine ks.mono ?_; rintro e w8 ⟨A3, c3, rfl, H8⟩; have d2 := H8.out.1.it)
        | (go_at_call 18; refine (same_eq _ _ S0 _ H8.out.2 H8.out.1.rh (by rw [H0.out.len]; omega)).mono ?_; rintro e w9 ⟨rfl, hG⟩; have H9 := Lib.hid (H8.out.1.later hG.below); clear hG))
      all_goals
        have HN : Hid (HaR w1 w4 qb mb odd W.heap.size bb (.slice A2 m c2) y0 y1 nx0 S0 (nx0 + ((i + 1 : Nat) : Int)) S0 w9) := Lib.hid (by
          have := H9.out
          rw [← HHV.out, show nx0 + (i : Int) + 1 = nx0 + ((i + 1 : Nat) : Int) by omega] at this
          exact this)
        go_wp2_with fail
        go_roundw
        case rel => exact ⟨i + 1, by go_num, by omega, HN⟩
        case measure => simp [intOf]; omega
    · obtain rfl : i = 3 := by omega
      by_cases hm0 : m = 0
      · have j1 : ((m : Int) == 0) = true := by simp [hm0]
        clear hm0
        go_wp2_with (first
          | (go_at_call 10; refine (awake_any _).mono ?_; rintro e w5 ⟨rfl, hb5⟩))
        go_ret
        exact ⟨rfl, HBZ.out.trans ((HR.out.hd.lo.trans (hb5.mono HR.out.hd.lo.size)).mono HBZ.out.size)⟩
      · have j1 : ((m : Int) == 0) = false := by simp [hm0]
        have c0 := HR.out.y0
        have c1 := HR.out.y1
        obtain ⟨t1, ht1⟩ : ∃ t, IntKind.i64.wrap (y1 + 1) = t := ⟨_, rfl⟩
        obtain ⟨t2, ht2⟩ : ∃ t, IntKind.i64.wrap (-t1) = t := ⟨_, rfl⟩
        obtain ⟨t3, ht3⟩ : ∃ t, max y1 t2 = t := ⟨_, rfl⟩
        have h03 : 0 ≤ t3 := by
          by_cases hneg : y1 < 0
          · rw [IntWalk.i64_in _ (by omega)] at ht1
            rw [IntWalk.i64_in _ (by omega)] at ht2
            omega
          · omega
        obtain ⟨r, hr⟩ : ∃ r : Nat, t3.tmod (m : Int) = (r : Int) := ⟨(t3.tmod m).toNat, by rw [Int.toNat_of_nonneg (Int.tmod_nonneg _ h03)]⟩
        have hrm : r < m := by
          have := Int.tmod_lt_of_pos t3 (b := (m : Int)) (by omega)
          omega
        obtain ⟨hh, hhh⟩ : ∃ x, (r : Int) + 1 = x := ⟨_, rfl⟩
        have j2 : IntKind.i64.wrap (1 + (r : Int)) = hh := by rw [IntWalk.i64_in _ (by omega)]; omega
        have j3 : IntKind.i64.wrap (r : Int) = (r : Int) := w64 rfl (by omega)
        have HRM : Hid (r < m ∧ (r : Int) + 1 = hh) := Lib.hid ⟨hrm, hhh⟩
        have hrl : r < l.length := by rw [HM.out]; exact hrm
        obtain ⟨g, off, hA, cl⟩ := (HL.out.later (HBZ.out.trans (HR.out.hd.lo.mono HBZ.out.size))).cell (i := r) hrl
        subst hA
        have hmem := H0.out.perm.mem_iff.2 (itemsOf_at hrl)
        rw [hhh] at hmem
        obtain ⟨u, hu⟩ : ∃ u, l.getD r 0 = u := ⟨_, rfl⟩
        rw [hu] at hmem cl
        obtain ⟨k, hk⟩ := List.mem_iff_getElem?.1 hmem
        have HK := Lib.hid hk
        have kget := HR.out.hd.get hmem
        have hasc := HR.out.hd.asc
        have HASC := Lib.hid hasc
        have kset1 : ∀ w, Hid (HaR w1 w4 qb mb odd W.heap.size bb (.slice A2 m c2) y0 y1 nx0 S0 (nx0 + ((3 : Nat) : Int)) S0 w) → Calls Try.prog 25 #[.pointer (some ⟨qb, 0, none⟩), .int .i64 hh, .int .i64 u] w fun e w' => e = .returned (.int .i64 0) ∧ Hid (HaR w1 w4 qb mb odd W.heap.size bb (.slice A2 m c2) y0 y1 nx0 S0 (nx0 + ((3 : Nat) : Int)) S0 w') := fun w H =>
          (H.out.hd.set HK.out u k (place_same (ordL_weak odd) HASC.out.1 HK.out)).mono fun e w' ⟨he, h⟩ => ⟨he, Lib.hid (H.out.of (by have := h.out; rw [cut_putL HK.out] at this; exact this))⟩
        obtain ⟨k1, hk1⟩ := place_ex (befI (ordL odd)) (S0.eraseIdx k) (hh, y0)
        have kset2 : ∀ w, Hid (HaR w1 w4 qb mb odd W.heap.size bb (.slice A2 m c2) y0 y1 nx0 S0 (nx0 + ((3 : Nat) : Int)) S0 w) → Calls Try.prog 25 #[.pointer (some ⟨qb, 0, none⟩), .int .i64 hh, .int .i64 y0] w fun e w' => e = .returned (.int .i64 0) ∧ Hid (HaR w1 w4 qb mb odd W.heap.size bb (.slice A2 m c2) y0 y1 nx0 S0 (nx0 + ((3 : Nat) : Int)) (putL (S0.eraseIdx k) k1 (hh, y0)) w') := fun w H =>
          (H.out.hd.set HK.out y0 k1 hk1).mono fun e w' ⟨he, h⟩ => ⟨he, Lib.hid (H.out.of h.out)⟩
        have HS1 : Hid (butH hh (putL (S0.eraseIdx k) k1 (hh, y0)) = S0.eraseIdx k ∧ butH hh S0 = S0.eraseIdx k ∧ (putL (S0.eraseIdx k) k1 (hh, y0)).length = m) := Lib.hid (by
          have hc := cut_but HASC.out.2 HK.out
          refine ⟨butH_put k1 y0 hc, ?_, ?_⟩
          · have := butH_put (h := hh) k u hc
            rw [cut_putL HK.out] at this
            exact this
          · have h1 := (putL_perm (S0.eraseIdx k) k1 (hh, y0)).length_eq
            have h2 := (cut_perm HK.out).length_eq
            simp only [List.length_cons] at h1 h2
            rw [h1, ← h2, H0.out.len])
        generalize putL (S0.eraseIdx k) k1 (hh, y0) = S1 at kset2 HS1
        have ksv : ∀ w6, Hid (HaR w1 w4 qb mb odd W.heap.size bb (.slice A2 m c2) y0 y1 nx0 S0 (nx0 + ((3 : Nat) : Int)) S0 w6) → Calls Try.prog 17 #[.pointer (some ⟨qb, 0, none⟩)] w6 fun e w' => ∃ A c, e = .returned (.agg #[.int .i64 (nx0 + ((3 : Nat) : Int)), .slice A m c]) ∧ Hid (HaR w1 w4 qb mb odd W.heap.size bb (.slice A2 m c2) y0 y1 nx0 S0 (nx0 + ((3 : Nat) : Int)) S0 w' ∧ RH w' (.slice A m c) S0) := fun w6 H => by
          have := H.out.hd.save (by rw [H0.out.len]; omega)
          rw [H0.out.len] at this
          exact this.mono fun e w' ⟨A, c, he, h⟩ => ⟨A, c, he, Lib.hid ⟨H.out.of h.out.1, h.out.2.1⟩⟩
        have kwk : ∀ w6, Hid (HaR w1 w4 qb mb odd W.heap.size bb (.slice A2 m c2) y0 y1 nx0 S0 (nx0 + ((3 : Nat) : Int)) S1 w6) → Calls Try.prog 19 #[.pointer (some ⟨qb, 0, none⟩)] w6 fun e w' => ∃ A c, e = .returned (.slice A m c) ∧ Hid (HaR w1 w4 qb mb odd W.heap.size bb (.slice A2 m c2) y0 y1 nx0 S0 (nx0 + ((3 : Nat) : Int)) S1 w' ∧ RH w' (.slice A m c) S1) := fun w6 H => by
          have := H.out.hd.walked (by rw [HS1.out.2.2]; omega)
          rw [HS1.out.2.2] at this
          exact this.mono fun e w' ⟨A, c, he, h⟩ => ⟨A, c, he, Lib.hid ⟨H.out.of h.out.1, h.out.2.1.rh⟩⟩
        have j4 : IntKind.i64.wrap (hh - 1) = (r : Int) := by rw [IntWalk.i64_in _ (by omega)]; omega
        have j5 : (r : Int) < (m : Int) := by omega
        have hfd : ∀ (x : Int) (A : Option Addr) (m c : Nat) (w : World), (Instr.field 24 (.agg #[.int .i64 x, .slice A m c]) 1).run Try.prog w = .ok (.slice A m c) w := fun _ _ _ _ _ => by kernel_rfl
        have HU := Lib.hid hu
        clear hm0 h03 hrm hhh hrl hmem hk hasc hk1 hu
        go_upto_region 20 with (first
          | (go_at_call 23; refine kget.mono ?_; rintro e w5 ⟨rfl, hw5⟩; subst hw5; clear kget))
        have H7 := Lib.hid (HR.out.later ((Go.RowKit.Below.refl _ w5).drew))
        have hcl : ∀ w, HaR w1 w4 qb mb odd W.heap.size bb (.slice A2 m c2) y0 y1 nx0 S0 (nx0 + ((3 : Nat) : Int)) S0 w → w.cell? ⟨g, off + r, none⟩ = some (.int .i64 u) := fun w H => by
          have e1 := HR.out.hd.lo
          obtain ⟨g', off', e, c⟩ := (HL.out.later (HBZ.out.trans (H.hd.lo.mono HBZ.out.size))).cell (i := r) (by rw [HM.out]; exact HRM.out.1)
          simp only [Option.some.injEq, Addr.mk.injEq] at e
          obtain ⟨rfl, rfl, _⟩ := e
          rw [HU.out] at c
          exact c
        have HCL := Lib.hid hcl
        clear hcl cl c0 c1
        obtain ⟨P, hP⟩ : ∃ P : World → Prop, P = HaR w1 w4 qb mb odd W.heap.size bb (.slice A2 m c2) y0 y1 nx0 S0 (nx0 + ((3 : Nat) : Int)) S0 := ⟨_, rfl⟩
        rw [← hP] at H7 HCL kset1 ksv
        have HQ : ∀ w, Hid (P w) → (w.cell? ⟨g, off + r, none⟩ = some (.int .i64 u) ∧ w.cell? ⟨bb, 1, none⟩ = some (.slice A2 m c2)) ∧ Hid (P w) := fun w h => ⟨⟨HCL.out w h.out, by have := h.out; rw [hP] at this; exact this.it⟩, h⟩
        have HRU : ∀ w, Hid (P w) → RH w (.slice A2 m c2) S0 := fun w h => by have := h.out; rw [hP] at this; exact this.rh
        have HGU : ∀ w w', Hid (P w) → Grew w w' → Hid (P w') := fun w w' h hG => Lib.hid (by have := h.out; rw [hP] at this ⊢; exact this.later hG.below)
        have HQQ := Lib.hid HQ
        have HRU2 := Lib.hid HRU
        have HGU2 := Lib.hid HGU
        have HPE := Lib.hid hP
        have hSl : Hid (S0.length ≤ 100000) := Lib.hid (by rw [H0.out.len]; omega)
        clear HQ HRU HGU hP HCL HR
        go_region_held3 (fun w => (w.cell? ⟨g, off + r, none⟩ = some (.int .i64 u) ∧ w.cell? ⟨bb, 1, none⟩ = some (.slice A2 m c2)) ∧ Hid (P w)) (exact HQQ.out _ (by assumption))
          (first
            | (go_at_call 25; refine (kset1 _ (by assumption)).mono ?_; rintro e w6 ⟨rfl, H6⟩)
            | (go_at_call 17; refine (ksv _ (by assumption)).mono ?_; rintro e w8 ⟨A3, c3, rfl, H8⟩; have H8a := Lib.hid H8.out.1; have H8b := Lib.hid H8.out.2)
            | (go_at_call 18; refine (same_eq _ _ S0 _ H8b.out (HRU2.out _ (by assumption)) hSl.out).mono ?_; rintro e w9 ⟨rfl, hG⟩; have H9 := HGU2.out _ _ H8a hG; clear hG))
        all_goals
          have HE := (by assumption : Hid (P _))
          have HE2 := HE.out
          rw [HPE.out] at HE2
          have c0 := HE2.y0
          have ks2 := kset2 _ (Lib.hid HE2)
          clear HE2 HQQ HRU2 HGU2 kset1 ksv kset2
          go_upto_region 24 with (first
            | (go_at_call 25; refine ks2.mono ?_; rintro e wb ⟨rfl, HF⟩))
          go_cut [16, 17] (fun s16 s17 wc => ∃ A c, s16 = .slice A m c ∧ s17 = .slice A2 m c2 ∧ Hid (HaR w1 w4 qb mb odd W.heap.size bb (.slice A2 m c2) y0 y1 nx0 S0 (nx0 + ((3 : Nat) : Int)) S1 wc ∧ RH wc (.slice A m c) S1))
          case first =>
            have HF7 := Lib.hid (HF.out.later ((Go.RowKit.Below.refl _ wb).drew))
            have d1 := HF7.out.it
            have kw := kwk _ HF7
            clear ks2 kwk HF
            go_region_with (first
              | (go_at_call 19; refine kw.mono ?_; rintro e wd ⟨A4, c4, rfl, HG⟩; have d4 := HG.out.1.it))
            all_goals
              go_wp2_with fail
              go_meet
              exact ⟨A4, c4, rfl, rfl, HG⟩
          case rest =>
            obtain ⟨A4, c4, rfl, rfl, HG⟩ := hcut
            rename World => wB
            clear ks2 kwk HF c0
            have HT0 : Hid (TwR wB (.slice none 0 0) (.slice none 0 0) (butH hh (S1.take 0)) (butH hh (S0.take 0)) wB) := Lib.hid ⟨OH.nil _ _, OH.nil _ _, fun x hx => (by cases hx), Go.RowKit.Below.refl _ _⟩
            have HGA := Lib.hid HG.out.2
            have HGB := Lib.hid HG.out.1.rh
            have hlen0 : Hid (S0.length = m ∧ S1.length = m) := Lib.hid ⟨H0.out.len, HS1.out.2.2⟩
            go_wp2_with fail
            go_loopw [18, 19, 20] (fun vc vd vi wr => ∃ (i : Nat), vi = .int .i64 i ∧ i ≤ m ∧ Hid (TwR wB vc vd (butH hh (S1.take i)) (butH hh (S0.take i)) wr)) (fun _ _ vi _ => m - (intOf vi).toNat)
            case atStart => exact ⟨0, rfl, by omega, HT0⟩
            case round =>
              obtain ⟨i, rfl, hi, HR⟩ := hrel
              by_cases hlt : i < m
              · have e1 : (i : Int) < (m : Int) := by omega
                have e2 : IntKind.i64.wrap ((i : Int) + 1) = (i : Int) + 1 := IntWalk.i64_in _ (by omega)
                have hs1 := getD_some (xs := S1) (i := i) (by have := hlen0.out; omega)
                have hs0 := getD_some (xs := S0) (i := i) (by have := hlen0.out; omega)
                obtain ⟨g4, o4, hA4, c0, c1⟩ := (HGA.out.later HR.out.bel).at hs1
                have HT1 := Lib.hid (butH_take (h := hh) hs1)
                have HT2 := Lib.hid (butH_take (h := hh) hs0)
                obtain ⟨⟨xh, xv⟩, hx⟩ : ∃ x, S1.getD i d0 = x := ⟨_, rfl⟩
                rw [hx] at c0 c1 HT1
                simp only at c0 c1
                subst hA4
                have hlc : Hid ((butH hh (S1.take i)).length ≤ 100000 ∧ (butH hh (S0.take i)).length ≤ 100000) := Lib.hid (by
                  have h1 := butH_len hh (S1.take i); have h2 := butH_len hh (S0.take i)
                  rw [List.length_take] at h1 h2
                  omega)
                clear hs1 hs0 hx
                go_upto_if 152 with fail
                go_cut [18] (fun s18 wd => Hid (TwR wB s18 u19 (butH hh (S1.take (i + 1))) (butH hh (S0.take i)) wd))
                case first =>
                  by_cases hh1 : xh = hh
                  · have b1 : (xh != hh) = false := by simp [hh1]
                    have HN : Hid (TwR wB u18 u19 (butH hh (S1.take (i + 1))) (butH hh (S0.take i)) wr) := Lib.hid (by rw [HT1.out, if_pos hh1]; exact HR.out)
                    clear hh1
                    go_wp2_with fail
                    go_meet
                    exact HN
                  · have b1 : (xh != hh) = true := by simp [hh1]
                    have HE1 : Hid (butH hh (S1.take (i + 1)) = butH hh (S1.take i) ++ [(xh, xv)]) := Lib.hid (by rw [HT1.out, if_neg hh1])
                    clear hh1
                    go_wp2_with (at_builtin; refine wpList_append_one _ rfl _ _ rfl wB.heap.size _ u18 (butH hh (S1.take i)) xh xv _ _ rfl (HR.out.c.same fun g hg => Go.RowKit.Below.heap_alloc _ _ _ (HR.out.c.lt g hg).2) rfl rfl (by simp) (by have := HR.out.bel.size; simp; omega) hlc.out.1 ?_; intro v' w8 hn hg hb; have HN : Hid (TwR wB v' u19 (butH hh (S1.take (i + 1))) (butH hh (S0.take i)) w8) := Lib.hid (by rw [HE1.out]; exact (HR.out.later ((Go.RowKit.Below.refl _ _).alloc (Nat.le_refl _) _)).growC hn hg hb); clear hn hg hb)
                    go_meet
                    exact HN
                case rest =>
                  have HC := Lib.hid hcut.out
                  clear hcut c0 c1
                  have hs0 := getD_some (xs := S0) (i := i) (by have := hlen0.out; omega)
                  obtain ⟨g5, o5, hA5, c0, c1⟩ := (HGB.out.later HC.out.bel).at hs0
                  obtain ⟨⟨yh, yv⟩, hy0⟩ : ∃ x, S0.getD i d0 = x := ⟨_, rfl⟩
                  rw [hy0] at c0 c1 HT2
                  simp only at c0 c1
                  subst hA5
                  clear hs0 hy0
                  by_cases hh1 : yh = hh
                  · have b1 : (yh != hh) = false := by simp [hh1]
                    have HN : Hid (TwR wB _ u19 (butH hh (S1.take (i + 1))) (butH hh (S0.take (i + 1))) wc) := Lib.hid (by rw [HT2.out, if_pos hh1]; exact HC.out)
                    clear hh1
                    go_wp2_with fail
                    go_roundw
                    case rel => exact ⟨i + 1, by go_num, by omega, HN⟩
                    case measure => simp [intOf]; omega
                  · have b1 : (yh != hh) = true := by simp [hh1]
                    have HE1 : Hid (butH hh (S0.take (i + 1)) = butH hh (S0.take i) ++ [(yh, yv)]) := Lib.hid (by rw [HT2.out, if_neg hh1])
                    clear hh1
                    go_wp2_with (at_builtin; refine wpList_append_one _ rfl _ _ rfl wB.heap.size _ u19 (butH hh (S0.take i)) yh yv _ _ rfl (HC.out.d.same fun g hg => Go.RowKit.Below.heap_alloc _ _ _ (HC.out.d.lt g hg).2) rfl rfl (by simp) (by have := HC.out.bel.size; simp; omega) hlc.out.2 ?_; intro v' w8 hn hg hb; have HN := Lib.hid ((HC.out.later ((Go.RowKit.Below.refl _ _).alloc (Nat.le_refl _) _)).swap.growC hn hg hb).swap; rw [← HE1.out] at HN; clear hn hg hb)
                    go_roundw
                    case rel => exact ⟨i + 1, by go_num, by omega, HN⟩
                    case measure => simp [intOf]; omega
              · obtain rfl : i = m := by omega
                have hr1 := HR.out
                rw [List.take_of_length_le (by have := hlen0.out; omega), List.take_of_length_le (by have := hlen0.out; omega), HS1.out.1, HS1.out.2.1] at hr1
                have HR1 := Lib.hid hr1
                have hle2 : Hid ((S0.eraseIdx k).length ≤ 100000) := Lib.hid (by
                  have := (cut_perm HK.out).length_eq
                  simp only [List.length_cons] at this
                  have := hlen0.out
                  omega)
                have e1 : ¬ (i : Int) < (i : Int) := by omega
                clear hr1
                go_wp2_with (first
                  | (go_at_call 18; refine (same_eq _ _ (S0.eraseIdx k) _ HR1.out.c.rh HR1.out.d.rh hle2.out).mono ?_; rintro e w9 ⟨rfl, hG⟩; have H9 := Lib.hid (HR1.out.later hG.below).bel; clear hG)
                  | (go_at_call 10; refine (awake_any _).mono ?_; rintro e wz ⟨rfl, hbz⟩))
                go_ret
                have hlo := HG.out.1.hd.lo
                exact ⟨rfl, HBZ.out.trans ((hlo.trans ((H9.out.trans (hbz.mono H9.out.size)).mono hlo.size)).mono HBZ.out.size)⟩
end Go.Proofs.Ytcppgefnocjdiaa
