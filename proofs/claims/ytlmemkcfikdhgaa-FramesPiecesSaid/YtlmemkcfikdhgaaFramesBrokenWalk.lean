/- FramesBroken, walked. -/
import Derived.Test.YtlmemkcfikdhgaaFramesL
namespace Go.Proofs.Ytlmemkcfikdhgaa
open Go.RowKit Go.Lib
set_option linter.unusedVariables false

/-- What Split returns, its state's parts said. -/
def SplitQ (w : World) (bs : List Nat) (buf : List Nat) (bad : Bool) (ps : List (List Nat)) (e : Ending) (w' : World) : Prop :=
  ∃ A n c, e = .returned (.tuple #[.slice A n c, .agg #[.string (strB buf), .bool bad]]) ∧ n = ps.length ∧ PN w' (.slice A n c) ps ∧ Below w.heap.size w w'
theorem split_q (v : Value) (bs : List Nat) (w : World) (buf : List Nat) (bad : Bool) (ps : List (List Nat)) (hv : RN w v bs) (hb : BB bs) (hl : bs.length ≤ 2000000) (h1 : bufL bs = buf) (h2 : badL bs = bad) (h3 : paysL bs = ps) : Calls Try.prog 14 #[v] w (SplitQ w bs buf bad ps) := by
  refine Calls.mono (split_calls v bs w hv hb hl) ?_
  rintro e w' ⟨u, L, rfl, k1, k2, k3⟩
  have hp := k1.pn (fun x hx => pays_bb bs hb x.2 (by rw [← k2]; exact List.mem_map.2 ⟨x, hx, rfl⟩))
  rw [k2, h3] at hp
  obtain ⟨A, c, rfl⟩ := hp.len
  exact ⟨A, _, c, by rw [endV_eq, h1, h2]; rfl, rfl, hp, k3⟩
def FeedQ (w : World) (buf : List Nat) (bad : Bool) (ps : List (List Nat)) (e : Ending) (w' : World) : Prop :=
  ∃ A n c, e = .returned (.tuple #[.agg #[.string (strB buf), .bool bad], .slice A n c, .int .i64 0]) ∧ n = ps.length ∧ PN w' (.slice A n c) ps ∧ Below w.heap.size w w'
theorem pays_bb2 {bs : List Nat} (hb : BB bs) {L : List VB} (h : L.map (·.2) = paysL bs) : ∀ x ∈ L, BB x.2 := fun x hx => pays_bb bs hb x.2 (by rw [← h]; exact List.mem_map.2 ⟨x, hx, rfl⟩)
theorem feed_q (buf : List Nat) (bad : Bool) (v : Value) (xs : List Nat) (w : World) (buf2 : List Nat) (bad2 : Bool) (ps : List (List Nat)) (hg : GoodS buf bad) (hv : RN w v xs) (hb : BB xs) (hl : buf.length + xs.length ≤ 2000000)
    (h1 : nextBuf buf bad xs = buf2) (h2 : nextBad buf bad xs = bad2) (h3 : nextPays buf bad xs = ps) : Calls Try.prog 15 #[.agg #[.string (strB buf), .bool bad], v] w (FeedQ w buf2 bad2 ps) := by
  refine Calls.mono (feed_any buf bad v xs w hg hv hb hl) ?_
  rintro e w' ⟨u, L, rfl, k1, k2, k3⟩
  have hp := k1.pn (by
    unfold nextPays at k2
    cases bad
    · exact pays_bb2 (hg.bb.app hb) k2
    · simp at k2; subst k2; intro x hx; cases hx)
  rw [k2, h3] at hp
  obtain ⟨A, c, rfl⟩ := hp.len
  exact ⟨A, _, c, by rw [h1, h2]; rfl, rfl, hp, k3⟩
theorem on_lit (w : World) (S : Obj) : ON ((w.alloc S).alloc (.cells #[] 5)) (w.heap.size + 1) (.slice (some ⟨w.heap.size + 1, 0, none⟩) 0 0) [] := by
  have h : ON ((w.alloc S).alloc (.cells #[] 5)) (w.alloc S).heap.size (.slice (some ⟨(w.alloc S).heap.size, 0, none⟩) 0 0) [] := World.ownsRow_lit _ #[] 0 (Nat.le_refl _) (by unfold maxLen; omega) rfl
  rw [World.size_alloc] at h
  exact h
theorem lit_grow {w w2 : World} {S : Obj} {T : TypeId} (hg : ((w.alloc S).alloc (.cells #[] T)).grownBy w2 (Value.slice (some ⟨w.heap.size + 1, 0, none⟩) 0 0).ownBlock) : Below (w.heap.size + 1) (w.alloc S) w2 := by
  have h1 : Below (w.heap.size + 1) (w.alloc S) ((w.alloc S).alloc (.cells #[] T)) := (Below.refl _ _).alloc (by simp) _
  exact h1.grown hg (by simp) (fun k e => by cases e; exact Nat.le_refl _)
theorem bl_lit {w w2 : World} {S : Obj} (h : Below (w.heap.size + 1) (w.alloc S) w2) : Below w.heap.size w w2 ∧ w2.heap[w.heap.size]? = some S ∧ w.heap.size + 1 ≤ w2.heap.size := by
  refine ⟨(bl_alloc S (Below.refl _ _)).trans (h.mono (by omega)), (h.block _ (by omega)).trans (World.alloc_heap_new w S), ?_⟩
  have := h.size
  simpa using this
set_option maxRecDepth 100000 in
set_option maxHeartbeats 4000000 in
theorem broken_law (v0 v1 : Value) (xs ys : List Nat) (n : Nat) (w : World) (h0 : RN w v0 xs) (b0 : BB xs) (h1 : RN w v1 ys) (b1 : BB ys) (hn : n < 65536) : Calls Try.prog 6 #[v0, v1, .int .u16 n] w (Gives w (.bool true)) := by
  obtain ⟨A, c, rfl⟩ := h0.len
  obtain ⟨B, d, rfl⟩ := h1.len
  have hm0 := h0.max
  have hm1 := h1.max
  unfold maxLen at hm0 hm1
  have H0 := Lib.hid h0; have H1 := Lib.hid h1; have HB0 := Lib.hid b0; have HB1 := Lib.hid b1
  clear h0 h1 b0 b1
  by_cases hl : 4000 < xs.length
  · go_enter Try.func6, Try.ntmps6
    go_wp2_with (go_at_call 9; (with_reducible refine (shown_any _).mono ?_); rintro e w1 ⟨rfl, hb⟩; have HB := Lib.hid hb; clear hb)
    go_ret
    exact ⟨rfl, HB.out⟩
  by_cases hl2 : 4000 < ys.length
  · go_enter Try.func6, Try.ntmps6
    go_wp2_with (go_at_call 9; (with_reducible refine (shown_any _).mono ?_); rintro e w1 ⟨rfl, hb⟩; have HB := Lib.hid hb; clear hb)
    go_ret
    exact ⟨rfl, HB.out⟩
  obtain ⟨ps, hps⟩ : ∃ ps, paysL xs = ps := ⟨_, rfl⟩
  have HPS := Lib.hid hps
  have HSM : Hid (xs.length ≤ 2000000 ∧ (xs ++ ys).length ≤ 2000000) := Lib.hid (by rw [List.length_append]; omega)
  cases hbad : badL xs
  · have HBAD := Lib.hid hbad
    obtain ⟨lf, hlf⟩ : ∃ lf, leftL xs = lf := ⟨_, rfl⟩
    have HBUF : Hid (bufL xs = lf) := Lib.hid (by unfold bufL; rw [hbad]; exact hlf)
    have hgood := good_end HB0.out HSM.out.1
    rw [HBUF.out, hbad] at hgood
    have hlfl := left_le xs
    rw [hlf] at hlfl
    obtain ⟨ho, hk⟩ : oneL lf = false ∧ brkL lf = false := by
      rcases hgood.ok with ⟨h, _⟩ | ⟨_, h1, h2⟩
      · cases h
      · exact ⟨h2, h1⟩
    have hq0 := stuck_lt ho hk
    have hls : leastL lf < 100000 := by have := hgood.bb.get 2; have := hgood.bb.get 3; unfold leastL szL; split <;> omega
    obtain ⟨q, hq⟩ : ∃ q, leastL lf - lf.length = q := ⟨_, rfl⟩
    obtain ⟨m, hm⟩ : ∃ m, min ys.length n = m := ⟨_, rfl⟩
    have hmin : min (ys.length : Int) (n : Int) = (m : Int) := by omega
    have hmy : m ≤ ys.length := by omega
    have hq1 : 1 ≤ q := by omega
    have hq2 : q < 100000 := by omega
    obtain ⟨ks, hks⟩ : ∃ ks, paysL (lf ++ ys.take m) = ks := ⟨_, rfl⟩
    have hnone : m < q → ks = [] := fun h => by rw [← hks]; exact need_none ho hk (by rw [List.length_take]; omega)
    obtain ⟨A7, c7, hsl, hr7⟩ := slice_hi (W := w) (k := m) H1.out hmy (m : Int) rfl
    have H7 := Lib.hid hr7
    have HG := Lib.hid hgood
    have HQ := Lib.hid hq
    have HT : Hid (BB (ys.take m) ∧ lf.length + (ys.take m).length ≤ 2000000) := Lib.hid ⟨HB1.out.take m, by rw [List.length_take]; omega⟩
    obtain ⟨ps2, hps2⟩ : ∃ ps2, paysL (xs ++ ys) = ps2 := ⟨_, rfl⟩
    obtain ⟨bf2, hbf2⟩ : ∃ b, bufL (xs ++ ys) = b := ⟨_, rfl⟩
    obtain ⟨bd2, hbd2⟩ : ∃ b, badL (xs ++ ys) = b := ⟨_, rfl⟩
    obtain ⟨bf3, hbf3⟩ : ∃ b, nextBuf lf false (ys.take m) = b := ⟨_, rfl⟩
    obtain ⟨bd3, hbd3⟩ : ∃ b, nextBad lf false (ys.take m) = b := ⟨_, rfl⟩
    have HP2 := Lib.hid hps2; have HF2 := Lib.hid hbf2; have HD2 := Lib.hid hbd2; have HF3 := Lib.hid hbf3; have HD3 := Lib.hid hbd3
    have HK3 : Hid (nextPays lf false (ys.take m) = ks) := Lib.hid hks
    have hnd : ∀ W, Calls Try.prog 17 #[.agg #[.string (strB lf), .bool false]] W (Gives W (.tuple #[.int .i64 (q : Int), .int .i64 0])) := fun W => by
      have h := need_ok lf W HG.out
      rw [HQ.out] at h
      exact h
    have HND := Lib.hid hnd
    clear hbad hps hlf hgood ho hk hq0 hls hq hm hks hr7 hps2 hbf2 hbd2 hbf3 hbd3 hnd hlfl
    have fin : ∀ t : Bool, (decide (q ≤ m) = t) → (t = false → ks = []) → Calls Try.prog 6 #[.slice A xs.length c, .slice B ys.length d, .int .u16 n] w (Gives w (.bool true)) := by
      intro t ht hkt
      have HKT := Lib.hid hkt
      clear hkt hnone
      cases t
      · obtain rfl := HKT.out rfl
        go_enter Try.func6, Try.ntmps6
        go_wp2_with (first
          | (go_at_call 14; (with_reducible refine (split_q _ xs _ lf false ps H0.out HB0.out HSM.out.1 HBUF.out HBAD.out HPS.out).mono ?_); rintro e w1 ⟨A1, n1, c1, rfl, rfl, p1, b1⟩; have P1 := Lib.hid p1; have B1 := Lib.hid b1; clear p1 b1)
          | ((with_reducible refine atOp ⟨some 33, _, _, _, _, _⟩ ?_); refine wpList_append_on _ rfl _ _ rfl (w1.heap.size + 1) _ _ [] xs rfl (on_lit w1 _) rfl (H0.out.later (bl_alloc _ (bl_alloc _ B1.out))) (by simp) (by simp; omega) ?_; intro v2 w2 hown hgrow; have L2 := Lib.hid (lit_grow hgrow); have O2 := Lib.hid hown; clear hown hgrow)
          | ((with_reducible refine atOp ⟨some 35, _, _, _, _, _⟩ ?_); refine wpList_append_on _ rfl _ _ rfl (w1.heap.size + 1) _ _ xs ys rfl O2.out rfl (H1.out.later (bl_call B1.out (bl_lit L2.out).1)) (bl_lit L2.out).2.2 (by omega) ?_; intro v3 w3 hown hgrow; have L3 := Lib.hid (L2.out.grown hgrow (bl_lit L2.out).2.2 (fun q e => (World.ownsRow.lt O2.out q e).1)); have O3 := Lib.hid hown; clear hown hgrow)
          | (go_at_call 14; (with_reducible refine (split_q _ (xs ++ ys) _ bf2 bd2 ps2 O3.out.rn (HB0.out.app HB1.out) HSM.out.2 HF2.out HD2.out HP2.out).mono ?_); rintro e w4 ⟨A4, n4, c4, rfl, rfl, p4, b4⟩; obtain ⟨s0, s1, _, _⟩ := cell_of2 ((b4.block _ (Array.getElem?_eq_some_iff.1 (bl_lit L3.out).2.1).1).trans (bl_lit L3.out).2.1); have s0a := Lib.cell?_alloc_some (.cells #[.string (strB bf2), .bool bd2] 32) s0; have s1a := Lib.cell?_alloc_some (.cells #[.string (strB bf2), .bool bd2] 32) s1; have B4 := Lib.hid (bl_call B1.out (bl_alloc (.cells #[.string (strB bf2), .bool bd2] 32) (bl_call (bl_lit L3.out).1 b4))); have h14 : w1.heap.size < (w4.alloc (.cells #[.string (strB bf2), .bool bd2] 32)).heap.size := World.block_lt_of_cell? _ _ s0a; clear p4 b4)
          | (go_at_call 17; (with_reducible refine (HND.out _).mono ?_); rintro e w5 ⟨rfl, b5⟩; have s0b := (b5.cell (p := ⟨w1.heap.size, 0, none⟩) h14).trans s0a; have s1b := (b5.cell (p := ⟨w1.heap.size, 1, none⟩) h14).trans s1a; have B5 := Lib.hid (bl_call B4.out b5); clear b5)
          | (go_at_call 15; (with_reducible refine (feed_q lf false _ (ys.take m) _ bf3 bd3 _ HG.out (H7.out.later B5.out) HT.out.1 HT.out.2 HF3.out HD3.out HK3.out).mono ?_); rintro e w6 ⟨A6, n6, c6, rfl, rfl, p6, b6⟩; have B6 := Lib.hid (bl_call B5.out b6); clear p6 b6)
          | (go_at_call 9; (with_reducible refine (shown_any _).mono ?_); rintro e w7 ⟨rfl, b7⟩; have B7 := Lib.hid (bl_call (bl_alloc _ B6.out) b7); clear b7))
        all_goals (go_ret; exact ⟨rfl, B7.out⟩)
      · clear HKT
        go_enter Try.func6, Try.ntmps6
        go_wp2_with (first
          | (go_at_call 14; (with_reducible refine (split_q _ xs _ lf false ps H0.out HB0.out HSM.out.1 HBUF.out HBAD.out HPS.out).mono ?_); rintro e w1 ⟨A1, n1, c1, rfl, rfl, p1, b1⟩; have P1 := Lib.hid p1; have B1 := Lib.hid b1; clear p1 b1)
          | ((with_reducible refine atOp ⟨some 33, _, _, _, _, _⟩ ?_); refine wpList_append_on _ rfl _ _ rfl (w1.heap.size + 1) _ _ [] xs rfl (on_lit w1 _) rfl (H0.out.later (bl_alloc _ (bl_alloc _ B1.out))) (by simp) (by simp; omega) ?_; intro v2 w2 hown hgrow; have L2 := Lib.hid (lit_grow hgrow); have O2 := Lib.hid hown; clear hown hgrow)
          | ((with_reducible refine atOp ⟨some 35, _, _, _, _, _⟩ ?_); refine wpList_append_on _ rfl _ _ rfl (w1.heap.size + 1) _ _ xs ys rfl O2.out rfl (H1.out.later (bl_call B1.out (bl_lit L2.out).1)) (bl_lit L2.out).2.2 (by omega) ?_; intro v3 w3 hown hgrow; have L3 := Lib.hid (L2.out.grown hgrow (bl_lit L2.out).2.2 (fun q e => (World.ownsRow.lt O2.out q e).1)); have O3 := Lib.hid hown; clear hown hgrow)
          | (go_at_call 14; (with_reducible refine (split_q _ (xs ++ ys) _ bf2 bd2 ps2 O3.out.rn (HB0.out.app HB1.out) HSM.out.2 HF2.out HD2.out HP2.out).mono ?_); rintro e w4 ⟨A4, n4, c4, rfl, rfl, p4, b4⟩; obtain ⟨s0, s1, _, _⟩ := cell_of2 ((b4.block _ (Array.getElem?_eq_some_iff.1 (bl_lit L3.out).2.1).1).trans (bl_lit L3.out).2.1); have s0a := Lib.cell?_alloc_some (.cells #[.string (strB bf2), .bool bd2] 32) s0; have s1a := Lib.cell?_alloc_some (.cells #[.string (strB bf2), .bool bd2] 32) s1; have B4 := Lib.hid (bl_call B1.out (bl_alloc (.cells #[.string (strB bf2), .bool bd2] 32) (bl_call (bl_lit L3.out).1 b4))); have h14 : w1.heap.size < (w4.alloc (.cells #[.string (strB bf2), .bool bd2] 32)).heap.size := World.block_lt_of_cell? _ _ s0a; clear p4 b4)
          | (go_at_call 17; (with_reducible refine (HND.out _).mono ?_); rintro e w5 ⟨rfl, b5⟩; have s0b := (b5.cell (p := ⟨w1.heap.size, 0, none⟩) h14).trans s0a; have s1b := (b5.cell (p := ⟨w1.heap.size, 1, none⟩) h14).trans s1a; have B5 := Lib.hid (bl_call B4.out b5); clear b5)
          | (go_at_call 15; (with_reducible refine (feed_q lf false _ (ys.take m) _ bf3 bd3 _ HG.out (H7.out.later B5.out) HT.out.1 HT.out.2 HF3.out HD3.out HK3.out).mono ?_); rintro e w6 ⟨A6, n6, c6, rfl, rfl, p6, b6⟩; have B6 := Lib.hid (bl_call B5.out b6); clear p6 b6)
          | (go_at_call 9; (with_reducible refine (shown_any _).mono ?_); rintro e w7 ⟨rfl, b7⟩; have B7 := Lib.hid (bl_call (bl_alloc _ B6.out) b7); clear b7))
        all_goals (go_ret; exact ⟨rfl, B7.out⟩)
    by_cases hqm : q ≤ m
    · exact fin true (decide_eq_true (by omega)) (fun h => by cases h)
    · exact fin false (decide_eq_false (by omega)) (fun _ => hnone (by omega))
  · have HBAD := Lib.hid hbad
    have HBUF : Hid (bufL xs = []) := Lib.hid (by unfold bufL; rw [hbad]; rfl)
    obtain ⟨q1, q2⟩ := pays_broken ys xs hbad
    have HP2 : Hid (paysL (xs ++ ys) = ps) := Lib.hid (q1.trans hps)
    have HBAD2 : Hid (badL (xs ++ ys) = true) := Lib.hid q2
    have HBUF2 : Hid (bufL (xs ++ ys) = []) := Lib.hid (by unfold bufL; rw [HBAD2.out]; rfl)
    clear hbad hps q1 q2
    go_enter Try.func6, Try.ntmps6
    go_wp2_with (first
      | (go_at_call 14; (with_reducible refine (split_q _ xs _ [] true ps H0.out HB0.out HSM.out.1 HBUF.out HBAD.out HPS.out).mono ?_); rintro e w1 ⟨A1, n1, c1, rfl, rfl, p1, b1⟩; have P1 := Lib.hid p1; have B1 := Lib.hid b1; clear p1 b1)
      | ((with_reducible refine atOp ⟨some 33, _, _, _, _, _⟩ ?_); refine wpList_append_on _ rfl _ _ rfl (w1.heap.size + 1) _ _ [] xs rfl (on_lit w1 _) rfl (H0.out.later (bl_alloc _ (bl_alloc _ B1.out))) (by simp) (by simp; omega) ?_; intro v2 w2 hown hgrow; have L2 := Lib.hid (lit_grow hgrow); have O2 := Lib.hid hown; clear hown hgrow)
      | ((with_reducible refine atOp ⟨some 35, _, _, _, _, _⟩ ?_); refine wpList_append_on _ rfl _ _ rfl (w1.heap.size + 1) _ _ xs ys rfl O2.out rfl (H1.out.later (bl_call B1.out (bl_lit L2.out).1)) (bl_lit L2.out).2.2 (by omega) ?_; intro v3 w3 hown hgrow; have L3 := Lib.hid (L2.out.grown hgrow (bl_lit L2.out).2.2 (fun q e => (World.ownsRow.lt O2.out q e).1)); have O3 := Lib.hid hown; clear hown hgrow)
      | (go_at_call 14; (with_reducible refine (split_q _ (xs ++ ys) _ [] true ps O3.out.rn (HB0.out.app HB1.out) HSM.out.2 HBUF2.out HBAD2.out HP2.out).mono ?_); rintro e w4 ⟨A4, n4, c4, rfl, rfl, p4, b4⟩; obtain ⟨s0, s1, _, _⟩ := cell_of2 ((b4.block _ (Array.getElem?_eq_some_iff.1 (bl_lit L3.out).2.1).1).trans (bl_lit L3.out).2.1); have s0a := Lib.cell?_alloc_some (.cells #[.string (strB []), .bool true] 32) s0; have s1a := Lib.cell?_alloc_some (.cells #[.string (strB []), .bool true] 32) s1; have P4 := Lib.hid p4; have B4 := Lib.hid (bl_call (bl_lit L3.out).1 b4); clear p4 b4)
      | (go_at_call 16; (with_reducible refine (same_any _ _ ps ps _ (P1.out.later (bl_alloc _ B4.out)) (P4.out.later (bl_alloc _ (Below.refl _ _)))).mono ?_); rintro e w5 ⟨rfl, b5⟩; rw [decide_eq_true rfl]; have B5 := Lib.hid (bl_call (bl_call B1.out (bl_alloc _ B4.out)) b5); clear b5)
      | (go_at_call 9; (with_reducible refine (shown_any _).mono ?_); rintro e w6 ⟨rfl, b6⟩; have B6 := Lib.hid (bl_call B5.out b6); clear b6))
    go_ret
    exact ⟨rfl, B6.out⟩
end Go.Proofs.Ytlmemkcfikdhgaa
