/- FramesPieces, walked. -/
import Derived.Test.YtlmemkcfikdhgaaFramesBrokenWalk
namespace Go.Proofs.Ytlmemkcfikdhgaa
open Go.RowKit Go.Lib
set_option linter.unusedVariables false

/-- One piece more. -/
theorem step_state (a c : List Nat) : nextBuf (bufL a) (badL a) c = bufL (a ++ c) ∧ nextBad (bufL a) (badL a) c = badL (a ++ c) ∧ paysL (a ++ c) = paysL a ++ nextPays (bufL a) (badL a) c := by
  cases h : badL a
  · have hb : bufL a = leftL a := by unfold bufL; rw [h]; rfl
    obtain ⟨h1, h2⟩ := pays_app c a h
    unfold nextBuf nextBad nextPays
    simp only [Bool.false_eq_true, if_false]
    rw [hb]
    have h3 : badL (a ++ c) = badL (leftL a ++ c) := by unfold badL; rw [h2]
    refine ⟨?_, h3.symm, h1⟩
    unfold bufL
    rw [h3, h2]
  · obtain ⟨h1, h2⟩ := pays_broken c a h
    have h3 : badL (a ++ c) = true := h2
    unfold nextBuf nextBad nextPays
    simp only [if_true]
    refine ⟨?_, h3.symm, by rw [h1, List.append_nil]⟩
    unfold bufL
    rw [h3]; rfl
theorem OL.app {W W' : World} {B : Nat} {v v' : Value} {L L2 : List VB} (h : OL W B v L) (h2 : ∀ x ∈ L2, ON W B x.1 x.2) (hown : W'.ownsRow B 22 1 v' (L.length + L2.length) (L.map (·.1) ++ L2.map (·.1))) (hg : W.grownBy W' v.ownBlock) : OL W' B v' (L ++ L2) := by
  refine ⟨by rw [List.length_append, List.map_append]; exact hown, fun x hx => ?_⟩
  have key : ∀ {u : Value} {xs : List Nat}, ON W B u xs → ON W' B u xs := fun {u xs} h0 => World.ownsRow.kept h0 hg (ownBlock_apart h0 h.1 (by decide))
  rcases List.mem_append.1 hx with hx | hx
  · exact key (h.2 x hx)
  · exact key (h2 x hx)
theorem on_one {w : World} {B : Nat} {v : Value} {xs : List Nat} (h : ON w B v xs) : v.oneCell' = true := by
  obtain ⟨A, c, rfl⟩ := h.len; rfl
/-- A row of slices is appended to a row of one's own. -/
theorem wpList_append_ol (w : World) {ops : Array Oper} {rest : List Oper} {o : Oper} {a : Act} {Q : Exit → Act → World → Prop} (hgd : o.guard = none) (s x : Operand)
    (ho : o.op = .call { callee := .builtin .append, args := #[s, x], argTypes := #[23, 23] })
    (B : Nat) (v b : Value) (L L2 : List VB) (hs : a.eval s = v) (hown : OL w B v L) (hx : a.eval x = b) (hb : OL w B b L2) (hB : B ≤ w.heap.size) (hl : L.length + L2.length ≤ 1000000)
    (h : ∀ v' w', OL w' B v' (L ++ L2) → w.grownBy w' v.ownBlock → wpList Try.prog ops Q rest (a.put o.dst v') w') : wpList Try.prog ops Q (o :: rest) a w := by
  obtain ⟨i0, hi, hz0, hz1, hz2⟩ := info_parts info_u8s
  have h' := hb.1
  rcases h'.2 with ⟨rfl, h0⟩ | ⟨g, c, cur, rfl, hbg, hg, hc, hm, hsz, ht⟩
  · obtain rfl : L2 = [] := List.eq_nil_of_length_eq_zero h0
    exact wpList_append_own_none hgd s x 23 ho B 22 i0 1 Try.underlying23 hi v L.length (L.map (·.1)) hs hown.1 hx (h v w (by simpa using hown) ⟨rfl, rfl, rfl, Nat.le_refl _, fun _ _ _ => rfl⟩)
  · refine wpList_append_own w hgd s x 23 ho B 22 i0 (.slice none 0 0) 1 24 Try.underlying23 hi hz0 hz1 hz2 rfl (by decide) v L.length (L.map (·.1)) hs hown.1 ⟨g, 0, none⟩ L2.length c (L2.map (·.1)) hx (by simp) (fun j u hj => ?_) (fun u hu => ?_) (by unfold maxLen; omega) (by omega) hB ?_
    · have hlt : j < L2.length := by have := (List.getElem?_eq_some_iff.1 hj).1; simpa using this
      rw [Addr.add_mid, Nat.zero_add, h'.cellAt j (by omega)]
      exact hj
    · obtain ⟨y, hy, rfl⟩ := List.mem_map.1 hu
      exact on_one (hb.2 y hy)
    · intro v' w' hn hg' _
      exact h v' w' (hown.app hb.2 hn hg') hg'
theorem drop_take {xs : List Nat} {j m : Nat} (h : j + m ≤ xs.length) : xs.take j ++ (xs.drop j).take m = xs.take (j + m) := by rw [← List.take_add]
/-- What holds between two rounds. -/
structure PcI (w w1 wr : World) (xs : List Nat) (b6 b8 : Nat) (all rest : Value) (j : Nat) : Prop where
  le : j ≤ xs.length
  all : ∃ L, OL wr (b8 + 1) all L ∧ L.map (·.2) = paysL (xs.take j)
  rest : RN w rest (xs.drop j)
  s6 : wr.heap[b6]? = some (.cells #[.string (strB (bufL xs)), .bool (badL xs)] 32 (0, 0))
  s8 : wr.heap[b8]? = some (.cells #[.string (strB (bufL (xs.take j))), .bool (badL (xs.take j))] 32 (0, 0))
  bel : Below w.heap.size w wr
  w1b : Below w1.heap.size w1 wr
  sz : b8 + 1 ≤ wr.heap.size
  lo : w.heap.size ≤ b6 ∧ b6 < b8
theorem bl_call2 {w W W' : World} (k : Below W.heap.size W W') (h : Hid (Below w.heap.size w W)) : Below w.heap.size w W' := bl_call h.out k
theorem box_old {w w' : World} {x y : Value} {T : TypeId} (h : Below (w.alloc (.cells #[x, y] T)).drew.heap.size (w.alloc (.cells #[x, y] T)).drew w') : w'.heap[w.heap.size]? = some (.cells #[x, y] T (0, 0)) :=
  (h.block _ (by show w.heap.size < (w.alloc _).heap.size; simp)).trans (World.alloc_heap_new w _)
theorem pc_start {w w1 : World} {xs : List Nat} {v : Value} {s b : Value} (h0 : RN w v xs) (h1 : Below w.heap.size w w1) (hs : s = .string (strB (bufL xs))) (hb : b = .bool (badL xs)) :
    PcI w w1 ((w1.alloc (.cells #[s, b] 32)).alloc (.cells #[.string ⟨#[]⟩, .bool false] 32)) xs w1.heap.size (w1.heap.size + 1) (.slice none 0 0) v 0 := by
  subst hs hb
  refine ⟨Nat.zero_le _, ⟨[], OL.nil _ _, ?_⟩, by simpa using h0, ?_, ?_, bl_alloc _ (bl_alloc _ h1), bl_alloc _ (bl_alloc _ (Below.refl _ _)), by simp, ⟨h1.size, by omega⟩⟩
  · rw [List.take_zero, pays_none stuck_nil]; rfl
  · rw [Below.heap_alloc _ _ _ (by simp)]; exact heap_alloc_new w1 _
  · have h := heap_alloc_new (w1.alloc (.cells #[.string (strB (bufL xs)), .bool (badL xs)] 32)) (.cells #[.string ⟨#[]⟩, .bool false] 32)
    rw [World.size_alloc] at h
    have e1 : badL [] = false := by decide
    have e2 : bufL [] = [] := by decide
    rw [List.take_zero, e1, e2, strB_nil]
    exact h
/-- What a round comes to. -/
theorem pc_step {w w1 wr W6 w8 : World} {xs : List Nat} {all all' rest rest' : Value} {j m : Nat} {La Lf : List VB} {pn : List (List Nat)} {bf : List Nat} {bd : Bool} (h : PcI w w1 wr xs w1.heap.size (w1.heap.size + 1) all rest j) (h6 : Below wr.heap.size wr W6) (hjm : j + m ≤ xs.length)
    (hla : OL wr (w1.heap.size + 1 + 1) all La) (hpa : La.map (·.2) = paysL (xs.take j)) (hq : paysL (xs.take (j + m)) = paysL (xs.take j) ++ pn) (hp5 : Lf.map (·.2) = pn) (hr : RN w rest' (xs.drop (j + m)))
    (hbf : bufL (xs.take (j + m)) = bf) (hbd : badL (xs.take (j + m)) = bd)
    (ho8 : OL w8 (w1.heap.size + 1 + 1) all' (La ++ Lf)) (hg : ((W6.setCell ⟨w1.heap.size + 1, 0, none⟩ (.string (strB bf))).setCell ⟨w1.heap.size + 1, 1, none⟩ (.bool bd)).grownBy w8 all.ownBlock) :
    PcI w w1 w8 xs w1.heap.size (w1.heap.size + 1) all' rest' (j + m) := by
  have hne : ∀ k, all.ownBlock = some k → w1.heap.size + 1 + 1 ≤ k := fun k e => (hla.1.lt k e).1
  have hsz := h.sz
  have h6s := h6.size
  have hlo := h.lo
  have q6 : W6.heap[w1.heap.size]? = _ := (h6.block _ (by omega)).trans h.s6
  have q8 : W6.heap[w1.heap.size + 1]? = _ := (h6.block _ (by omega)).trans h.s8
  have r6 := heap_set_other (heap_set_other q6 (show w1.heap.size ≠ w1.heap.size + 1 by omega) 0 (.string (strB bf))) (show w1.heap.size ≠ w1.heap.size + 1 by omega) 1 (.bool bd)
  have r8 := heap_set2 q8 (.string (strB bf)) (.bool bd)
  have l6 := (Array.getElem?_eq_some_iff.1 r6).1
  have l8 := (Array.getElem?_eq_some_iff.1 r8).1
  have b6 : Below w.heap.size w ((W6.setCell ⟨w1.heap.size + 1, 0, none⟩ (.string (strB bf))).setCell ⟨w1.heap.size + 1, 1, none⟩ (.bool bd)) := bl_set _ (bl_set _ (bl_call h.bel h6) (by simp; omega)) (by simp; omega)
  have b61 : Below w1.heap.size w1 ((W6.setCell ⟨w1.heap.size + 1, 0, none⟩ (.string (strB bf))).setCell ⟨w1.heap.size + 1, 1, none⟩ (.bool bd)) := bl_set _ (bl_set _ (bl_call h.w1b h6) (by simp)) (by simp)
  refine ⟨hjm, ⟨La ++ Lf, ho8, by rw [List.map_append, hpa, hp5, hq]⟩, hr, (hg.block _ l6 (fun e => by have := hne _ e.symm; omega)).trans r6, ?_, b6.grown hg b6.size (fun k e => by have := hne k e; omega), b61.grown hg b61.size (fun k e => by have := hne k e; omega), ?_, hlo⟩
  · rw [hbf, hbd]
    exact (hg.block _ l8 (fun e => by have := hne _ e.symm; omega)).trans r8
  · have := hg.size; omega
set_option maxRecDepth 100000 in
set_option maxHeartbeats 4000000 in
theorem pieces_law (v0 v1 : Value) (xs ys : List Nat) (w : World) (h0 : RN w v0 xs) (b0 : BB xs) (h1 : RN w v1 ys) (b1 : BB ys) : Calls Try.prog 4 #[v0, v1] w (Gives w (.bool true)) := by
  obtain ⟨A, c, rfl⟩ := h0.len
  obtain ⟨B, d, rfl⟩ := h1.len
  have hm0 := h0.max
  have hm1 := h1.max
  unfold maxLen at hm0 hm1
  have H0 := Lib.hid h0; have H1 := Lib.hid h1; have HB0 := Lib.hid b0; have HB1 := Lib.hid b1
  clear h0 h1 b0 b1
  by_cases hl : 4000 < xs.length
  · go_enter Try.func4, Try.ntmps4
    go_wp2_with (go_at_call 9; (with_reducible refine (shown_any _).mono ?_); rintro e w1 ⟨rfl, hb⟩; have HB := Lib.hid hb; clear hb)
    go_ret
    exact ⟨rfl, HB.out⟩
  have HSM : Hid (xs.length ≤ 2000000) := Lib.hid (by omega)
  obtain ⟨ps, hps⟩ : ∃ ps, paysL xs = ps := ⟨_, rfl⟩
  have HPS := Lib.hid hps
  obtain ⟨bfe, hbfe⟩ : ∃ b, bufL xs = b := ⟨_, rfl⟩
  obtain ⟨bde, hbde⟩ : ∃ b, badL xs = b := ⟨_, rfl⟩
  have HFE := Lib.hid hbfe; have HDE := Lib.hid hbde
  clear hps hbfe hbde
  go_enter Try.func4, Try.ntmps4
  go_wp2_with (go_at_call 14; (with_reducible refine (split_q _ xs _ bfe bde ps H0.out HB0.out HSM.out HFE.out HDE.out HPS.out).mono ?_); rintro e w1 ⟨A1, n1, c1, rfl, rfl, p1, b1⟩; have P1 := Lib.hid p1; have B1 := Lib.hid b1; clear p1 b1)
  go_loopw [7, 9, 10] (fun all rest i wr => ∃ j k : Nat, k ≤ j ∧ i = .int .i64 k ∧ Hid (PcI w w1 wr xs w1.heap.size (w1.heap.size + 1) all rest j)) (fun _ rest _ _ => match rest with | .slice _ n _ => n | _ => 0)
  case atStart => exact ⟨0, 0, Nat.le_refl _, rfl, Lib.hid (pc_start H0.out B1.out (by rw [HFE.out]) (by rw [HDE.out]))⟩
  case round =>
    obtain ⟨j, k, hk, rfl, HI⟩ := hrel
    obtain ⟨Ar, cr, rfl⟩ := HI.out.rest.len
    obtain ⟨L, hL⟩ : ∃ L, (xs.drop j).length = L := ⟨_, rfl⟩
    have hLx : L = xs.length - j := by rw [← hL, List.length_drop]
    have hjx := HI.out.le
    rw [hL]
    by_cases hpos : 0 < L
    · obtain ⟨La, hLa, hpa⟩ := HI.out.all
      obtain ⟨Aa, ca, rfl⟩ := hLa.len
      obtain ⟨bj, hbj⟩ : ∃ b, bufL (xs.take j) = b := ⟨_, rfl⟩
      obtain ⟨dj, hdj⟩ : ∃ b, badL (xs.take j) = b := ⟨_, rfl⟩
      have hs8 := HI.out.s8
      rw [hbj, hdj] at hs8
      obtain ⟨t0, t1, f0, f1⟩ := cell_of2 hs8
      have hgood := good_end (HB0.out.take j) (by rw [List.length_take]; omega)
      rw [hbj, hdj] at hgood
      have hbl : bj.length ≤ 4000 := by
        have h2 := left_le (xs.take j)
        rw [List.length_take] at h2
        rw [← hbj]; unfold bufL; split
        · simp
        · omega
      obtain ⟨m, hm1, hmL, hyp, hyn⟩ : ∃ m : Nat, 1 ≤ m ∧ m ≤ L ∧ (0 < ys.length → min (max 1 ((ys.getD (k % ys.length) 0 : Nat) : Int)) (L : Int) = (m : Int)) ∧ (ys.length = 0 → m = 1) := by
        by_cases hy : 0 < ys.length
        · exact ⟨min (max 1 (ys.getD (k % ys.length) 0)) L, by omega, by omega, fun _ => by omega, fun h => by omega⟩
        · exact ⟨1, by omega, by omega, fun h => absurd h hy, fun _ => rfl⟩
      obtain ⟨bn, hbn⟩ : ∃ b, bufL (xs.take (j + m)) = b := ⟨_, rfl⟩
      obtain ⟨dn, hdn⟩ : ∃ b, badL (xs.take (j + m)) = b := ⟨_, rfl⟩
      obtain ⟨q1, q2, q3⟩ := step_state (xs.take j) ((xs.drop j).take m)
      rw [drop_take (by omega), hbj, hdj] at q1 q2 q3
      rw [hbn] at q1
      rw [hdn] at q2
      obtain ⟨pn, hpn⟩ : ∃ p, nextPays bj dj ((xs.drop j).take m) = p := ⟨_, rfl⟩
      rw [hpn] at q3
      have hRest : RN w (.slice Ar L cr) (xs.drop j) := by have := HI.out.rest; rw [hL] at this; exact this
      obtain ⟨A7, c7, hsl7, hr7⟩ := slice_hi (W := w) (k := m) hRest (by omega) (m : Int) rfl
      obtain ⟨A8, c8, hsl8, hr8⟩ := slice_lo (W := w) (k := m) hRest (by omega) (m : Int) rfl
      rw [List.drop_drop] at hr8
      have HFD : Hid (∀ W, Hid (Below wr.heap.size wr W) → Calls Try.prog 15 #[.agg #[.string (strB bj), .bool dj], .slice A7 m c7] W fun e w' => ∃ A c Lf, e = .returned (.tuple #[.agg #[.string (strB bn), .bool dn], .slice A pn.length c, .int .i64 0]) ∧ Lf.length = pn.length ∧ OL w' W.heap.size (.slice A pn.length c) Lf ∧ Lf.map (·.2) = pn ∧ Below W.heap.size W w') := Lib.hid (fun W hW => by
        refine Calls.mono (feed_any bj dj _ ((xs.drop j).take m) W hgood (hr7.later (bl_call HI.out.bel hW.out)) ((HB0.out.drop j).take m) (by rw [List.length_take, List.length_drop]; omega)) ?_
        rintro e w' ⟨u, Lf, rfl, k1, k2, k3⟩
        rw [hpn] at k2
        have hlf : Lf.length = pn.length := by have := congrArg List.length k2; simpa using this
        obtain ⟨A, c, rfl⟩ := k1.len
        exact ⟨A, c, Lf, by rw [q1, q2, hlf]; rfl, hlf, by rw [← hlf]; exact k1, k2, k3⟩)
      have HKP : Hid (∀ W, Hid (Below wr.heap.size wr W) → (W.cell? ⟨w1.heap.size + 1, 0, none⟩ = some (.string (strB bj)) ∧ W.cell? ⟨w1.heap.size + 1, 1, none⟩ = some (.bool dj)) ∧ Hid (Below wr.heap.size wr W)) := Lib.hid (fun W h => ⟨⟨(h.out.cell (p := ⟨w1.heap.size + 1, 0, none⟩) HI.out.sz).trans t0, (h.out.cell (p := ⟨w1.heap.size + 1, 1, none⟩) HI.out.sz).trans t1⟩, h⟩)
      have HLA := Lib.hid hLa; have HPA := Lib.hid hpa; have HS8 := Lib.hid hs8; have HR8 := Lib.hid hr8
      have HQ3 := Lib.hid q3; have HBN := Lib.hid hbn; have HDN := Lib.hid hdn
      have hi1 : (k : Int) < 9223372036854775807 := by omega
      have HLX := Lib.hid hLx; have HL := Lib.hid hL
      clear hLa hpa hbj hdj hs8 hgood hbl hbn hdn q1 q2 q3 hpn hRest hr7 hr8 hLx hL
      by_cases hy : 0 < ys.length
      · have hmin := hyp hy
        obtain ⟨gs, os, rfl, _, hcs1, hcs2, hgs, hcs⟩ := H1.out.at hy
        have hr := Nat.mod_lt k hy
        have cy := (HI.out.bel.cell (p := ⟨gs, os + k % ys.length, none⟩) hgs).trans (hcs _ hr)
        have hy8 := HB1.out.get (k % ys.length)
        obtain ⟨y, hyy⟩ : ∃ y, ys.getD (k % ys.length) 0 = y := ⟨_, rfl⟩
        rw [hyy] at hmin cy hy8
        obtain ⟨r, hrr⟩ : ∃ r, k % ys.length = r := ⟨_, rfl⟩
        have hmod : (k : Int) % (ys.length : Int) = (r : Int) := by rw [← hrr]; omega
        have htm : Int.tmod (k : Int) (ys.length : Int) = (r : Int) := by rw [Int.tmod_eq_emod_of_nonneg (by omega)]; exact hmod
        have hne0 : ¬ (ys.length : Int) = 0 := by omega
        rw [hrr] at cy hr
        have hrl : (r : Int) < (ys.length : Int) := by omega
        clear hyp hyn hcs hyy hrr
        go_wp2_with fail
        have HBD : Hid (Below wr.heap.size wr wr.drew) := Lib.hid (bl_drewN 1 (Below.refl _ _))
        have HBA : Hid (Below wr.heap.size wr (wr.alloc (.cells #[.string ⟨#[]⟩, .bool false] 32)).drew) := Lib.hid ((bl_alloc _ (Below.refl _ _)).trans ⟨rfl, rfl, rfl, Nat.le_refl _, fun _ _ => rfl⟩)
        go_region_held3 (fun W => (W.cell? ⟨w1.heap.size + 1, 0, none⟩ = some (.string (strB bj)) ∧ W.cell? ⟨w1.heap.size + 1, 1, none⟩ = some (.bool dj)) ∧ Hid (Below wr.heap.size wr W)) (exact HKP.out _ (by with_reducible assumption))
          (first
            | (go_at_call 15; (with_reducible refine (HFD.out _ HBD).mono ?_); rintro e w5 ⟨A5, c5, Lf, rfl, hlf, ho5, hp5, b5⟩; have HO5 := Lib.hid ho5; have HP5 := Lib.hid hp5; have HN5 : Hid (Below wr.heap.size wr w5) := Lib.hid (bl_call2 b5 HBD); have HN9 := Lib.hid (bl_alloc (.cells #[.string (strB bn), .bool dn] 32) HN5.out); have HN6 := Lib.hid (bl_alloc (.cells #[.string ⟨#[]⟩, .bool false] 32) HN5.out); have HN7 := Lib.hid (bl_set (.bool dn) (bl_set (p := ⟨wr.heap.size, 0, none⟩) (.string (strB bn)) HN5.out (Nat.le_refl _)) (show wr.heap.size ≤ (⟨wr.heap.size, 1, none⟩ : Addr).block from Nat.le_refl _)); have HN8 := Lib.hid (bl_set (.bool dn) (bl_set (p := ⟨w5.heap.size, 0, none⟩) (.string (strB bn)) HN6.out HN5.out.size) (show wr.heap.size ≤ (⟨w5.heap.size, 1, none⟩ : Addr).block from HN5.out.size)); clear ho5 hp5 b5)
            | (go_at_call 15; (with_reducible refine (HFD.out _ HBA).mono ?_); rintro e w5 ⟨A5, c5, Lf, rfl, hlf, ho5, hp5, b5⟩; have HO5 := Lib.hid ho5; have HP5 := Lib.hid hp5; have HN5 : Hid (Below wr.heap.size wr w5) := Lib.hid (bl_call2 b5 HBA); have HN9 := Lib.hid (bl_alloc (.cells #[.string (strB bn), .bool dn] 32) HN5.out); have HN6 := Lib.hid (bl_alloc (.cells #[.string ⟨#[]⟩, .bool false] 32) HN5.out); have HN7 := Lib.hid (bl_set (.bool dn) (bl_set (p := ⟨wr.heap.size, 0, none⟩) (.string (strB bn)) HN5.out (Nat.le_refl _)) (show wr.heap.size ≤ (⟨wr.heap.size, 1, none⟩ : Addr).block from Nat.le_refl _)); have HN8 := Lib.hid (bl_set (.bool dn) (bl_set (p := ⟨w5.heap.size, 0, none⟩) (.string (strB bn)) HN6.out HN5.out.size) (show wr.heap.size ≤ (⟨w5.heap.size, 1, none⟩ : Addr).block from HN5.out.size)); obtain ⟨z0, z1, z2, z3⟩ := cell_of2 (box_old b5); clear ho5 hp5 b5))
        · have h6 := HN9
          have hLf6 : Hid (OL (w5.alloc (.cells #[.string (strB bn), .bool dn] 32)) (w1.heap.size + 1 + 1) (.slice A5 pn.length c5) Lf) := Lib.hid ((HO5.out.later (bl_alloc _ (Below.refl _ _))).mono HI.out.sz)
          obtain ⟨u0, u1, g0, g1⟩ := cell_of2 ((h6.out.block _ HI.out.sz).trans HS8.out)
          have HLA7 : Hid (OL ((w5.alloc (.cells #[.string (strB bn), .bool dn] 32)).setCell ⟨w1.heap.size + 1, 0, none⟩ (.string (strB bn)) |>.setCell ⟨w1.heap.size + 1, 1, none⟩ (.bool dn)) (w1.heap.size + 1 + 1) (.slice Aa La.length ca) La) := Lib.hid (((HLA.out.later h6.out).set _ _ (by show w1.heap.size + 1 < _; omega)).set _ _ (by show w1.heap.size + 1 < _; omega))
          have HLF7 : Hid (OL ((w5.alloc (.cells #[.string (strB bn), .bool dn] 32)).setCell ⟨w1.heap.size + 1, 0, none⟩ (.string (strB bn)) |>.setCell ⟨w1.heap.size + 1, 1, none⟩ (.bool dn)) (w1.heap.size + 1 + 1) (.slice A5 pn.length c5) Lf) := Lib.hid ((hLf6.out.set _ _ (by show w1.heap.size + 1 < _; omega)).set _ _ (by show w1.heap.size + 1 < _; omega))
          have hB7 : w1.heap.size + 1 + 1 ≤ ((w5.alloc (.cells #[.string (strB bn), .bool dn] 32)).setCell ⟨w1.heap.size + 1, 0, none⟩ (.string (strB bn)) |>.setCell ⟨w1.heap.size + 1, 1, none⟩ (.bool dn)).heap.size := by have h1 := HI.out.sz; have h2 := h6.out.size; simp at h2 ⊢; omega
          have hLL : La.length + Lf.length ≤ 1000000 := by
            have h1 := congrArg List.length HPA.out
            have h2 := frY_len (xs.take j)
            have h3 : (paysL (xs.take j)).length = (frY (xs.take j)).length := by unfold paysL; rw [List.length_map]
            have h4 := congrArg List.length HQ3.out
            have h5 := frY_len (xs.take (j + m))
            have h7 : (paysL (xs.take (j + m))).length = (frY (xs.take (j + m))).length := by unfold paysL; rw [List.length_map]
            rw [List.length_map] at h1
            rw [List.length_append] at h4
            rw [List.length_take] at h2 h5
            omega
          go_wp2_with ((with_reducible refine atOp ⟨some 60, _, _, _, _, _⟩ ?_); refine wpList_append_ol _ rfl _ _ rfl (w1.heap.size + 1 + 1) _ _ La Lf rfl HLA7.out rfl HLF7.out hB7 hLL ?_; intro v8 w8 ho8 hg8; have HO8 := Lib.hid ho8; have HG8 := Lib.hid hg8; clear ho8 hg8)
          have HST := Lib.hid (pc_step (m := m) HI.out h6.out (by have := HLX.out; omega) HLA.out HPA.out HQ3.out HP5.out HR8.out HBN.out HDN.out HO8.out HG8.out)
          exact ⟨⟨j + m, k + 1, by omega, by go_num, HST⟩, by show L - m < L; omega⟩
        · have h6 := HN7
          have hlt9 : wr.heap.size < (wr.alloc (.cells #[.string ⟨#[]⟩, .bool false] 32)).drew.heap.size := by show _ < (wr.alloc _).heap.size; simp
          have hLf6 : Hid (OL ((w5.setCell ⟨wr.heap.size, 0, none⟩ (.string (strB bn))).setCell ⟨wr.heap.size, 1, none⟩ (.bool dn)) (w1.heap.size + 1 + 1) (.slice A5 pn.length c5) Lf) := Lib.hid (((HO5.out.set _ _ hlt9).set _ _ hlt9).mono (Nat.le_trans HI.out.sz (Nat.le_of_lt hlt9)))
          obtain ⟨u0, u1, g0, g1⟩ := cell_of2 ((h6.out.block _ HI.out.sz).trans HS8.out)
          have HLA7 : Hid (OL (((w5.setCell ⟨wr.heap.size, 0, none⟩ (.string (strB bn))).setCell ⟨wr.heap.size, 1, none⟩ (.bool dn)).setCell ⟨w1.heap.size + 1, 0, none⟩ (.string (strB bn)) |>.setCell ⟨w1.heap.size + 1, 1, none⟩ (.bool dn)) (w1.heap.size + 1 + 1) (.slice Aa La.length ca) La) := Lib.hid (((HLA.out.later h6.out).set _ _ (by show w1.heap.size + 1 < _; omega)).set _ _ (by show w1.heap.size + 1 < _; omega))
          have HLF7 : Hid (OL (((w5.setCell ⟨wr.heap.size, 0, none⟩ (.string (strB bn))).setCell ⟨wr.heap.size, 1, none⟩ (.bool dn)).setCell ⟨w1.heap.size + 1, 0, none⟩ (.string (strB bn)) |>.setCell ⟨w1.heap.size + 1, 1, none⟩ (.bool dn)) (w1.heap.size + 1 + 1) (.slice A5 pn.length c5) Lf) := Lib.hid ((hLf6.out.set _ _ (by show w1.heap.size + 1 < _; omega)).set _ _ (by show w1.heap.size + 1 < _; omega))
          have hB7 : w1.heap.size + 1 + 1 ≤ (((w5.setCell ⟨wr.heap.size, 0, none⟩ (.string (strB bn))).setCell ⟨wr.heap.size, 1, none⟩ (.bool dn)).setCell ⟨w1.heap.size + 1, 0, none⟩ (.string (strB bn)) |>.setCell ⟨w1.heap.size + 1, 1, none⟩ (.bool dn)).heap.size := by have h1 := HI.out.sz; have h2 := h6.out.size; simp at h2 ⊢; omega
          have hLL : La.length + Lf.length ≤ 1000000 := by
            have h1 := congrArg List.length HPA.out
            have h2 := frY_len (xs.take j)
            have h3 : (paysL (xs.take j)).length = (frY (xs.take j)).length := by unfold paysL; rw [List.length_map]
            have h4 := congrArg List.length HQ3.out
            have h5 := frY_len (xs.take (j + m))
            have h7 : (paysL (xs.take (j + m))).length = (frY (xs.take (j + m))).length := by unfold paysL; rw [List.length_map]
            rw [List.length_map] at h1
            rw [List.length_append] at h4
            rw [List.length_take] at h2 h5
            omega
          go_wp2_with ((with_reducible refine atOp ⟨some 60, _, _, _, _, _⟩ ?_); refine wpList_append_ol _ rfl _ _ rfl (w1.heap.size + 1 + 1) _ _ La Lf rfl HLA7.out rfl HLF7.out hB7 hLL ?_; intro v8 w8 ho8 hg8; have HO8 := Lib.hid ho8; have HG8 := Lib.hid hg8; clear ho8 hg8)
          have HST := Lib.hid (pc_step (m := m) HI.out h6.out (by have := HLX.out; omega) HLA.out HPA.out HQ3.out HP5.out HR8.out HBN.out HDN.out HO8.out HG8.out)
          exact ⟨⟨j + m, k + 1, by omega, by go_num, HST⟩, by show L - m < L; omega⟩
      · have hm1e := hyn (by omega)
        have hyi : ¬ ((0 : Int) < (ys.length : Int)) := by omega
        have hmin : min (1 : Int) (L : Int) = (m : Int) := by omega
        clear hm1e
        clear hyp hyn
        go_wp2_with fail
        have HBD : Hid (Below wr.heap.size wr wr.drew) := Lib.hid (bl_drewN 1 (Below.refl _ _))
        have HBA : Hid (Below wr.heap.size wr (wr.alloc (.cells #[.string ⟨#[]⟩, .bool false] 32)).drew) := Lib.hid ((bl_alloc _ (Below.refl _ _)).trans ⟨rfl, rfl, rfl, Nat.le_refl _, fun _ _ => rfl⟩)
        go_region_held3 (fun W => (W.cell? ⟨w1.heap.size + 1, 0, none⟩ = some (.string (strB bj)) ∧ W.cell? ⟨w1.heap.size + 1, 1, none⟩ = some (.bool dj)) ∧ Hid (Below wr.heap.size wr W)) (exact HKP.out _ (by with_reducible assumption))
          (first
            | (go_at_call 15; (with_reducible refine (HFD.out _ HBD).mono ?_); rintro e w5 ⟨A5, c5, Lf, rfl, hlf, ho5, hp5, b5⟩; have HO5 := Lib.hid ho5; have HP5 := Lib.hid hp5; have HN5 : Hid (Below wr.heap.size wr w5) := Lib.hid (bl_call2 b5 HBD); have HN9 := Lib.hid (bl_alloc (.cells #[.string (strB bn), .bool dn] 32) HN5.out); have HN6 := Lib.hid (bl_alloc (.cells #[.string ⟨#[]⟩, .bool false] 32) HN5.out); have HN7 := Lib.hid (bl_set (.bool dn) (bl_set (p := ⟨wr.heap.size, 0, none⟩) (.string (strB bn)) HN5.out (Nat.le_refl _)) (show wr.heap.size ≤ (⟨wr.heap.size, 1, none⟩ : Addr).block from Nat.le_refl _)); have HN8 := Lib.hid (bl_set (.bool dn) (bl_set (p := ⟨w5.heap.size, 0, none⟩) (.string (strB bn)) HN6.out HN5.out.size) (show wr.heap.size ≤ (⟨w5.heap.size, 1, none⟩ : Addr).block from HN5.out.size)); clear ho5 hp5 b5)
            | (go_at_call 15; (with_reducible refine (HFD.out _ HBA).mono ?_); rintro e w5 ⟨A5, c5, Lf, rfl, hlf, ho5, hp5, b5⟩; have HO5 := Lib.hid ho5; have HP5 := Lib.hid hp5; have HN5 : Hid (Below wr.heap.size wr w5) := Lib.hid (bl_call2 b5 HBA); have HN9 := Lib.hid (bl_alloc (.cells #[.string (strB bn), .bool dn] 32) HN5.out); have HN6 := Lib.hid (bl_alloc (.cells #[.string ⟨#[]⟩, .bool false] 32) HN5.out); have HN7 := Lib.hid (bl_set (.bool dn) (bl_set (p := ⟨wr.heap.size, 0, none⟩) (.string (strB bn)) HN5.out (Nat.le_refl _)) (show wr.heap.size ≤ (⟨wr.heap.size, 1, none⟩ : Addr).block from Nat.le_refl _)); have HN8 := Lib.hid (bl_set (.bool dn) (bl_set (p := ⟨w5.heap.size, 0, none⟩) (.string (strB bn)) HN6.out HN5.out.size) (show wr.heap.size ≤ (⟨w5.heap.size, 1, none⟩ : Addr).block from HN5.out.size)); obtain ⟨z0, z1, z2, z3⟩ := cell_of2 (box_old b5); clear ho5 hp5 b5))
        · have h6 := HN9
          have hLf6 : Hid (OL (w5.alloc (.cells #[.string (strB bn), .bool dn] 32)) (w1.heap.size + 1 + 1) (.slice A5 pn.length c5) Lf) := Lib.hid ((HO5.out.later (bl_alloc _ (Below.refl _ _))).mono HI.out.sz)
          obtain ⟨u0, u1, g0, g1⟩ := cell_of2 ((h6.out.block _ HI.out.sz).trans HS8.out)
          have HLA7 : Hid (OL ((w5.alloc (.cells #[.string (strB bn), .bool dn] 32)).setCell ⟨w1.heap.size + 1, 0, none⟩ (.string (strB bn)) |>.setCell ⟨w1.heap.size + 1, 1, none⟩ (.bool dn)) (w1.heap.size + 1 + 1) (.slice Aa La.length ca) La) := Lib.hid (((HLA.out.later h6.out).set _ _ (by show w1.heap.size + 1 < _; omega)).set _ _ (by show w1.heap.size + 1 < _; omega))
          have HLF7 : Hid (OL ((w5.alloc (.cells #[.string (strB bn), .bool dn] 32)).setCell ⟨w1.heap.size + 1, 0, none⟩ (.string (strB bn)) |>.setCell ⟨w1.heap.size + 1, 1, none⟩ (.bool dn)) (w1.heap.size + 1 + 1) (.slice A5 pn.length c5) Lf) := Lib.hid ((hLf6.out.set _ _ (by show w1.heap.size + 1 < _; omega)).set _ _ (by show w1.heap.size + 1 < _; omega))
          have hB7 : w1.heap.size + 1 + 1 ≤ ((w5.alloc (.cells #[.string (strB bn), .bool dn] 32)).setCell ⟨w1.heap.size + 1, 0, none⟩ (.string (strB bn)) |>.setCell ⟨w1.heap.size + 1, 1, none⟩ (.bool dn)).heap.size := by have h1 := HI.out.sz; have h2 := h6.out.size; simp at h2 ⊢; omega
          have hLL : La.length + Lf.length ≤ 1000000 := by
            have h1 := congrArg List.length HPA.out
            have h2 := frY_len (xs.take j)
            have h3 : (paysL (xs.take j)).length = (frY (xs.take j)).length := by unfold paysL; rw [List.length_map]
            have h4 := congrArg List.length HQ3.out
            have h5 := frY_len (xs.take (j + m))
            have h7 : (paysL (xs.take (j + m))).length = (frY (xs.take (j + m))).length := by unfold paysL; rw [List.length_map]
            rw [List.length_map] at h1
            rw [List.length_append] at h4
            rw [List.length_take] at h2 h5
            omega
          go_wp2_with ((with_reducible refine atOp ⟨some 60, _, _, _, _, _⟩ ?_); refine wpList_append_ol _ rfl _ _ rfl (w1.heap.size + 1 + 1) _ _ La Lf rfl HLA7.out rfl HLF7.out hB7 hLL ?_; intro v8 w8 ho8 hg8; have HO8 := Lib.hid ho8; have HG8 := Lib.hid hg8; clear ho8 hg8)
          have HST := Lib.hid (pc_step (m := m) HI.out h6.out (by have := HLX.out; omega) HLA.out HPA.out HQ3.out HP5.out HR8.out HBN.out HDN.out HO8.out HG8.out)
          exact ⟨⟨j + m, k + 1, by omega, by go_num, HST⟩, by show L - m < L; omega⟩
        · have h6 := HN7
          have hlt9 : wr.heap.size < (wr.alloc (.cells #[.string ⟨#[]⟩, .bool false] 32)).drew.heap.size := by show _ < (wr.alloc _).heap.size; simp
          have hLf6 : Hid (OL ((w5.setCell ⟨wr.heap.size, 0, none⟩ (.string (strB bn))).setCell ⟨wr.heap.size, 1, none⟩ (.bool dn)) (w1.heap.size + 1 + 1) (.slice A5 pn.length c5) Lf) := Lib.hid (((HO5.out.set _ _ hlt9).set _ _ hlt9).mono (Nat.le_trans HI.out.sz (Nat.le_of_lt hlt9)))
          obtain ⟨u0, u1, g0, g1⟩ := cell_of2 ((h6.out.block _ HI.out.sz).trans HS8.out)
          have HLA7 : Hid (OL (((w5.setCell ⟨wr.heap.size, 0, none⟩ (.string (strB bn))).setCell ⟨wr.heap.size, 1, none⟩ (.bool dn)).setCell ⟨w1.heap.size + 1, 0, none⟩ (.string (strB bn)) |>.setCell ⟨w1.heap.size + 1, 1, none⟩ (.bool dn)) (w1.heap.size + 1 + 1) (.slice Aa La.length ca) La) := Lib.hid (((HLA.out.later h6.out).set _ _ (by show w1.heap.size + 1 < _; omega)).set _ _ (by show w1.heap.size + 1 < _; omega))
          have HLF7 : Hid (OL (((w5.setCell ⟨wr.heap.size, 0, none⟩ (.string (strB bn))).setCell ⟨wr.heap.size, 1, none⟩ (.bool dn)).setCell ⟨w1.heap.size + 1, 0, none⟩ (.string (strB bn)) |>.setCell ⟨w1.heap.size + 1, 1, none⟩ (.bool dn)) (w1.heap.size + 1 + 1) (.slice A5 pn.length c5) Lf) := Lib.hid ((hLf6.out.set _ _ (by show w1.heap.size + 1 < _; omega)).set _ _ (by show w1.heap.size + 1 < _; omega))
          have hB7 : w1.heap.size + 1 + 1 ≤ (((w5.setCell ⟨wr.heap.size, 0, none⟩ (.string (strB bn))).setCell ⟨wr.heap.size, 1, none⟩ (.bool dn)).setCell ⟨w1.heap.size + 1, 0, none⟩ (.string (strB bn)) |>.setCell ⟨w1.heap.size + 1, 1, none⟩ (.bool dn)).heap.size := by have h1 := HI.out.sz; have h2 := h6.out.size; simp at h2 ⊢; omega
          have hLL : La.length + Lf.length ≤ 1000000 := by
            have h1 := congrArg List.length HPA.out
            have h2 := frY_len (xs.take j)
            have h3 : (paysL (xs.take j)).length = (frY (xs.take j)).length := by unfold paysL; rw [List.length_map]
            have h4 := congrArg List.length HQ3.out
            have h5 := frY_len (xs.take (j + m))
            have h7 : (paysL (xs.take (j + m))).length = (frY (xs.take (j + m))).length := by unfold paysL; rw [List.length_map]
            rw [List.length_map] at h1
            rw [List.length_append] at h4
            rw [List.length_take] at h2 h5
            omega
          go_wp2_with ((with_reducible refine atOp ⟨some 60, _, _, _, _, _⟩ ?_); refine wpList_append_ol _ rfl _ _ rfl (w1.heap.size + 1 + 1) _ _ La Lf rfl HLA7.out rfl HLF7.out hB7 hLL ?_; intro v8 w8 ho8 hg8; have HO8 := Lib.hid ho8; have HG8 := Lib.hid hg8; clear ho8 hg8)
          have HST := Lib.hid (pc_step (m := m) HI.out h6.out (by have := HLX.out; omega) HLA.out HPA.out HQ3.out HP5.out HR8.out HBN.out HDN.out HO8.out HG8.out)
          exact ⟨⟨j + m, k + 1, by omega, by go_num, HST⟩, by show L - m < L; omega⟩
    · have hj : xs.take j = xs := List.take_of_length_le (by omega)
      obtain ⟨La, hLa, hpa⟩ := HI.out.all
      obtain ⟨Aa, ca, rfl⟩ := hLa.len
      have hpn := hLa.pn (pays_bb2 (HB0.out.take j) hpa)
      have hs8 := HI.out.s8
      have hs6 := HI.out.s6
      rw [hpa, hj, HPS.out] at hpn
      rw [hj, HFE.out, HDE.out] at hs8
      rw [HFE.out, HDE.out] at hs6
      have hlen : La.length = ps.length := by have := congrArg List.length hpa; rw [hj, HPS.out] at this; simpa using this
      rw [hlen] at hpn ⊢
      obtain ⟨s0, s1, _, _⟩ := cell_of2 hs6
      obtain ⟨t0, t1, _, _⟩ := cell_of2 hs8
      have ke := eql_st (strB bfe) (strB bfe) bde bde wr
      have HPN := Lib.hid hpn
      have HP1 := Lib.hid (P1.out.later (show Below w1.heap.size w1 wr from HI.out.w1b))
      clear hpn hs8 hs6 hpa hLa
      go_wp2_with (first
        | (go_at_call 16; (with_reducible refine (same_any _ _ ps ps _ HPN.out HP1.out).mono ?_); rintro e w8 ⟨rfl, b8⟩; rw [decide_eq_true rfl]; have B8 := Lib.hid (bl_call HI.out.bel b8); clear b8)
        | (go_at_call 9; (with_reducible refine (shown_any _).mono ?_); rintro e w9 ⟨rfl, b9⟩; have B9 := Lib.hid (bl_call B8.out b9); clear b9))
      go_ret
      exact ⟨rfl, B9.out⟩
end Go.Proofs.Ytlmemkcfikdhgaa
