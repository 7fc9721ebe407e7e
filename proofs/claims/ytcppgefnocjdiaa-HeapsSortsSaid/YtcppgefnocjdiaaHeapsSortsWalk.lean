/- HeapsSorts: the walk. -/
import Derived.Test.YtcppgefnocjdiaaHeapsU
import Derived.OwnWalk
namespace Go.Proofs.Ytcppgefnocjdiaa
open Go.RowKit Go.Lib Go.Sort Go.Shelf
set_option linter.unusedVariables false

theorem info_bool : (Try.prog.info? 4).map (fun i => (i.zero, i.size, i.bytes)) = some (some (.bool false), 1, 1) := by kernel_rfl
/-- Which handles have come. -/
def bitsL (m : Nat) (P : List HItem) : List Value := (List.range m).map fun (j : Nat) => .bool (P.any fun x => x.1 == (j : Int) + 1)
theorem bitsL_len (m : Nat) (P : List HItem) : (bitsL m P).length = m := by simp [bitsL]
theorem bitsL_at {m j : Nat} (P : List HItem) (hj : j < m) : (bitsL m P)[j]? = some (.bool (P.any fun x => x.1 == (j : Int) + 1)) := by
  unfold bitsL
  rw [List.getElem?_map, List.getElem?_range hj]; rfl
theorem bitsL_set {m j : Nat} (P : List HItem) (x : HItem) (hx : x.1 = (j : Int) + 1) (hj : j < m) : (bitsL m P).set j (.bool true) = bitsL m (P ++ [x]) := by
  apply List.ext_getElem?
  intro i
  rw [List.getElem?_set, bitsL_len]
  by_cases hi : i < m
  · rw [bitsL_at _ hi, bitsL_at _ hi, List.any_append]
    by_cases e : j = i
    · subst e; simp [hj, hx]
    · have : ¬ x.1 = (i : Int) + 1 := by omega
      simp [e, this]
  · have h1 : (bitsL m P)[i]? = none := List.getElem?_eq_none (by rw [bitsL_len]; omega)
    have h2 : (bitsL m (P ++ [x]))[i]? = none := List.getElem?_eq_none (by rw [bitsL_len]; omega)
    rw [h1, h2]
    split
    · rename_i e; subst e; exact absurd hj hi
    · rfl
theorem bitsL_nil (m : Nat) : bitsL m [] = (madeCells (Value.bool false).cells (m * 1)).toList := by
  apply List.ext_getElem?
  intro i
  by_cases hi : i < m
  · rw [bitsL_at _ hi, Array.getElem?_toList]
    simp [madeCells, Value.cells, hi, Nat.mod_one]
  · rw [List.getElem?_eq_none (by rw [bitsL_len]; omega), List.getElem?_eq_none]
    simp [madeCells, Value.cells]; omega
/-- What is known of the queue's values before any is popped. -/
structure S0R (odd : Bool) (l : List Int) (S0 : List HItem) : Prop where
  perm : S0.Perm (itemsOf l)
  asc : S0.Pairwise (befI (ordL odd))
  one : (S0.map (·.1)).Nodup
theorem S0R.len {odd : Bool} {l : List Int} {S0 : List HItem} (h : S0R odd l S0) : S0.length = l.length := by rw [h.perm.length_eq, itemsOf_len]
/-- After i pops. -/
def SoR (W : World) (qb mb gs m : Nat) (odd : Bool) (S0 : List HItem) (i : Nat) (last at' : Int) (wr : World) : Prop :=
  ∃ v, QS wr W.heap.size qb mb (ordF odd) v (ordL odd) ((m : Int) + 1) (S0.drop i) ∧ Go.RowKit.Below W.heap.size W wr ∧ Off gs qb mb v wr ∧
    wr.ownsRow W.heap.size 4 1 (.slice (some ⟨gs, 0, none⟩) m m) m (bitsL m (S0.take i)) ∧ (0 < i → S0[i - 1]? = some (at', last))
/-- The next value. -/
theorem SoR.next {W : World} {qb mb gs m : Nat} {odd : Bool} {l : List Int} {S0 : List HItem} {i : Nat} {last at' : Int} {wr : World} (h : SoR W qb mb gs m odd S0 i last at' wr) (h0 : S0R odd l S0) (hm : l.length = m) (hi : i < m) :
    ∃ (j : Nat) (x : Int), j < m ∧ l.getD j 0 = x ∧ S0[i]? = some ((j : Int) + 1, x) ∧ wr.cell? ⟨gs, j, none⟩ = some (.bool false) ∧ wr.frozen? ⟨gs, j, none⟩ = false ∧
      Calls Try.prog 21 #[.pointer (some ⟨qb, 0, none⟩)] wr (fun e w' => e = .returned (.tuple #[.int .i64 ((j : Int) + 1), .int .i64 x, .int .i64 0]) ∧ w'.cell? ⟨gs, j, none⟩ = some (.bool false) ∧ w'.frozen? ⟨gs, j, none⟩ = false ∧ Hid (SoR W qb mb gs m odd S0 (i + 1) x ((j : Int) + 1) (w'.setCell ⟨gs, j, none⟩ (.bool true)) ∧ Go.RowKit.Below W.heap.size W w') ∧
        Calls Try.prog 26 #[.pointer (some ⟨qb, 0, none⟩)] w' fun e w'' => e = .returned (.int .i64 ((m - (i + 1) : Nat) : Int)) ∧ w'' = w') := by
  obtain ⟨v, h1, h2, h3, h4, h5⟩ := h
  have hl := h0.len
  have hil : i < S0.length := by omega
  have hx := List.getElem?_eq_getElem hil
  obtain ⟨j, hj, e1, e2⟩ := itemsOf_mem (h0.perm.mem_iff.1 (List.getElem_mem hil))
  have hd : S0.drop i = ((j : Int) + 1, S0[i].2) :: S0.drop (i + 1) := by rw [List.drop_eq_getElem_cons hil, ← e1]
  have hxx : S0[i]? = some ((j : Int) + 1, S0[i].2) := by rw [hx, ← e1]
  have hany : (S0.take i).any (fun x => x.1 == (j : Int) + 1) = false := by
    rw [List.any_eq_false]
    intro y hy
    obtain ⟨k, hk⟩ := List.mem_iff_getElem?.1 hy
    have hki : k < i := by have := (List.getElem?_eq_some_iff.1 hk).1; rw [List.length_take] at this; omega
    rw [List.getElem?_take, if_pos hki] at hk
    intro e
    have e3 : y.1 = S0[i].1 := by rw [e1]; simpa using e
    have a1 : (S0.map (·.1))[k]? = some y.1 := by rw [List.getElem?_map, hk]; rfl
    have a2 : (S0.map (·.1))[i]? = some y.1 := by rw [List.getElem?_map, hx, e3]; rfl
    have := (List.getElem?_inj (List.getElem?_eq_some_iff.1 a1).1 h0.one).1 (a1.trans a2.symm)
    omega
  have hcell : wr.cell? ⟨gs, j, none⟩ = some (.bool false) := by rw [h4.cellAt j (by omega), bitsL_at _ (by omega), hany]
  have hfz : wr.frozen? ⟨gs, j, none⟩ = false := h4.frozenAt j
  refine ⟨j, S0[i].2, by omega, e2, hxx, hcell, hfz, ?_⟩
  rw [hd] at h1
  refine (pop_some _ qb mb _ v _ _ _ _ wr h1).mono ?_
  rintro e w' ⟨he, v', g1, g2⟩
  obtain ⟨o1, o2⟩ := h3.onl g2
  obtain ⟨xs, hq, _⟩ := h1.mem
  have hb := h2.trans (g2.below hq)
  have hrow : w'.ownsRow W.heap.size 4 1 (.slice (some ⟨gs, 0, none⟩) m m) m (bitsL m (S0.take i)) := by
    refine ⟨h4.1, ?_⟩
    rcases h4.2 with ⟨e, _⟩ | ⟨g, cap, cur, e, r1, r2, r3⟩
    · cases e
    · have e' := e
      simp only [Value.slice.injEq, Option.some.injEq, Addr.mk.injEq] at e'
      obtain ⟨⟨rfl, _⟩, _⟩ := e'
      exact .inr ⟨gs, cap, cur, e, r1, o2.trans r2, r3⟩
  obtain ⟨s1, s2⟩ := hrow.stored j (.bool true)
  rw [bitsL_set _ ((j : Int) + 1, S0[i].2) rfl (by omega)] at s1
  have htk : S0.take i ++ [((j : Int) + 1, S0[i].2)] = S0.take (i + 1) := by rw [List.take_succ_eq_append_getElem hil, ← e1]
  rw [htk] at s1
  refine ⟨he, ?_, ?_, Lib.hid ⟨⟨v', ?_, ?_, ?_, s1, fun _ => hxx⟩, hb⟩, ?_⟩
  · exact (World.cell?_of_block (a := ⟨gs, j, none⟩) o2).trans hcell
  · exact (World.frozen?_of_block (a := ⟨gs, j, none⟩) o2).trans hfz
  · refine g1.same fun k hk => s2.block k ?_ ?_
    · obtain ⟨ys, hq', _⟩ := g1.mem
      have hl' := hq'.lt
      rcases hk with rfl | rfl | hk
      · exact hl'.1
      · exact hl'.2
      · exact (hq'.row.lt k hk).2
    · rcases hk with rfl | rfl | hk
      · intro e; exact o1.q (Option.some.inj e).symm
      · intro e; exact o1.m (Option.some.inj e).symm
      · intro e
        have e' := Option.some.inj e
        exact o1.r (by rw [hk, e'])
  · exact hb.grown s2 hb.size (fun k e => by cases e; exact (h4.lt gs rfl).1)
  · exact ⟨by simpa using o1.lt, o1.q, o1.m, o1.r⟩
  · have := g1.len
    rw [List.length_drop, hl, hm] at this
    exact this
theorem SoR.ord {W : World} {qb mb gs m : Nat} {odd : Bool} {l : List Int} {S0 : List HItem} {i : Nat} {last at' : Int} {wr : World} (h : SoR W qb mb gs m odd S0 i last at' wr) (h0 : S0R odd l S0) {h' x : Int} (hx : S0[i]? = some (h', x)) (hi : 0 < i) :
    ordL odd x last = false ∧ (ordL odd last x = false → at' < h') := by
  obtain ⟨v, _, _, _, _, h5⟩ := h
  have hp := h5 hi
  obtain ⟨l1, e1⟩ := List.getElem?_eq_some_iff.1 hp
  obtain ⟨l2, e2⟩ := List.getElem?_eq_some_iff.1 hx
  have hb := List.pairwise_iff_getElem.1 h0.asc (i - 1) i l1 l2 (by omega)
  rw [e1, e2] at hb
  have hw := ordL_weak odd
  rcases hb with hb | ⟨hb1, hb2⟩
  · exact ⟨Bool.eq_false_iff.2 fun e => hw.asymm hb e, fun e => by simp only at hb; rw [hb] at e; cases e⟩
  · exact ⟨hb1, fun _ => hb2⟩
set_option maxRecDepth 100000 in
set_option maxHeartbeats 4000000 in
theorem sorts_some (n : Nat) (lv : Value) (l : List Int) (W : World) (hn : n < 256) (hl : RI W lv l) (hle : l.length ≤ 300) :
    Calls Try.prog 5 #[.int .u8 n, lv] W fun e w' => e = .returned (.bool true) ∧ Go.RowKit.Below W.heap.size W w' := by
  obtain ⟨i0, hi, hz0, hz1, hz2⟩ := info_parts info_bool
  have k1 := made_any n lv l W hn hl hle
  have k2 := fun w => order_any n w hn
  generalize decide (n % 2 = 1) = odd at k1 k2
  obtain ⟨A, c, rfl⟩ := hl.len
  obtain ⟨m, hm⟩ : ∃ m, l.length = m := ⟨_, rfl⟩
  rw [hm] at hle hl k1 ⊢
  have HM := Lib.hid hm; have HL := Lib.hid hl
  have hmz : ¬ (m : Int) > 300 := by omega
  clear hm hl
  go_enter Try.func5, Try.ntmps5
  go_wp2_with (first
    | (go_at_call 27; refine k1.mono ?_; rintro e w1 ⟨qb, mb, v0, rfl, H1⟩; have HS1 : W.heap.size ≤ w1.heap.size := (by obtain ⟨S, _, _, hb⟩ := H1.out; exact hb.size))
    | (go_at_call 12; refine (k2 _).mono ?_; rintro e w2 ⟨rfl, hw⟩; subst hw)
    | (refine wpList_make_full _ rfl _ _ 60 rfl W.heap.size 4 i0 (.bool false) 1 Try.underlying60 hi hz0 hz1 .i64 .i64 m m m rfl rfl rfl rfl (by rw [hz2]; omega) (by unfold maxLen; omega) HS1 ?_; intro w3 hown hgrow))
  obtain ⟨S0, q1, q2, q3⟩ := H1.out
  have H0 : Hid (S0R odd l S0) := Lib.hid (by
    obtain ⟨xs, _, h2⟩ := q1.mem
    exact ⟨q2, h2.asc, h2.one⟩)
  have hst : Hid (SoR W qb mb w2.heap.size m odd S0 0 0 0 w3) := Lib.hid (by
    obtain ⟨xs, hq, _⟩ := q1.mem
    have hql := hq.lt
    refine ⟨v0, ?_, q3.grown hgrow q3.size (fun k e => by cases e), ⟨?_, by omega, by omega, fun e => by have := (hq.row.lt _ e).2; omega⟩, ?_, fun h => by omega⟩
    · rw [List.drop_zero]
      rw [HM.out] at q1
      exact q1.same fun k hk => hgrow.block k (by
        rcases hk with rfl | rfl | hk
        · exact hql.1
        · exact hql.2
        · exact (hq.row.lt k hk).2) (by simp)
    · exact (hown.lt _ rfl).2
    · rw [List.take_zero, bitsL_nil]; exact hown)
  obtain ⟨gF, cb, hFe, egF, hcF⟩ := ord_less odd
  have HFE := Lib.hid hFe
  rw [hFe]
  generalize w2.heap.size = gs at hst ⊢
  clear q1 q2 q3 hown hgrow hFe
  have hF1 := fun x y W => hcF x y W
  clear k1 k2 hcF
  go_loopw [8, 9, 10] (fun vl va vi wr => ∃ (i : Nat) (last at' : Int), vl = .int .i64 last ∧ va = .int .i64 at' ∧ vi = .int .i64 i ∧ i ≤ m ∧ Hid (SoR W qb mb gs m odd S0 i last at' wr)) (fun _ _ vi _ => m - (intOf vi).toNat)
  case atStart => exact ⟨0, 0, 0, rfl, rfl, rfl, by omega, hst⟩
  case round =>
    obtain ⟨i, last, at', rfl, rfl, rfl, hi, HR⟩ := hrel
    by_cases hlt : i < m
    · obtain ⟨j, x, hj, hlx, hS, c0, f0, kp⟩ := HR.out.next H0.out HM.out hlt
      obtain ⟨g, off, rfl, c1⟩ := HL.out.cell (i := j) (by rw [HM.out]; exact hj)
      rw [hlx] at c1
      have HC : Hid (∀ w4, Go.RowKit.Below W.heap.size W w4 → w4.cell? ⟨g, off + j, none⟩ = some (.int .i64 x)) := Lib.hid fun w4 hb => (World.cell?_of_block (a := ⟨g, off + j, none⟩) (hb.block g (World.block_lt_of_cell? W _ c1))).trans c1
      have i1 : (i : Int) < (m : Int) := by omega
      have i2 : IntKind.i64.wrap ((i : Int) + 1) = (i : Int) + 1 := IntWalk.i64_in _ (by omega)
      have HO := Lib.hid (HR.out.ord H0.out hS)
      obtain ⟨hv, hhv⟩ : ∃ hv, (j : Int) + 1 = hv := ⟨_, rfl⟩
      have i3 : IntKind.i64.wrap (hv - 1) = (j : Int) := by rw [IntWalk.i64_in _ (by omega)]; omega
      have i4 : ¬ (hv > (m : Int)) := by omega
      have i5 : ¬ (hv < 1) := by omega
      rw [hhv] at HO kp
      obtain ⟨r, hr⟩ : ∃ r, m - (i + 1) = r := ⟨_, rfl⟩
      rw [hr] at kp
      have i10 : IntKind.i64.wrap (r : Int) = (r : Int) := IntWalk.i64_in _ (by omega)
      have hjm : (j : Int) < (m : Int) := by omega
      clear hS hlx c1 hhv
      by_cases h0 : i = 0
      · have i7 : IntKind.i64.wrap ((m : Int) - 1) = (r : Int) := by rw [IntWalk.i64_in _ (by omega)]; omega
        clear hr
        subst h0
        go_wp2_with (first
          | (go_at_call 21; refine kp.mono ?_; rintro e w4 ⟨rfl, c4, f4, HN, kl⟩; have c5 := HC.out w4 HN.out.2; clear kp)
          | (go_at_call 26; refine kl.mono ?_; rintro e w5 ⟨rfl, hw5⟩; subst hw5; clear kl))
        go_roundw
        case rel => exact ⟨1, x, hv, rfl, rfl, rfl, by omega, Lib.hid HN.out.1⟩
        case measure => simp [intOf]; omega
      · have i6 : IntKind.i64.wrap ((m : Int) - 1) = (m : Int) - 1 := IntWalk.i64_in _ (by omega)
        have i7 : IntKind.i64.wrap ((m : Int) - 1 - (i : Int)) = (r : Int) := by rw [IntWalk.i64_in _ (by omega)]; omega
        clear hr
        have i8 : (i : Int) > 0 := by omega
        obtain ⟨o1, o2⟩ := HO.out (by omega)
        have kf1 := fun W => hF1 x last W
        have kf2 := fun W => hF1 last x W
        rw [o1] at kf1
        have HO2 := Lib.hid o2
        generalize ordL odd last x = b2 at kf2 HO2
        have HGR : Hid (∀ w5 w6, Hid (SoR W qb mb gs m odd S0 (i + 1) x hv w5) → Grew w5 w6 → Hid (SoR W qb mb gs m odd S0 (i + 1) x hv w6)) := Lib.hid fun w5 w6 H hG => Lib.hid (by
          obtain ⟨v, h1, h2, h3, h4, h5⟩ := H.out
          obtain ⟨xs, hq, _⟩ := h1.mem
          have hb := hG.below
          exact ⟨v, h1.later hb, h2.trans ((Onl.grew v hG).below hq), (h3.onl (Onl.grew v hG)).1, h4.kept (row := none) ⟨hb.os, hb.tape, hb.output, hb.size, fun k hk _ => hb.block k hk⟩ (.inr (by simp [Value.ownBlock])), h5⟩)
        clear o1 o2 hF1
        cases b2 with
        | true =>
          go_wp2_with (first
            | (go_at_call 21; refine kp.mono ?_; rintro e w4 ⟨rfl, c4, f4, HN, kl⟩; have c5 := HC.out w4 HN.out.2; clear kp)
            | (go_at_call 26; refine kl.mono ?_; rintro e w5 ⟨rfl, hw5⟩; subst hw5; clear kl)
            | (go_at_fn gF; refine (kf1 _).mono ?_; rintro e w6 ⟨rfl, hG6⟩; clear kf1; have HN6 := HGR.out _ _ (Lib.hid HN.out.1) hG6; clear hG6)
            | (go_at_fn gF; refine (kf2 _).mono ?_; rintro e w7 ⟨rfl, hG7⟩; clear kf2; have HN7 := HGR.out _ _ HN6 hG7; clear hG7))
          go_roundw
          case rel => exact ⟨i + 1, x, hv, rfl, rfl, by go_num, by omega, HN7⟩
          case measure => simp [intOf]; omega
        | false =>
          have o2 := HO2.out rfl
          have o3 : ¬ hv < at' := by omega
          go_wp2_with (first
            | (go_at_call 21; refine kp.mono ?_; rintro e w4 ⟨rfl, c4, f4, HN, kl⟩; have c5 := HC.out w4 HN.out.2; clear kp)
            | (go_at_call 26; refine kl.mono ?_; rintro e w5 ⟨rfl, hw5⟩; subst hw5; clear kl)
            | (go_at_fn gF; refine (kf1 _).mono ?_; rintro e w6 ⟨rfl, hG6⟩; clear kf1; have HN6 := HGR.out _ _ (Lib.hid HN.out.1) hG6; clear hG6)
            | (go_at_fn gF; refine (kf2 _).mono ?_; rintro e w7 ⟨rfl, hG7⟩; clear kf2; have HN7 := HGR.out _ _ HN6 hG7; clear hG7))
          go_roundw
          case rel => exact ⟨i + 1, x, hv, rfl, rfl, by go_num, by omega, HN7⟩
          case measure => simp [intOf]; omega
    · obtain rfl : i = m := by omega
      have kn : Calls Try.prog 21 #[.pointer (some ⟨qb, 0, none⟩)] wr fun e w' => e = .returned (.tuple #[.int .i64 0, .int .i64 0, .int .i64 4]) ∧ w' = wr := by
        obtain ⟨v, h1, _⟩ := HR.out
        rw [List.drop_of_length_le (by rw [H0.out.len, HM.out]; exact Nat.le_refl _)] at h1
        exact pop_none _ qb mb _ v _ _ wr h1
      have HB : Hid (Go.RowKit.Below W.heap.size W wr) := Lib.hid (by obtain ⟨_, _, hb, _⟩ := HR.out; exact hb)
      go_wp2_with (first
        | (go_at_call 21; refine kn.mono ?_; rintro e w4 ⟨rfl, hw4⟩; subst hw4)
        | (go_at_call 10; refine (awake_any _).mono ?_; rintro e w5 ⟨rfl, hb5⟩))
      go_ret
      exact ⟨rfl, HB.out.trans (hb5.mono HB.out.size)⟩
theorem sorts_any (n : Nat) (lv : Value) (l : List Int) (W : World) (hn : n < 256) (hl : RI W lv l) :
    Calls Try.prog 5 #[.int .u8 n, lv] W fun e w' => e = .returned (.bool true) ∧ Go.RowKit.Below W.heap.size W w' := by
  by_cases hle : l.length ≤ 300
  · exact sorts_some n lv l W hn hl hle
  · obtain ⟨A, c, rfl⟩ := hl.len
    obtain ⟨m, hm⟩ : ∃ m, l.length = m := ⟨_, rfl⟩
    rw [hm] at hle ⊢
    have hmz : (m : Int) > 300 := by omega
    clear hm hl
    go_enter Try.func5, Try.ntmps5
    go_wp2_with (first
      | (go_at_call 10; refine (awake_any _).mono ?_; rintro e w5 ⟨rfl, hb5⟩))
    go_ret
    exact ⟨rfl, hb5⟩
end Go.Proofs.Ytcppgefnocjdiaa
