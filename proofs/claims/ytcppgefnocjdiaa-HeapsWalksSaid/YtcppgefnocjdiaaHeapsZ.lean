/- walked: what All yields. -/
import Derived.Test.YtcppgefnocjdiaaHeapsY
namespace Go.Proofs.Ytcppgefnocjdiaa
open Go.RowKit Go.Lib Go.Sort Go.Shelf
set_option linter.unusedVariables false
attribute [local go_sem] Oper.semAt_some

theorem OH.base {W : World} {B B' : Nat} {v : Value} {l : List HItem} (h : OH W B v l) (hb : B' ≤ B) : OH W B' v l := ⟨h.1, h.2.imp id fun ⟨g, cap, cur, e, h1, r⟩ => ⟨g, cap, cur, e, Nat.le_trans hb h1, r⟩⟩
theorem cell_of1 {W : World} {B : Nat} {x : Value} {t : TypeId} (h : W.heap[B]? = some (.cells #[x] t (0, 0))) : W.cell? ⟨B, 0, none⟩ = some x ∧ W.frozen? ⟨B, 0, none⟩ = false := by
  refine ⟨?_, ?_⟩
  · rw [cell_of_row W B 0 _ _ _ h]; rfl
  · simp [World.frozen?, h]
theorem heap_set1 {W : World} {B : Nat} {x : Value} {t : TypeId} (h : W.heap[B]? = some (.cells #[x] t (0, 0))) (u : Value) : (W.setCell ⟨B, 0, none⟩ u).heap[B]? = some (.cells #[u] t (0, 0)) := by
  simp [World.setCell, Array.getElem?_modify, h]
theorem own_len {W : World} {B : Nat} {e : TypeId} {z : Nat} {v : Value} {n : Nat} {xs : List Value} (h : W.ownsRow B e z v n xs) : ∃ A c, v = .slice A n c := by
  rcases h with ⟨_, ⟨rfl, rfl⟩ | ⟨g, cap, cur, rfl, _⟩⟩
  · exact ⟨_, _, rfl⟩
  · exact ⟨_, _, rfl⟩
theorem row_cells {W : World} {B : Nat} {e : TypeId} {z : Nat} {v : Value} {n : Nat} {xs : List Value} (h : W.ownsRow B e z v n xs) : ∀ j o, v.ownBlock = some j → W.heap[j]? = some o → o.isCells = true := by
  intro j o hj ho
  rcases h with ⟨_, ⟨rfl, _⟩ | ⟨g, cap, cur, rfl, _, hc, _⟩⟩
  · cases hj
  · cases hj; rw [hc] at ho; cases ho; rfl
/-- What walked's own blocks hold between two rounds. -/
structure WI (w : World) (hi : Nat) (pre : List HItem) (W : World) : Prop where
  row : ∃ v, W.heap[w.heap.size]? = some (.cells #[v] 22 (0, 0)) ∧ OH W (max hi w.heap.size) v pre
  bel : Go.RowKit.Below w.heap.size w W
set_option maxRecDepth 100000 in
set_option maxHeartbeats 4000000 in
theorem walked_in (q : Option Addr) (nx : Int) (L : List HItem) (w : World) (hL : L.length ≤ 5000) (hS : ∀ W, Go.RowKit.Below w.heap.size w W → SaveC (.pointer q) nx L W) :
    CallsIn Fence.wide 5 Try.prog 19 #[.pointer q] w fun e w' => ∃ v, e = .returned v ∧ OH w' w.heap.size v L ∧ Go.RowKit.Below w.heap.size w w' := by
  obtain ⟨i0, hi0, hz0, hz1, hz2⟩ := info_parts info_item
  have HS := Lib.hid hS
  clear hS
  refine callsIn_of_wp_marks Try.func19 rfl trivial ?_ rfl
  simp only [Try.ntmps19, List.size_toArray, List.length_cons, List.length_nil, Nat.reduceAdd, Nat.reduceSub, Array.replicate_succ, Array.replicate_zero, List.push_toArray, List.append_toArray, List.nil_append, List.cons_append]
  gi_wp2_with (refine ⟨trivial, ?_⟩; gi_at_call 34; refine (callsIn_wide.2 (all_any _ _)).mono ?_; rintro e w' ⟨rfl, rfl⟩)
  obtain ⟨w4, hw4⟩ : ∃ w4, (w.alloc (.cells #[.slice none 0 0] 22)).alloc (.cells #[.pointer q] 27) = w4 := ⟨_, rfl⟩
  have hsz : w4.heap.size = w.heap.size + 2 := by rw [← hw4]; simp
  have hb4 : Go.RowKit.Below w.heap.size w w4 := by rw [← hw4]; exact ((Go.RowKit.Below.refl _ w).alloc (Nat.le_refl _) _).alloc (by simp) _
  have hcq : w4.cell? ⟨w.heap.size + 1, 0, none⟩ = some (.pointer q) := by rw [← hw4]; exact (row_new _ #[.pointer q] _ _ 0 (by simp)).1
  have hcore : ∀ hi, WI w hi [] w4 := fun hi => ⟨⟨.slice none 0 0, by rw [← hw4]; exact ((World.grownBy_alloc _ _ none).block _ (by simp) (by simp)).trans (heap_alloc_new w _), OH.nil _ _⟩, hb4⟩
  rw [hw4]
  clear hw4
  refine wpIn_rangeFunc_rng (w0 := w4) rfl (by omega) (gf := 58) (lb := #[.pointer (some ⟨w.heap.size + 1, 0, none⟩)]) rfl trivial (enters_of Try.func58 (by kernel_rfl) rfl)
    (all_seq 4 (w.heap.size + 1) w.heap.size q nx L w4 hcq (by omega) (fun W hW => HS.out W (hb4.trans (hW.mono hb4.size)))) (by omega) (Go.RowKit.Below.refl _ _) (fun _ => rfl)
    (WI w) (fun _ _ _ _ => False) ?hI ?hIx hcore
    (fun x a' W => a' = { tmps := #[.pointer q, undef, .slice none 0 0, .pointer (some ⟨w.heap.size, 0, none⟩), .int .i64 x.1, .int .i64 x.2, .pointer q, .func (.func 58) #[] #[.pointer (some ⟨w.heap.size + 1, 0, none⟩)], .int .i64 x.1, .int .i64 x.2, undef, undef, undef, undef, undef, undef, undef, undef, undef, undef], defers := [] })
    ?hAx ?assign ?body ?done ?stop
  case hI =>
    rintro hi pre A C row ⟨⟨v, h1, h2⟩, h3⟩ hgr hr
    have hb1 := (Array.getElem?_eq_some_iff.1 h1).1
    refine ⟨⟨v, (hgr.block _ hb1 (fun e => by have := (hr _ e.symm).1; omega)).trans h1, h2.same fun g hg => hgr.block g (h2.lt g hg).2 fun e => ?_⟩, h3.grown hgr h3.size (fun k e => by have := (hr k e).1; omega)⟩
    obtain ⟨_, o, ho, hc⟩ := hr g e.symm
    obtain ⟨A', c', hv⟩ := h2.len
    rcases h2.2 with ⟨hn, _⟩ | ⟨g', cap, cur, hv', _, hc', _⟩
    · rw [hn] at hg; cases hg
    · rw [hv'] at hg; cases hg; rw [hc'] at ho; cases ho; cases hc
  case hIx => exact fun hi c pre A C row h _ _ => h
  case hAx => exact fun x a' u A C row h _ _ => h
  case assign =>
    rintro hi l pre ⟨xh, xv⟩ W K hlo hle hI hK
    gi_wp2
    exact hK _ _ (KeepsFrom.refl _ _) (KpR.refl _ _ _ _) hI rfl
  case body =>
    rintro hi l pre x a' W hlo hle ⟨⟨v, hv1, hrow⟩, hbel⟩ rfl hlen
    obtain ⟨xh, xv⟩ := x
    rw [Nat.max_eq_left (by omega)] at hrow
    obtain ⟨A, c, hvv⟩ := hrow.len
    subst hvv
    obtain ⟨n, hn⟩ : ∃ n, pre.length = n := ⟨_, rfl⟩
    have hn5 : n < 5000 := by omega
    rw [hn] at hv1 hrow
    obtain ⟨cl, fl⟩ := cell_of1 hv1
    have hrow' : W.ownsRow hi 64 2 (.slice A n c) n (hC pre) := by
      have := hrow
      unfold OH at this
      rw [hn] at this
      exact this
    have HV := Lib.hid hv1
    have HB := Lib.hid hbel
    have HNN := Lib.hid hn
    have hwW : w.heap.size < W.heap.size := (Array.getElem?_eq_some_iff.1 hv1).1
    have hkeep : ∀ w1, (W.alloc (.cells #[.int .i64 xh, .int .i64 xv] 64)).grownBy w1 (Value.slice A n c).ownBlock → w1.heap[w.heap.size]? = some (.cells #[.slice A n c] 22 (0, 0)) := fun w1 hgr =>
      (hgr.block _ (by simp; omega) (fun e => by have := (hrow'.lt _ e.symm).1; omega)).trans (((World.grownBy_alloc W _ none).block _ hwW (by simp)).trans HV.out)
    have HK := Lib.hid hkeep
    clear hv1 hkeep hbel hn
    gi_wp2_with (gi_at_builtin; refine wpListIn_append_own _ rfl _ _ 22 rfl hi 64 i0 (.agg #[.int .i64 0, .int .i64 0]) 2 16 Try.underlying22 hi0 hz0 hz1 hz2 rfl (by decide) _ _ _ rfl (hrow'.alloc _) ⟨W.heap.size, 0, none⟩ 1 1 [.int .i64 xh, .int .i64 xv] rfl rfl (news2 (box2 W _ _ _ _ rfl).1 (box2 W _ _ _ _ rfl).2) (by simp [Value.oneCell']) (by unfold maxLen; omega) (by omega) (by simp; omega) ?_; intro v' w1 hown' hgrow _; obtain ⟨A2, c2, hv2⟩ := own_len hown'; subst hv2; obtain ⟨c1, f1⟩ := cell_of1 (HK.out w1 hgrow); have HO := Lib.hid hown'; have HG := Lib.hid hgrow; clear hown' hgrow)
    all_goals
      have hG : (W.alloc (.cells #[.int .i64 xh, .int .i64 xv] 64)).grownBy w1 (Value.slice A n c).ownBlock := HG.out
      have hown : ∀ g, (Value.slice A n c).ownBlock = some g → hi ≤ g := fun g e => (hrow'.lt g e).1
      have hbl : Go.RowKit.Below w.heap.size W (w1.setCell ⟨w.heap.size, 0, none⟩ (.slice A2 (n + 1) c2)) := ((((Go.RowKit.Below.refl w.heap.size W).alloc (Nat.le_of_lt hwW) _).grown hG (by simp; omega) (fun k e => by have := hown k e; omega))).setCell (p := ⟨w.heap.size, 0, none⟩) (Nat.le_refl _) _
      refine ⟨(((KeepsOthers.alloc W _).trans (KeepsOthers.of_grownBy hG (row_cells (hrow'.alloc _)))).trans (KeepsOthers.setCell _ _ _)).from _, ⟨hbl, fun k h1 h2 => ?_⟩, ⟨⟨_, heap_set1 (HK.out w1 hG) _, ?_⟩, HB.out.trans hbl⟩⟩
      · rw [Go.RowKit.Below.heap_setCell _ _ _ _ (show k ≠ w.heap.size by omega)]
        exact (hG.block k (by simp; omega) (fun e => by have := hown k e.symm; omega)).trans ((World.grownBy_alloc W _ none).block k (by omega) (by simp))
      · have ho : OH w1 hi (.slice A2 (n + 1) c2) (pre ++ [(xh, xv)]) := by
          unfold OH
          rw [hC_snoc, List.length_append, HNN.out]
          exact HO.out
        rw [Nat.max_eq_left (by omega)]
        exact ho.same fun g hg => Go.RowKit.Below.heap_setCell _ _ _ _ (show g ≠ w.heap.size by have := (ho.lt g hg).1; omega)
  case done =>
    rintro hi xs W rfl ⟨⟨v, hv1, hrow⟩, hbel⟩ hD
    obtain ⟨A, c, hvv⟩ := hrow.len
    subst hvv
    obtain ⟨cl, fl⟩ := cell_of1 hv1
    have HR := Lib.hid hrow; have HB := Lib.hid hbel; have HD := Lib.hid hD; have HV := Lib.hid hv1
    clear hrow hbel hD hv1
    gi_wp2
    refine ⟨by simp, .inl ⟨_, _, rfl, run_takeDeferred HD.out, ?_⟩⟩
    refine ⟨.slice A xs.length c, by simp [results, Try.results19, go_sem], ⟨_, rfl, ?_, HB.out.trans ⟨rfl, rfl, rfl, by simp, fun k hk => World.putObj_heap_other (by omega)⟩⟩⟩
    refine (HR.out.base (Nat.le_max_right _ _)).same fun g hg => World.putObj_heap_other ?_
    intro e
    subst e
    rcases HR.out.2 with ⟨hn, _⟩ | ⟨g', cap, cur, hv', _, hc', _⟩
    · rw [hn] at hg; cases hg
    · rw [hv'] at hg
      have := HD.out
      simp only [Value.ownBlock, Option.some.injEq] at hg
      rw [← hg, hc'] at this
      cases this
  case stop => exact fun hi c pre W _ h _ => h.elim
/-- walked: the queue's values in order. -/
theorem walked_any (q : Option Addr) (nx : Int) (L : List HItem) (w : World) (hL : L.length ≤ 5000) (hS : ∀ W, Go.RowKit.Below w.heap.size w W → SaveC (.pointer q) nx L W) :
    Calls Try.prog 19 #[.pointer q] w fun e w' => ∃ v, e = .returned v ∧ OH w' w.heap.size v L ∧ Go.RowKit.Below w.heap.size w w' := callsIn_wide.1 (walked_in q nx L w hL hS)
end Go.Proofs.Ytcppgefnocjdiaa
