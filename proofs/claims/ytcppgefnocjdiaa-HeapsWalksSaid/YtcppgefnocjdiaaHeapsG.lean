/- Push and Pop of a queue's tree. -/
import Derived.Test.YtcppgefnocjdiaaHeapsE
import Derived.BigRegion
import Derived.Deep.RegionLaw
import Derived.Deep.AppendLies
import Derived.Maps.AppendAt
import Derived.OwnWalk
namespace Go.Proofs.Ytcppgefnocjdiaa
open Go.RowKit Go.Lib Go.Sort Go.Shelf
set_option linter.unusedVariables false

theorem info_item : (Try.prog.info? 64).map (fun i => (i.zero, i.size, i.bytes)) = some (some (.agg #[.int .i64 0, .int .i64 0]), 2, 16) := by kernel_rfl
theorem news2 {w : World} {b : Nat} {x y : Value} (h0 : w.cell? ⟨b, 0, none⟩ = some x) (h1 : w.cell? ⟨b, 1, none⟩ = some y) : ∀ j u, ([x, y] : List Value)[j]? = some u → w.cell? ((⟨b, 0, none⟩ : Addr).add j) = some u := fun j u hj => by
  have hadd : (⟨b, 0, none⟩ : Addr).add j = ⟨b, j, none⟩ := by unfold Addr.add; split <;> simp_all
  rw [hadd]
  match j, hj with
  | 0, hj => simp at hj; subst hj; exact h0
  | 1, hj => simp at hj; subst hj; exact h1
  | j + 2, hj => simp at hj
/-- The queue behind a push. -/
theorem QM.pushed {W W1 W2 W3 : World} {B qb mb g c : Nat} {F v : Value} {nx : Int} {xs : List HItem} {x : HItem} (h : QM W B qb mb F v nx xs) (h1 : Go.RowKit.Below W.heap.size W W1) {f : Int → Option Int} (hp : Plc xs f) (hn : ∀ y ∈ xs, y.1 ≠ x.1) (hl : xs.length < 100000)
    (hm : PM W2 mb (upd f x.1 (some (xs.length : Nat))) ∧ W1.grownBy W2 (some mb))
    (hr : OH W3 B (.slice (some ⟨g, 0, none⟩) (xs ++ [x]).length c) (xs ++ [x])) (hg : W2.grownBy W3 v.ownBlock) (hb : v.ownBlock = some g ∨ W.heap.size ≤ g) (hlt : g < W3.heap.size) :
    QM (W3.setCell ⟨qb, 3, none⟩ (.slice (some ⟨g, 0, none⟩) (xs ++ [x]).length c)) B qb mb F (.slice (some ⟨g, 0, none⟩) (xs ++ [x]).length c) nx (xs ++ [x]) ∧
      Onl qb mb W v (W3.setCell ⟨qb, 3, none⟩ (.slice (some ⟨g, 0, none⟩) (xs ++ [x]).length c)) (.slice (some ⟨g, 0, none⟩) (xs ++ [x]).length c) := by
  have hq := h.lt
  have s1 := h1.size
  have s2 := hm.2.size
  have s3 := hg.size
  have nq : g ≠ qb := fun e => by
    rcases hb with hb | hb
    · exact h.n2 (by rw [hb, e])
    · omega
  have nm : g ≠ mb := fun e => by
    rcases hb with hb | hb
    · exact h.n3 (by rw [hb, e])
    · omega
  have bq : W3.heap[qb]? = W.heap[qb]? := ((hg.block qb (by omega) (Ne.symm h.n2)).trans (hm.2.block qb (by omega) (by simp [h.n1]))).trans (h1.block qb hq.1)
  have hc : ∀ j, W3.cell? ⟨qb, j, none⟩ = W.cell? ⟨qb, j, none⟩ := fun j => World.cell?_of_block (a := ⟨qb, j, none⟩) bq
  have hf : ∀ j, W3.frozen? ⟨qb, j, none⟩ = W.frozen? ⟨qb, j, none⟩ := fun j => World.frozen?_of_block (a := ⟨qb, j, none⟩) bq
  have ne : ∀ j, j ≠ 3 → (⟨qb, 3, none⟩ : Addr) ≠ ⟨qb, j, none⟩ := fun j hj e => by simp only [Addr.mk.injEq] at e; exact hj e.2.1.symm
  have other : ∀ j, j ≠ 3 → ∀ u, (W3.setCell ⟨qb, 3, none⟩ u).cell? ⟨qb, j, none⟩ = W.cell? ⟨qb, j, none⟩ := fun j hj u => by rw [World.cell?_setCell_other _ _ _ _ (ne j hj)]; exact hc j
  refine ⟨⟨(other 0 (by decide) _).trans h.c0, (other 1 (by decide) _).trans h.c1, (other 2 (by decide) _).trans h.c2, ?_, (other 4 (by decide) _).trans h.c4, fun j => ?_, hr.same fun k hk => ?_, ⟨_, hm.1.same ?_, hp.push hn⟩, h.lo, h.n1, ?_, ?_, by simp; omega⟩, ?_⟩
  · exact World.cell?_setCell_same _ _ _ ((hc 3).trans h.c3)
  · rw [World.frozen?_setCell]; exact (hf j).trans (h.fz j)
  · have : g = k := by simpa [Value.ownBlock] using hk
    subst this
    exact Go.RowKit.Below.heap_setCell _ _ _ _ nq
  · rw [Go.RowKit.Below.heap_setCell _ _ _ _ (Ne.symm h.n1)]
    exact hg.block mb (by omega) (Ne.symm h.n3)
  · simp [Value.ownBlock, nq]
  · simp [Value.ownBlock, nm]
  · refine ⟨hg.os.trans (hm.2.os.trans h1.os), hg.tape.trans (hm.2.tape.trans h1.tape), hg.output.trans (hm.2.output.trans h1.output), by simp; omega, fun k hk k1 k2 k3 => ?_, fun k hk => ?_⟩
    · rw [Go.RowKit.Below.heap_setCell _ _ _ _ k1]
      exact ((hg.block k (by omega) (Ne.symm k3)).trans (hm.2.block k (by omega) (by simp [k2]))).trans (h1.block k hk)
    · have : g = k := by simpa [Value.ownBlock] using hk
      subst this
      exact hb
set_option maxRecDepth 100000 in
set_option maxHeartbeats 4000000 in
theorem tpush_any (B qb mb : Nat) (F v : Value) (nx : Int) (xs : List HItem) (x : HItem) (W : World) (h : QM W B qb mb F v nx xs) (hn : ∀ y ∈ xs, y.1 ≠ x.1) (hl : xs.length < 100000) :
    Calls Try.prog 38 #[.pointer (some ⟨qb, 2, none⟩), .iface 64 (.agg #[.int .i64 x.1, .int .i64 x.2])] W fun e w' => e = .returned (.tuple #[]) ∧ ∃ v', QM w' B qb mb F v' nx (xs ++ [x]) ∧ Onl qb mb W v w' v' := by
  have mixed : Try.prog.follows .mixedOrders = true := by kernel_rfl
  obtain ⟨i0, hi, hz0, hz1, hz2⟩ := info_parts info_item
  have HQ := Lib.hid h
  have HN := Lib.hid hn
  obtain ⟨A, c, hv⟩ := h.row.len
  obtain ⟨n, hxn⟩ : ∃ n, xs.length = n := ⟨_, rfl⟩
  have HX := Lib.hid hxn
  obtain ⟨xh, xv⟩ := x
  have hq := h.lt
  have c3 := h.c3
  have c4 := h.c4
  have f3 := h.fz 3
  rw [hv, hxn] at c3
  clear h hn
  have hta : ∀ (u : Value) (w : World), (Instr.typeAssert (.iface 64 u) 20 64 false).run Try.prog w = .ok u w := fun _ _ => by kernel_rfl
  go_enter Try.func38, Try.ntmps38
  go_wp2_with fail
  have hB1 : Go.RowKit.Below W.heap.size W (W.alloc (.cells #[.int .i64 xh, .int .i64 xv] 64)) := (Go.RowKit.Below.refl _ W).alloc (Nat.le_refl _) _
  obtain ⟨p0, p1⟩ := box2 W (.int .i64 xh) (.int .i64 xv) 64 W.heap.size rfl
  have hs1 : (W.alloc (.cells #[.int .i64 xh, .int .i64 xv] 64)).heap.size = W.heap.size + 1 := by simp
  generalize W.alloc (.cells #[.int .i64 xh, .int .i64 xv] 64) = W1 at hB1 p0 p1 hs1 ⊢
  obtain ⟨p, hp⟩ : ∃ p, W.heap.size = p := ⟨_, rfl⟩
  rw [hp] at p0 p1 hs1 ⊢
  have HP := Lib.hid hp
  have w3 : W1.cell? ⟨qb, 3, none⟩ = some (.slice A n c) := (World.cell?_of_block (a := ⟨qb, 3, none⟩) (hB1.block qb hq.1)).trans c3
  have w4 : W1.cell? ⟨qb, 4, none⟩ = some (.map (some mb)) := (World.cell?_of_block (a := ⟨qb, 4, none⟩) (hB1.block qb hq.1)).trans c4
  have g3 : W1.frozen? ⟨qb, 3, none⟩ = false := (World.frozen?_of_block (a := ⟨qb, 3, none⟩) (hB1.block qb hq.1)).trans f3
  obtain ⟨f, hm, hpl⟩ := HQ.out.map
  have HPL := Lib.hid hpl
  have hm1 : PM W1.drew mb f := hm.same (hB1.block mb hq.2)
  obtain ⟨W2, r1, hm2, hg2⟩ := hm1.store xh n
  have HM2 : Hid (PM W2 mb (upd f xh (some (n : Int))) ∧ W1.grownBy W2 (some mb)) := Lib.hid ⟨hm2, (show W1.grownBy W1.drew (some mb) from ⟨rfl, rfl, rfl, Nat.le_refl _, fun _ _ _ => rfl⟩).trans hg2⟩
  have HB1 := Lib.hid hB1
  have hne : qb ≠ mb := HQ.out.n1
  clear hm hpl hm1 hm2 hg2 hB1 c3 c4 f3 hp
  go_big_region_o
  have hbq : W2.heap[qb]? = W1.heap[qb]? := HM2.out.2.block qb (by have := hq.1; rw [HP.out] at this; omega) (by simp [hne])
  have hbp : W2.heap[p]? = W1.heap[p]? := HM2.out.2.block p (by omega) (by have := hq.2; rw [HP.out] at this; simp; omega)
  have hs2 : W1.heap.size ≤ W2.heap.size := HM2.out.2.size
  have x3 : W2.cell? ⟨qb, 3, none⟩ = some (.slice A n c) := (World.cell?_of_block (a := ⟨qb, 3, none⟩) hbq).trans w3
  have y3 : W2.frozen? ⟨qb, 3, none⟩ = false := (World.frozen?_of_block (a := ⟨qb, 3, none⟩) hbq).trans g3
  have x0 : W2.cell? ⟨p, 0, none⟩ = some (.int .i64 xh) := (World.cell?_of_block (a := ⟨p, 0, none⟩) hbp).trans p0
  have x1 : W2.cell? ⟨p, 1, none⟩ = some (.int .i64 xv) := (World.cell?_of_block (a := ⟨p, 1, none⟩) hbp).trans p1
  have hrow : W2.ownsRow B 64 2 (.slice A n c) n (hC xs) := by
    have h0 := HQ.out.row
    rw [hv, HX.out] at h0
    have : OH W2 B (.slice A n c) xs := h0.same fun k hk => (HM2.out.2.block k (by have := (h0.lt k hk).2; rw [HP.out] at this; omega) (by have := HQ.out.n3; rw [hv, HX.out, hk] at this; exact this)).trans (HB1.out.block k (by have := (h0.lt k hk).2; exact this))
    unfold OH at this
    rw [HX.out] at this
    exact this
  have hBs : B ≤ W2.heap.size := by have := HQ.out.lo.1; have := hq.1; rw [HP.out] at this; omega
  have hl' : n < 100000 := by rw [← HX.out]; exact hl
  clear w3 w4 g3 p0 p1 r1 hbq hbp
  go_wp2_with fail
  have hqs : qb < W2.heap.size := by have := hq.1; rw [HP.out] at this; omega
  have hnb : (Value.slice A n c).ownBlock ≠ some qb := by have := HQ.out.n2; rw [hv, HX.out] at this; exact this
  have hgs : (W2.alloc (.cells #[.int .i64 xh, .int .i64 xv] 64)).heap.size = W2.heap.size + 1 := by simp
  go_region_law ((refine step_append_lies _ (by rfl) (.tmp 22) (.tmp 24) 22 (by rfl) B 64 i0 (.agg #[.int .i64 0, .int .i64 0]) 2 16 Try.underlying22 hi hz0 hz1 hz2 rfl (by decide) (.slice A n c) n (hC xs) (by rfl) ((hrow.alloc _).drew) ⟨W2.heap.size, 0, none⟩ 1 1 [.int .i64 xh, .int .i64 xv] (by rfl) (by rfl) (news2 (box2 W2 _ _ _ _ rfl).1 (box2 W2 _ _ _ _ rfl).2) (by simp [Value.oneCell']) (by decide) (by unfold maxLen; omega) (by omega) (by show B ≤ (W2.alloc _).heap.size; rw [hgs]; omega) (W2.heap.size + 1) (by show (W2.alloc _).heap.size = _; exact hgs) ?_; intro g cap w3 hown hgrow hg hlt; have z3 : w3.cell? ⟨qb, 3, none⟩ = some (.slice A n c) := (World.cell?_of_block (a := ⟨qb, 3, none⟩) (hgrow.block qb (by show qb < (W2.alloc _).heap.size; rw [hgs]; omega) (Ne.symm hnb))).trans (Lib.cell?_alloc_some _ x3); have u3 : w3.frozen? ⟨qb, 3, none⟩ = false := (World.frozen?_of_block (a := ⟨qb, 3, none⟩) (hgrow.block qb (by show qb < (W2.alloc _).heap.size; rw [hgs]; omega) (Ne.symm hnb))).trans (by show (W2.alloc _).frozen? _ = false; rw [World.frozen?_alloc_past _ _ _ hqs]; exact y3)))
  all_goals
    have E : (xs ++ [(xh, xv)]).length = n + 1 := by rw [List.length_append, HX.out]; rfl
    have hvo : v.ownBlock = (Value.slice A n c).ownBlock := by rw [hv, HX.out]
    have hpw : W.heap.size = p := HP.out
    have R := QM.pushed (x := (xh, xv)) (W3 := w3) (g := g) (c := cap) HQ.out HB1.out HPL.out HN.out hl (by rw [HX.out]; exact HM2.out) (by unfold OH; rw [hC_snoc, E]; exact hown)
      (by rw [hvo]; exact (World.grownBy_alloc W2 (.cells #[.int .i64 xh, .int .i64 xv] 64) _).trans ((show (W2.alloc (.cells #[.int .i64 xh, .int .i64 xv] 64)).grownBy (W2.alloc (.cells #[.int .i64 xh, .int .i64 xv] 64)).drew _ from ⟨rfl, rfl, rfl, Nat.le_refl _, fun _ _ _ => rfl⟩).trans hgrow))
      (by rw [hvo]; rcases hg with hg | hg
          · exact .inl hg
          · exact .inr (by omega)) hlt
    rw [E] at R
    go_end0
    exact ⟨rfl, _, R⟩
end Go.Proofs.Ytcppgefnocjdiaa
