/- Pop of a queue's tree. -/
import Derived.Test.YtcppgefnocjdiaaHeapsG
namespace Go.Proofs.Ytcppgefnocjdiaa
open Go.RowKit Go.Lib Go.Sort Go.Shelf
set_option linter.unusedVariables false

theorem OH.cut {W : World} {B g m n c : Nat} {ys : List HItem} {x : HItem} (h : OH W B (.slice (some ⟨g, 0, none⟩) m c) (ys ++ [x])) (hm : (ys ++ [x]).length = m) (hn : ys.length = n) : OH W B (.slice (some ⟨g, 0, none⟩) n c) ys := by
  subst hm
  subst hn
  have h' : W.ownsRow B 64 2 (.slice (some ⟨g, 0, none⟩) (ys ++ [x]).length c) (ys ++ [x]).length (hC (ys ++ [x])) := h
  refine ⟨hC_len _, ?_⟩
  rcases h'.2 with ⟨e, _⟩ | ⟨g', cap, cur, e, hg, hc, h1, h2, h3, h4⟩
  · cases e
  · simp only [Value.slice.injEq, Option.some.injEq, Addr.mk.injEq] at e
    obtain ⟨⟨rfl, _⟩, _, rfl⟩ := e
    refine .inr ⟨g, c, cur, rfl, hg, hc, by simp at h1; omega, h2, h3, ?_⟩
    have e2 : cur.toList.take (ys.length * 2) = (cur.toList.take ((ys ++ [x]).length * 2)).take (ys.length * 2) := by rw [List.take_take]; congr 1; simp <;> omega
    rw [e2, h4, hC_snoc, List.take_append_of_le_length (by rw [hC_len]; omega), List.take_of_length_le (by rw [hC_len]; omega)]
/-- delete, as one step of a region that draws. -/
theorem step_delete {P : Program} {ops : Array Oper} {o : Oper} {a : Act} (w : World) {K : Act → World → Prop} {Q : Exit → Act → World → Prop} {E : Prop}
    (hg : o.guard = none) (m x : Operand) (t k : TypeId) (hop : o.op = Op.call { callee := Callee.builtin Builtin.delete, args := #[m, x], argTypes := #[t, k] })
    (M X : Value) (hm : a.eval m = M) (hx : a.eval x = X) (v : Value) (w' : World) (hr : (Builtin.delete_ #[t, k] o.type #[M, X]).run P w = .ok v w') (hK : K (a.put o.dst v) w') :
    if Region.wanted o (yielded ops a.tmps) = true then Oper.wp P o a w K Q else E := by
  have hw : Region.wanted o (yielded ops a.tmps) = true := by simp [Region.wanted, hg]
  rw [if_pos hw]
  unfold Oper.wp
  simp only [execOp, hop, resolve, invoke, builtin, Sem.run_bind, Sem.run_pure, Result.andThen_ok, List.map_toArray, List.map_cons, List.map_nil, hm, hx, hr]
  exact hK
theorem _root_.Go.World.grownBy.block_alloc {W : World} {o : Obj} {row : Option Nat} (h : W.grownBy (W.alloc o) row) {k : Nat} (hk : k < W.heap.size) : (W.alloc o).heap[k]? = W.heap[k]? := (World.grownBy_alloc W o none).block k hk (by simp)
/-- The queue behind a pop. -/
theorem QM.popped {W W1 W2 W3 : World} {B qb mb g m n c : Nat} {F : Value} {nx : Int} {ys : List HItem} {x : HItem} (h : QM W B qb mb F (.slice (some ⟨g, 0, none⟩) m c) nx (ys ++ [x])) (hm : (ys ++ [x]).length = m) (hn : ys.length = n) (h1 : Go.RowKit.Below W.heap.size W W1)
    {f : Int → Option Int} (hp : Plc (ys ++ [x]) f) (hr : OH W2 B (.slice (some ⟨g, 0, none⟩) n c) ys) (hg : W1.grownBy W2 (some g)) (hM : PM W3 mb (upd f x.1 none) ∧ (W2.setCell ⟨qb, 3, none⟩ (.slice (some ⟨g, 0, none⟩) n c)).grownBy W3 (some mb)) :
    QM W3 B qb mb F (.slice (some ⟨g, 0, none⟩) n c) nx ys ∧ Onl qb mb W (.slice (some ⟨g, 0, none⟩) m c) W3 (.slice (some ⟨g, 0, none⟩) n c) := by
  have hq := h.lt
  have hgl : g < W.heap.size := (h.row.lt g rfl).2
  have s1 := h1.size
  have s2 := hg.size
  have s3 : W2.heap.size ≤ W3.heap.size := by have := hM.2.size; simpa using this
  have nq : g ≠ qb := fun e => h.n2 (by rw [← e]; rfl)
  have nm : g ≠ mb := fun e => h.n3 (by rw [← e]; rfl)
  have bq : W2.heap[qb]? = W.heap[qb]? := (hg.block qb (by omega) (by simp [Ne.symm nq])).trans (h1.block qb hq.1)
  have ne : ∀ j, j ≠ 3 → (⟨qb, 3, none⟩ : Addr) ≠ ⟨qb, j, none⟩ := fun j hj e => by simp only [Addr.mk.injEq] at e; exact hj e.2.1.symm
  have b3 : W3.heap[qb]? = (W2.setCell ⟨qb, 3, none⟩ (.slice (some ⟨g, 0, none⟩) n c)).heap[qb]? := hM.2.block qb (by simp; omega) (by simp [h.n1])
  have hc3 : ∀ j, W3.cell? ⟨qb, j, none⟩ = (W2.setCell ⟨qb, 3, none⟩ (.slice (some ⟨g, 0, none⟩) n c)).cell? ⟨qb, j, none⟩ := fun j => World.cell?_of_block (a := ⟨qb, j, none⟩) b3
  have hf3 : ∀ j, W3.frozen? ⟨qb, j, none⟩ = (W2.setCell ⟨qb, 3, none⟩ (.slice (some ⟨g, 0, none⟩) n c)).frozen? ⟨qb, j, none⟩ := fun j => World.frozen?_of_block (a := ⟨qb, j, none⟩) b3
  have hc : ∀ j, W2.cell? ⟨qb, j, none⟩ = W.cell? ⟨qb, j, none⟩ := fun j => World.cell?_of_block (a := ⟨qb, j, none⟩) bq
  have hf : ∀ j, W2.frozen? ⟨qb, j, none⟩ = W.frozen? ⟨qb, j, none⟩ := fun j => World.frozen?_of_block (a := ⟨qb, j, none⟩) bq
  have other : ∀ j, j ≠ 3 → W3.cell? ⟨qb, j, none⟩ = W.cell? ⟨qb, j, none⟩ := fun j hj => by rw [hc3, World.cell?_setCell_other _ _ _ _ (ne j hj)]; exact hc j
  have hgk : g < W2.heap.size := by omega
  refine ⟨⟨(other 0 (by decide)).trans h.c0, (other 1 (by decide)).trans h.c1, (other 2 (by decide)).trans h.c2, ?_, (other 4 (by decide)).trans h.c4, fun j => ?_, hr.same fun k hk => ?_, ⟨_, hM.1, hp.pop⟩, h.lo, h.n1, ?_, ?_, by have := h.len; simp at this; omega⟩, ?_⟩
  · rw [hc3]; exact World.cell?_setCell_same _ _ _ ((hc 3).trans h.c3)
  · rw [hf3, World.frozen?_setCell]; exact (hf j).trans (h.fz j)
  · have : g = k := by simpa [Value.ownBlock] using hk
    subst this
    exact (hM.2.block g (by simp; omega) (by simp [nm])).trans (Go.RowKit.Below.heap_setCell _ _ _ _ nq)
  · simp [Value.ownBlock, nq]
  · simp [Value.ownBlock, nm]
  · refine ⟨hM.2.os.trans (hg.os.trans h1.os), hM.2.tape.trans (hg.tape.trans h1.tape), hM.2.output.trans (hg.output.trans h1.output), by omega, fun k hk k1 k2 k3 => ?_, fun k hk => .inl ?_⟩
    · have k4 : g ≠ k := fun e => k3 (by rw [e]; rfl)
      refine (hM.2.block k (by simp; omega) (by simp [k2])).trans ?_
      rw [Go.RowKit.Below.heap_setCell _ _ _ _ k1]
      exact (hg.block k (by omega) (by simp [Ne.symm k4])).trans (h1.block k hk)
    · exact hk
set_option maxRecDepth 100000 in
set_option maxHeartbeats 4000000 in
theorem tpop_any (B qb mb : Nat) (F v : Value) (nx : Int) (ys : List HItem) (x : HItem) (W : World) (h : QM W B qb mb F v nx (ys ++ [x])) :
    Calls Try.prog 113 #[.pointer (some ⟨qb, 2, none⟩)] W fun e w' => e = .returned (.iface 64 (.agg #[.int .i64 x.1, .int .i64 x.2])) ∧ ∃ v', QM w' B qb mb F v' nx ys ∧ Onl qb mb W v w' v' := by
  have mixed : Try.prog.follows .mixedOrders = true := by kernel_rfl
  obtain ⟨g, c, hv, a1, a2, hz⟩ := h.row.item (i := ys.length) (s := x) (by simp)
  subst hv
  obtain ⟨n, hn⟩ : ∃ n, ys.length = n := ⟨_, rfl⟩
  obtain ⟨m, hm⟩ : ∃ m, (ys ++ [x]).length = m := ⟨_, rfl⟩
  have hmn : m = n + 1 := by rw [← hm, ← hn]; simp
  rw [hm] at h ⊢
  rw [hn] at a1 a2
  have hl : m ≤ 100000 := by rw [← hm]; exact h.len
  have HQ := Lib.hid h
  have HX : Hid (ys.length = n) := Lib.hid hn
  have HM : Hid ((ys ++ [x]).length = m) := Lib.hid hm
  have c3 := h.c3
  have c4 := h.c4
  have f3 := h.fz 3
  have z1 := hz (n * 2)
  have z2 := hz (n * 2 + 1)
  have i1 : IntKind.i64.wrap ((m : Int) - 1) = (n : Int) := by rw [IntWalk.i64_in _ (by omega)]; omega
  have hq := h.lt
  have hgl := (h.row.lt g rfl).2
  have nq : g ≠ qb := fun e => h.n2 (by rw [← e]; rfl)
  have hnm : (n : Int) < (m : Int) := by omega
  have hnc : n ≤ c := by
    rcases h.row.2 with ⟨e, _⟩ | ⟨g', cap, cur, e, hg, hc, h1, h2, h3, h4⟩
    · cases e
    · simp only [Value.slice.injEq] at e
      rw [e.2.2, hm] at *
      omega
  obtain ⟨xh, xv⟩ := x
  simp only at a1 a2
  clear h hz hn hm
  go_enter Try.func113, Try.ntmps113
  go_wp2_with fail
  obtain ⟨f, hm, hpl⟩ := HQ.out.map
  have HPL := Lib.hid hpl
  have hp1 := OH.put (W := W) (B := B) (g := g) (c := c) (l := ys ++ [(xh, xv)]) (i := n) (by rw [HM.out]; exact HQ.out.row) (by rw [HM.out]; omega) (0, 0)
  have es : (ys ++ [(xh, xv)]).set n (0, 0) = ys ++ [(0, 0)] := by rw [List.set_append_right _ _ (by rw [HX.out]; exact Nat.le_refl _), HX.out, Nat.sub_self]; rfl
  rw [es, HM.out] at hp1
  have HR : Hid (OH _ B (.slice (some ⟨g, 0, none⟩) n c) ys ∧ W.grownBy _ (some g)) := Lib.hid ⟨hp1.1.cut (by rw [List.length_append, HX.out, hmn]; rfl) HX.out, hp1.2⟩
  clear hp1 es
  have hsz : ((W.setCell ⟨g, n * 2, none⟩ (.int .i64 0)).setCell ⟨g, n * 2 + 1, none⟩ (.int .i64 0)).heap.size = W.heap.size := by simp
  have w4 : ((W.setCell ⟨g, n * 2, none⟩ (.int .i64 0)).setCell ⟨g, n * 2 + 1, none⟩ (.int .i64 0)).cell? ⟨qb, 4, none⟩ = some (.map (some mb)) := by
    rw [World.cell?_setCell_other _ _ _ _ (by intro e; simp only [Addr.mk.injEq] at e; exact nq e.1), World.cell?_setCell_other _ _ _ _ (by intro e; simp only [Addr.mk.injEq] at e; exact nq e.1)]; exact c4
  generalize (W.setCell ⟨g, n * 2, none⟩ (.int .i64 0)).setCell ⟨g, n * 2 + 1, none⟩ (.int .i64 0) = W2 at HR hsz w4 ⊢
  have u4 : (W2.setCell ⟨qb, 3, none⟩ (.slice (some ⟨g, 0, none⟩) n c)).cell? ⟨qb, 4, none⟩ = some (.map (some mb)) := by
    rw [World.cell?_setCell_other _ _ _ _ (by intro e; simp only [Addr.mk.injEq] at e; omega)]; exact w4
  have hmz : PM (W2.setCell ⟨qb, 3, none⟩ (.slice (some ⟨g, 0, none⟩) n c)) mb f := hm.same (by
    rw [Go.RowKit.Below.heap_setCell _ _ _ _ (Ne.symm HQ.out.n1)]
    exact HR.out.2.block mb hq.2 (by intro e; exact HQ.out.n3 e.symm))
  have HG := Lib.hid (World.grownBy_alloc (W2.setCell ⟨qb, 3, none⟩ (.slice (some ⟨g, 0, none⟩) n c)) (.cells #[.int .i64 xh, .int .i64 xv] 64) (some mb))
  obtain ⟨p0, p1⟩ := box2 (W2.setCell ⟨qb, 3, none⟩ (.slice (some ⟨g, 0, none⟩) n c)) (.int .i64 xh) (.int .i64 xv) 64 W.heap.size (by simp [hsz])
  have v4 : ((W2.setCell ⟨qb, 3, none⟩ (.slice (some ⟨g, 0, none⟩) n c)).alloc (.cells #[.int .i64 xh, .int .i64 xv] 64)).cell? ⟨qb, 4, none⟩ = some (.map (some mb)) := Lib.cell?_alloc_some _ u4
  have hmq : PM ((W2.setCell ⟨qb, 3, none⟩ (.slice (some ⟨g, 0, none⟩) n c)).alloc (.cells #[.int .i64 xh, .int .i64 xv] 64)).drew mb f := hmz.same (HG.out.block_alloc hmz.lt)
  have hps : W.heap.size < ((W2.setCell ⟨qb, 3, none⟩ (.slice (some ⟨g, 0, none⟩) n c)).alloc (.cells #[.int .i64 xh, .int .i64 xv] 64)).heap.size := by simp [hsz]
  generalize (W2.setCell ⟨qb, 3, none⟩ (.slice (some ⟨g, 0, none⟩) n c)).alloc (.cells #[.int .i64 xh, .int .i64 xv] 64) = wq at HG p0 p1 v4 hmq hps ⊢
  obtain ⟨W3, r1, hm3, hg3⟩ := hmq.drop xh 0
  have HF := Lib.hid (QM.popped (W3 := W3) HQ.out HM.out HX.out (Go.RowKit.Below.refl _ _) HPL.out HR.out.1 HR.out.2 ⟨hm3, HG.out.trans ((show wq.grownBy wq.drew (some mb) from ⟨rfl, rfl, rfl, Nat.le_refl _, fun _ _ _ => rfl⟩).trans hg3)⟩)
  have b3 : W3.heap[W.heap.size]? = wq.heap[W.heap.size]? := hg3.block _ hps (by have := hq.2; simp; omega)
  have e0 : W3.cell? ⟨W.heap.size, 0, none⟩ = some (.int .i64 xh) := (World.cell?_of_block (a := ⟨W.heap.size, 0, none⟩) b3).trans p0
  have e1 : W3.cell? ⟨W.heap.size, 1, none⟩ = some (.int .i64 xv) := (World.cell?_of_block (a := ⟨W.heap.size, 1, none⟩) b3).trans p1
  generalize W.heap.size = p at p0 p1 e0 e1 hps hsz ⊢
  clear hm hpl hmz hmq u4 w4 c3 c4 f3 z1 z2 a1 a2 hg3 hm3
  go_region_law ((refine step_delete _ (by rfl) (.tmp 41) (.tmp 43) 43 2 (by rfl) (.map (some mb)) (.int .i64 xh) (by rfl) (by rfl) _ _ r1 ?_))
  all_goals
    go_wp2_with fail
    refine bodyPost_ret (v := .iface 64 (.agg #[.int .i64 xh, .int .i64 xv])) (by simp [results, Try.results113, go_sem]) rfl ?_
    exact ⟨rfl, _, HF.out⟩
end Go.Proofs.Ytcppgefnocjdiaa
