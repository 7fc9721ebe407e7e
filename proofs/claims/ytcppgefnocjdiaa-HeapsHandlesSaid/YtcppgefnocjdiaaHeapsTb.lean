/- An item appended to a row. -/
import Derived.Test.YtcppgefnocjdiaaHeapsTa
import Derived.Great.BuildSlice
namespace Go.Proofs.Ytcppgefnocjdiaa
open Go.RowKit Go.Lib Go.Sort Go.Shelf
set_option linter.unusedVariables false

theorem add_plain' (b o n : Nat) : (⟨b, o, none⟩ : Addr).add n = ⟨b, o + n, none⟩ := by unfold Addr.add; split <;> simp_all
/-- One item is appended to a row of the call's own, whose block is the one that it was, or a new one. -/
theorem wpList_append_one (w : World) {ops : Array Oper} {rest : List Oper} {o : Oper} {a : Act} {Q : Exit → Act → World → Prop} (hgd : o.guard = none) (s x : Operand)
    (ho : o.op = .call { callee := .builtin .append, args := #[s, x], argTypes := #[22, 22] })
    (B g : Nat) (v : Value) (out : List HItem) (p q : Int) (T : TypeId) (W : World) (hs : a.eval s = v) (hown0 : OH w B v out) (hx : a.eval x = .slice (some ⟨g, 0, none⟩) 1 1) (hw : w = W.alloc (.cells #[.int .i64 p, .int .i64 q] T)) (hg : g = W.heap.size) (hbase : B ≤ w.heap.size) (hl : out.length ≤ 100000)
    (h : ∀ v' w', OH w' B v' (out ++ [(p, q)]) → w.grownBy w' v.ownBlock → (v'.ownBlock = v.ownBlock ∨ v'.ownBlock = some w.heap.size) → wpList Try.prog ops Q rest (a.put o.dst v') w') : wpList Try.prog ops Q (o :: rest) a w := by
  obtain ⟨i, hi, hz, hsize, hby⟩ := info_parts info_item
  have hown : w.ownsRow B 64 2 v out.length (hC out) := hown0
  have ht := Try.underlying22
  have hn1 : ∀ j u, [Value.int .i64 p, Value.int .i64 q][j]? = some u → w.cell? ((⟨g, 0, none⟩ : Addr).add j) = some u := fun j u hj => by
    rw [add_plain', hw, Nat.zero_add, (row_new _ _ _ _ _ hg).1]
    simpa using hj
  have h11 : ∀ u ∈ [Value.int .i64 p, Value.int .i64 q], u.oneCell' = true := by simp [Value.oneCell']
  obtain ⟨v', w', hr, h2, h3, _⟩ := run_append_own (P := Try.prog) w B 22 o.type 64 i (.agg #[.int .i64 0, .int .i64 0]) 2 16 ht hi hz hsize hby rfl (by decide) v out.length (hC out) hown ⟨g, 0, none⟩ 1 1 [.int .i64 p, .int .i64 q] rfl hn1 h11 (by unfold maxLen; omega) (by omega) hbase
  have hb : v'.ownBlock = v.ownBlock ∨ v'.ownBlock = some w.heap.size := by
    rcases hown.2 with ⟨rfl, h0⟩ | ⟨gb, cap, cur, rfl, hbg, hgb, hnc, hcm, hcs, htake⟩
    · have hr2 := run_append_nil (P := Try.prog) w 22 o.type 64 i _ ht hi hz ⟨g, 0, none⟩ 1 1 [.int .i64 p, .int .i64 q] (by rw [hsize]; rfl) hn1 (by decide) (by decide) (by rw [hby]; omega)
      rw [hr] at hr2
      simp only [Result.ok.injEq] at hr2
      exact .inr (by rw [hr2.1]; rfl)
    · by_cases hroom : out.length + 1 ≤ cap
      · have hr2 := run_append_room (P := Try.prog) w 22 o.type 64 i ht hi gb out.length cap cur hgb ⟨g, 0, none⟩ 1 1 [.int .i64 p, .int .i64 q] (by rw [hsize]; rfl) hn1 h11 hroom (by rw [hsize, hcs]; simp; omega)
        rw [hr] at hr2
        simp only [Result.ok.injEq] at hr2
        exact .inl (by rw [hr2.1]; rfl)
      · have holds : ∀ j u, (hC out)[j]? = some u → w.cell? ((⟨gb, 0, none⟩ : Addr).add j) = some u := hown.cells (g := gb) rfl
        have hr2 := run_append_grow (P := Try.prog) w 22 o.type 64 i _ ht hi hz ⟨gb, 0, none⟩ out.length cap (hC out) (by rw [hsize]; exact hown.1) holds ⟨g, 0, none⟩ 1 1 [.int .i64 p, .int .i64 q] (by rw [hsize]; rfl) hn1 (by omega) (by omega) (growslice_fits (by omega) (by rw [hby]; omega))
        rw [hr] at hr2
        simp only [Result.ok.injEq] at hr2
        exact .inr (by rw [hr2.1]; rfl)
  refine wpList_plain hgd fun K hK => ?_
  unfold Oper.wp execOp
  simp only [ho, resolve, invoke, builtin, Sem.run_bind, Sem.run_pure, Result.andThen_ok, List.map_toArray, List.map_cons, List.map_nil, hs, hx, hr]
  refine hK _ _ (h v' w' ?_ h3 hb)
  unfold OH
  rw [hC_snoc, List.length_append]
  exact h2

end Go.Proofs.Ytcppgefnocjdiaa
