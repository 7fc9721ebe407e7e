/- Swap of a queue's tree. -/
import Derived.Test.YtcppgefnocjdiaaHeapsD
import Derived.BigRegion
namespace Go.Proofs.Ytcppgefnocjdiaa
open Go.RowKit Go.Lib Go.Sort Go.Shelf Go.MapKept
set_option linter.unusedVariables false
set_option linter.unusedSimpArgs false

/-- Two entries of a map are looked up, then stored. -/
theorem PM.two {W : World} {mb : Nat} {f : Int → Option Int} (m : PM W mb f) {h1 h2 : Int} (hne : h1 ≠ h2) (p1 p2 : Int) (i1 : (f h1).isSome) (i2 : (f h2).isSome) :
    ∃ (v1 v2 : Value) (s1 s2 : Nat) (WA WB WC : World),
      (∀ w : World, w.heap[mb]? = W.heap[mb]? → (Instr.mapEntry tM (.map (some mb)) (.int .i64 h1)).run Try.prog w = .ok (.tuple #[v1, .int .i64 s1]) w) ∧
      (∀ w : World, w.heap[mb]? = W.heap[mb]? → (Instr.mapEntry tM (.map (some mb)) (.int .i64 h2)).run Try.prog w = .ok (.tuple #[v2, .int .i64 s2]) w) ∧
      (Instr.entryStore tM (.map (some mb)) (.int .i64 s1) (.int .i64 p1)).run Try.prog W = .ok () WA ∧
      (Instr.entryStore tM (.map (some mb)) (.int .i64 s2) (.int .i64 p2)).run Try.prog WA = .ok () WC ∧
      (Instr.entryStore tM (.map (some mb)) (.int .i64 s2) (.int .i64 p2)).run Try.prog W = .ok () WB ∧
      (Instr.entryStore tM (.map (some mb)) (.int .i64 s1) (.int .i64 p1)).run Try.prog WB = .ok () WC ∧
      PM WC mb (upd (upd f h1 (some p1)) h2 (some p2)) ∧ W.grownBy WC (some mb) ∧
      (Instr.mapEntry tM (.map (some mb)) (.int .i64 h2)).run Try.prog WA = .ok (.tuple #[v2, .int .i64 s2]) WA ∧
      (Instr.mapEntry tM (.map (some mb)) (.int .i64 h1)).run Try.prog WB = .ok (.tuple #[v1, .int .i64 s1]) WB := by
  obtain ⟨es, clock, hb, m⟩ := m
  rcases m.find h1 with ⟨_, e1, _⟩ | ⟨j1, q1, e1, a1, b1, c1, d1, _⟩
  · rw [e1] at i1; cases i1
  rcases m.find h2 with ⟨_, e2, _⟩ | ⟨j2, q2, e2, a2, b2, c2, d2, _⟩
  · rw [e2] at i2; cases i2
  have hj : j1 ≠ j2 := fun e => by
    subst e
    rw [b1] at b2; cases b2
    rw [c1] at c2; injection c2 with _ c2; exact hne c2
  have ent : ∀ {es' : Array MapEntry} {g : Int → Option Int} {j : Nat} {e : MapEntry} {h q : Int} (w : World), MK es' clock g → es'[j]? = some e → e.key = .int .i64 h → e.val = .int .i64 q → w.heap[mb]? = some (.map es' clock) → (Instr.mapEntry tM (.map (some mb)) (.int .i64 h)).run Try.prog w = .ok (.tuple #[.int .i64 q, .int .i64 e.born]) w := fun {es' g j e h q} w mk b c cv hb' => by
    rcases mk.find h with ⟨_, _, no⟩ | ⟨j', q', e', a, b', c', cv', _⟩
    · exact absurd c (no e (List.mem_of_getElem? (by simpa using b)))
    have a1 : (es'.toList.map (·.key))[j]? = some (.int .i64 h) := by rw [List.getElem?_map]; simp [b, c]
    have a2 : (es'.toList.map (·.key))[j']? = some (.int .i64 h) := by rw [List.getElem?_map]; simp [b', c']
    have hjj : j = j' := (List.getElem?_inj (List.getElem?_eq_some_iff.1 a1).1 mk.st.2.2).1 (a1.trans a2.symm)
    subst hjj
    rw [b] at b'; cases b'
    have cv2 : q = q' := by
      have := cv.symm.trans cv'
      simpa using this
    subst cv2
    have hs : es'.modify j (fun e => { e with key := .int .i64 h }) = es' := by
      apply Array.ext_getElem?
      intro i
      rw [Array.getElem?_modify]
      split
      · rename_i e1; subst e1; rw [b]; simp [← c]
      · rfl
    have hk : ({ w with heap := w.heap.setIfInBounds mb (.map es' clock) } : World) = w := by
      have : w.heap.setIfInBounds mb (.map es' clock) = w.heap := by
        apply Array.ext_getElem?
        intro i
        by_cases hi : i = mb
        · subst hi; rw [(heap_set hb').1, hb']
        · exact (heap_set hb').2 i hi
      rw [this]
    simp [Instr.mapEntry, run_underlying hmM, MapKept.run_getObj_map hb', run_checkKey (k := .int .i64 h) hdK rfl, run_findKey hdK a, b, c, run_keyThatStays (k := .int .i64 h) (d := .int .i64) rfl, MapKept.run_setObj_map _ hb', Result.andThen, hs, hk, goInt]
  have sto : ∀ {es' : Array MapEntry} {w : World} {j : Nat} {e : MapEntry} {p : Int}, w.heap[mb]? = some (.map es' clock) → Stamped es' clock → es'[j]? = some e → (Instr.entryStore tM (.map (some mb)) (.int .i64 e.born) (.int .i64 p)).run Try.prog w = .ok () { w with heap := w.heap.setIfInBounds mb (.map (es'.modify j fun e' => { e' with val := .int .i64 p }) clock) } := fun {es' w j e p} hw hs hj => by
    have hidx : es'.findIdx? (fun e' => ((e'.born : Nat) : Int) == ((e.born : Nat) : Int)) = some j := by
      rw [WideElems.findIdx_arr]
      exact WideElems.findIdx_born hs.2.1 (by simpa using hj)
    simp [Instr.entryStore, MapKept.run_getObj_map hw, asInt, asIntOf, hidx, MapKept.run_setObj_map _ hw, Result.andThen]
  have m1 := m.modify (p := p1) b1 c1
  have m2 := m.modify (p := p2) b2 c2
  have g1 : (es.modify j1 fun e' => { e' with val := .int .i64 p1 })[j2]? = some e2 := by rw [Array.getElem?_modify, if_neg hj, b2]
  have g2 : (es.modify j2 fun e' => { e' with val := .int .i64 p2 })[j1]? = some e1 := by rw [Array.getElem?_modify, if_neg (Ne.symm hj), b1]
  have comm : ((es.modify j2 fun e' => { e' with val := .int .i64 p2 }).modify j1 fun e' => { e' with val := .int .i64 p1 }) = ((es.modify j1 fun e' => { e' with val := .int .i64 p1 }).modify j2 fun e' => { e' with val := .int .i64 p2 }) := by
    apply Array.ext_getElem?
    intro i
    rw [Array.getElem?_modify, Array.getElem?_modify, Array.getElem?_modify, Array.getElem?_modify]
    by_cases x1 : j1 = i
    · have : ¬ j2 = i := fun e => hj (x1.trans e.symm)
      simp [x1, this]
    · simp [x1]
  have twice : ∀ (o o' : Obj), ({ W with heap := (W.heap.setIfInBounds mb o).setIfInBounds mb o' } : World) = { W with heap := W.heap.setIfInBounds mb o' } := fun o o' => by
    have : (W.heap.setIfInBounds mb o).setIfInBounds mb o' = W.heap.setIfInBounds mb o' := by
      apply Array.ext_getElem?
      intro i
      simp only [Array.getElem?_setIfInBounds, Array.size_setIfInBounds]
      split <;> rfl
    rw [this]
  have sC := sto (w := { W with heap := W.heap.setIfInBounds mb (.map (es.modify j1 fun e' => { e' with val := .int .i64 p1 }) clock) }) (p := p2) (heap_set hb).1 m1.st g1
  have sC' := sto (w := { W with heap := W.heap.setIfInBounds mb (.map (es.modify j2 fun e' => { e' with val := .int .i64 p2 }) clock) }) (p := p1) (heap_set hb).1 m2.st g2
  simp only at sC sC'
  rw [twice] at sC sC'
  rw [comm] at sC'
  exact ⟨_, _, _, _, _, _, _, fun w hw => ent w m b1 c1 d1 (hw.trans hb), fun w hw => ent w m b2 c2 d2 (hw.trans hb), sto hb m.st b1, sC, sto hb m.st b2, sC', (map_set hb (m1.modify g1 c2)).1, (map_set hb (m1.modify g1 c2)).2, ent _ m1 g1 c2 d2 (heap_set hb).1, ent _ m2 g2 c1 d1 (heap_set hb).1⟩
theorem hC_set (l : List HItem) (i : Nat) (s : HItem) : hC (l.set i s) = if i < l.length then ((hC l).set (i * 2) (.int .i64 s.1)).set (i * 2 + 1) (.int .i64 s.2) else hC l := by
  induction l generalizing i with
  | nil => simp [hC]
  | cons a r ih =>
    cases i with
    | zero => simp [hC, encH, List.flatMap_cons]
    | succ i =>
      have := ih i
      simp only [hC, List.set_cons_succ, List.flatMap_cons, List.length_cons] at this ⊢
      rw [this]
      by_cases hi : i < r.length
      · rw [if_pos hi, if_pos (by omega)]
        rw [List.set_append_right _ _ (by simp [encH]; omega), List.set_append_right _ _ (by simp [encH]; omega)]
        congr 2
        · simp [encH]; congr 1; omega
        · simp [encH]; omega
      · rw [if_neg hi, if_neg (by omega)]
/-- An item is written into the row. -/
theorem OH.put {W : World} {B g c : Nat} {l : List HItem} (h : OH W B (.slice (some ⟨g, 0, none⟩) l.length c) l) {i : Nat} (hi : i < l.length) (s : HItem) :
    OH ((W.setCell ⟨g, i * 2, none⟩ (.int .i64 s.1)).setCell ⟨g, i * 2 + 1, none⟩ (.int .i64 s.2)) B (.slice (some ⟨g, 0, none⟩) l.length c) (l.set i s) ∧
      W.grownBy ((W.setCell ⟨g, i * 2, none⟩ (.int .i64 s.1)).setCell ⟨g, i * 2 + 1, none⟩ (.int .i64 s.2)) (some g) := by
  have h' : W.ownsRow B 64 2 (.slice (some ⟨g, 0, none⟩) l.length c) l.length (hC l) := h
  obtain ⟨h1, k1⟩ := h'.stored (i * 2) (.int .i64 s.1)
  obtain ⟨h2, k2⟩ := h1.stored (i * 2 + 1) (.int .i64 s.2)
  refine ⟨?_, k1.trans k2⟩
  unfold OH
  rw [hC_set, if_pos hi, List.length_set]
  exact h2
theorem QM.swap {W W' : World} {B qb mb g c : Nat} {F : Value} {nx : Int} {xs : List HItem} {i j : Nat} (h : QM W B qb mb F (.slice (some ⟨g, 0, none⟩) xs.length c) nx xs) (hi : i < xs.length) (hj : j < xs.length) (hij : i ≠ j) {f : Int → Option Int} (hp : Plc xs f)
    (WR : World) (hr : OH WR B (.slice (some ⟨g, 0, none⟩) xs.length c) (swapL xs d0 i j) ∧ W.grownBy WR (some g)) (hm : PM W' mb (upd (upd f (xs.getD j d0).1 (some (i : Int))) (xs.getD i d0).1 (some (j : Int))) ∧ WR.grownBy W' (some mb)) :
    QM W' B qb mb F (.slice (some ⟨g, 0, none⟩) xs.length c) nx (swapL xs d0 i j) ∧ Onl qb mb W (.slice (some ⟨g, 0, none⟩) xs.length c) W' (.slice (some ⟨g, 0, none⟩) xs.length c) := by
  have hl := h.lt
  have n2 : g ≠ qb := fun e => h.n2 (by rw [← e]; rfl)
  have n3 : g ≠ mb := fun e => h.n3 (by rw [← e]; rfl)
  have hg : g < W.heap.size := (h.row.lt g rfl).2
  have hsz := hr.2.size
  have bq : W'.heap[qb]? = W.heap[qb]? := (hm.2.block qb (by omega) (by simp [h.n1])).trans (hr.2.block qb hl.1 (by simp [Ne.symm n2]))
  have hc : ∀ j, W'.cell? ⟨qb, j, none⟩ = W.cell? ⟨qb, j, none⟩ := fun j => World.cell?_of_block (a := ⟨qb, j, none⟩) bq
  have hf : ∀ j, W'.frozen? ⟨qb, j, none⟩ = W.frozen? ⟨qb, j, none⟩ := fun j => World.frozen?_of_block (a := ⟨qb, j, none⟩) bq
  have bg : W'.heap[g]? = WR.heap[g]? := hm.2.block g (by omega) (by simp [n3])
  refine ⟨⟨(hc 0).trans h.c0, (hc 1).trans h.c1, (hc 2).trans h.c2, (hc 3).trans h.c3, (hc 4).trans h.c4, fun j => (hf j).trans (h.fz j), hr.1.same fun k hk => ?_, ⟨_, hm.1, hp.swap hi hj hij⟩, h.lo, h.n1, h.n2, h.n3, by rw [swapL_len]; exact h.len⟩, ?_⟩
  · have : g = k := by simpa [Value.ownBlock] using hk
    subst this; exact bg
  · refine ⟨hm.2.os.trans hr.2.os, hm.2.tape.trans hr.2.tape, hm.2.output.trans hr.2.output, Nat.le_trans hsz hm.2.size, fun k hk h1 h2 h3 => ?_, fun _ h => .inl h⟩
    have h4 : g ≠ k := fun e => h3 (by rw [e]; rfl)
    exact (hm.2.block k (by omega) (by simp [h2])).trans (hr.2.block k hk (by simp [Ne.symm h4]))
theorem qb_cells {W : World} {qb g o : Nat} {v : Value} (hne : g ≠ qb) (h : W.cell? ⟨qb, o, none⟩ = some v) (p1 p2 p3 p4 : Nat) (v1 v2 v3 v4 : Value) :
    ((((W.setCell ⟨g, p1, none⟩ v1).setCell ⟨g, p2, none⟩ v2).setCell ⟨g, p3, none⟩ v3).setCell ⟨g, p4, none⟩ v4).cell? ⟨qb, o, none⟩ = some v := by
  have ne : ∀ p, (⟨qb, o, none⟩ : Addr) ≠ ⟨g, p, none⟩ := fun p e => by simp only [Addr.mk.injEq] at e; exact hne e.1.symm
  rw [World.cell?_setCell_other _ _ _ _ (Ne.symm (ne p4)), World.cell?_setCell_other _ _ _ _ (Ne.symm (ne p3)), World.cell?_setCell_other _ _ _ _ (Ne.symm (ne p2)), World.cell?_setCell_other _ _ _ _ (Ne.symm (ne p1))]
  exact h
theorem OH.swapped {W : World} {B g c : Nat} {xs : List HItem} (h : OH W B (.slice (some ⟨g, 0, none⟩) xs.length c) xs) {i j : Nat} {x y : HItem} (hi : i < xs.length) (hj : j < xs.length) (hx : xs.getD i d0 = x) (hy : xs.getD j d0 = y) :
    OH ((((W.setCell ⟨g, i * 2, none⟩ (.int .i64 y.1)).setCell ⟨g, i * 2 + 1, none⟩ (.int .i64 y.2)).setCell ⟨g, j * 2, none⟩ (.int .i64 x.1)).setCell ⟨g, j * 2 + 1, none⟩ (.int .i64 x.2)) B (.slice (some ⟨g, 0, none⟩) xs.length c) (swapL xs d0 i j) ∧
      W.grownBy ((((W.setCell ⟨g, i * 2, none⟩ (.int .i64 y.1)).setCell ⟨g, i * 2 + 1, none⟩ (.int .i64 y.2)).setCell ⟨g, j * 2, none⟩ (.int .i64 x.1)).setCell ⟨g, j * 2 + 1, none⟩ (.int .i64 x.2)) (some g) := by
  obtain ⟨h1, k1⟩ := h.put hi y
  have e : xs.length = (xs.set i y).length := by rw [List.length_set]
  rw [e] at h1
  obtain ⟨h2, k2⟩ := h1.put (i := j) (by rw [← e]; exact hj) x
  rw [← e] at h2
  refine ⟨?_, k1.trans k2⟩
  unfold swapL
  rw [hx, hy]
  exact h2
end Go.Proofs.Ytcppgefnocjdiaa
