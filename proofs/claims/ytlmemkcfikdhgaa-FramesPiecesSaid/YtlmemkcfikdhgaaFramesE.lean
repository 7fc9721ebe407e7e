/- Split returns the payloads, and what is left. -/
import Derived.Test.YtlmemkcfikdhgaaFramesD
namespace Go.Proofs.Ytlmemkcfikdhgaa
open Go.RowKit Go.Lib
set_option linter.unusedVariables false
attribute [local go_sem] Oper.semAt_some

def lastR {w : World} (v : Value) (pre : List (FrV w)) : Value := (pre.getLast?.map (·.r)).getD v
theorem lastR_snoc {w : World} (v : Value) (pre : List (FrV w)) (x : FrV w) : lastR v (pre ++ [x]) = x.r := by simp [lastR]
structure SpC (w : World) (v : Value) (pre : List (FrV w)) (W : World) : Prop where
  rest : W.heap[w.heap.size]? = some (.cells #[lastR v pre] 22 (0, 0))
  row : ∃ vr L, W.heap[w.heap.size + 1]? = some (.cells #[vr] 23 (0, 0)) ∧ OL W (w.heap.size + 6) vr L ∧ L.map (·.2) = pre.map (·.ps)
  st : W.heap[w.heap.size + 1 + 1]? = some (.cells #[.string ⟨#[]⟩, .bool false] 32 (0, 0))
  bel : Below w.heap.size w W
theorem SpC.keep {w : World} {v : Value} {pre : List (FrV w)} {W W' : World} {row : Option Nat} (h : SpC w v pre W) (hg : W.grownBy W' row) (hr : ∀ r, row = some r → w.heap.size + 3 ≤ r ∧ (r < w.heap.size + 6 ∨ ∃ o : Obj, W.heap[r]? = some o ∧ o.isCells = false)) : SpC w v pre W' := by
  obtain ⟨vr, L, h1, h2, h3⟩ := h.row
  have blk : ∀ (k : Nat) (o : Obj), W.heap[k]? = some o → k < w.heap.size + 3 → W'.heap[k]? = some o := fun k o hk hlt =>
    (hg.block k (Array.getElem?_eq_some_iff.1 hk).1 (fun e => by have := (hr _ e.symm).1; omega)).trans hk
  exact ⟨blk _ _ h.rest (by omega), ⟨vr, L, blk _ _ h1 (by omega), h2.kept hg (fun r e => (hr r e).2), h3⟩, blk _ _ h.st (by omega), h.bel.grown hg (by have := (Array.getElem?_eq_some_iff.1 h.st).1; omega) (fun k e => by have := (hr _ e).1; omega)⟩
/-- The state behind bytes. -/
def endV (bs : List Nat) : Value := if brkL (leftL bs) then .agg #[.string ⟨#[]⟩, .bool true] else .agg #[.string (strB (leftL bs)), .bool false]
def SplitR (w : World) (bs : List Nat) (e : Ending) (w' : World) : Prop :=
  ∃ v L, e = .returned (.tuple #[v, endV bs]) ∧ OL w' w.heap.size v L ∧ L.map (·.2) = paysL bs ∧ Below w.heap.size w w'
theorem last_done {w : World} {v : Value} {bs : List Nat} {xs : List (FrV w)} (hv : RN w v bs) (hb : BB bs) (h : xs.map prF = frY bs) : RN w (lastR v xs) (leftL bs) ∧ BB (leftL bs) ∧ xs.map (·.ps) = paysL bs := by
  refine ⟨?_, ?_, ?_⟩
  · unfold lastR leftL
    rw [← h, List.getLast?_map]
    cases hx : xs.getLast? with
    | none => exact hv
    | some x => exact x.hr
  · unfold leftL
    rw [← h, List.getLast?_map]
    cases hx : xs.getLast? with
    | none => exact hb
    | some x => exact x.hb
  · unfold paysL
    rw [← h, List.map_map]
    rfl
theorem row_mono {w : World} {B B' : Nat} {e : TypeId} {z n : Nat} {v : Value} {xs : List Value} (h : w.ownsRow B e z v n xs) (hb : B' ≤ B) : w.ownsRow B' e z v n xs := by
  rcases h with ⟨h1, h2 | ⟨g, cap, cur, h3, h4, h5⟩⟩
  · exact ⟨h1, .inl h2⟩
  · exact ⟨h1, .inr ⟨g, cap, cur, h3, Nat.le_trans hb h4, h5⟩⟩
theorem OL.mono {w : World} {B B' : Nat} {v : Value} {L : List VB} (h : OL w B v L) (hb : B' ≤ B) : OL w B' v L := ⟨row_mono h.1 hb, fun x hx => row_mono (h.2 x hx) hb⟩

theorem row_len {W : World} {B : Nat} {e : TypeId} {z : Nat} {v : Value} {n : Nat} {xs : List Value} (h : W.ownsRow B e z v n xs) : ∃ a c, v = .slice a n c := by
  rcases h with ⟨_, ⟨rfl, rfl⟩ | ⟨g, cap, cur, rfl, _⟩⟩
  · exact ⟨_, _, rfl⟩
  · exact ⟨_, _, rfl⟩
/-- A block below the row's stays where the row grows. -/
theorem stay2 {W w1 w2 : World} {B k : Nat} {v : Value} {L : List VB} {u : Value} {o : Obj} {T : TypeId} (hrow : Hid (OL W B v L)) (hb : Hid (Below W.drew.heap.size W.drew w1)) (hg : Hid ((w1.alloc (.cells #[u] T)).grownBy w2 v.ownBlock)) (hk : k < B) (h : Hid (W.heap[k]? = some o)) : w2.heap[k]? = some o := by
  have h0 := h.out
  have hlt : k < W.heap.size := (Array.getElem?_eq_some_iff.1 h0).1
  have h1 : w1.heap[k]? = some o := (hb.out.block k hlt).trans h0
  have hlt1 := (Array.getElem?_eq_some_iff.1 h1).1
  have h2 : (w1.alloc (.cells #[u] T)).heap[k]? = some o := (Below.heap_alloc _ _ _ hlt1).trans h1
  exact (hg.out.block k (Array.getElem?_eq_some_iff.1 h2).1 (fun e => by have := (hrow.out.1.lt k e.symm).1; omega)).trans h2
theorem upon_res {F : Fence} {n : Nat} {P : Program} {o : Oper} {a : Act} {next : Act → World → Prop} {Q : Exit → Act → World → Prop} {RES : Result Next} {X : Result Value} {v : Value} {w' : World} (h : RES = X.andThen fun v w => .ok (.value v) w) (hr : X = .ok v w') (hk : next (a.put o.dst v) w') : Oper.uponIn F n P o a next Q RES := by
  subst h; rw [hr]; exact hk
theorem cell_of2 {W : World} {B : Nat} {x y : Value} {t : TypeId} (h : W.heap[B]? = some (.cells #[x, y] t (0, 0))) :
    W.cell? ⟨B, 0, none⟩ = some x ∧ W.cell? ⟨B, 1, none⟩ = some y ∧ W.frozen? ⟨B, 0, none⟩ = false ∧ W.frozen? ⟨B, 1, none⟩ = false := by
  refine ⟨?_, ?_, ?_, ?_⟩
  · rw [cell_of_row W B 0 _ _ _ h]; rfl
  · rw [cell_of_row W B 1 _ _ _ h]; rfl
  · simp [World.frozen?, h]
  · simp [World.frozen?, h]
/-- One round: a payload more. -/
theorem sp_step {w W w1 w2 : World} {v vr u v' : Value} {pre : List (FrV w)} {x : FrV w} {L : List VB} {T : TypeId} (hc : SpC w v pre W) (hrow1 : W.heap[w.heap.size + 1]? = some (.cells #[vr] 23 (0, 0))) (hrow : OL W (w.heap.size + 6) vr L) (hLp : L.map (·.2) = pre.map (·.ps))
    (hU : ON w1 W.heap.size u x.ps) (hBU : Below W.heap.size W w1) (hgr : (w1.alloc (.cells #[u] T)).grownBy w2 vr.ownBlock) (how : w2.ownsRow (w.heap.size + 6) 22 1 v' (L.length + 1) (L.map (·.1) ++ [u])) (hlo : w.heap.size + 6 ≤ W.heap.size) :
    KeepsOthers W ((w2.setCell ⟨w.heap.size + 1, 0, none⟩ v').setCell ⟨w.heap.size, 0, none⟩ x.r) ∧ KpB w.heap.size (w.heap.size + 1 + 1 + 1) W ((w2.setCell ⟨w.heap.size + 1, 0, none⟩ v').setCell ⟨w.heap.size, 0, none⟩ x.r) ∧ SpC w v (pre ++ [x]) ((w2.setCell ⟨w.heap.size + 1, 0, none⟩ v').setCell ⟨w.heap.size, 0, none⟩ x.r) := by
  have hb1 : Below W.heap.size W (w1.alloc (.cells #[u] T)) := hBU.alloc hBU.size _
  have hrowA : OL (w1.alloc (.cells #[u] T)) (w.heap.size + 6) vr L := hrow.later hb1
  have hUA : ON (w1.alloc (.cells #[u] T)) (w.heap.size + 6) u x.ps := row_mono (hU.later (bl_alloc _ (Below.refl _ _))) hlo
  have hne : ∀ k, vr.ownBlock = some k → w.heap.size + 6 ≤ k := fun k e => (hrowA.1.lt k e).1
  have hsz := hb1.size
  have stay : ∀ (k : Nat) (o : Obj), W.heap[k]? = some o → k < w.heap.size + 6 → w2.heap[k]? = some o := fun k o hk hlt => by
    have h1 := (hb1.block k (Array.getElem?_eq_some_iff.1 hk).1).trans hk
    exact (hgr.block k (Array.getElem?_eq_some_iff.1 h1).1 (fun e => by have := hne k e.symm; omega)).trans h1
  have hbN : Below w.heap.size W w2 := (hb1.mono (by omega)).grown hgr (by omega) (fun k e => by have := hne k e; omega)
  have hbN2 : Below w.heap.size W ((w2.setCell ⟨w.heap.size + 1, 0, none⟩ v').setCell ⟨w.heap.size, 0, none⟩ x.r) := (hbN.setCell (p := ⟨w.heap.size + 1, 0, none⟩) (by simp) _).setCell (p := ⟨w.heap.size, 0, none⟩) (Nat.le_refl _) _
  refine ⟨((((KeepsOthers.of_grownBy (grow_bel hb1) (fun j o e _ => by cases e)).trans (KeepsOthers.of_grownBy hgr (row_cells hrowA.1))).trans (KeepsOthers.setCell _ _ _)).trans (KeepsOthers.setCell _ _ _)), ⟨hbN2, ?_⟩, ?_, ⟨v', L ++ [(u, x.ps)], ?_, ?_, ?_⟩, ?_, hc.bel.trans hbN2⟩
  · rw [Below.heap_setCell _ _ _ _ (show w.heap.size + 1 + 1 + 1 ≠ w.heap.size by omega), Below.heap_setCell _ _ _ _ (show w.heap.size + 1 + 1 + 1 ≠ w.heap.size + 1 by omega), hgr.block _ (by omega) (fun e => by have := hne _ e.symm; omega), hb1.block _ (by omega)]
  · rw [lastR_snoc]
    exact heap_set1 (heap_set_other (stay _ _ hc.rest (by omega)) (by omega) _ _) _
  · exact heap_set_other (heap_set1 (stay _ _ hrow1 (by omega)) _) (by omega) _ _
  · exact ((hrowA.more hUA how hgr).set _ _ (by show w.heap.size + 1 < _; omega)).set _ _ (by show w.heap.size < _; omega)
  · rw [List.map_append, List.map_append, hLp]; rfl
  · exact heap_set_other (heap_set_other (stay _ _ hc.st (by omega)) (by omega) _ _) (by omega) _ _

theorem heap_set2 {W : World} {B : Nat} {x y : Value} {t : TypeId} {fr : Nat × Nat} (h : W.heap[B]? = some (.cells #[x, y] t fr)) (u v : Value) : ((W.setCell ⟨B, 0, none⟩ u).setCell ⟨B, 1, none⟩ v).heap[B]? = some (.cells #[u, v] t fr) := by
  simp [World.setCell, Array.getElem?_modify, h]
theorem grownBy_putObj' (W : World) (l : Nat) (o : Obj) : W.grownBy (W.putObj l o) (some l) :=
  ⟨rfl, rfl, rfl, by simp, fun k hk hne => World.putObj_heap_other (fun e => hne (by rw [e]))⟩
/-- What is returned. -/
theorem sp_done {w w4 w' : World} {vr s b x y : Value} {L : List VB} (hb : Below w.heap.size w w') (h1 : w'.heap[w.heap.size + 1]? = some (.cells #[vr] 23 (0, 0))) (h2 : w'.heap[w.heap.size + 1 + 1]? = some (.cells #[x, y] 32 (0, 0)))
    (hD : w'.heap[w4.heap.size]? = some (.deferred (some []))) (hL : OL w' (w.heap.size + 6) vr L) (hsz : w4.heap.size = w.heap.size + 4) :
    (((w'.setCell ⟨w.heap.size + 1, 0, none⟩ vr).setCell ⟨w.heap.size + 1 + 1, 0, none⟩ s).setCell ⟨w.heap.size + 1 + 1, 1, none⟩ b).heap[w.heap.size + 4]? = some (.deferred (some [])) ∧
    ((((w'.setCell ⟨w.heap.size + 1, 0, none⟩ vr).setCell ⟨w.heap.size + 1 + 1, 0, none⟩ s).setCell ⟨w.heap.size + 1 + 1, 1, none⟩ b).putObj (w.heap.size + 4) (.deferred none)).cell? ⟨w.heap.size + 1, 0, none⟩ = some vr ∧
    ((((w'.setCell ⟨w.heap.size + 1, 0, none⟩ vr).setCell ⟨w.heap.size + 1 + 1, 0, none⟩ s).setCell ⟨w.heap.size + 1 + 1, 1, none⟩ b).putObj (w.heap.size + 4) (.deferred none)).cell? ⟨w.heap.size + 1 + 1, 0, none⟩ = some s ∧
    ((((w'.setCell ⟨w.heap.size + 1, 0, none⟩ vr).setCell ⟨w.heap.size + 1 + 1, 0, none⟩ s).setCell ⟨w.heap.size + 1 + 1, 1, none⟩ b).putObj (w.heap.size + 4) (.deferred none)).cell? ⟨w.heap.size + 1 + 1, 1, none⟩ = some b ∧
    OL ((((w'.setCell ⟨w.heap.size + 1, 0, none⟩ vr).setCell ⟨w.heap.size + 1 + 1, 0, none⟩ s).setCell ⟨w.heap.size + 1 + 1, 1, none⟩ b).putObj (w.heap.size + 4) (.deferred none)) w.heap.size vr L ∧
    Below w.heap.size w ((((w'.setCell ⟨w.heap.size + 1, 0, none⟩ vr).setCell ⟨w.heap.size + 1 + 1, 0, none⟩ s).setCell ⟨w.heap.size + 1 + 1, 1, none⟩ b).putObj (w.heap.size + 4) (.deferred none)) := by
  rw [hsz] at hD
  have q1 := heap_set_other (heap_set_other (heap_set1 h1 vr) (show w.heap.size + 1 ≠ w.heap.size + 1 + 1 by omega) 0 s) (show w.heap.size + 1 ≠ w.heap.size + 1 + 1 by omega) 1 b
  have q2 := heap_set2 (heap_set_other h2 (show w.heap.size + 1 + 1 ≠ w.heap.size + 1 by omega) 0 vr) s b
  have q4 := heap_set_other (heap_set_other (heap_set_other hD (show w.heap.size + 4 ≠ w.heap.size + 1 by omega) 0 vr) (show w.heap.size + 4 ≠ w.heap.size + 1 + 1 by omega) 0 s) (show w.heap.size + 4 ≠ w.heap.size + 1 + 1 by omega) 1 b
  obtain ⟨z1, _⟩ := cell_of1 (put_other (o' := .deferred none) q1 (show w.heap.size + 1 ≠ w.heap.size + 4 by omega))
  obtain ⟨z2, z3, _⟩ := cell_of2 (put_other (o' := .deferred none) q2 (show w.heap.size + 1 + 1 ≠ w.heap.size + 4 by omega))
  have hL2 := ((hL.set ⟨w.heap.size + 1, 0, none⟩ vr (by show w.heap.size + 1 < _; omega)).set ⟨w.heap.size + 1 + 1, 0, none⟩ s (by show w.heap.size + 1 + 1 < _; omega)).set ⟨w.heap.size + 1 + 1, 1, none⟩ b (by show w.heap.size + 1 + 1 < _; omega)
  refine ⟨q4, z1, z2, z3, (hL2.kept (row := some (w.heap.size + 4)) (grownBy_putObj' _ _ _) (fun r e => by cases e; exact .inl (by omega))).mono (by omega), below_put _ (((hb.setCell (p := ⟨w.heap.size + 1, 0, none⟩) (by simp) _).setCell (p := ⟨w.heap.size + 1 + 1, 0, none⟩) (by simp; omega) _).setCell (p := ⟨w.heap.size + 1 + 1, 1, none⟩) (by simp; omega) _) (by omega)⟩

theorem drew_put {X : World} {l : Nat} {o : Obj} {p : Addr} {v : Value} (h : (X.putObj l o).cell? p = some v) : (X.drew.putObj l o).cell? p = some v := h
theorem OL.drew_put {X : World} {l B : Nat} {o : Obj} {v : Value} {L : List VB} (h : OL (X.putObj l o) B v L) : OL (X.drew.putObj l o) B v L := h
theorem bl_drew_put {X w : World} {l n : Nat} {o : Obj} (h : Below n w (X.putObj l o)) : Below n w (X.drew.putObj l o) := h.trans ⟨rfl, rfl, rfl, Nat.le_refl _, fun _ _ => rfl⟩
set_option maxRecDepth 100000 in
set_option maxHeartbeats 4000000 in
theorem split_any (v : Value) (bs : List Nat) (w : World) (hv : RN w v bs) (hb : BB bs) (hl : bs.length ≤ 2000000) :
    CallsIn Fence.wide 5 Try.prog 14 #[v] w (SplitR w bs) := by
  obtain ⟨i0, hi, hz0, hz1, hz2⟩ := info_parts info_u8s
  have hfl := frY_len bs
  obtain ⟨A, c, rfl⟩ := hv.len
  have HV := Lib.hid hv; have HBB := Lib.hid hb
  clear hv hb
  refine callsIn_of_wp_marks Try.func14 rfl trivial ?_ rfl
  simp only [Try.ntmps14, List.size_toArray, List.length_cons, List.length_nil, Nat.reduceAdd, Nat.reduceSub, Array.replicate_succ, Array.replicate_zero, List.push_toArray, List.append_toArray, List.nil_append, List.cons_append]
  gi_wp2_with (refine ⟨trivial, ?_⟩; gi_at_call 20; refine (callsIn_wide.2 (framesOf_any _ _ _ _)).mono ?_; rintro e w' ⟨rfl, rfl⟩)
  obtain ⟨w4, hw4⟩ : ∃ w4, (((w.alloc (.cells #[.slice A bs.length c] 22)).alloc (.cells #[.slice none 0 0] 23)).alloc (.cells #[.string ⟨#[]⟩, .bool false] 32)).alloc (.cells #[.slice A bs.length c] 22) = w4 := ⟨_, rfl⟩
  have hsz : w4.heap.size = w.heap.size + 4 := by rw [← hw4]; simp
  have hb4 : Below w.heap.size w w4 := by rw [← hw4]; exact bl_alloc _ (bl_alloc _ (bl_alloc _ (bl_alloc _ (Below.refl _ _))))
  have hbx : w4.heap[w.heap.size + 1 + 1 + 1]? = some (.cells #[.slice A bs.length c] 22 (0, 0)) := by
    rw [← hw4]; have := heap_alloc_new (((w.alloc (.cells #[.slice A bs.length c] 22)).alloc (.cells #[.slice none 0 0] 23)).alloc (.cells #[.string ⟨#[]⟩, .bool false] 32)) (.cells #[.slice A bs.length c] 22); simpa using this
  have hcore : SpC w (.slice A bs.length c) [] w4 := by
    refine ⟨?_, ⟨.slice none 0 0, [], ?_, OL.nil _ _, rfl⟩, ?_, hb4⟩
    · rw [← hw4, Below.heap_alloc _ _ _ (by simp <;> omega), Below.heap_alloc _ _ _ (by simp <;> omega), Below.heap_alloc _ _ _ (by simp <;> omega)]; exact heap_alloc_new w _
    · rw [← hw4, Below.heap_alloc _ _ _ (by simp <;> omega), Below.heap_alloc _ _ _ (by simp <;> omega)]; have := heap_alloc_new (w.alloc (.cells #[.slice A bs.length c] 22)) (.cells #[.slice none 0 0] 23); simpa using this
    · rw [← hw4, Below.heap_alloc _ _ _ (by simp <;> omega)]; have := heap_alloc_new ((w.alloc (.cells #[.slice A bs.length c] 22)).alloc (.cells #[.slice none 0 0] 23)) (.cells #[.string ⟨#[]⟩, .bool false] 32); simpa using this
  rw [hw4]
  clear hw4
  refine wpIn_rangeFunc_at (w0 := w4) rfl (by omega) (gf := 27) (lb := #[.pointer (some ⟨w.heap.size + 1 + 1 + 1, 0, none⟩)]) rfl trivial (enters_of Try.func27 (by kernel_rfl) rfl)
    (frames_seq 4 (w.heap.size + 1 + 1 + 1) (.slice A bs.length c) bs w w4 (by omega) hb4 HV.out HBB.out hl hbx) (by omega) (by omega) (Below.refl _ _) (fun _ => rfl)
    (SpC w (.slice A bs.length c)) (fun c pre W => False) ?hI ?hIx ?hIb ?hIxb hcore
    (fun x a' W => a' = { tmps := #[.slice A bs.length c, .pointer (some ⟨w.heap.size, 0, none⟩), .pointer (some ⟨w.heap.size + 1, 0, none⟩), .pointer (some ⟨w.heap.size + 1 + 1, 0, none⟩), x.p, x.r, .slice A bs.length c, .func (.func 27) #[] #[.pointer (some ⟨w.heap.size + 1 + 1 + 1, 0, none⟩)], x.p, x.r, undef, undef, undef, undef, undef, undef, undef, undef, undef, undef, undef, undef, undef, undef], defers := [] }) ?hAx ?assign ?body ?done ?stop
  case hI => exact fun pre A C row h hgr hr => h.keep hgr (fun r e => by obtain ⟨h1, o, ho, hc⟩ := hr r e; exact ⟨by omega, .inr ⟨o, ho, hc⟩⟩)
  case hIx => exact fun c pre A C row h hgr hr => h
  case hIb => exact fun pre A C row h hgr hr => h.keep hgr (fun r e => by have := hr r e; exact ⟨by omega, .inl (by omega)⟩)
  case hIxb => exact fun c pre A C row h hgr hr => h
  case hAx => exact fun x a' u A C row h hgr hr => h
  case assign =>
    intro l pre x W K hle hi hK
    gi_wp2
    exact hK _ _ (KeepsFrom.refl _ _) (KpB.refl _ _ _) hi rfl
  case body =>
    rintro l pre ⟨xp, xr, xps, xrs, hxp, hxr, hxb, hxpb, hxl⟩ a' W hle hcore rfl hlen
    obtain ⟨A2, c2, rfl⟩ := hxr.len
    dsimp only
    obtain ⟨vr, L, hrow1, hrow, hLp⟩ := hcore.row
    obtain ⟨Ar, cr, rfl⟩ := hrow.len
    obtain ⟨cl, fl⟩ := cell_of1 hrow1
    obtain ⟨cb, fb⟩ := cell_of1 hcore.rest
    have hLlen : L.length = pre.length := by have := congrArg List.length hLp; simpa using this
    have HCL : Hid (∀ W1, Below W.heap.size W W1 → Calls Try.prog 21 #[xp] W1 (Mem W1 xps)) := Lib.hid (fun W1 h => clone_any _ _ _ (hxp.later (hcore.bel.trans (h.mono hcore.bel.size))) (by omega))
    have HC := Lib.hid hcore
    have HROW := Lib.hid hrow; have HROW1 := Lib.hid hrow1
    have hks := (Array.getElem?_eq_some_iff.1 hcore.st).1
    clear hcore hrow hrow1
    gi_wp2_with fail
    gi_region_with (first | (refine ⟨trivial, ?_⟩; gi_at_call 21; refine (CallsIn.inRound l (callsIn_wide.2 (HCL.out _ (bl_drewN 1 (Below.refl _ _))))).mono ?_; rintro e w1 ⟨u, rfl, hu, hbu⟩; obtain ⟨Au, cu, rfl⟩ := hu.len; have HU := Lib.hid hu; have HBU := Lib.hid hbu; have clw := (hbu.cell (p := ⟨w.heap.size + 1, 0, none⟩) (by simp; omega)).trans cl; have clx : (w1.alloc (.cells #[.slice Au xps.length cu] 22)).cell? ⟨w.heap.size + 1, 0, none⟩ = some (.slice Ar L.length cr) := Lib.cell?_alloc_some _ clw; clear hu hbu) | (obtain ⟨v', w2, hr, hown, hgrow, _⟩ := run_append_own (P := Try.prog) (w1.alloc (.cells #[.slice Au xps.length cu] 22)) (w.heap.size + 6) 23 23 22 i0 (.slice none 0 0) 1 24 Try.underlying23 hi hz0 hz1 hz2 rfl (by decide) _ L.length (L.map (·.1)) ((HROW.out.later (bl_drewN 1 (Below.refl _ _))).later (bl_alloc _ HBU.out)).1 ⟨w1.heap.size, 0, none⟩ 1 1 [.slice Au xps.length cu] rfl (cells_new _ _ [_]) (by simp [Value.oneCell']) (by unfold maxLen; omega) (by omega) (by have := HBU.out.size; simp at this ⊢; omega); refine upon_res ?hres hr ?_; (case hres => (clear hr hown hgrow; go_simp)); obtain ⟨Av, cv, rfl⟩ := row_len hown; have HOW := Lib.hid hown; have HGR := Lib.hid hgrow; have hbb2 := stay2 HROW HBU HGR (by omega) HROW1; obtain ⟨cl2, fl2⟩ := cell_of1 hbb2; have HB2 := Lib.hid hbb2; clear hr hown hgrow hbb2))
    all_goals
      have hS := sp_step (x := ⟨xp, .slice A2 xrs.length c2, xps, xrs, hxp, hxr, hxb, hxpb, hxl⟩) HC.out HROW1.out HROW.out hLp HU.out (bl_call (bl_drewN 1 (Below.refl _ W)) HBU.out) HGR.out HOW.out (by omega)
      have hb0 := stay2 HROW HBU HGR (by omega) (Lib.hid HC.out.rest)
      obtain ⟨cN, fN⟩ := cell_of1 (heap_set_other hb0 (show w.heap.size ≠ w.heap.size + 1 by omega) 0 (.slice Av (L.length + 1) cv))
      dsimp only at hS
      have HS := Lib.hid hS
      clear hS hb0 clw clx cl2 fl2
      rw [hLlen] at cN fN HS
      gi_wp2_with fail
      exact ⟨HS.out.1.from _, HS.out.2.1, HS.out.2.2⟩
  case done =>
    rintro xs W hS hcore hD
    obtain ⟨hrn, hbb, hps⟩ := last_done HV.out HBB.out hS
    obtain ⟨A3, c3, he⟩ := hrn.len
    obtain ⟨vr, L, hrow1, hrow, hLp⟩ := hcore.row
    obtain ⟨Ar, cr, rfl⟩ := hrow.len
    obtain ⟨cl, fl⟩ := cell_of1 hrow1
    obtain ⟨cb, fb⟩ := cell_of1 hcore.rest
    rw [he] at cb hrn
    have HRN := Lib.hid (hrn.later hcore.bel); have HRW := Lib.hid hrn
    have HLB := Lib.hid hbb
    have HLP := Lib.hid (hLp.trans hps)
    have HC := Lib.hid hcore; have HROW := Lib.hid hrow; have HROW1 := Lib.hid hrow1; have HD := Lib.hid hD
    have HE := Lib.hid he
    clear hcore hrow hrow1 hD hrn hbb hps hS hLp he
    have keep : ∀ (w' : World), Below W.heap.size W w' → ∀ (k : Nat) (o : Obj), W.heap[k]? = some o → w'.heap[k]? = some o := fun w' hb k o hk => (hb.block k (Array.getElem?_eq_some_iff.1 hk).1).trans hk
    have KEEP := Lib.hid keep; clear keep
    obtain ⟨lf, hlf⟩ : ∃ lf, leftL bs = lf := ⟨_, rfl⟩
    have HLF := Lib.hid hlf
    rw [hlf] at cb HRN HLB HRW HE
    clear hlf
    cases htb : brkL lf
    all_goals
      have HTB := Lib.hid htb; clear htb
      gi_wp2_with (refine ⟨trivial, ?_⟩; gi_at_call 22; refine (callsIn_wide.2 (broken_any _ lf _ HRN.out HLB.out)).mono ?_; rintro e w' ⟨rfl, hb⟩; rw [HTB.out]; obtain ⟨c2, f2⟩ := cell_of1 (KEEP.out w' hb _ _ HC.out.rest); rw [HE.out] at c2; obtain ⟨cl', fl'⟩ := cell_of1 (KEEP.out w' hb _ _ HROW1.out); have HB := Lib.hid hb; have hS2 := KEEP.out w' hb _ _ HC.out.st; obtain ⟨s0, s1, e0, e1⟩ := cell_of2 hS2; obtain ⟨s2, s3, e2, e3⟩ := cell_of2 (heap_set_other hS2 (show w.heap.size + 1 + 1 ≠ w.heap.size + 1 by omega) 0 (.slice Ar L.length cr)); have hbN := HC.out.bel.trans (hb.mono HC.out.bel.size); have kcv : (convert 22 9 (.slice A3 lf.length c3)).run Try.prog w'.drew = .ok (.string (strB lf)) w'.drew := conv_rn (HRW.out.later (hbN.trans (bl_drewN 1 (Below.refl _ w') |>.mono hbN.size))); have kcv2 : (convert 22 9 (.slice A3 lf.length c3)).run Try.prog (w'.setCell ⟨w.heap.size + 1, 0, none⟩ (.slice Ar L.length cr)).drew = .ok (.string (strB lf)) (w'.setCell ⟨w.heap.size + 1, 0, none⟩ (.slice Ar L.length cr)).drew := conv_rn (HRW.out.later ((hbN.setCell (p := ⟨w.heap.size + 1, 0, none⟩) (by simp) (.slice Ar L.length cr)).trans ⟨rfl, rfl, rfl, Nat.le_refl _, fun _ _ => rfl⟩)); have HBN := Lib.hid hbN; have HS2 := Lib.hid hS2; clear hb hS2 hbN)
    · have HN := Lib.hid (show endV bs = .agg #[.string (strB lf), .bool false] by unfold endV; rw [HLF.out, HTB.out]; rfl)
      gi_region
      all_goals gi_wp2_with fail
      all_goals
        obtain ⟨hD2, z1, z2, z3, hol, hbel⟩ := sp_done (s := .string (strB lf)) (b := .bool false) HBN.out (KEEP.out w' HB.out _ _ HROW1.out) HS2.out (KEEP.out w' HB.out _ _ HD.out) (HROW.out.later HB.out) hsz
        have z1 := drew_put z1; have z2 := drew_put z2; have z3 := drew_put z3; have hol := hol.drew_put; have hbel := bl_drew_put hbel
        refine ⟨by simp, .inl ⟨_, _, rfl, run_takeDeferred hD2, ?_⟩⟩
        refine ⟨.tuple #[.slice Ar L.length cr, .agg #[.string (strB lf), .bool false]], by simp [results, Try.f14, go_sem, z1, z2, z3], ?_⟩
        exact ⟨_, L, by rw [HN.out], hol, HLP.out, hbel⟩
    · have HN := Lib.hid (show endV bs = .agg #[.string ⟨#[]⟩, .bool true] by unfold endV; rw [HLF.out, HTB.out]; rfl)
      obtain ⟨hD2, z1, z2, z3, hol, hbel⟩ := sp_done (s := .string ⟨#[]⟩) (b := .bool true) HBN.out (KEEP.out w' HB.out _ _ HROW1.out) HS2.out (KEEP.out w' HB.out _ _ HD.out) (HROW.out.later HB.out) hsz
      refine ⟨by simp, .inl ⟨_, _, rfl, run_takeDeferred hD2, ?_⟩⟩
      refine ⟨.tuple #[.slice Ar L.length cr, .agg #[.string ⟨#[]⟩, .bool true]], by simp [results, Try.f14, go_sem, z1, z2, z3], ?_⟩
      exact ⟨_, L, by rw [HN.out], hol, HLP.out, hbel⟩
  case stop => exact fun c pre W _ h => h.elim
end Go.Proofs.Ytlmemkcfikdhgaa
