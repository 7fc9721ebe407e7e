/- words.Split returns the fields of a line. -/
import Derived.Test.YtdcjnklagklckaaDoorWordsS
import Derived.Test.YtdcjnklagklckaaDoorWordsU
namespace Go.Proofs.YtdcjnklagklckaaDoor
open Go.RowKit Go.Shelf
set_option linter.unusedVariables false
attribute [local go_sem] Oper.semAt_some

/-- What Split returns: the fields, and the error's number. -/
def splitL (l : List UInt8) : List FD × Int :=
  if 8192 < l.length then ([], 3) else if (fieldsY l).any (fun x => !x.2.2) then ([], 6)
  else if tooB ((fieldsY l).map fun x => (x.1, x.2.1)) then ([], 3) else ((fieldsY l).map fun x => (x.1, x.2.1), 0)

def SplitPost (l : List UInt8) (w : World) (e : Ending) (w' : World) : Prop :=
  ∃ v, e = .returned (.tuple #[v, .int .i64 (splitL l).2]) ∧ FSl w' v (splitL l).1 ∧ Below w.heap.size w w'


def fcells (fs : List FD) : List Value := fs.flatMap fun f => [.string f.1, .bool f.2]
theorem fcells_snoc (fs : List FD) (f : FD) : fcells (fs ++ [f]) = fcells fs ++ [.string f.1, .bool f.2] := by simp [fcells]
theorem info_field : (Tryd.prog.info? 50).map (fun i => (i.zero, i.size, i.bytes)) = some (some (.agg #[.string ⟨#[]⟩, .bool false]), 2, 24) := by kernel_rfl

theorem fGo_len : ∀ (F : Nat) (l : List UInt8), (fGo F l).length ≤ F
  | 0, _ => by simp [fGo]
  | F + 1, l => by
    rw [fGo]; split
    · simp
    · split
      · simp
      · have := fGo_len F (l.drop ((oneF l).2.2 + 1)); simp only [List.length_cons]; omega
theorem fieldsY_len (l : List UInt8) : (fieldsY l).length ≤ l.length + 1 := by
  unfold fieldsY; split
  · simp
  · exact fGo_len _ _

/-- What Split's own blocks hold between two rounds: the fields that have come. -/
structure SCore (N : Nat) (w : World) (fs : List FD) (W : World) : Prop where
  row : ∃ v, W.heap[N + 1 + 1]? = some (.cells #[v] 32 (0, 0)) ∧ W.ownsRow (N + 7) 50 2 v fs.length (fcells fs)
  r2 : W.heap[N]? = some (.cells #[.slice none 0 0] 32 (0, 0))
  r3 : W.heap[N + 1]? = some (.cells #[.int .i64 0] 23 (0, 0))
  bel : Below N w W

theorem SCore.keep {N : Nat} {w : World} {fs : List FD} {W W' : World} {row : Option Nat} (h : SCore N w fs W) (hg : W.grownBy W' row) (hr : ∀ r, row = some r → N + 4 ≤ r ∧ (r = N + 6 ∨ ∃ o : Obj, W.heap[r]? = some o ∧ o.isCells = false)) : SCore N w fs W' := by
  obtain ⟨v, h1, h2⟩ := h.row
  have blk : ∀ (k : Nat) (o : Obj), W.heap[k]? = some o → k < N + 4 → W'.heap[k]? = some o := fun k o hk hlt =>
    (hg.block k (Array.getElem?_eq_some_iff.1 hk).1 (fun e => by have := (hr _ e.symm).1; omega)).trans hk
  refine ⟨⟨v, blk _ _ h1 (by omega), h2.kept hg ?_⟩, blk _ _ h.r2 (by omega), blk _ _ h.r3 (by omega), h.bel.grown hg (by have := (Array.getElem?_eq_some_iff.1 h.r3).1; omega) (fun k e => by have := (hr _ e).1; omega)⟩
  rcases hv : v.ownBlock with _ | g
  · exact .inl rfl
  · refine .inr fun e => ?_
    have h7 := (h2.lt g hv).1
    rcases (hr g e.symm).2 with h6 | ⟨o, ho, hc⟩
    · omega
    · rcases h2 with ⟨_, ⟨rfl, _⟩ | ⟨g', cap, cur, rfl, _, hcells, _⟩⟩
      · cases hv
      · cases hv; rw [hcells] at ho; cases ho; cases hc

theorem row_cells {W : World} {B : Nat} {e : TypeId} {z : Nat} {v : Value} {n : Nat} {xs : List Value} (h : W.ownsRow B e z v n xs) : ∀ j o, v.ownBlock = some j → W.heap[j]? = some o → o.isCells = true := by
  intro j o hj ho
  rcases h with ⟨_, ⟨rfl, _⟩ | ⟨g, cap, cur, rfl, _, hc, _⟩⟩
  · cases hj
  · cases hj; rw [hc] at ho; cases ho; rfl
theorem put_other {W : World} {k l : Nat} {o o' : Obj} (h : W.heap[k]? = some o) (hne : k ≠ l) : (W.putObj l o').heap[k]? = some o := (World.putObj_heap_other (by omega)).trans h
theorem row_ne {W : World} {B : Nat} {e : TypeId} {z : Nat} {v : Value} {n : Nat} {xs : List Value} (h : W.ownsRow B e z v n xs) (r : Nat) (hr : r < B) : v.ownBlock = none ∨ v.ownBlock ≠ some r := by
  rcases hv : v.ownBlock with _ | g
  · exact .inl rfl
  · refine .inr fun e => ?_
    cases e; have := (h.lt _ hv).1; omega
theorem row_below {W W' : World} {B : Nat} {e : TypeId} {z : Nat} {v : Value} {n : Nat} {xs : List Value} (h : W.ownsRow B e z v n xs) (hb : Below W.heap.size W W') : W'.ownsRow B e z v n xs := by
  refine h.kept (row := none) (grow_none' hb) ?_
  rcases hv : v.ownBlock with _ | g
  · exact .inl rfl
  · exact .inr (fun e => by cases e)
theorem below_put {n₀ : Nat} {a W : World} {l : Nat} (o : Obj) (h : Below n₀ a W) (hl : n₀ ≤ l) : Below n₀ a (W.putObj l o) :=
  h.trans ⟨rfl, rfl, rfl, by simp, fun k hk => World.putObj_heap_other (by omega)⟩
theorem row_shape {W : World} {B : Nat} {e : TypeId} {z : Nat} {v : Value} {n : Nat} {xs : List Value} (h : W.ownsRow B e z v n xs) : ∃ a m c, v = .slice a m c := by
  rcases h with ⟨_, ⟨rfl, _⟩ | ⟨g, cap, cur, rfl, _⟩⟩
  · exact ⟨_, _, _, rfl⟩
  · exact ⟨_, _, _, rfl⟩
theorem cell_of1 {W : World} {B : Nat} {x : Value} {t : TypeId} (h : W.heap[B]? = some (.cells #[x] t (0, 0))) : W.cell? ⟨B, 0, none⟩ = some x ∧ W.frozen? ⟨B, 0, none⟩ = false := by
  refine ⟨?_, ?_⟩
  · rw [cell_of_row W B 0 _ _ _ h]; rfl
  · simp [World.frozen?, h]
theorem heap_set1 {W : World} {B : Nat} {x : Value} {t : TypeId} (h : W.heap[B]? = some (.cells #[x] t (0, 0))) (u : Value) : (W.setCell ⟨B, 0, none⟩ u).heap[B]? = some (.cells #[u] t (0, 0)) := heap_set h u
theorem heap_set_other {W : World} {B k : Nat} {o : Obj} (h : W.heap[k]? = some o) (hne : k ≠ B) (u : Value) : (W.setCell ⟨B, 0, none⟩ u).heap[k]? = some o := (Below.heap_setCell _ _ _ _ hne).trans h

theorem fcells_get : ∀ (fs : List FD) (i : Nat) (h : i < fs.length), (fcells fs)[i * 2]? = some (.string fs[i].1) ∧ (fcells fs)[i * 2 + 1]? = some (.bool fs[i].2)
  | f :: r, 0, _ => ⟨rfl, rfl⟩
  | f :: r, i + 1, h => by
    have := fcells_get r i (by simpa using h)
    simp only [fcells, List.flatMap_cons, List.getElem_cons_succ] at this ⊢
    rw [show (i + 1) * 2 = i * 2 + 2 by omega]
    exact this
theorem FSl_of_row {B : Nat} {W : World} {v : Value} {fs : List FD} (h : W.ownsRow B 50 2 v fs.length (fcells fs)) : FSl W v fs := by
  rcases h with ⟨hl, ⟨rfl, hn⟩ | ⟨g, cap, cur, rfl, hg, hc, hm, h3, h4, h5⟩⟩
  · exact .inl ⟨rfl, List.eq_nil_of_length_eq_zero hn⟩
  · refine .inr ⟨g, 0, cap, rfl, (Array.getElem?_eq_some_iff.1 hc).1, by omega, fun i hi => ?_⟩
    obtain ⟨q0, q1⟩ := fcells_get fs i hi
    rw [← h5, List.getElem?_take_of_lt (by omega), Array.getElem?_toList] at q0 q1
    exact ⟨by rw [cell_of_row W g _ cur _ _ hc, Nat.zero_add]; exact q0, by rw [cell_of_row W g _ cur _ _ hc, Nat.zero_add]; exact q1⟩
theorem FSl.later {W W' : World} {v : Value} {fs : List FD} (h : FSl W v fs) (hb : Below W.heap.size W W') : FSl W' v fs := by
  rcases h with h | ⟨g, off, cap, h1, h2, h3, h4⟩
  · exact .inl h
  · exact .inr ⟨g, off, cap, h1, Nat.lt_of_lt_of_le h2 hb.size, h3, fun i hi => ⟨(hb.cell (p := ⟨g, _, none⟩) h2).trans (h4 i hi).1, (hb.cell (p := ⟨g, _, none⟩) h2).trans (h4 i hi).2⟩⟩

def SI (N : Nat) (w : World) (pre : List FY) (W : World) : Prop := pre.all (fun x => x.2.2) = true ∧ SCore N w (pre.map fun x => (x.1, x.2.1)) W
def SIx (N : Nat) (w : World) (c : Code) (pre : List FY) (W : World) : Prop := c = .ret ∧ pre.any (fun x => !x.2.2) = true ∧
  W.heap[N]? = some (.cells #[.slice none 0 0] 32 (0, 0)) ∧ W.heap[N + 1]? = some (.cells #[.int .i64 6] 23 (0, 0)) ∧ Below N w W
theorem SIx.keep {N : Nat} {w : World} {c : Code} {pre : List FY} {W W' : World} {row : Option Nat} (h : SIx N w c pre W) (hg : W.grownBy W' row) (hr : ∀ r, row = some r → N + 4 ≤ r) : SIx N w c pre W' := by
  obtain ⟨h1, h2, h3, h4, h5⟩ := h
  have blk : ∀ (k : Nat) (o : Obj), W.heap[k]? = some o → k < N + 4 → W'.heap[k]? = some o := fun k o hk hlt =>
    (hg.block k (Array.getElem?_eq_some_iff.1 hk).1 (fun e => by have := hr _ e.symm; omega)).trans hk
  exact ⟨h1, h2, blk _ _ h3 (by omega), blk _ _ h4 (by omega), h5.grown hg (by have := (Array.getElem?_eq_some_iff.1 h4).1; omega) (fun k e => by have := hr _ e; omega)⟩

set_option maxRecDepth 100000 in
set_option maxHeartbeats 2000000 in
theorem split_long (s : ByteArray) (w : World) (hs : s.size ≤ maxLen) (hl : 8192 < s.size) :
    Calls Tryd.prog 23 #[.string s] w (SplitPost s.data.toList w) := by
  have HN : Hid (splitL s.data.toList = ([], 3)) := Lib.hid (by unfold splitL; rw [len_data, if_pos hl])
  unfold maxLen at hs
  go_enter Tryd.func23, Tryd.ntmps23
  go_wp2
  refine bodyPost_ret (v := .tuple #[.slice none 0 0, .int .i64 3]) (by simp [results, Tryd.f23, go_sem]) rfl ⟨_, by rw [HN.out], .inl ⟨rfl, by rw [HN.out]⟩, ?_⟩
  exact (by repeat (first | exact Below.refl _ _ | assumption | apply bl_drew | apply bl_drewN | apply bl_alloc | (refine bl_call ?_ (by assumption))))

set_option maxRecDepth 100000 in
set_option maxHeartbeats 4000000 in
theorem split_short (s : ByteArray) (w : World) (hl : s.size ≤ 8192) (hE : EscAt w) (hg : 0 < w.heap.size) :
    CallsIn Fence.wide 5 Tryd.prog 23 #[.string s] w (SplitPost s.data.toList w) := by
  obtain ⟨i0, hi, hz0, hz1, hz2⟩ := info_parts info_field
  have hfl := fieldsY_len s.data.toList
  rw [len_data] at hfl
  refine callsIn_of_wp_marks Tryd.func23 rfl trivial ?_ rfl
  simp only [Tryd.ntmps23, List.size_toArray, List.length_cons, List.length_nil, Nat.reduceAdd, Nat.reduceSub, Array.replicate_succ, Array.replicate_zero, List.push_toArray, List.append_toArray, List.nil_append, List.cons_append]
  gi_wp2_with (refine ⟨trivial, ?_⟩; gi_at_call 47; refine (callsIn_wide.2 (fieldsOf_any _ _)).mono ?_; rintro e w' ⟨rfl, rfl⟩)
  obtain ⟨w4, hw4⟩ : ∃ w4, (((w.alloc (.cells #[.slice none 0 0] 32)).alloc (.cells #[.int .i64 0] 23)).alloc (.cells #[.slice none 0 0] 32)).alloc (.cells #[.string s] 9) = w4 := ⟨_, rfl⟩
  have hsz : w4.heap.size = w.heap.size + 4 := by rw [← hw4]; simp
  have hb4 : Below w.heap.size w w4 := by rw [← hw4]; exact (by repeat (first | exact Below.refl _ _ | assumption | apply bl_drew | apply bl_drewN | apply bl_alloc | (refine bl_call ?_ (by assumption))))
  have hcs : w4.cell? ⟨w.heap.size + 1 + 1 + 1, 0, none⟩ = some (.string s) := by rw [← hw4, World.cell?_alloc_at _ _ _ _ (by simp)]; rfl
  have hcore : SCore w.heap.size w [] w4 := by
    refine ⟨⟨.slice none 0 0, ?_, World.ownsRow_nil _ _ _ _⟩, ?_, ?_, hb4⟩
    · rw [← hw4, Below.heap_alloc _ _ _ (by simp <;> omega)]; have := heap_alloc_new ((w.alloc (.cells #[.slice none 0 0] 32)).alloc (.cells #[.int .i64 0] 23)) (.cells #[.slice none 0 0] 32); simpa using this
    · rw [← hw4, Below.heap_alloc _ _ _ (by simp <;> omega), Below.heap_alloc _ _ _ (by simp <;> omega), Below.heap_alloc _ _ _ (by simp <;> omega)]; exact heap_alloc_new w _
    · rw [← hw4, Below.heap_alloc _ _ _ (by simp <;> omega), Below.heap_alloc _ _ _ (by simp <;> omega)]; have := heap_alloc_new (w.alloc (.cells #[.slice none 0 0] 32)) (.cells #[.int .i64 0] 23); simpa using this
  rw [hw4]
  clear hw4
  have hE4 := hE.below hb4 hg
  refine wpIn_rangeFunc_box (w0 := w4) rfl (by omega) (gf := 69) (lb := #[.pointer (some ⟨w.heap.size + 1 + 1 + 1, 0, none⟩)]) rfl trivial (enters_of Tryd.func69 (by kernel_rfl) rfl)
    (fields1_box 4 (w.heap.size + 1 + 1 + 1) w.heap.size s w4 (by omega) hcs (by omega) hE4 hg (by omega)) (by omega) (Below.refl _ _) (fun _ => rfl)
    (SI w.heap.size w) (SIx w.heap.size w) ?hI ?hIx ?hIb ?hIxb ⟨rfl, hcore⟩
    (fun x a' W => ∃ Bx, a' = { tmps := #[.string s, undef, .pointer (some ⟨w.heap.size, 0, none⟩), .pointer (some ⟨w.heap.size + 1, 0, none⟩), .pointer (some ⟨w.heap.size + 1 + 1, 0, none⟩), .pointer (some ⟨Bx, 0, none⟩), .bool x.2.2, .string s, .int .i64 s.size, .bool (decide ((8192 : Int) < s.size)), .string s, .func (.func 69) #[] #[.pointer (some ⟨w.heap.size + 1 + 1 + 1, 0, none⟩)], .agg #[.string x.1, .bool x.2.1], .bool x.2.2, undef, undef, undef, undef, undef, undef, undef, undef, undef], defers := [] } ∧ w.heap.size + 7 ≤ Bx ∧ W.heap[Bx]? = some (.cells #[.string x.1, .bool x.2.1] 50 (0, 0))) ?hAx ?assign ?body ?done ?stop
  case hI => exact fun pre A C row h hgr hr => ⟨h.1, h.2.keep hgr (fun r e => by obtain ⟨h1, o, ho, hc⟩ := hr r e; exact ⟨by omega, .inr ⟨o, ho, hc⟩⟩)⟩
  case hIx => exact fun c pre A C row h hgr hr => h.keep hgr (fun r e => by have := (hr r e).1; omega)
  case hIb => exact fun pre A C row h hgr hr => ⟨h.1, h.2.keep hgr (fun r e => by have := hr r e; exact ⟨by omega, .inl (by omega)⟩)⟩
  case hIxb => exact fun c pre A C row h hgr hr => h.keep hgr (fun r e => by have := hr r e; omega)
  case hAx =>
    rintro x a' u A C row ⟨Bx, h1, h2, h3⟩ hgr hr
    refine ⟨Bx, h1, h2, (hgr.block Bx (Array.getElem?_eq_some_iff.1 h3).1 (fun e => ?_)).trans h3⟩
    obtain ⟨_, o, ho, hc⟩ := hr Bx e.symm
    rw [h3] at ho; cases ho; cases hc
  case assign =>
    intro l pre x W K hle hi hK
    gi_wp2
    refine hK _ _ ((KeepsOthers.alloc W _).from _) ⟨(Below.refl _ W).alloc (by omega) _, Below.heap_alloc W _ _ (by omega)⟩ ⟨hi.1, hi.2.keep (World.grownBy_alloc W _ none) (fun r e => by cases e)⟩ ⟨W.heap.size, rfl, by omega, heap_alloc_new W _⟩
  case body =>
    rintro l pre ⟨T, q, ok⟩ a' W hle ⟨hall, hcore⟩ ⟨Bx, rfl, hBx, hbx⟩ hlen
    obtain ⟨v, hrow1, hrow⟩ := hcore.row
    obtain ⟨cl, fl⟩ := cell_of1 hrow1
    obtain ⟨c2, f2⟩ := cell_of1 hcore.r2
    obtain ⟨c3, f3⟩ := cell_of1 hcore.r3
    obtain ⟨b0, b1, _, _⟩ := cell_of2 hbx
    have HC := Lib.hid hcore; have HROW1 := Lib.hid hrow1
    clear hcore hrow1
    cases ok
    · dsimp only
      gi_wp2
      refine ⟨((KeepsOthers.setCell _ _ _).trans (KeepsOthers.setCell _ _ _)).from _, rfl, by simp, ?_, ?_, ?_⟩
      · exact heap_set_other (heap_set1 HC.out.r2 _) (by omega) _
      · exact heap_set1 (heap_set_other HC.out.r3 (by omega) _) _
      · exact (HC.out.bel.setCell (p := ⟨w.heap.size, 0, none⟩) (Nat.le_refl _) _).setCell (p := ⟨w.heap.size + 1, 0, none⟩) (by simp) _
    · dsimp only at hbx ⊢
      have hn : pre.length < 8194 := by omega
      obtain ⟨fs, hfs⟩ : ∃ fs : List FD, pre.map (fun x => (x.1, x.2.1)) = fs := ⟨_, rfl⟩
      have hfl2 : fs.length < 8194 := by rw [← hfs, List.length_map]; exact hn
      rw [hfs] at hrow
      have HFS := Lib.hid hfs; clear hfs
      have blk1 : ∀ w1, (W.alloc (.cells #[.string T, .bool q] 50)).grownBy w1 v.ownBlock → w1.heap[w.heap.size + 1 + 1]? = some (.cells #[v] 32 (0, 0)) := fun w1 hgr => by
        have hks := (Array.getElem?_eq_some_iff.1 HROW1.out).1
        exact (hgr.block _ (by simp; omega) (fun e => by have := (hrow.lt _ e.symm).1; omega)).trans ((Below.heap_alloc _ _ _ hks).trans HROW1.out)
      gi_wp2_with (gi_at_builtin; refine wpListIn_append_own _ rfl _ _ 32 rfl (w.heap.size + 7) 50 i0 (.agg #[.string ⟨#[]⟩, .bool false]) 2 24 Tryd.underlying32 hi hz0 hz1 hz2 rfl (by decide) _ _ _ rfl (hrow.alloc _) ⟨W.heap.size, 0, none⟩ 1 1 [.string T, .bool q] rfl rfl (cells_new _ _ [_, _]) (by simp [Value.oneCell']) (by unfold maxLen; omega) (by omega) (by simp; omega) ?_; intro v' w1 hown' hgrow _; obtain ⟨g', cap', rfl⟩ := ownsRow_succ hown'; have hl1 := blk1 w1 hgrow; obtain ⟨cl1, fl1⟩ := cell_of1 hl1; have HL1 := Lib.hid hl1; clear hl1)
      have hg7 : w.heap.size + 7 ≤ g' := (hown'.lt g' rfl).1
      have stay : ∀ (k : Nat) (o : Obj), W.heap[k]? = some o → k < w.heap.size + 7 → w1.heap[k]? = some o := fun k o hk hlt => by
        have hks := (Array.getElem?_eq_some_iff.1 hk).1
        exact (hgrow.block k (by simp; omega) (fun e => by have := (hrow.lt k e.symm).1; omega)).trans ((Below.heap_alloc _ _ _ hks).trans hk)
      refine ⟨(((KeepsOthers.alloc W _).trans (KeepsOthers.of_grownBy hgrow (row_cells (hrow.alloc _)))).trans (KeepsOthers.setCell _ _ _)).from _, ⟨?_, ?_⟩, ?_, ⟨_, heap_set1 HL1.out _, ?_⟩, heap_set_other (stay _ _ HC.out.r2 (by omega)) (by omega) _, heap_set_other (stay _ _ HC.out.r3 (by omega)) (by omega) _, ?_⟩
      · exact (((Below.refl _ W).alloc (by omega) _).grown hgrow (by simp; omega) (fun k e => by have := (hrow.lt k e).1; omega)).setCell (p := ⟨w.heap.size + 1 + 1, 0, none⟩) (by simp; omega) _
      · rw [Below.heap_setCell _ _ _ _ (by first | (simp; done) | (simp; omega)), hgrow.block _ (by simp; omega) (fun e => by have := (hrow.lt _ e.symm).1; omega), Below.heap_alloc _ _ _ (by omega)]
      · rw [List.all_append, hall]; rfl
      · rw [List.map_append, HFS.out, List.map_cons, List.map_nil, fcells_snoc, List.length_append]
        exact hown'.kept (grow_set w1 _ _) (.inr (fun e => by simp [Value.ownBlock] at e; omega))
      · exact (((HC.out.bel.alloc (by omega) _).grown hgrow (by simp; omega) (fun k e => by have := (hrow.lt k e).1; omega))).setCell (p := ⟨w.heap.size + 1 + 1, 0, none⟩) (by simp; omega) _
  case done =>
    rintro xs W rfl ⟨hall, hcore⟩ hD
    obtain ⟨fs, hfs⟩ : ∃ fs : List FD, (fieldsY s.data.toList).map (fun x => (x.1, x.2.1)) = fs := ⟨_, rfl⟩
    have hsp : splitL s.data.toList = if tooB fs then ([], 3) else (fs, 0) := by
      unfold splitL; rw [len_data, if_neg (by omega), ← List.not_all_eq_any_not, hall, hfs]; rfl
    rw [hfs] at hcore
    have HSP := Lib.hid hsp; clear hsp hfs
    obtain ⟨v, hrow1, hrow⟩ := hcore.row
    obtain ⟨va, vn, vc, rfl⟩ := row_shape hrow
    have HROW := Lib.hid hrow
    have hfsl := FSl_of_row hrow
    obtain ⟨cl, fl⟩ := cell_of1 hrow1
    have HC := Lib.hid hcore; have HROW1 := Lib.hid hrow1; have HD := Lib.hid hD; have HFSL := Lib.hid hfsl
    clear hcore hrow1 hrow hD hfsl
    have keep : ∀ (w' : World), Below W.heap.size W w' → ∀ (k : Nat) (o : Obj), W.heap[k]? = some o → w'.heap[k]? = some o := fun w' hb k o hk => (hb.block k (Array.getElem?_eq_some_iff.1 hk).1).trans hk
    have KEEP := Lib.hid keep; clear keep
    cases htb : tooB fs
    all_goals
      have HTB := Lib.hid htb; clear htb
      gi_wp2_with (refine ⟨trivial, ?_⟩; gi_at_call 48; refine (callsIn_wide.2 (tooLong_any _ fs _ HFSL.out)).mono ?_; rintro e w' ⟨rfl, hb⟩; rw [HTB.out]; obtain ⟨c2, f2⟩ := cell_of1 (KEEP.out w' hb _ _ HC.out.r2); obtain ⟨c3, f3⟩ := cell_of1 (KEEP.out w' hb _ _ HC.out.r3); obtain ⟨cl', fl'⟩ := cell_of1 (KEEP.out w' hb _ _ HROW1.out); have HB := Lib.hid hb; clear hb)
    · have hks := (Array.getElem?_eq_some_iff.1 HD.out).1
      have hD2 : ((w'.setCell ⟨w.heap.size, 0, none⟩ (.slice va vn vc)).setCell ⟨w.heap.size + 1, 0, none⟩ (.int .i64 0)).heap[w.heap.size + 4]? = some (.deferred (some [])) := by
        rw [← hsz]; exact heap_set_other (heap_set_other (KEEP.out w' HB.out _ _ HD.out) (by omega) _) (by omega) _
      have q2 : ((w'.setCell ⟨w.heap.size, 0, none⟩ (.slice va vn vc)).setCell ⟨w.heap.size + 1, 0, none⟩ (.int .i64 0)).heap[w.heap.size]? = some (.cells #[(.slice va vn vc)] 32 (0, 0)) := heap_set_other (heap_set1 (KEEP.out w' HB.out _ _ HC.out.r2) _) (by omega) _
      have q3 : ((w'.setCell ⟨w.heap.size, 0, none⟩ (.slice va vn vc)).setCell ⟨w.heap.size + 1, 0, none⟩ (.int .i64 0)).heap[w.heap.size + 1]? = some (.cells #[(.int .i64 0)] 23 (0, 0)) := heap_set1 (heap_set_other (KEEP.out w' HB.out _ _ HC.out.r3) (by omega) _) _
      have hbel : Below w.heap.size w ((w'.setCell ⟨w.heap.size, 0, none⟩ (.slice va vn vc)).setCell ⟨w.heap.size + 1, 0, none⟩ (.int .i64 0)) :=
        ((bl_call HC.out.bel HB.out).setCell (p := ⟨w.heap.size, 0, none⟩) (Nat.le_refl _) _).setCell (p := ⟨w.heap.size + 1, 0, none⟩) (by simp) _
      refine ⟨by simp, .inl ⟨_, _, rfl, run_takeDeferred hD2, ?_⟩⟩
      obtain ⟨z2, _⟩ := cell_of1 (put_other (l := w.heap.size + 4) (o' := .deferred none) q2 (by omega))
      obtain ⟨z3, _⟩ := cell_of1 (put_other (l := w.heap.size + 4) (o' := .deferred none) q3 (by omega))
      refine ⟨.tuple #[(.slice va vn vc), (.int .i64 0)], by simp [results, Tryd.f23, go_sem, z2, z3], ?_⟩
      refine ⟨_, by rw [HSP.out, HTB.out]; rfl, ?_, below_put _ hbel (by omega)⟩
      rw [HSP.out, HTB.out]
      exact FSl_of_row ((((row_below HROW.out HB.out).kept (grow_set _ _ _) (row_ne HROW.out _ (by simp))).kept (grow_set _ _ _) (row_ne HROW.out _ (by simp))).kept (grownBy_putObj' _ _ _) (row_ne HROW.out _ (by omega)))
    · have hks := (Array.getElem?_eq_some_iff.1 HD.out).1
      have hD2 : ((w'.setCell ⟨w.heap.size, 0, none⟩ (.slice none 0 0)).setCell ⟨w.heap.size + 1, 0, none⟩ (.int .i64 3)).heap[w.heap.size + 4]? = some (.deferred (some [])) := by
        rw [← hsz]; exact heap_set_other (heap_set_other (KEEP.out w' HB.out _ _ HD.out) (by omega) _) (by omega) _
      have q2 : ((w'.setCell ⟨w.heap.size, 0, none⟩ (.slice none 0 0)).setCell ⟨w.heap.size + 1, 0, none⟩ (.int .i64 3)).heap[w.heap.size]? = some (.cells #[(.slice none 0 0)] 32 (0, 0)) := heap_set_other (heap_set1 (KEEP.out w' HB.out _ _ HC.out.r2) _) (by omega) _
      have q3 : ((w'.setCell ⟨w.heap.size, 0, none⟩ (.slice none 0 0)).setCell ⟨w.heap.size + 1, 0, none⟩ (.int .i64 3)).heap[w.heap.size + 1]? = some (.cells #[(.int .i64 3)] 23 (0, 0)) := heap_set1 (heap_set_other (KEEP.out w' HB.out _ _ HC.out.r3) (by omega) _) _
      have hbel : Below w.heap.size w ((w'.setCell ⟨w.heap.size, 0, none⟩ (.slice none 0 0)).setCell ⟨w.heap.size + 1, 0, none⟩ (.int .i64 3)) :=
        ((bl_call HC.out.bel HB.out).setCell (p := ⟨w.heap.size, 0, none⟩) (Nat.le_refl _) _).setCell (p := ⟨w.heap.size + 1, 0, none⟩) (by simp) _
      refine ⟨by simp, .inl ⟨_, _, rfl, run_takeDeferred hD2, ?_⟩⟩
      obtain ⟨z2, _⟩ := cell_of1 (put_other (l := w.heap.size + 4) (o' := .deferred none) q2 (by omega))
      obtain ⟨z3, _⟩ := cell_of1 (put_other (l := w.heap.size + 4) (o' := .deferred none) q3 (by omega))
      refine ⟨.tuple #[(.slice none 0 0), (.int .i64 3)], by simp [results, Tryd.f23, go_sem, z2, z3], ?_⟩
      refine ⟨_, by rw [HSP.out, HTB.out]; rfl, ?_, below_put _ hbel (by omega)⟩
      rw [HSP.out, HTB.out]
      exact .inl ⟨rfl, rfl⟩
  case stop =>
    rintro c pre W hSp ⟨rfl, hany, h2, h3, hbel⟩ hD
    have HSP : Hid (splitL s.data.toList = ([], 6)) := Lib.hid (by
      unfold splitL; rw [len_data, if_neg (by omega), if_pos]
      obtain ⟨t, ht⟩ := hSp
      rw [← ht, List.any_append, hany]; rfl)
    gi_wp2
    refine ⟨by simp, .inl ⟨_, _, rfl, run_takeDeferred hD, ?_⟩⟩
    obtain ⟨z2, _⟩ := cell_of1 (put_other (l := w4.heap.size) (o' := .deferred none) h2 (by omega))
    obtain ⟨z3, _⟩ := cell_of1 (put_other (l := w4.heap.size) (o' := .deferred none) h3 (by omega))
    refine ⟨.tuple #[.slice none 0 0, .int .i64 6], by simp [results, Tryd.f23, go_sem, z2, z3], ?_⟩
    exact ⟨_, by rw [HSP.out], .inl ⟨rfl, by rw [HSP.out]⟩, below_put _ hbel (by omega)⟩

theorem split_any (s : ByteArray) (w : World) (hs : s.size ≤ maxLen) (hE : EscAt w) (hg : 0 < w.heap.size) :
    Calls Tryd.prog 23 #[.string s] w (SplitPost s.data.toList w) := by
  by_cases h : 8192 < s.size
  · exact split_long s w hs h
  · exact callsIn_wide.1 (split_short s w (by omega) hE hg)
end Go.Proofs.YtdcjnklagklckaaDoor
