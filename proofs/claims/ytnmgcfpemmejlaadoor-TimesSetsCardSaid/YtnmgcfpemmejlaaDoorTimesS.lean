/- Rows of numbers: as they are read, cut, and appended to. -/
import Derived.Test.YtnmgcfpemmejlaaDoorTimesL
import Derived.Deep.RegionHeld
namespace Go.Proofs.YtnmgcfpemmejlaaDoor
open Go.RowKit Go.Lib
set_option linter.unusedVariables false

def iL (l : List Int) : List Value := l.map fun x => Value.int .i64 x
theorem iL_len (l : List Int) : (iL l).length = l.length := by simp [iL]
theorem iL_app (l m : List Int) : iL (l ++ m) = iL l ++ iL m := by simp [iL]
theorem iL_one (l : List Int) : ∀ v ∈ iL l, v.oneCell' = true := by intro v hv; unfold iL at hv; obtain ⟨x, _, rfl⟩ := List.mem_map.1 hv; rfl
/-- The slice v reads as the numbers xs. -/
def RI (w : World) (v : Value) (xs : List Int) : Prop :=
  (∃ A c, v = .slice A 0 c ∧ xs = [] ∧ (A = none → c = 0)) ∨
  ∃ g off c, v = .slice (some ⟨g, off, none⟩) xs.length c ∧ g < w.heap.size ∧ 0 < xs.length ∧ xs.length ≤ c ∧ c ≤ maxLen ∧ ∀ i, i < xs.length → w.cell? ⟨g, off + i, none⟩ = some (.int .i64 (xs.getD i 0))
theorem RI.later {W W' : World} {v : Value} {xs : List Int} (h : RI W v xs) (hb : Below W.heap.size W W') : RI W' v xs := by
  rcases h with h | ⟨g, off, c, rfl, h1, h0, h2, h3, h4⟩
  · exact .inl h
  · exact .inr ⟨g, off, c, rfl, Nat.lt_of_lt_of_le h1 hb.size, h0, h2, h3, fun i hi => (hb.cell (p := ⟨g, _, none⟩) h1).trans (h4 i hi)⟩
theorem RI.nil (w : World) : RI w (.slice none 0 0) [] := .inl ⟨none, 0, rfl, rfl, fun _ => rfl⟩
theorem RI.len {W : World} {v : Value} {xs : List Int} (h : RI W v xs) : ∃ A c, v = .slice A xs.length c := by
  rcases h with ⟨A, c, rfl, rfl, _⟩ | ⟨g, off, c, rfl, _⟩
  · exact ⟨A, c, rfl⟩
  · exact ⟨_, _, rfl⟩
theorem RI.two {W : World} {v : Value} {xs : List Int} (h : RI W v xs) : (v = .slice none 0 0 ∧ xs = []) ∨ ∃ ad c, v = .slice (some ad) xs.length c ∧ ∀ j u, (iL xs)[j]? = some u → W.cell? (ad.add j) = some u := by
  rcases h with ⟨A, c, rfl, rfl, hn⟩ | ⟨g, off, c, rfl, hg, h0, h2, h3, h4⟩
  · cases A with
    | none => rw [hn rfl]; exact .inl ⟨rfl, rfl⟩
    | some ad => exact .inr ⟨ad, c, rfl, fun j u hj => by simp [iL] at hj⟩
  · refine .inr ⟨_, c, rfl, fun j u hj => ?_⟩
    rw [Addr.add_mid]
    have hlt : j < xs.length := by
      have := (List.getElem?_eq_some_iff.1 hj).1
      rwa [iL_len] at this
    rw [h4 j hlt, ← hj, iL, List.getElem?_map, List.getElem?_eq_getElem hlt, List.getD_eq_getElem?_getD, List.getElem?_eq_getElem hlt]
    rfl
theorem sizeI (w : World) : (sizeOf (Tryd.prog.elem 46)).run Tryd.prog w = .ok 1 w := by kernel_rfl
theorem slice_l (A : Option Addr) (n c k : Nat) (hk : k ≤ n) (w : World) : (Instr.sliceAt 46 (.slice A n c) (some (.int .i64 (k : Int))) none none).run Tryd.prog w = .ok (sliced A k n c 1) w := by
  rw [run_sliceAt_slice (P := Tryd.prog) w 46 _ _ _ _ (by kernel_rfl), run_slice_l (P := Tryd.prog) w 46 A n c (by kernel_rfl) .i64 (k : Int) (by omega) (by omega), sizeI]
  simp only [Result.andThen_ok, Int.toNat_natCast]
theorem slice_h (A : Option Addr) (n c k : Nat) (hk : k ≤ c) (w : World) : (Instr.sliceAt 46 (.slice A n c) none (some (.int .i64 (k : Int))) none).run Tryd.prog w = .ok (sliced A 0 k c 1) w := by
  rw [run_sliceAt_slice (P := Tryd.prog) w 46 _ _ _ _ (by kernel_rfl), run_slice_h (P := Tryd.prog) w 46 A n c (by kernel_rfl) .i64 (k : Int) (by omega) (by omega), sizeI]
  simp only [Result.andThen_ok, Int.toNat_natCast]
theorem RI.sliced {w : World} {A : Option Addr} {n c k : Nat} {xs : List Int} (h : RI w (.slice A n c) xs) (hn : xs.length = n) (hk : k ≤ n) : RI w (Go.sliced A k n c 1) (xs.drop k) := by
  unfold Go.sliced
  rcases h with ⟨A', c', e, rfl, hA⟩ | ⟨g, off, c', e, hg, h0, h1, h2, h3⟩
  · simp only [Value.slice.injEq] at e
    obtain ⟨rfl, rfl, rfl⟩ := e
    obtain rfl : k = 0 := by omega
    refine .inl ⟨_, _, rfl, by simp, fun h => ?_⟩
    have : A = none := by
      split at h
      · exact h
      · cases A with
        | none => rfl
        | some a => simp at h
    rw [hA this]
  · simp only [Value.slice.injEq] at e
    obtain ⟨rfl, hn', rfl⟩ := e
    by_cases hlt : k = n
    · subst hlt
      rw [List.drop_of_length_le (by omega), Nat.sub_self]
      exact .inl ⟨_, _, rfl, rfl, fun h => by split at h <;> cases h⟩
    · rw [if_neg (by omega)]
      refine .inr ⟨g, off + k, c - k, ?_, hg, by rw [List.length_drop]; omega, by rw [List.length_drop]; omega, by omega, fun i hi => ?_⟩
      · rw [List.length_drop, hn]; simp [Addr.add_mid]
      · rw [List.length_drop] at hi
        rw [Nat.add_assoc, h3 (k + i) (by omega), List.getD_eq_getElem?_getD, List.getD_eq_getElem?_getD, List.getElem?_drop]
theorem RI.taken {w : World} {A : Option Addr} {n c k : Nat} {xs : List Int} (h : RI w (.slice A n c) xs) (hn : xs.length = n) (hk : k ≤ n) : RI w (Go.sliced A 0 k c 1) (xs.take k) := by
  unfold Go.sliced
  rcases h with ⟨A', c', e, rfl, hA⟩ | ⟨g, off, c', e, hg, h0, h1, h2, h3⟩
  · simp only [Value.slice.injEq] at e
    obtain ⟨rfl, rfl, rfl⟩ := e
    obtain rfl : k = 0 := by omega
    refine .inl ⟨_, _, rfl, by simp, fun h => ?_⟩
    have : A = none := by
      split at h
      · exact h
      · cases A with
        | none => rfl
        | some a => simp at h
    rw [hA this]
  · simp only [Value.slice.injEq] at e
    obtain ⟨rfl, hn', rfl⟩ := e
    rcases Nat.eq_zero_or_pos k with h0k | h0k
    · subst h0k
      exact .inl ⟨_, _, rfl, by simp, fun h => by split at h <;> cases h⟩
    · rw [if_neg (by omega)]
      refine .inr ⟨g, off, c, ?_, hg, by rw [List.length_take]; omega, by rw [List.length_take]; omega, by omega, fun i hi => ?_⟩
      · rw [List.length_take, hn, Nat.min_eq_left hk]; simp [Addr.add_mid]
      · rw [List.length_take] at hi
        rw [h3 i (by omega), List.getD_eq_getElem?_getD, List.getD_eq_getElem?_getD, List.getElem?_take, if_pos (by omega)]
theorem RI.num {w : World} {A : Option Addr} {n c i : Nat} {xs : List Int} (h : RI w (.slice A n c) xs) (hn : xs.length = n) (hi : i < n) : ∃ g off, A = some ⟨g, off, none⟩ ∧ g < w.heap.size ∧ w.cell? ⟨g, off + i, none⟩ = some (.int .i64 (xs.getD i 0)) := by
  rcases h with ⟨A', c', e, rfl, hA⟩ | ⟨g, off, c', e, hg, h0, h1, h2, h3⟩
  · simp at hn; omega
  · simp only [Value.slice.injEq] at e
    exact ⟨g, off, e.1, hg, h3 i (by omega)⟩

theorem info_i64 : (Tryd.prog.info? 2).map (fun i => (i.zero, i.size, i.bytes)) = some (some (.int .i64 0), 1, 8) := by kernel_rfl
/-- A row of numbers of the call's own. -/
def OI (w : World) (B : Nat) (v : Value) (xs : List Int) : Prop := w.ownsRow B 2 1 v xs.length (iL xs)
theorem OI.nil (w : World) (B : Nat) : OI w B (.slice none 0 0) [] := ⟨rfl, Or.inl ⟨rfl, rfl⟩⟩
theorem OI.later {W W' : World} {B : Nat} {v : Value} {l : List Int} (h : OI W B v l) (hb : Below W.heap.size W W') : OI W' B v l := by
  refine World.ownsRow.kept h (row := none) ⟨hb.os, hb.tape, hb.output, hb.size, fun k hk _ => hb.block k hk⟩ ?_
  cases v.ownBlock with
  | none => exact .inl rfl
  | some b => exact .inr (by simp)
theorem OI.base {W : World} {B B' : Nat} {v : Value} {l : List Int} (h : OI W B v l) (hb : B' ≤ B) : OI W B' v l := ⟨h.1, h.2.imp id fun ⟨g, cap, cur, e, h1, r⟩ => ⟨g, cap, cur, e, Nat.le_trans hb h1, r⟩⟩
theorem OI.lt {W : World} {B : Nat} {v : Value} {l : List Int} (h : OI W B v l) : ∀ k, v.ownBlock = some k → B ≤ k ∧ k < W.heap.size := World.ownsRow.lt h
theorem OI.ri {w : World} {B : Nat} {v : Value} {xs : List Int} (h : OI w B v xs) : RI w v xs := by
  have h' : w.ownsRow B 2 1 v xs.length (iL xs) := h
  rcases h'.2 with ⟨rfl, h0⟩ | ⟨g, c, cur, rfl, hb, hg, hc, hm, hs, ht⟩
  · obtain rfl : xs = [] := List.eq_nil_of_length_eq_zero h0
    exact RI.nil w
  · rcases Nat.eq_zero_or_pos xs.length with h0 | h0
    · obtain rfl : xs = [] := List.eq_nil_of_length_eq_zero h0
      exact .inl ⟨_, _, rfl, rfl, fun h => by cases h⟩
    · refine .inr ⟨g, 0, c, rfl, (h'.lt g rfl).2, h0, hc, hm, fun i hi => ?_⟩
      rw [Nat.zero_add, h'.cellAt i (by omega), iL, List.getElem?_map, List.getElem?_eq_getElem hi, List.getD_eq_getElem?_getD, List.getElem?_eq_getElem hi]
      rfl
/-- Numbers that were just laid. -/
theorem oi_new (w : World) (xs : List Int) (g n : Nat) (hg : g = w.heap.size) (hn : xs.length = n) (h : n ≤ 100000) : OI (w.alloc (.cells (iL xs).toArray 2)) w.heap.size (.slice (some ⟨g, 0, none⟩) n n) xs := by
  subst hg hn
  exact World.ownsRow_lit (base := w.heap.size) (e := 2) (size := 1) w (iL xs).toArray xs.length (Nat.le_refl _) (by unfold maxLen; omega) (by simp [iL_len])
section
variable {w : World} {o : Oper} {a : Act} {K : Act → World → Prop} {Q : Exit → Act → World → Prop}
/-- Numbers are appended to a row of the call's own: one operation by itself. -/
theorem wp_append_ri (s x : Operand) (ho : o.op = .call { callee := .builtin .append, args := #[s, x], argTypes := #[46, 46] })
    (B : Nat) (v b : Value) (zs xs : List Int) (hs : a.eval s = v) (hown : OI w B v zs) (hx : a.eval x = b) (hb : RI w b xs) (hB : B ≤ w.heap.size) (hl : zs.length + xs.length ≤ 1000000)
    (h : ∀ v' w', OI w' B v' (zs ++ xs) → w.grownBy w' v.ownBlock → K (a.put o.dst v') w') : Oper.wp Tryd.prog o a w K Q := by
  obtain ⟨i0, hi, hz0, hz1, hz2⟩ := info_parts info_i64
  have hown' : w.ownsRow B 2 1 v zs.length (iL zs) := hown
  rcases hb.two with ⟨rfl, rfl⟩ | ⟨ad, c, rfl, hc⟩
  · have hrun := run_append_owned_none (P := Tryd.prog) (w := w) B 46 o.type 2 i0 1 Tryd.underlying46 hi v zs.length (iL zs) hown'
    unfold Oper.wp
    simp [execOp, ho, resolve, invoke, builtin, hs, hx, hrun, Result.andThen]
    exact h v w (by simpa using hown) ⟨rfl, rfl, rfl, Nat.le_refl _, fun _ _ _ => rfl⟩
  · obtain ⟨v', w', hr, h2, h3, _⟩ := run_append_own (P := Tryd.prog) w B 46 o.type 2 i0 (.int .i64 0) 1 8 Tryd.underlying46 hi hz0 hz1 hz2 rfl (by decide) v zs.length (iL zs) hown' ad xs.length c (iL xs) (by simp [iL]) hc (iL_one xs) (by unfold maxLen; omega) (by omega) hB
    unfold Oper.wp execOp
    simp only [ho, resolve, invoke, builtin, Sem.run_bind, Sem.run_pure, Result.andThen_ok, List.map_toArray, List.map_cons, List.map_nil, hs, hx, hr]
    refine h v' w' ?_ h3
    unfold OI
    rw [iL_app, List.length_append]
    exact h2
end
theorem wpList_append_ri (w : World) {ops : Array Oper} {rest : List Oper} {o : Oper} {a : Act} {Q : Exit → Act → World → Prop} (hgd : o.guard = none) (s x : Operand)
    (ho : o.op = .call { callee := .builtin .append, args := #[s, x], argTypes := #[46, 46] })
    (B : Nat) (v b : Value) (zs xs : List Int) (hs : a.eval s = v) (hown : OI w B v zs) (hx : a.eval x = b) (hb : RI w b xs) (hB : B ≤ w.heap.size) (hl : zs.length + xs.length ≤ 1000000)
    (h : ∀ v' w', OI w' B v' (zs ++ xs) → w.grownBy w' v.ownBlock → wpList Tryd.prog ops Q rest (a.put o.dst v') w') : wpList Tryd.prog ops Q (o :: rest) a w :=
  wpList_plain hgd fun K hK => wp_append_ri s x ho B v b zs xs hs hown hx hb hB hl (fun v' w' h1 h2 => hK _ _ (h v' w' h1 h2))
theorem wpList_slice_at {P : Program} {w : World} {ops : Array Oper} {rest : List Oper} {o : Oper} {a : Act} {Q : Exit → Act → World → Prop} (hgd : o.guard = none) (ty : TypeId) (x : Operand) (lo hi : Option Operand) (ho : o.op = .slice ty x lo hi none) (v : Value)
    (hv : (Instr.sliceAt ty (a.eval x) (lo.map a.eval) (hi.map a.eval) none).run P w = .ok v w)
    (h : wpList P ops Q rest (a.put o.dst v) w) : wpList P ops Q (o :: rest) a w := by
  refine wpList_plain hgd fun K hK => ?_
  unfold Oper.wp execOp
  simp only [ho, Option.map_none, hv, Sem.run_bind, Sem.run_pure, Result.andThen_ok]
  exact hK _ _ h
/-- A row of one's own, and what was there before. -/
structure EA (w W : World) (B : Nat) (v : Value) (zs : List Int) : Prop where
  own : OI W B v zs
  bel : Below B w W
theorem EA.step {w W W' : World} {B : Nat} {v : Value} {zs : List Int} (h : EA w W B v zs) (hB : B ≤ W.heap.size) (hb : Below W.heap.size W W') : EA w W' B v zs := ⟨h.own.later hb, h.bel.trans (hb.mono hB)⟩
theorem EA.app {w W W' : World} {B : Nat} {v v' : Value} {zs xs : List Int} (h : EA w W B v zs) (hB : B ≤ W.heap.size) (hn : OI W' B v' xs) (hg : W.grownBy W' v.ownBlock) : EA w W' B v' xs := ⟨hn, h.bel.grown hg hB (fun j e => (h.own.lt j e).1)⟩
theorem RI.cap {w : World} {A : Option Addr} {n c : Nat} {xs : List Int} (h : RI w (.slice A n c) xs) : n ≤ c := by
  rcases h with ⟨A', c', e, rfl, hA⟩ | ⟨g, off, c', e, hg, h0, h1, h2, h3⟩
  · simp only [Value.slice.injEq] at e; omega
  · simp only [Value.slice.injEq] at e; omega
theorem oi_empty (w : World) (g : Nat) (hg : g = w.heap.size) : OI (w.alloc (.cells #[] 2)) w.heap.size (.slice (some ⟨g, 0, none⟩) 0 0) [] := oi_new w [] g 0 hg rfl (by omega)
theorem oi_one (w : World) (x : Int) (g : Nat) (hg : g = w.heap.size) : OI (w.alloc (.cells #[.int .i64 x] 2)) w.heap.size (.slice (some ⟨g, 0, none⟩) 1 1) [x] := oi_new w [x] g 1 hg rfl (by omega)
end Go.Proofs.YtnmgcfpemmejlaaDoor
