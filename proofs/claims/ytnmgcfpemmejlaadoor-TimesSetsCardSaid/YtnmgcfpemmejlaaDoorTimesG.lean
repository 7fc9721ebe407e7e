/- A copy of spans; joined. -/
import Derived.Test.YtnmgcfpemmejlaaDoorTimesF
import Derived.StillTailTactics
import Derived.Deep.RegionLaw
import Derived.RegionTactic
namespace Go.Proofs.YtnmgcfpemmejlaaDoor
open Go.RowKit Go.Lib
set_option linter.unusedVariables false

theorem info_span : (Tryd.prog.info? 32).map (fun i => (i.zero, i.size, i.bytes)) = some (some (.agg #[.int .i64 0, .int .i64 0]), 2, 16) := by kernel_rfl
theorem spC_one (l : List Span) : ∀ u ∈ spC l, u.oneCell' = true := by
  intro u hu
  obtain ⟨s, _, h⟩ := List.mem_flatMap.1 hu
  simp [encS] at h
  rcases h with rfl | rfl <;> rfl
theorem spC_half (l : List Span) {j : Nat} {u : Value} (h : (spC l)[j]? = some u) : ∃ i s, l[i]? = some s ∧ (j = i * 2 ∧ u = .int .i64 s.1 ∨ j = i * 2 + 1 ∧ u = .int .i64 s.2) := by
  have hj := (List.getElem?_eq_some_iff.1 h).1
  rw [spC_len] at hj
  have hs : l[j / 2]? = some l[j / 2] := List.getElem?_eq_getElem (by omega)
  obtain ⟨e0, e1⟩ := spC_at l (j / 2) _ hs
  refine ⟨j / 2, _, hs, ?_⟩
  rcases Nat.mod_two_eq_zero_or_one j with hm | hm
  · left
    have e : j = j / 2 * 2 := by omega
    rw [← e, h] at e0
    exact ⟨e, by simpa using e0⟩
  · right
    have e : j = j / 2 * 2 + 1 := by omega
    rw [← e, h] at e1
    exact ⟨e, by simpa using e1⟩
def CloneR (w : World) (l : List Span) (e : Ending) (w' : World) : Prop := ∃ v', e = .returned v' ∧ OS w' w.heap.size v' l ∧ Below w.heap.size w w'
set_option maxHeartbeats 2000000 in
set_option maxRecDepth 100000 in
theorem clone_some (ad : Addr) (c : Nat) (l : List Span) (w : World) (hl : l.length ≤ 100000) (hc : ∀ j u, (spC l)[j]? = some u → w.cell? (ad.add j) = some u) :
    Calls Tryd.prog 50 #[.slice (some ad) l.length c] w (CloneR w l) := by
  obtain ⟨i0, hi, hz0, hz1, hz2⟩ := info_parts info_span
  have q22 : ∀ (w : World) (a : Option Addr) (n c n' c' : Nat), (binOp .eql 29 (.slice a n c) (.slice none n' c')).run Tryd.prog w = .ok (.bool a.isNone) w := fun w a n c n' c' => Lib.run_eql_slice_nil w _ _ a n c n' c' Tryd.underlying29
  have HC := Lib.hid hc; clear hc
  obtain ⟨n, hn⟩ : ∃ n, l.length = n := ⟨_, rfl⟩
  rw [hn] at hl ⊢
  have HN := Lib.hid hn; clear hn
  go_enter Tryd.func50, Tryd.ntmps50
  go_wp2_with (at_builtin; refine wpList_append_own _ rfl _ _ 29 rfl w.heap.size 32 i0 (.agg #[.int .i64 0, .int .i64 0]) 2 16 Tryd.underlying29 hi hz0 hz1 hz2 rfl (by decide) _ _ _ rfl (World.ownsRow_made w #[] 0 (Nat.le_refl _) (Nat.zero_le _) (by simp)) ad n c (spC l) rfl ?qc1 ?qc2 ?qc3 ?qc4 ?qc5 ?qc6 ?_)
  case qc1 => rw [spC_len, HN.out]
  case qc2 => exact fun j u hj => Lib.cell?_alloc_some _ (HC.out j u hj)
  case qc3 => exact spC_one l
  case qc4 => unfold maxLen; omega
  case qc5 => omega
  case qc6 => simp
  intro v' w1 hown hgrow _
  have HO := Lib.hid hown; have HG := Lib.hid hgrow
  clear hown hgrow
  go_wp2_with fail
  go_ret
  refine ⟨v', rfl, ?_, ((Below.refl _ w).alloc (Nat.le_refl _) _).grown HG.out (by simp) (by intro k hk; simp [Value.ownBlock] at hk; omega)⟩
  have := HO.out
  unfold OS
  rw [HN.out]
  exact this
set_option maxHeartbeats 1000000 in
theorem clone_none (n c : Nat) (w : World) : Calls Tryd.prog 50 #[.slice none n c] w (CloneR w []) := by
  have q22 : ∀ (w : World) (a : Option Addr) (n c n' c' : Nat), (binOp .eql 29 (.slice a n c) (.slice none n' c')).run Tryd.prog w = .ok (.bool a.isNone) w := fun w a n c n' c' => Lib.run_eql_slice_nil w _ _ a n c n' c' Tryd.underlying29
  go_enter Tryd.func50, Tryd.ntmps50
  go_wp2_with fail
  go_ret
  exact ⟨_, rfl, OS.nil _ _, Below.refl _ _⟩
theorem add_plain (b o n : Nat) : (⟨b, o, none⟩ : Addr).add n = ⟨b, o + n, none⟩ := by unfold Addr.add; split <;> simp_all
theorem clone_any (v : Value) (l : List Span) (w : World) (hv : RS w v l) (hl : l.length ≤ 100000) : Calls Tryd.prog 50 #[v] w (CloneR w l) := by
  rcases hv with ⟨a, c, rfl, rfl⟩ | ⟨g, off, cap, rfl, h2, h3, h4⟩
  · cases a with
    | none => exact clone_none 0 c w
    | some ad => exact clone_some ad c [] w (by simp) (fun j u h => by simp [spC] at h)
  · refine clone_some ⟨g, off, none⟩ cap l w hl (fun j u h => ?_)
    obtain ⟨i, s, hs, h⟩ := spC_half l h
    obtain ⟨e0, e1⟩ := h4 i s hs
    rw [add_plain]
    rcases h with ⟨rfl, rfl⟩ | ⟨rfl, rfl⟩
    · exact e0
    · rw [← Nat.add_assoc]; exact e1

/-! ### joined -/
theorem OS.grown {W W' : World} {B : Nat} {v : Value} {l : List Span} (h : OS W B v l) {row : Option Nat} (hg : W.grownBy W' row) (hne : v.ownBlock = none ∨ v.ownBlock ≠ row) : OS W' B v l := World.ownsRow.kept h hg hne
/-- The last span, and its cells. -/
theorem OS.last {W : World} {B : Nat} {A : Option Addr} {n c : Nat} {o : List Span} {p q : Int} (h : OS W B (.slice A n c) (o ++ [(p, q)])) (hn : (o ++ [(p, q)]).length = n) :
    ∃ g, A = some ⟨g, 0, none⟩ ∧ B ≤ g ∧ g < W.heap.size ∧ W.cell? ⟨g, (n - 1) * 2, none⟩ = some (.int .i64 p) ∧ W.cell? ⟨g, (n - 1) * 2 + 1, none⟩ = some (.int .i64 q) ∧ W.frozen? ⟨g, (n - 1) * 2 + 1, none⟩ = false := by
  subst hn
  have h' : W.ownsRow B 32 2 (.slice A (o ++ [(p, q)]).length c) (o ++ [(p, q)]).length (spC (o ++ [(p, q)])) := h
  rcases h.shape with ⟨_, e⟩ | ⟨g, c', e, hg, hl⟩
  · simp at e
  · simp only [Value.slice.injEq] at e
    obtain ⟨rfl, _, rfl⟩ := e
    have hl2 : (o ++ [(p, q)]).length - 1 = o.length := by simp
    obtain ⟨e0, e1⟩ := spC_at (o ++ [(p, q)]) o.length (p, q) (by simp)
    have hs : o.length + 1 = (o ++ [(p, q)]).length := by simp
    refine ⟨g, rfl, hg, hl, ?_, ?_, h'.frozenAt _⟩
    · rw [hl2, h'.cellAt _ (by omega), e0]
    · rw [hl2, h'.cellAt _ (by omega), e1]
theorem spC_set (o : List Span) (p q z : Int) : (spC (o ++ [(p, q)])).set (o.length * 2 + 1) (.int .i64 z) = spC (o ++ [(p, z)]) := by
  rw [spC_snoc, spC_snoc, List.set_append_right _ _ (by rw [spC_len]; omega), spC_len, show o.length * 2 + 1 - o.length * 2 = 1 by omega]; rfl
theorem OS.putLast {W : World} {B g n c : Nat} {o : List Span} {p q z : Int} (h : OS W B (.slice (some ⟨g, 0, none⟩) n c) (o ++ [(p, q)])) (hn : (o ++ [(p, q)]).length = n) :
    OS (W.setCell ⟨g, (n - 1) * 2 + 1, none⟩ (.int .i64 z)) B (.slice (some ⟨g, 0, none⟩) n c) (o ++ [(p, z)]) ∧ W.grownBy (W.setCell ⟨g, (n - 1) * 2 + 1, none⟩ (.int .i64 z)) (some g) := by
  subst hn
  have h' : W.ownsRow B 32 2 (.slice (some ⟨g, 0, none⟩) (o ++ [(p, q)]).length c) (o ++ [(p, q)]).length (spC (o ++ [(p, q)])) := h
  obtain ⟨h1, h2⟩ := h'.stored (((o ++ [(p, q)]).length - 1) * 2 + 1) (.int .i64 z)
  refine ⟨?_, h2⟩
  rw [show (o ++ [(p, q)]).length - 1 = o.length by simp, spC_set] at h1
  unfold OS
  rw [show (o ++ [(p, z)]).length = (o ++ [(p, q)]).length by simp, show (o ++ [(p, q)]).length - 1 = o.length by simp]
  exact h1
/-- After k of the sorted spans d: all. -/
structure JM (w2 wr : World) (d : List Span) (k : Nat) (v : Value) (out : List Span) : Prop where
  inv : JoinInv d k out
  own : OS wr w2.heap.size v out
  bel : Below w2.heap.size w2 wr
def JoinR (w : World) (l : List Span) (e : Ending) (w' : World) : Prop := ∃ v u, e = .returned v ∧ IsSet l [] u ∧ u.length ≤ l.length ∧ OS w' w.heap.size v u ∧ Below w.heap.size w w'
theorem JM.grow {w2 wr : World} {d o : List Span} {k g n c : Nat} {x y p q : Int} (h : JM w2 wr d k (.slice (some ⟨g, 0, none⟩) n c) (o ++ [(p, q)])) (hn : (o ++ [(p, q)]).length = n) (ho : d.Pairwise fun s r => s.1 ≤ r.1) (hk : d[k]? = some (x, y)) (ok : x < y) (hl : x ≤ q) {z : Int} (hz : max q y = z) :
    JM w2 (wr.setCell ⟨g, (n - 1) * 2 + 1, none⟩ (.int .i64 z)) d (k + 1) (.slice (some ⟨g, 0, none⟩) n c) (o ++ [(p, z)]) := by
  obtain ⟨h1, h2⟩ := h.own.putLast (z := z) hn
  refine ⟨?_, h1, h.bel.grown h2 h.bel.size (fun j e => by cases e; exact (h.own.lt g rfl).1)⟩
  rw [← hz]
  exact h.inv.grow ho hk ok hl
theorem JM.step {w2 wr W : World} {d out : List Span} {k : Nat} {v : Value} (h : JM w2 wr d k v out) (hb : Below wr.heap.size wr W) : JM w2 W d k v out :=
  ⟨h.inv, h.own.later hb, h.bel.trans (hb.mono h.bel.size)⟩

theorem bl_drewN {w W : World} (n : Nat) (h : Below w.heap.size w W) : Below w.heap.size w (W.drewN n) := h.trans ⟨rfl, rfl, rfl, Nat.le_refl _, fun _ _ => rfl⟩
theorem bl_drew {w W : World} (h : Below w.heap.size w W) : Below w.heap.size w W.drew := bl_drewN 1 h
theorem bl_alloc {w W : World} (o : Obj) (h : Below w.heap.size w W) : Below w.heap.size w (W.alloc o) := h.alloc h.size o
theorem bl_call {w W W' : World} (h : Below w.heap.size w W) (k : Below W.heap.size W W') : Below w.heap.size w W' := h.trans (k.mono h.size)
/-- One span is appended to a row of the call's own. -/
theorem wpList_append_span (w : World) {ops : Array Oper} {rest : List Oper} {o : Oper} {a : Act} {Q : Exit → Act → World → Prop} (hgd : o.guard = none) (s x : Operand)
    (ho : o.op = .call { callee := .builtin .append, args := #[s, x], argTypes := #[29, 29] })
    (B g : Nat) (v : Value) (out : List Span) (p q : Int) (T : TypeId) (W : World) (hs : a.eval s = v) (hown : OS w B v out) (hx : a.eval x = .slice (some ⟨g, 0, none⟩) 1 1) (hw : w = W.alloc (.cells #[.int .i64 p, .int .i64 q] T)) (hg : g = W.heap.size) (hB : B ≤ w.heap.size) (hl : out.length ≤ 100000)
    (h : ∀ v' w', OS w' B v' (out ++ [(p, q)]) → w.grownBy w' v.ownBlock → wpList Tryd.prog ops Q rest (a.put o.dst v') w') : wpList Tryd.prog ops Q (o :: rest) a w := by
  obtain ⟨i0, hi, hz0, hz1, hz2⟩ := info_parts info_span
  have hown' : w.ownsRow B 32 2 v out.length (spC out) := hown
  refine wpList_append_own w hgd s x 29 ho B 32 i0 (.agg #[.int .i64 0, .int .i64 0]) 2 16 Tryd.underlying29 hi hz0 hz1 hz2 rfl (by decide) v out.length (spC out) hs hown' ⟨g, 0, none⟩ 1 1 [.int .i64 p, .int .i64 q] hx rfl (fun j u hj => ?_) (by simp [Value.oneCell']) (by unfold maxLen; omega) (by omega) hB ?_
  · rw [add_plain, hw, Nat.zero_add, new_cell _ _ _ _ _ hg]
    simpa using hj
  · intro v' w' hn hg _
    refine h v' w' ?_ hg
    unfold OS
    rw [spC_snoc, List.length_append]
    exact hn
theorem JM.more {w2 wr w3 : World} {d out : List Span} {k : Nat} {v v' : Value} {s : Span} (h : JM w2 wr d k v out) (hk : d[k]? = some s) (ok : s.1 < s.2) (hl : ∀ o r, out = o ++ [r] → r.2 < s.1) (hn : OS w3 w2.heap.size v' (out ++ [s])) (hg : wr.grownBy w3 v.ownBlock) : JM w2 w3 d (k + 1) v' (out ++ [s]) :=
  ⟨h.inv.more hk ok hl, hn, h.bel.grown hg h.bel.size (fun j e => (h.own.lt j e).1)⟩
end Go.Proofs.YtnmgcfpemmejlaaDoor
