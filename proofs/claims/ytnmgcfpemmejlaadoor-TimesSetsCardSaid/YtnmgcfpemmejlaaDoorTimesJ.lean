/- appendSome and appendLeft. -/
import Derived.Test.YtnmgcfpemmejlaaDoorTimesI
namespace Go.Proofs.YtnmgcfpemmejlaaDoor
open Go.RowKit Go.Lib
set_option linter.unusedVariables false

/-- One span is appended to a row of the call's own, whose block is the one that it was, or a new one. -/
theorem wpList_append_one (w : World) {ops : Array Oper} {rest : List Oper} {o : Oper} {a : Act} {Q : Exit → Act → World → Prop} (hgd : o.guard = none) (s x : Operand)
    (ho : o.op = .call { callee := .builtin .append, args := #[s, x], argTypes := #[29, 29] })
    (B g : Nat) (v : Value) (out : List Span) (p q : Int) (T : TypeId) (W : World) (hs : a.eval s = v) (hown0 : OS w B v out) (hx : a.eval x = .slice (some ⟨g, 0, none⟩) 1 1) (hw : w = W.alloc (.cells #[.int .i64 p, .int .i64 q] T)) (hg : g = W.heap.size) (hbase : B ≤ w.heap.size) (hl : out.length ≤ 100000)
    (h : ∀ v' w', OS w' B v' (out ++ [(p, q)]) → w.grownBy w' v.ownBlock → (v'.ownBlock = v.ownBlock ∨ v'.ownBlock = some w.heap.size) → wpList Tryd.prog ops Q rest (a.put o.dst v') w') : wpList Tryd.prog ops Q (o :: rest) a w := by
  obtain ⟨i, hi, hz, hsize, hby⟩ := info_parts info_span
  have hown : w.ownsRow B 32 2 v out.length (spC out) := hown0
  have ht := Tryd.underlying29
  have hn1 : ∀ j u, [Value.int .i64 p, Value.int .i64 q][j]? = some u → w.cell? ((⟨g, 0, none⟩ : Addr).add j) = some u := fun j u hj => by
    rw [add_plain, hw, Nat.zero_add, new_cell _ _ _ _ _ hg]
    simpa using hj
  have h11 : ∀ u ∈ [Value.int .i64 p, Value.int .i64 q], u.oneCell' = true := by simp [Value.oneCell']
  obtain ⟨v', w', hr, h2, h3, _⟩ := run_append_own (P := Tryd.prog) w B 29 o.type 32 i (.agg #[.int .i64 0, .int .i64 0]) 2 16 ht hi hz hsize hby rfl (by decide) v out.length (spC out) hown ⟨g, 0, none⟩ 1 1 [.int .i64 p, .int .i64 q] rfl hn1 h11 (by unfold maxLen; omega) (by omega) hbase
  have hb : v'.ownBlock = v.ownBlock ∨ v'.ownBlock = some w.heap.size := by
    rcases hown.2 with ⟨rfl, h0⟩ | ⟨gb, cap, cur, rfl, hbg, hgb, hnc, hcm, hcs, htake⟩
    · have hr2 := run_append_nil (P := Tryd.prog) w 29 o.type 32 i _ ht hi hz ⟨g, 0, none⟩ 1 1 [.int .i64 p, .int .i64 q] (by rw [hsize]; rfl) hn1 (by decide) (by decide) (by rw [hby]; omega)
      rw [hr] at hr2
      simp only [Result.ok.injEq] at hr2
      exact .inr (by rw [hr2.1]; rfl)
    · by_cases hroom : out.length + 1 ≤ cap
      · have hr2 := run_append_room (P := Tryd.prog) w 29 o.type 32 i ht hi gb out.length cap cur hgb ⟨g, 0, none⟩ 1 1 [.int .i64 p, .int .i64 q] (by rw [hsize]; rfl) hn1 h11 hroom (by rw [hsize, hcs]; simp; omega)
        rw [hr] at hr2
        simp only [Result.ok.injEq] at hr2
        exact .inl (by rw [hr2.1]; rfl)
      · have holds : ∀ j u, (spC out)[j]? = some u → w.cell? ((⟨gb, 0, none⟩ : Addr).add j) = some u := hown.cells (g := gb) rfl
        have hr2 := run_append_grow (P := Tryd.prog) w 29 o.type 32 i _ ht hi hz ⟨gb, 0, none⟩ out.length cap (spC out) (by rw [hsize]; exact hown.1) holds ⟨g, 0, none⟩ 1 1 [.int .i64 p, .int .i64 q] (by rw [hsize]; rfl) hn1 (by omega) (by omega) (growslice_fits (by omega) (by rw [hby]; omega))
        rw [hr] at hr2
        simp only [Result.ok.injEq] at hr2
        exact .inr (by rw [hr2.1]; rfl)
  refine wpList_plain hgd fun K hK => ?_
  unfold Oper.wp execOp
  simp only [ho, resolve, invoke, builtin, Sem.run_bind, Sem.run_pure, Result.andThen_ok, List.map_toArray, List.map_cons, List.map_nil, hs, hx, hr]
  refine hK _ _ (h v' w' ?_ h3 hb)
  unfold OS
  rw [spC_snoc, List.length_append]
  exact h2

def pieceS (out : List Span) (p q : Int) : List Span := if p < q then out ++ [(p, q)] else out
def SomeR (w : World) (B : Nat) (v : Value) (out : List Span) (e : Ending) (w' : World) : Prop := ∃ v', e = .returned v' ∧ OS w' B v' out ∧ w.grownBy w' v.ownBlock ∧ (v'.ownBlock = v.ownBlock ∨ ∃ b, v'.ownBlock = some b ∧ w.heap.size ≤ b)
theorem World.grownBy.trans' {w w1 w2 : World} {row : Option Nat} (h : w.grownBy w1 none) (k : w1.grownBy w2 row) : w.grownBy w2 row :=
  ⟨k.os.trans h.os, k.tape.trans h.tape, k.output.trans h.output, Nat.le_trans h.size k.size, fun j hj hn => (k.block j (Nat.lt_of_lt_of_le hj h.size) hn).trans (h.block j hj (by simp))⟩
set_option maxRecDepth 20000 in
set_option maxHeartbeats 2000000 in
theorem appendSome_any (v : Value) (out : List Span) (B : Nat) (p q : Int) (w : World) (hown : OS w B v out) (hB : B ≤ w.heap.size) (hl : out.length ≤ 100000) :
    Calls Tryd.prog 54 #[v, .int .i64 p, .int .i64 q] w (SomeR w B v (pieceS out p q)) := by
  have HO := Lib.hid hown; clear hown
  by_cases h : p < q
  · have HE : Hid (pieceS out p q = out ++ [(p, q)]) := Lib.hid (by unfold pieceS; rw [if_pos h])
    go_enter Tryd.func54, Tryd.ntmps54
    go_wp2_with (at_builtin; refine wpList_append_one _ rfl _ _ rfl B _ v out p q _ _ rfl (HO.out.later (bl_alloc _ (Below.refl _ _))) rfl rfl (by simp) (by simp; omega) hl ?_; intro v' w1 hn hg hb; have HN := Lib.hid hn; have HG := Lib.hid hg; have HB := Lib.hid hb; clear hn hg hb)
    go_ret
    refine ⟨v', rfl, by rw [HE.out]; exact HN.out, World.grownBy.trans' (World.grownBy_alloc w _ none) HG.out, ?_⟩
    rcases HB.out with h1 | h1
    · exact .inl h1
    · exact .inr ⟨_, h1, by simp⟩
  · have HE : Hid (pieceS out p q = out) := Lib.hid (by unfold pieceS; rw [if_neg h])
    go_enter Tryd.func54, Tryd.ntmps54
    go_wp2_with fail
    go_ret
    exact ⟨v, rfl, by rw [HE.out]; exact HO.out, ⟨rfl, rfl, rfl, Nat.le_refl _, fun _ _ _ => rfl⟩, .inl rfl⟩
theorem LeftInv.step {L0 W out : List Span} {s x : Span} {k : Nat} {fr z f' : Int} (h : LeftInv L0 W s k fr out) (hW : Canon W) (hk : W[k]? = some x) (hz : min x.1 s.2 = z) (hf : max fr x.2 = f') : LeftInv L0 W s (k + 1) f' (pieceS out fr z) := by
  subst hz hf
  unfold pieceS
  split
  · rename_i hlt; exact h.yes hW hk hlt
  · rename_i hlt; exact h.no hW hk hlt
theorem LeftInv.end {L0 W out : List Span} {s : Span} {k : Nat} {fr : Int} (h : LeftInv L0 W s k fr out) (hk : k = W.length) : LeftOf L0 W s (pieceS out fr s.2) := by
  unfold pieceS
  split
  · rename_i hlt; exact h.endSome hk hlt
  · rename_i hlt; exact h.endNone hk hlt

/-! ### appendLeft -/
theorem grown_cell {W W' : World} {row : Option Nat} (h : W.grownBy W' row) {b : Nat} (i : Nat) (hb : b < W.heap.size) (hne : row ≠ some b) : W'.cell? ⟨b, i, none⟩ = W.cell? ⟨b, i, none⟩ :=
  World.cell?_of_block (h.block b hb (fun e => hne e.symm))
/-- After k of the spans W: what is left, and the span in its box. -/
structure LA (w0 w wr : World) (L0 W : List Span) (s : Span) (k : Nat) (fr : Int) (v : Value) (out : List Span) : Prop where
  inv : LeftInv L0 W s k fr out
  own : OS wr w0.heap.size v out
  bel : Below w0.heap.size w wr
  low : w0.heap.size ≤ w.heap.size
  ne : v.ownBlock ≠ some w.heap.size
  lt : w.heap.size < wr.heap.size
  b0 : wr.cell? ⟨w.heap.size, 0, none⟩ = some (.int .i64 s.1)
  b1 : wr.cell? ⟨w.heap.size, 1, none⟩ = some (.int .i64 s.2)
theorem LA.step {w0 w wr W1 : World} {L0 W out : List Span} {s : Span} {k : Nat} {fr : Int} {v : Value} (h : LA w0 w wr L0 W s k fr v out) (hb : Below wr.heap.size wr W1) : LA w0 w W1 L0 W s k fr v out :=
  ⟨h.inv, h.own.later hb, h.bel.trans (hb.mono (Nat.le_trans h.low (Nat.le_of_lt h.lt))), h.low, h.ne, Nat.lt_of_lt_of_le h.lt hb.size, (hb.cell (p := ⟨_, _, none⟩) h.lt).trans h.b0, (hb.cell (p := ⟨_, _, none⟩) h.lt).trans h.b1⟩
theorem LA.some {w0 w wr w2 : World} {L0 W out : List Span} {s x : Span} {k : Nat} {fr z f' : Int} {v v' : Value} (h : LA w0 w wr L0 W s k fr v out) (hW : Canon W) (hk : W[k]? = .some x) (hz : min x.1 s.2 = z) (hf : max fr x.2 = f')
    (hn : OS w2 w0.heap.size v' (pieceS out fr z)) (hg : wr.grownBy w2 v.ownBlock) (hb : v'.ownBlock = v.ownBlock ∨ ∃ b, v'.ownBlock = .some b ∧ wr.heap.size ≤ b) : LA w0 w w2 L0 W s (k + 1) f' v' (pieceS out fr z) :=
  ⟨h.inv.step hW hk hz hf, hn, h.bel.grown hg (Nat.le_trans h.low (Nat.le_of_lt h.lt)) (fun j e => (h.own.lt j e).1), h.low, by
    rcases hb with e | ⟨b, e, hl⟩
    · rw [e]; exact h.ne
    · rw [e]; intro e2; cases e2; have := h.lt; omega, Nat.lt_of_lt_of_le h.lt hg.size, (grown_cell hg 0 h.lt h.ne).trans h.b0, (grown_cell hg 1 h.lt h.ne).trans h.b1⟩
def LeftR (w0 w : World) (L0 W : List Span) (s : Span) (e : Ending) (w' : World) : Prop := ∃ v' out', e = .returned v' ∧ LeftOf L0 W s out' ∧ OS w' w0.heap.size v' out' ∧ Below w0.heap.size w w'
set_option maxRecDepth 20000 in
set_option maxHeartbeats 4000000 in
theorem appendLeft_any (w0 : World) (v u : Value) (L0 W : List Span) (s1 s2 : Int) (w : World) (hown : OS w w0.heap.size v L0) (hu : RS w0 u W) (hb : Below w0.heap.size w0 w) (hW : Canon W) (hc : Canon L0) (hl : ∀ r ∈ L0, r.2 < s1) (hl0 : L0.length ≤ 50000) (hlW : W.length ≤ 10000) :
    Calls Tryd.prog 41 #[v, .agg #[.int .i64 s1, .int .i64 s2], u] w (LeftR w0 w L0 W (s1, s2)) := by
  obtain ⟨A, c, rfl⟩ := hu.len
  obtain ⟨n, hn⟩ : ∃ n, W.length = n := ⟨_, rfl⟩
  rw [hn] at hu hlW ⊢
  have HA : Hid (LA w0 w (w.alloc (.cells #[.int .i64 s1, .int .i64 s2] 32)) L0 W (s1, s2) 0 s1 v L0) := Lib.hid
    ⟨LeftInv.start hc hl, hown.later (bl_alloc _ (Below.refl _ _)), ((Below.refl _ _).alloc (Nat.le_refl _) _).mono hb.size, hb.size, fun e => by have := (hown.lt _ e).2; omega, by simp, new_cell _ _ _ _ _ rfl, new_cell _ _ _ _ _ rfl⟩
  have HU := Lib.hid hu; have HB := Lib.hid hb; have HW := Lib.hid hW; have HN := Lib.hid hn
  clear hown hu hb hW hc hl hn
  go_enter Tryd.func41, Tryd.ntmps41
  go_wp2_with fail
  go_loopw [0, 7, 9, 14] (fun u f _ i wr => ∃ (k : Nat) (fr : Int) (out : List Span), k ≤ n ∧ i = .int .i64 k ∧ f = .int .i64 fr ∧ Hid (LA w0 w wr L0 W (s1, s2) k fr u out)) (fun _ _ _ i _ => n - (intOf i).toNat)
  case atStart => exact ⟨0, s1, L0, by omega, rfl, rfl, HA⟩
  case round =>
    clear HA
    obtain ⟨k, fr, out, hk, rfl, rfl, HL⟩ := hrel
    have b0 := HL.out.b0
    have b1 := HL.out.b1
    have bl := HL.out.lt
    simp only at b0 b1
    by_cases hlt : k < n
    · obtain ⟨s, hs⟩ := getS HN.out hlt
      obtain ⟨g, off, rfl, hg, c0, c1⟩ := (HU.out.later (HB.out.trans HL.out.bel)).at hs
      obtain ⟨x, y⟩ := s
      have HS := Lib.hid hs
      clear hs
      simp only at c0 c1
      have hol : out.length ≤ 60000 := by have := HL.out.inv.len; omega
      have HL1 : Hid (LA w0 w (wr.alloc (.cells #[.int .i64 x, .int .i64 y] 32)) L0 W (s1, s2) k fr _ out) := Lib.hid (HL.out.step (bl_alloc _ (Below.refl _ _)))
      go_wp2_with (go_at_call 54; (with_reducible refine (appendSome_any _ out w0.heap.size fr _ _ HL1.out.own (Nat.le_trans HL1.out.low (Nat.le_of_lt HL1.out.lt)) (by omega)).mono ?_); rintro e w2 ⟨v2, rfl, hn, hg2, hb2⟩; have d0 := (grown_cell hg2 (b := wr.heap.size) 0 (by simp) (fun e => by have := (HL.out.own.lt _ e).2; omega)).trans (new_cell _ _ _ _ _ rfl); have d1 := (grown_cell hg2 (b := wr.heap.size) 1 (by simp) (fun e => by have := (HL.out.own.lt _ e).2; omega)).trans (new_cell _ _ _ _ _ rfl); have HN2 := Lib.hid hn; have HG2 := Lib.hid hg2; have HB2 := Lib.hid hb2; clear hn hg2 hb2)
      all_goals
        go_roundw
        case rel => exact ⟨k + 1, _, _, by omega, by go_num, rfl, Lib.hid (HL1.out.some HW.out HS.out rfl rfl HN2.out HG2.out HB2.out)⟩
        case measure => simp [intOf]; omega
    · have hol : out.length ≤ 60000 := by have := HL.out.inv.len; omega
      go_wp2_with (go_at_call 54; (with_reducible refine (appendSome_any _ out w0.heap.size fr _ _ HL.out.own (Nat.le_trans HL.out.low (Nat.le_of_lt HL.out.lt)) (by omega)).mono ?_); rintro e w2 ⟨v2, rfl, hn, hg2, hb2⟩; have HN2 := Lib.hid hn; have HG2 := Lib.hid hg2; clear hn hg2 hb2)
      go_ret
      exact ⟨v2, _, rfl, HL.out.inv.end (by rw [HN.out]; omega), HN2.out, HL.out.bel.grown HG2.out (Nat.le_trans HL.out.low (Nat.le_of_lt HL.out.lt)) (fun j e => (HL.out.own.lt j e).1)⟩
end Go.Proofs.YtnmgcfpemmejlaaDoor
