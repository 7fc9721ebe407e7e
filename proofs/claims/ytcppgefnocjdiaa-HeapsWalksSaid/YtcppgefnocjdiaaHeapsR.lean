/- A queue: Set, Push, Pop. -/
import Derived.Test.YtcppgefnocjdiaaHeapsQ
namespace Go.Proofs.Ytcppgefnocjdiaa
open Go.RowKit Go.Lib Go.Sort Go.Shelf
set_option linter.unusedVariables false

theorem set_same {α : Type} : ∀ {l : List α} {i : Nat} {a : α}, l[i]? = some a → l.set i a = l
  | [], _, _, h => by simp at h
  | b :: l, 0, a, h => by simp at h; subst h; rfl
  | b :: l, i + 1, a, h => by rw [List.set_cons_succ, set_same (by simpa using h)]
/-- A value is written into the tree. -/
theorem QM.setv {W : World} {B qb mb g c : Nat} {F : Value} {nx : Int} {xs : List HItem} {i : Nat} {x : HItem} (h : QM W B qb mb F (.slice (some ⟨g, 0, none⟩) xs.length c) nx xs) (hi : xs[i]? = some x) (u : Int) :
    QM (W.setCell ⟨g, i * 2 + 1, none⟩ (.int .i64 u)) B qb mb F (.slice (some ⟨g, 0, none⟩) xs.length c) nx (xs.set i (x.1, u)) ∧ Onl qb mb W (.slice (some ⟨g, 0, none⟩) xs.length c) (W.setCell ⟨g, i * 2 + 1, none⟩ (.int .i64 u)) (.slice (some ⟨g, 0, none⟩) xs.length c) := by
  have hl := h.lt
  have hil := (List.getElem?_eq_some_iff.1 hi).1
  have n2 : g ≠ qb := fun e => h.n2 (by rw [← e]; rfl)
  have n3 : g ≠ mb := fun e => h.n3 (by rw [← e]; rfl)
  have hb : ∀ k, k ≠ g → (W.setCell ⟨g, i * 2 + 1, none⟩ (.int .i64 u)).heap[k]? = W.heap[k]? := fun k hk => Go.RowKit.Below.heap_setCell _ _ _ _ hk
  have hc : ∀ j, (W.setCell ⟨g, i * 2 + 1, none⟩ (.int .i64 u)).cell? ⟨qb, j, none⟩ = W.cell? ⟨qb, j, none⟩ := fun j => World.cell?_of_block (a := ⟨qb, j, none⟩) (hb qb (Ne.symm n2))
  have hf : ∀ j, (W.setCell ⟨g, i * 2 + 1, none⟩ (.int .i64 u)).frozen? ⟨qb, j, none⟩ = W.frozen? ⟨qb, j, none⟩ := fun j => World.frozen?_of_block (a := ⟨qb, j, none⟩) (hb qb (Ne.symm n2))
  have h' : W.ownsRow B 64 2 (.slice (some ⟨g, 0, none⟩) xs.length c) xs.length (hC xs) := h.row
  obtain ⟨h1, k1⟩ := h'.stored (i * 2 + 1) (.int .i64 u)
  have hrow : OH (W.setCell ⟨g, i * 2 + 1, none⟩ (.int .i64 u)) B (.slice (some ⟨g, 0, none⟩) xs.length c) (xs.set i (x.1, u)) := by
    unfold OH
    rw [hC_set, if_pos hil, List.length_set, set_same (hC_at xs i x hi).1]
    exact h1
  obtain ⟨f, hm, hp⟩ := h.map
  refine ⟨⟨(hc 0).trans h.c0, (hc 1).trans h.c1, (hc 2).trans h.c2, (hc 3).trans h.c3, (hc 4).trans h.c4, fun j => (hf j).trans (h.fz j), hrow, ⟨f, hm.same (hb mb (Ne.symm n3)), hp.setv hi u⟩, h.lo, h.n1, h.n2, h.n3, by rw [List.length_set]; exact h.len⟩, ?_⟩
  exact ⟨k1.os, k1.tape, k1.output, k1.size, fun k _ _ _ h3 => hb k (fun e => h3 (by rw [e]; rfl)), fun _ h => .inl h⟩
/-- The next handle is written. -/
theorem QM.setn {W : World} {B qb mb : Nat} {F v : Value} {nx : Int} {xs : List HItem} (h : QM W B qb mb F v nx xs) (ny : Int) :
    QM (W.setCell ⟨qb, 1, none⟩ (.int .i64 ny)) B qb mb F v ny xs ∧ Onl qb mb W v (W.setCell ⟨qb, 1, none⟩ (.int .i64 ny)) v := by
  have hl := h.lt
  have hb : ∀ k, k ≠ qb → (W.setCell ⟨qb, 1, none⟩ (.int .i64 ny)).heap[k]? = W.heap[k]? := fun k hk => Go.RowKit.Below.heap_setCell _ _ _ _ hk
  have ne : ∀ j, j ≠ 1 → (⟨qb, 1, none⟩ : Addr) ≠ ⟨qb, j, none⟩ := fun j hj e => by simp only [Addr.mk.injEq] at e; exact hj e.2.1.symm
  have hc : ∀ j, j ≠ 1 → (W.setCell ⟨qb, 1, none⟩ (.int .i64 ny)).cell? ⟨qb, j, none⟩ = W.cell? ⟨qb, j, none⟩ := fun j hj => World.cell?_setCell_other _ _ _ _ (ne j hj)
  obtain ⟨f, hm, hp⟩ := h.map
  refine ⟨⟨(hc 0 (by decide)).trans h.c0, World.cell?_setCell_same _ _ _ h.c1, (hc 2 (by decide)).trans h.c2, (hc 3 (by decide)).trans h.c3, (hc 4 (by decide)).trans h.c4, fun j => by rw [World.frozen?_setCell]; exact h.fz j, h.row.same fun k hk => hb k (fun e => h.n2 (by rw [hk, e])), ⟨f, hm.same (hb mb (Ne.symm h.n1)), hp⟩, h.lo, h.n1, h.n2, h.n3, h.len⟩, ?_⟩
  exact ⟨rfl, rfl, rfl, by simp, fun k _ h1 _ _ => hb k h1, fun _ h => .inl h⟩
set_option maxRecDepth 100000 in
set_option maxHeartbeats 1000000 in
theorem set_some (B qb mb : Nat) (F v : Value) (lt : Int → Int → Bool) (nx : Int) (S : List HItem) (k k' : Nat) (x : HItem) (u : Int) (W : World) (h : QS W B qb mb F v lt nx S) (hx : S[k]? = some x) (hp : PlaceP (befI lt) (S.eraseIdx k) k' (x.1, u)) :
    Calls Try.prog 25 #[.pointer (some ⟨qb, 0, none⟩), .int .i64 x.1, .int .i64 u] W fun e w' => e = .returned (.int .i64 0) ∧ RemR B qb mb F v lt nx (putL (S.eraseIdx k) k' (x.1, u)) W w' := by
  obtain ⟨xs, f, i, h1, h2, hm, hi, hf⟩ := h.at (List.mem_of_getElem? hx)
  have k1 := place_any B qb mb F _ nx xs x.1 f W h1 hm
  rw [hf] at k1
  simp only [Option.getD_some, Option.isSome_some, if_true] at k1
  have hl := (List.getElem?_eq_some_iff.1 hi).1
  obtain ⟨g, c, rfl, a1, a2, hz⟩ := h1.row.item hi
  obtain ⟨s1, s2⟩ := h1.setv hi u
  have hsl : (xs.set i (x.1, u)).length = xs.length := by rw [List.length_set]
  have k2 := (hfix_any B qb mb F _ nx _ lt h.ls h.wk i _ s1 (by rw [hsl]; exact hl) (HeapP.setHole (befI_weak h.wk) h2.heap hl)).mono (R' := fun e w' => e = .returned (.tuple #[]) ∧ Hid (RemR B qb mb F (.slice (some ⟨g, 0, none⟩) xs.length c) lt nx (putL (S.eraseIdx k) k' (x.1, u)) W w')) (by
    rintro e w' ⟨he, v', ys, g1, g2, g3, g4⟩
    exact ⟨he, Lib.hid ⟨v', ⟨⟨ys, g1, h2.set h.wk hx hi hp g2 g3⟩, h.ls, h.wk, h.n1⟩, s2.trans g4⟩⟩)
  have c3 := h1.c3
  have z1 := hz (i * 2 + 1)
  have i2 : (i : Int) < (xs.length : Int) := by omega
  generalize xs.length = n at *
  obtain ⟨xh, xv⟩ := x
  simp only at k1 k2 a1 a2
  unfold tI at k2
  clear h1 h2 h hx hm hf hi hp s1 s2 hsl hz
  go_enter Try.func25, Try.ntmps25
  go_wp2_with (first | (go_at_call 51; refine k1.mono ?_; rintro e w' ⟨rfl, hw⟩; subst hw) | (go_at_call 53; refine k2.mono ?_; rintro e w2 ⟨rfl, HR⟩))
  go_ret
  exact ⟨rfl, HR.out⟩
theorem set_none (B qb mb : Nat) (F v : Value) (lt : Int → Int → Bool) (nx : Int) (S : List HItem) (hd u : Int) (W : World) (h : QS W B qb mb F v lt nx S) (hx : ∀ y ∈ S, y.1 ≠ hd) :
    Calls Try.prog 25 #[.pointer (some ⟨qb, 0, none⟩), .int .i64 hd, .int .i64 u] W fun e w' => e = .returned (.int .i64 4) ∧ w' = W := by
  obtain ⟨xs, f, h1, h2, hm, hf⟩ := h.not hx
  have k1 := place_any B qb mb F _ nx xs hd f W h1 hm
  rw [hf] at k1
  simp only [Option.getD_none, Option.isSome_none, Bool.false_eq_true, if_false] at k1
  clear h1 h2 h hx hm hf
  go_enter Try.func25, Try.ntmps25
  go_wp2_with (first | (go_at_call 51; refine k1.mono ?_; rintro e w' ⟨rfl, hw⟩; subst hw))
  go_ret
  exact ⟨rfl, rfl⟩
theorem set_no (q : Value) (hd u : Int) (W : World) (h : NoQ W q) :
    Calls Try.prog 25 #[q, .int .i64 hd, .int .i64 u] W fun e w' => e = .returned (.int .i64 1) ∧ w' = W := by
  have k1 := place_no q hd W h
  clear h
  go_enter Try.func25, Try.ntmps25
  go_wp2_with (first | (go_at_call 51; refine k1.mono ?_; rintro e w' ⟨rfl, hw⟩; subst hw))
  go_ret
  exact ⟨rfl, rfl⟩
set_option maxRecDepth 100000 in
set_option maxHeartbeats 2000000 in
theorem push_some (B qb mb : Nat) (F v : Value) (lt : Int → Int → Bool) (nx : Int) (S : List HItem) (k : Nat) (u : Int) (W : World) (h : QS W B qb mb F v lt nx S) (hp : PlaceP (befI lt) S k (nx, u)) (hl : S.length < 5000) (hn : nx < 1000000000000000) :
    Calls Try.prog 20 #[.pointer (some ⟨qb, 0, none⟩), .int .i64 u] W fun e w' => e = .returned (.tuple #[.int .i64 nx, .int .i64 0]) ∧ RemR B qb mb F v lt (nx + 1) (putL S k (nx, u)) W w' := by
  obtain ⟨xs, h1, h2⟩ := h.mem
  have hlen := h2.len
  have hn1 := h.n1
  have k1 := made_yes qb W h1.c0
  have k2 := h1.tlen
  obtain ⟨s1, s2⟩ := h1.setn (nx + 1)
  have k3 := (hpush_any B qb mb F v (nx + 1) xs (nx, u) lt h.ls h.wk _ s1 (fun y hy => by have := (h2.low y (h2.perm.mem_iff.1 hy)).2; show y.1 ≠ nx; omega) (by omega) h2.heap).mono (R' := fun e w' => e = .returned (.tuple #[]) ∧ Hid (RemR B qb mb F v lt (nx + 1) (putL S k (nx, u)) W w')) (by
    rintro e w' ⟨he, v', ys, g1, g2, g3, g4⟩
    exact ⟨he, Lib.hid ⟨v', ⟨⟨ys, g1, h2.push h.wk hn1.1 hp g2 g3⟩, h.ls, h.wk, by omega⟩, s2.trans g4⟩⟩)
  have c1 := h1.c1
  have f1 := h1.fz 1
  have i1 : IntKind.i64.wrap (nx + 1) = nx + 1 := IntWalk.i64_in _ (by omega)
  have i2 : ¬ (xs.length : Int) ≥ 5000 := by omega
  have i3 : ¬ nx ≥ 1000000000000000 := by omega
  have i4 : xs.length < 5000 := by omega
  generalize xs.length = n at *
  simp only at k3
  unfold tI at k3
  clear h1 h2 h hp s1 s2 hlen
  go_enter Try.func20, Try.ntmps20
  go_wp2_with (first | (go_at_call 47; refine k1.mono ?_; rintro e w' ⟨rfl, hw⟩; subst hw) | (go_at_call 49; refine k2.mono ?_; rintro e w' ⟨rfl, hw⟩; subst hw) | (go_at_call 50; refine k3.mono ?_; rintro e w2 ⟨rfl, HR⟩))
  refine bodyPost_ret (v := .tuple #[.int .i64 nx, .int .i64 0]) (by simp [results, Try.results20, go_sem]) rfl ?_
  exact ⟨rfl, HR.out⟩
set_option maxRecDepth 100000 in
set_option maxHeartbeats 2000000 in
theorem push_full (B qb mb : Nat) (F v : Value) (lt : Int → Int → Bool) (nx : Int) (S : List HItem) (u : Int) (W : World) (h : QS W B qb mb F v lt nx S) (hl : S.length < 5000) (hn : ¬ nx < 1000000000000000) :
    Calls Try.prog 20 #[.pointer (some ⟨qb, 0, none⟩), .int .i64 u] W fun e w' => e = .returned (.tuple #[.int .i64 0, .int .i64 5]) ∧ w' = W := by
  obtain ⟨xs, h1, h2⟩ := h.mem
  have hlen := h2.len
  have k1 := made_yes qb W h1.c0
  have k2 := h1.tlen
  have c1 := h1.c1
  have i2 : ¬ (xs.length : Int) ≥ 5000 := by omega
  have i3 : nx ≥ 1000000000000000 := by omega
  have i4 : xs.length < 5000 := by omega
  generalize xs.length = n at *
  clear h1 h2 h hlen
  go_enter Try.func20, Try.ntmps20
  go_wp2_with (first | (go_at_call 47; refine k1.mono ?_; rintro e w' ⟨rfl, hw⟩; subst hw) | (go_at_call 49; refine k2.mono ?_; rintro e w' ⟨rfl, hw⟩; subst hw))
  refine bodyPost_ret (v := .tuple #[.int .i64 0, .int .i64 5]) (by simp [results, Try.results20, go_sem]) rfl ?_
  exact ⟨rfl, rfl⟩
theorem push_no (q : Value) (u : Int) (W : World) (h : NoQ W q) :
    Calls Try.prog 20 #[q, .int .i64 u] W fun e w' => e = .returned (.tuple #[.int .i64 0, .int .i64 1]) ∧ w' = W := by
  have k1 := made_no q W h
  clear h
  go_enter Try.func20, Try.ntmps20
  go_wp2_with (first | (go_at_call 47; refine k1.mono ?_; rintro e w' ⟨rfl, hw⟩; subst hw))
  refine bodyPost_ret (v := .tuple #[.int .i64 0, .int .i64 1]) (by simp [results, Try.results20, go_sem]) rfl ?_
  exact ⟨rfl, rfl⟩
set_option maxRecDepth 100000 in
set_option maxHeartbeats 2000000 in
theorem pop_some (B qb mb : Nat) (F v : Value) (lt : Int → Int → Bool) (nx : Int) (x : HItem) (l : List HItem) (W : World) (h : QS W B qb mb F v lt nx (x :: l)) :
    Calls Try.prog 21 #[.pointer (some ⟨qb, 0, none⟩)] W fun e w' => e = .returned (.tuple #[.int .i64 x.1, .int .i64 x.2, .int .i64 0]) ∧ RemR B qb mb F v lt nx l W w' := by
  have k1 := peek_some B qb mb F v lt nx x l W h
  have k2 : ∀ w', Grew W w' → Calls Try.prog 24 #[.pointer (some ⟨qb, 0, none⟩), .int .i64 x.1] w' fun e w'' => e = .returned (.tuple #[.int .i64 x.2, .int .i64 0]) ∧ Hid (RemR B qb mb F v lt nx l W w'') := fun w' hG =>
    (remove_some B qb mb F v lt nx (x :: l) 0 x w' (h.later hG.below) rfl).mono fun e w'' ⟨he, v', g1, g2⟩ => ⟨he, Lib.hid ⟨v', g1, (Onl.grew v hG).trans g2⟩⟩
  obtain ⟨xh, xv⟩ := x
  simp only at k1 k2
  clear h
  go_enter Try.func21, Try.ntmps21
  go_wp2_with (first | (go_at_call 22; refine k1.mono ?_; rintro e w' ⟨rfl, hG⟩; have k3 := k2 w' hG; clear k2 hG) | (go_at_call 24; refine k3.mono ?_; rintro e w2 ⟨rfl, HR⟩))
  refine bodyPost_ret (v := .tuple #[.int .i64 xh, .int .i64 xv, .int .i64 0]) (by simp [results, Try.results21, go_sem]) rfl ?_
  exact ⟨rfl, HR.out⟩
theorem pop_none (B qb mb : Nat) (F v : Value) (lt : Int → Int → Bool) (nx : Int) (W : World) (h : QS W B qb mb F v lt nx []) :
    Calls Try.prog 21 #[.pointer (some ⟨qb, 0, none⟩)] W fun e w' => e = .returned (.tuple #[.int .i64 0, .int .i64 0, .int .i64 4]) ∧ w' = W := by
  have k1 := peek_none B qb mb F v lt nx W h
  clear h
  go_enter Try.func21, Try.ntmps21
  go_wp2_with (first | (go_at_call 22; refine k1.mono ?_; rintro e w' ⟨rfl, hw⟩; subst hw))
  refine bodyPost_ret (v := .tuple #[.int .i64 0, .int .i64 0, .int .i64 4]) (by simp [results, Try.results21, go_sem]) rfl ?_
  exact ⟨rfl, rfl⟩
theorem pop_no (q : Value) (W : World) (h : NoQ W q) :
    Calls Try.prog 21 #[q] W fun e w' => e = .returned (.tuple #[.int .i64 0, .int .i64 0, .int .i64 1]) ∧ w' = W := by
  have k1 := peek_no q W h
  clear h
  go_enter Try.func21, Try.ntmps21
  go_wp2_with (first | (go_at_call 22; refine k1.mono ?_; rintro e w' ⟨rfl, hw⟩; subst hw))
  refine bodyPost_ret (v := .tuple #[.int .i64 0, .int .i64 0, .int .i64 1]) (by simp [results, Try.results21, go_sem]) rfl ?_
  exact ⟨rfl, rfl⟩
end Go.Proofs.Ytcppgefnocjdiaa
