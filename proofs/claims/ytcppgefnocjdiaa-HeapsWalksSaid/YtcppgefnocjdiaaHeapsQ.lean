/- A queue: Peek, Get, Remove, Set. -/
import Derived.Test.YtcppgefnocjdiaaHeapsL
namespace Go.Proofs.Ytcppgefnocjdiaa
open Go.RowKit Go.Lib Go.Sort Go.Shelf
set_option linter.unusedVariables false

theorem field_value (x y : Int) (w : World) : (Instr.field 64 (.agg #[.int .i64 x, .int .i64 y]) 1).run Try.prog w = .ok (.int .i64 y) w := by kernel_rfl
theorem QS.len {W : World} {B qb mb : Nat} {F v : Value} {lt : Int → Int → Bool} {nx : Int} {S : List HItem} (h : QS W B qb mb F v lt nx S) :
    Calls Try.prog 26 #[.pointer (some ⟨qb, 0, none⟩)] W fun e w' => e = .returned (.int .i64 S.length) ∧ w' = W := by
  obtain ⟨xs, h1, h2⟩ := h.mem
  rw [← h2.len]
  exact len_any B qb mb F v nx xs W h1
set_option maxRecDepth 100000 in
set_option maxHeartbeats 1000000 in
theorem peek_some (B qb mb : Nat) (F v : Value) (lt : Int → Int → Bool) (nx : Int) (x : HItem) (l : List HItem) (W : World) (h : QS W B qb mb F v lt nx (x :: l)) :
    Calls Try.prog 22 #[.pointer (some ⟨qb, 0, none⟩)] W fun e w' => e = .returned (.tuple #[.int .i64 x.1, .int .i64 x.2, .int .i64 0]) ∧ Grew W w' := by
  have mixed : Try.prog.follows .mixedOrders = true := by kernel_rfl
  obtain ⟨xs, h1, h2⟩ := h.mem
  have hx := h2.first h.wk rfl
  obtain ⟨g, c, rfl, a1, a2, _⟩ := h1.row.item hx
  have hl : 0 < xs.length := (List.getElem?_eq_some_iff.1 hx).1
  have k1 := made_yes qb W h1.c0
  have k2 := h1.tlen
  have c3 := h1.c3
  have i1 : ((xs.length : Int) == 0) = false := by simp; exact List.ne_nil_of_length_pos hl
  have i2 : (0 : Int) < (xs.length : Int) := by omega
  generalize xs.length = n at *
  obtain ⟨xh, xv⟩ := x
  simp only [Nat.zero_mul, Nat.zero_add] at a1 a2
  clear h1 h2 h hx
  go_enter Try.func22, Try.ntmps22
  go_wp2_with (first | (go_at_call 47; refine k1.mono ?_; rintro e w' ⟨rfl, hw⟩; subst hw) | (go_at_call 49; refine k2.mono ?_; rintro e w' ⟨rfl, hw⟩; subst hw))
  have hG : Grew w' (w'.alloc (.cells #[.int .i64 xh, .int .i64 xv] 64)) := (Grew.refl w').alloc _
  obtain ⟨p0, p1⟩ := box2 w' (.int .i64 xh) (.int .i64 xv) 64 w'.heap.size rfl
  generalize w'.alloc (.cells #[.int .i64 xh, .int .i64 xv] 64) = wq at hG p0 p1 ⊢
  generalize w'.heap.size = p at p0 p1 ⊢
  go_big_region_o
  all_goals
    go_wp2_with fail
    refine bodyPost_ret (v := .tuple #[.int .i64 xh, .int .i64 xv, .int .i64 0]) (by simp [results, Try.results22, go_sem]) rfl ?_
    exact ⟨rfl, hG.drew⟩
theorem peek_none (B qb mb : Nat) (F v : Value) (lt : Int → Int → Bool) (nx : Int) (W : World) (h : QS W B qb mb F v lt nx []) :
    Calls Try.prog 22 #[.pointer (some ⟨qb, 0, none⟩)] W fun e w' => e = .returned (.tuple #[.int .i64 0, .int .i64 0, .int .i64 4]) ∧ w' = W := by
  obtain ⟨xs, h1, h2⟩ := h.mem
  have k1 := made_yes qb W h1.c0
  have k2 := h1.tlen
  have hl : xs.length = 0 := h2.len
  rw [hl] at k2
  clear h1 h2 h
  go_enter Try.func22, Try.ntmps22
  go_wp2_with (first | (go_at_call 47; refine k1.mono ?_; rintro e w' ⟨rfl, hw⟩; subst hw) | (go_at_call 49; refine k2.mono ?_; rintro e w' ⟨rfl, hw⟩; subst hw))
  refine bodyPost_ret (v := .tuple #[.int .i64 0, .int .i64 0, .int .i64 4]) (by simp [results, Try.results22, go_sem]) rfl ?_
  exact ⟨rfl, rfl⟩
theorem peek_no (q : Value) (W : World) (h : NoQ W q) :
    Calls Try.prog 22 #[q] W fun e w' => e = .returned (.tuple #[.int .i64 0, .int .i64 0, .int .i64 1]) ∧ w' = W := by
  have k1 := made_no q W h
  clear h
  go_enter Try.func22, Try.ntmps22
  go_wp2_with (first | (go_at_call 47; refine k1.mono ?_; rintro e w' ⟨rfl, hw⟩; subst hw))
  refine bodyPost_ret (v := .tuple #[.int .i64 0, .int .i64 0, .int .i64 1]) (by simp [results, Try.results22, go_sem]) rfl ?_
  exact ⟨rfl, rfl⟩
/-- Where in the tree a value of the list is. -/
theorem QS.at {W : World} {B qb mb : Nat} {F v : Value} {lt : Int → Int → Bool} {nx : Int} {S : List HItem} (h : QS W B qb mb F v lt nx S) {x : HItem} (hx : x ∈ S) :
    ∃ xs f i, QM W B qb mb F v nx xs ∧ QI lt xs S nx ∧ PM W mb f ∧ xs[i]? = some x ∧ f x.1 = some ((i : Nat) : Int) := by
  obtain ⟨xs, h1, h2⟩ := h.mem
  obtain ⟨f, hm, hp⟩ := h1.map
  obtain ⟨i, hi⟩ := List.mem_iff_getElem?.1 (h2.perm.mem_iff.2 hx)
  exact ⟨xs, f, i, h1, h2, hm, hi, hp.at hi⟩
theorem QS.not {W : World} {B qb mb : Nat} {F v : Value} {lt : Int → Int → Bool} {nx : Int} {S : List HItem} (h : QS W B qb mb F v lt nx S) {hd : Int} (hx : ∀ y ∈ S, y.1 ≠ hd) :
    ∃ xs f, QM W B qb mb F v nx xs ∧ QI lt xs S nx ∧ PM W mb f ∧ f hd = none := by
  obtain ⟨xs, h1, h2⟩ := h.mem
  obtain ⟨f, hm, hp⟩ := h1.map
  exact ⟨xs, f, h1, h2, hm, hp.none fun y hy => hx y (h2.perm.mem_iff.1 hy)⟩
set_option maxRecDepth 100000 in
set_option maxHeartbeats 1000000 in
theorem get_some (B qb mb : Nat) (F v : Value) (lt : Int → Int → Bool) (nx : Int) (S : List HItem) (x : HItem) (W : World) (h : QS W B qb mb F v lt nx S) (hx : x ∈ S) :
    Calls Try.prog 23 #[.pointer (some ⟨qb, 0, none⟩), .int .i64 x.1] W fun e w' => e = .returned (.tuple #[.int .i64 x.2, .int .i64 0]) ∧ w' = W := by
  obtain ⟨xs, f, i, h1, h2, hm, hi, hf⟩ := h.at hx
  obtain ⟨g, c, rfl, a1, a2, _⟩ := h1.row.item hi
  have k1 := place_any B qb mb F _ nx xs x.1 f W h1 hm
  rw [hf] at k1
  simp only [Option.getD_some, Option.isSome_some, if_true] at k1
  have hl := (List.getElem?_eq_some_iff.1 hi).1
  have c3 := h1.c3
  have i2 : (i : Int) < (xs.length : Int) := by omega
  generalize xs.length = n at *
  obtain ⟨xh, xv⟩ := x
  simp only at a1 a2 k1
  clear h1 h2 h hx hm hf hi
  go_enter Try.func23, Try.ntmps23
  go_wp2_with (first | (go_at_call 51; refine k1.mono ?_; rintro e w' ⟨rfl, hw⟩; subst hw))
  refine bodyPost_ret (v := .tuple #[.int .i64 xv, .int .i64 0]) (by simp [results, Try.results23, go_sem]) rfl ?_
  exact ⟨rfl, rfl⟩
theorem get_none (B qb mb : Nat) (F v : Value) (lt : Int → Int → Bool) (nx : Int) (S : List HItem) (hd : Int) (W : World) (h : QS W B qb mb F v lt nx S) (hx : ∀ y ∈ S, y.1 ≠ hd) :
    Calls Try.prog 23 #[.pointer (some ⟨qb, 0, none⟩), .int .i64 hd] W fun e w' => e = .returned (.tuple #[.int .i64 0, .int .i64 4]) ∧ w' = W := by
  obtain ⟨xs, f, h1, h2, hm, hf⟩ := h.not hx
  have k1 := place_any B qb mb F _ nx xs hd f W h1 hm
  rw [hf] at k1
  simp only [Option.getD_none, Option.isSome_none, Bool.false_eq_true, if_false] at k1
  clear h1 h2 h hx hm hf
  go_enter Try.func23, Try.ntmps23
  go_wp2_with (first | (go_at_call 51; refine k1.mono ?_; rintro e w' ⟨rfl, hw⟩; subst hw))
  refine bodyPost_ret (v := .tuple #[.int .i64 0, .int .i64 4]) (by simp [results, Try.results23, go_sem]) rfl ?_
  exact ⟨rfl, rfl⟩
theorem get_no (q : Value) (hd : Int) (W : World) (h : NoQ W q) :
    Calls Try.prog 23 #[q, .int .i64 hd] W fun e w' => e = .returned (.tuple #[.int .i64 0, .int .i64 1]) ∧ w' = W := by
  have k1 := place_no q hd W h
  clear h
  go_enter Try.func23, Try.ntmps23
  go_wp2_with (first | (go_at_call 51; refine k1.mono ?_; rintro e w' ⟨rfl, hw⟩; subst hw))
  refine bodyPost_ret (v := .tuple #[.int .i64 0, .int .i64 1]) (by simp [results, Try.results23, go_sem]) rfl ?_
  exact ⟨rfl, rfl⟩
/-- What Remove leaves of a queue with the values S, of which x is the k-th. -/
def RemR (B qb mb : Nat) (F v : Value) (lt : Int → Int → Bool) (nx : Int) (S : List HItem) (W : World) (w' : World) : Prop := ∃ v', QS w' B qb mb F v' lt nx S ∧ Onl qb mb W v w' v'
set_option maxRecDepth 100000 in
set_option maxHeartbeats 1000000 in
theorem remove_some (B qb mb : Nat) (F v : Value) (lt : Int → Int → Bool) (nx : Int) (S : List HItem) (k : Nat) (x : HItem) (W : World) (h : QS W B qb mb F v lt nx S) (hx : S[k]? = some x) :
    Calls Try.prog 24 #[.pointer (some ⟨qb, 0, none⟩), .int .i64 x.1] W fun e w' => e = .returned (.tuple #[.int .i64 x.2, .int .i64 0]) ∧ RemR B qb mb F v lt nx (S.eraseIdx k) W w' := by
  obtain ⟨xs, f, i, h1, h2, hm, hi, hf⟩ := h.at (List.mem_of_getElem? hx)
  have k1 := place_any B qb mb F _ nx xs x.1 f W h1 hm
  rw [hf] at k1
  simp only [Option.getD_some, Option.isSome_some, if_true] at k1
  have hl := (List.getElem?_eq_some_iff.1 hi).1
  have k2 := (hremove_any B qb mb F v nx xs lt h.ls h.wk i W h1 hl h2.heap).mono (R' := fun e w' => e = .returned (.iface 64 (.agg #[.int .i64 x.1, .int .i64 x.2])) ∧ Hid (RemR B qb mb F v lt nx (S.eraseIdx k) W w')) (by
    rintro e w' ⟨he, v', ys, g1, g2, g3, g4⟩
    rw [getD_of hi] at he g2
    exact ⟨he, Lib.hid ⟨v', ⟨⟨ys, g1, h2.remove hx g2 g3⟩, h.ls, h.wk, h.n1⟩, g4⟩⟩)
  have hta : ∀ (u : Value) (w : World), (Instr.typeAssert (.iface 64 u) 20 64 false).run Try.prog w = .ok u w := fun _ _ => by kernel_rfl
  have hfd := field_value
  obtain ⟨xh, xv⟩ := x
  simp only at k1 k2
  unfold tI at k2
  clear h1 h2 h hx hm hf hi
  go_enter Try.func24, Try.ntmps24
  go_wp2_with (first | (go_at_call 51; refine k1.mono ?_; rintro e w' ⟨rfl, hw⟩; subst hw) | (go_at_call 52; refine k2.mono ?_; rintro e w2 ⟨rfl, HR⟩))
  refine bodyPost_ret (v := .tuple #[.int .i64 xv, .int .i64 0]) (by simp [results, Try.results24, go_sem]) rfl ?_
  exact ⟨rfl, HR.out⟩
theorem remove_none (B qb mb : Nat) (F v : Value) (lt : Int → Int → Bool) (nx : Int) (S : List HItem) (hd : Int) (W : World) (h : QS W B qb mb F v lt nx S) (hx : ∀ y ∈ S, y.1 ≠ hd) :
    Calls Try.prog 24 #[.pointer (some ⟨qb, 0, none⟩), .int .i64 hd] W fun e w' => e = .returned (.tuple #[.int .i64 0, .int .i64 4]) ∧ w' = W := by
  obtain ⟨xs, f, h1, h2, hm, hf⟩ := h.not hx
  have k1 := place_any B qb mb F _ nx xs hd f W h1 hm
  rw [hf] at k1
  simp only [Option.getD_none, Option.isSome_none, Bool.false_eq_true, if_false] at k1
  clear h1 h2 h hx hm hf
  go_enter Try.func24, Try.ntmps24
  go_wp2_with (first | (go_at_call 51; refine k1.mono ?_; rintro e w' ⟨rfl, hw⟩; subst hw))
  refine bodyPost_ret (v := .tuple #[.int .i64 0, .int .i64 4]) (by simp [results, Try.results24, go_sem]) rfl ?_
  exact ⟨rfl, rfl⟩
theorem remove_no (q : Value) (hd : Int) (W : World) (h : NoQ W q) :
    Calls Try.prog 24 #[q, .int .i64 hd] W fun e w' => e = .returned (.tuple #[.int .i64 0, .int .i64 1]) ∧ w' = W := by
  have k1 := place_no q hd W h
  clear h
  go_enter Try.func24, Try.ntmps24
  go_wp2_with (first | (go_at_call 51; refine k1.mono ?_; rintro e w' ⟨rfl, hw⟩; subst hw))
  refine bodyPost_ret (v := .tuple #[.int .i64 0, .int .i64 1]) (by simp [results, Try.results24, go_sem]) rfl ?_
  exact ⟨rfl, rfl⟩
end Go.Proofs.Ytcppgefnocjdiaa
