/- A queue: New, isMade, place, Len, Peek, Get. -/
import Derived.Test.YtcppgefnocjdiaaHeapsK
import Derived.Test.YtcppgefnocjdiaaHeapsO
import Derived.Laws.ResultCell
import Derived.Laws.StructEq
import Derived.LaidEqlPtr
namespace Go.Proofs.Ytcppgefnocjdiaa
open Go.RowKit Go.Lib Go.Sort Go.Shelf
set_option linter.unusedVariables false

/-- A queue with the values S in order. -/
structure QS (W : World) (B qb mb : Nat) (F v : Value) (lt : Int → Int → Bool) (nx : Int) (S : List HItem) : Prop where
  mem : ∃ xs, QM W B qb mb F v nx xs ∧ QI lt xs S nx
  ls : LessC F lt
  wk : WeakB lt
  n1 : 1 ≤ nx ∧ nx ≤ 1000000000000000
theorem QS.same {W W' : World} {B qb mb : Nat} {F v : Value} {lt : Int → Int → Bool} {nx : Int} {S : List HItem} (h : QS W B qb mb F v lt nx S) (hb : ∀ g, (g = qb ∨ g = mb ∨ v.ownBlock = some g) → W'.heap[g]? = W.heap[g]?) : QS W' B qb mb F v lt nx S := by
  obtain ⟨⟨xs, h1, h2⟩, h3, h4, h5⟩ := h
  exact ⟨⟨xs, h1.same hb, h2⟩, h3, h4, h5⟩
theorem QS.later {W W' : World} {B qb mb : Nat} {F v : Value} {lt : Int → Int → Bool} {nx : Int} {S : List HItem} (h : QS W B qb mb F v lt nx S) (hb : Go.RowKit.Below W.heap.size W W') : QS W' B qb mb F v lt nx S := by
  obtain ⟨⟨xs, h1, h2⟩, h3, h4, h5⟩ := h
  exact ⟨⟨xs, h1.later hb, h2⟩, h3, h4, h5⟩
/-- A pointer that New or Load did not return. -/
def NoQ (W : World) (q : Value) : Prop := q = .pointer none ∨ ∃ b, q = .pointer (some ⟨b, 0, none⟩) ∧ W.cell? ⟨b, 0, none⟩ = some (.pointer none)

theorem infoQ : (Try.prog.info? 47).map (·.size) = some 5 := by kernel_rfl
theorem eql_same (g : Nat) (w : World) : (binOp .eql 27 (.pointer (some ⟨g, 0, none⟩)) (.pointer (some ⟨g, 0, none⟩))).run Try.prog w = .ok (.bool true) w := by
  obtain ⟨j, hj, hjs⟩ := Option.map_eq_some_iff.1 infoQ
  have h : ∀ d : Nat, (Op.equalIn (d + 1) 27 (.pointer (some ⟨g, 0, none⟩)) (.pointer (some ⟨g, 0, none⟩))).run Try.prog w = .ok true w := fun d => by
    simp [Op.equalIn, run_underlying Try.underlying27, sizeOf, typeInfo, hj, run_sameAddr_same]
  simp only [binOp]
  simp [Op.equal, Op.maxDepth, h 9999]
theorem eql_none (g : Nat) (w : World) : (binOp .eql 27 (.pointer none) (.pointer (some ⟨g, 0, none⟩))).run Try.prog w = .ok (.bool false) w := by
  have h : ∀ d : Nat, (Op.equalIn (d + 1) 27 (.pointer none) (.pointer (some ⟨g, 0, none⟩))).run Try.prog w = .ok false w := fun d => by
    simp [Op.equalIn, run_underlying Try.underlying27]
  simp only [binOp]
  simp [Op.equal, Op.maxDepth, h 9999]
theorem fun_some (g : FuncId) (cb : Array Value) (w : World) : (binOp .eql 29 (.func (.func g) #[] cb) .nilFunc).run Try.prog w = .ok (.bool false) w := by
  have h : ∀ d : Nat, (Op.equalIn (d + 1) 29 (.func (.func g) #[] cb) .nilFunc).run Try.prog w = .ok false w := fun d => by
    simp [Op.equalIn, run_underlying Try.underlying29]
  simp only [binOp]
  simp [Op.equal, Op.maxDepth, h 9999]
theorem fun_none (w : World) : (binOp .eql 29 .nilFunc .nilFunc).run Try.prog w = .ok (.bool true) w := by
  have h : ∀ d : Nat, (Op.equalIn (d + 1) 29 .nilFunc .nilFunc).run Try.prog w = .ok true w := fun d => by
    simp [Op.equalIn, run_underlying Try.underlying29]
  simp only [binOp]
  simp [Op.equal, Op.maxDepth, h 9999]
theorem made_yes (qb : Nat) (W : World) (h : W.cell? ⟨qb, 0, none⟩ = some (.pointer (some ⟨qb, 0, none⟩))) :
    Calls Try.prog 47 #[.pointer (some ⟨qb, 0, none⟩)] W fun e w' => e = .returned (.bool true) ∧ w' = W := by
  have e2 := eql_same qb
  go_enter Try.func47, Try.ntmps47
  go_wp2_with fail
  go_ret
  exact ⟨rfl, rfl⟩
theorem made_no (q : Value) (W : World) (h : NoQ W q) :
    Calls Try.prog 47 #[q] W fun e w' => e = .returned (.bool false) ∧ w' = W := by
  rcases h with rfl | ⟨b, rfl, h⟩
  · go_enter Try.func47, Try.ntmps47
    go_wp2_with fail
    go_ret
    exact ⟨rfl, rfl⟩
  · have e2 := eql_none b
    go_enter Try.func47, Try.ntmps47
    go_wp2_with fail
    go_ret
    exact ⟨rfl, rfl⟩
set_option maxRecDepth 100000 in
set_option maxHeartbeats 1000000 in
/-- Where the value with a handle is: its place among xs, or none. -/
theorem place_any (B qb mb : Nat) (F v : Value) (nx : Int) (xs : List HItem) (hd : Int) (f : Int → Option Int) (W : World) (h : QM W B qb mb F v nx xs) (hm : PM W mb f) :
    Calls Try.prog 51 #[.pointer (some ⟨qb, 0, none⟩), .int .i64 hd] W fun e w' => e = .returned (.tuple #[.int .i64 ((f hd).getD 0), .int .i64 (if (f hd).isSome then 0 else 4)]) ∧ w' = W := by
  have k1 := made_yes qb W h.c0
  have c4 := h.c4
  have r1 := hm.look hd
  generalize f hd = o at r1 ⊢
  clear h hm
  cases o with
  | none =>
    simp only [Option.getD_none, Option.isSome_none] at r1
    go_enter Try.func51, Try.ntmps51
    go_wp2_with (go_at_call 47; refine k1.mono ?_; rintro e w' ⟨rfl, hw⟩; subst hw)
    go_ret2
    exact ⟨rfl, rfl⟩
  | some p =>
    simp only [Option.getD_some, Option.isSome_some] at r1
    go_enter Try.func51, Try.ntmps51
    go_wp2_with (go_at_call 47; refine k1.mono ?_; rintro e w' ⟨rfl, hw⟩; subst hw)
    go_ret2
    exact ⟨rfl, rfl⟩
theorem place_no (q : Value) (hd : Int) (W : World) (h : NoQ W q) :
    Calls Try.prog 51 #[q, .int .i64 hd] W fun e w' => e = .returned (.tuple #[.int .i64 0, .int .i64 1]) ∧ w' = W := by
  have k1 := made_no q W h
  clear h
  go_enter Try.func51, Try.ntmps51
  go_wp2_with (go_at_call 47; refine k1.mono ?_; rintro e w' ⟨rfl, hw⟩; subst hw)
  go_ret2
  exact ⟨rfl, rfl⟩
theorem len_any (B qb mb : Nat) (F v : Value) (nx : Int) (xs : List HItem) (W : World) (h : QM W B qb mb F v nx xs) :
    Calls Try.prog 26 #[.pointer (some ⟨qb, 0, none⟩)] W fun e w' => e = .returned (.int .i64 xs.length) ∧ w' = W := by
  have k1 := made_yes qb W h.c0
  have k2 := h.tlen
  generalize xs.length = n at k2 ⊢
  clear h
  go_enter Try.func26, Try.ntmps26
  go_wp2_with (first | (go_at_call 47; refine k1.mono ?_; rintro e w' ⟨rfl, hw⟩; subst hw) | (go_at_call 49; refine k2.mono ?_; rintro e w' ⟨rfl, hw⟩; subst hw))
  go_ret
  exact ⟨rfl, rfl⟩
theorem len_no (q : Value) (W : World) (h : NoQ W q) :
    Calls Try.prog 26 #[q] W fun e w' => e = .returned (.int .i64 0) ∧ w' = W := by
  have k1 := made_no q W h
  clear h
  go_enter Try.func26, Try.ntmps26
  go_wp2_with (first | (go_at_call 47; refine k1.mono ?_; rintro e w' ⟨rfl, hw⟩; subst hw))
  go_ret
  exact ⟨rfl, rfl⟩
theorem row_new (W : World) (cs : Array Value) (T : TypeId) (g j : Nat) (hg : g = W.heap.size) : (W.alloc (.cells cs T)).cell? ⟨g, j, none⟩ = cs[j]? ∧ (W.alloc (.cells cs T)).frozen? ⟨g, j, none⟩ = false := by
  subst hg
  have hb : (W.alloc (.cells cs T)).heap[W.heap.size]? = some (.cells cs T (0, 0)) := heap_alloc_new W _
  exact ⟨cell_of_row _ _ _ _ _ _ hb, by unfold World.frozen?; rw [hb]; simp⟩
/-- The memory of a new queue. -/
theorem new_mem (W : World) (F : Value) (qb : Nat) (hq : qb = W.heap.size + 1) {mb : Nat} (hm : mb = W.heap.size) :
    QM ((W.alloc (.map #[] 0)).alloc (.cells #[.pointer (some ⟨qb, 0, none⟩), .int .i64 1, F, .slice none 0 0, .map (some mb)] 47)) W.heap.size qb mb F (.slice none 0 0) 1 [] := by
  have hg : qb = (W.alloc (.map #[] 0)).heap.size := by rw [hq]; simp
  have r := fun j => row_new (W.alloc (.map #[] 0)) #[.pointer (some ⟨qb, 0, none⟩), .int .i64 1, F, .slice none 0 0, .map (some mb)] 47 qb j hg
  refine ⟨(r 0).1, (r 1).1, (r 2).1, (r 3).1, (r 4).1, fun j => (r j).2, OH.nil _ _, ⟨fun _ => none, ⟨#[], 0, ?_, MK.empty 0⟩, Plc.nil⟩, ⟨by omega, by omega⟩, by omega, by simp [Value.ownBlock], by simp [Value.ownBlock], by simp⟩
  subst hm
  exact ((World.grownBy_alloc _ _ none).block _ (by simp) (by simp)).trans (heap_alloc_new W _)
set_option maxRecDepth 100000 in
set_option maxHeartbeats 1000000 in
/-- New. -/
theorem new_any (F : Value) (g : FuncId) (cb : Array Value) (hF : F = .func (.func g) #[] cb) (W : World) :
    Calls Try.prog 11 #[F] W fun e w' => ∃ qb mb, e = .returned (.pointer (some ⟨qb, 0, none⟩)) ∧ QM w' W.heap.size qb mb F (.slice none 0 0) 1 [] ∧ Go.RowKit.Below W.heap.size W w' := by
  have hmm := @run_makeMap Try.prog
  subst hF
  have e1 := fun_some g cb
  go_enter Try.func11, Try.ntmps11
  go_wp2_with fail
  go_ret
  refine ⟨_, _, rfl, new_mem W _ _ rfl rfl, ((Go.RowKit.Below.refl _ W).alloc (Nat.le_refl _) _).alloc (by simp) _⟩
/-- New without an order. -/
theorem new_none (W : World) : Calls Try.prog 11 #[.nilFunc] W fun e w' => e = .returned (.pointer none) ∧ w' = W := by
  have e1 := fun_none
  go_enter Try.func11, Try.ntmps11
  go_wp2_with fail
  go_ret
  exact ⟨rfl, rfl⟩
end Go.Proofs.Ytcppgefnocjdiaa
