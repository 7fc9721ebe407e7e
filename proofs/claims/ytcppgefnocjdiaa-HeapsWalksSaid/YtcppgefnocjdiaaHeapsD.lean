/- Len, has, Less of a queue's tree. -/
import Derived.Test.YtcppgefnocjdiaaHeapsC
namespace Go.Proofs.Ytcppgefnocjdiaa
open Go.RowKit Go.Lib Go.Sort Go.Shelf
set_option linter.unusedVariables false

theorem tlen_any (qb n c : Nat) (A : Option Addr) (W : World) (h3 : W.cell? ⟨qb, 3, none⟩ = some (.slice A n c)) :
    Calls Try.prog 49 #[.pointer (some ⟨qb, 2, none⟩)] W fun e w' => e = .returned (.int .i64 n) ∧ w' = W := by
  go_enter Try.func49, Try.ntmps49
  go_wp2_with fail
  go_ret
  exact ⟨rfl, rfl⟩
theorem has_any (qb n c : Nat) (A : Option Addr) (i j : Nat) (W : World) (h3 : W.cell? ⟨qb, 3, none⟩ = some (.slice A n c)) (hi : i < n) (hj : j < n) :
    Calls Try.prog 115 #[.pointer (some ⟨qb, 2, none⟩), .int .i64 i, .int .i64 j] W fun e w' => e = .returned (.bool true) ∧ w' = W := by
  go_enter Try.func115, Try.ntmps115
  go_wp2_with fail
  go_ret
  exact ⟨congrArg (fun b => Ending.returned (.bool b)) (decide_eq_true (by omega)), rfl⟩
theorem QM.cells {W : World} {B qb mb : Nat} {F v : Value} {nx : Int} {xs : List HItem} (h : QM W B qb mb F v nx xs) {i : Nat} (hi : i < xs.length) :
    ∃ g c, v = .slice (some ⟨g, 0, none⟩) xs.length c ∧ W.cell? ⟨g, i * 2, none⟩ = some (.int .i64 (xs.getD i d0).1) ∧ W.cell? ⟨g, i * 2 + 1, none⟩ = some (.int .i64 (xs.getD i d0).2) := by
  obtain ⟨g, c, e, h1, h2, _⟩ := h.row.item (getD_some hi)
  exact ⟨g, c, e, h1, h2⟩
theorem grown_cell {W : World} {a : Addr} {v : Value} (h : W.cell? a = some v) : ∀ n os, (grow (W.drewN n) os).cell? a = some v := cell_grown (World.block_lt_of_cell? W a h) h
set_option maxHeartbeats 2000000 in
theorem less_any (B qb mb : Nat) (F v : Value) (nx : Int) (xs : List HItem) (lt : Int → Int → Bool) (hF : LessC F lt) (i j : Nat) (W : World) (h : QM W B qb mb F v nx xs) (hi : i < xs.length) (hj : j < xs.length) :
    Calls Try.prog 112 #[.pointer (some ⟨qb, 2, none⟩), .int .i64 i, .int .i64 j] W fun e w' => e = .returned (.bool (decide (befI lt (xs.getD i d0) (xs.getD j d0)))) ∧ Grew W w' := by
  have mixed : Try.prog.follows .mixedOrders = true := by kernel_rfl
  obtain ⟨g, c, rfl, a1, a2⟩ := h.cells hi
  obtain ⟨g', c', e', b1, b2⟩ := h.cells hj
  simp only [Value.slice.injEq, Option.some.injEq, Addr.mk.injEq] at e'
  obtain ⟨⟨rfl, _⟩, _, rfl⟩ := e'
  have c3 := h.c3
  have k1 : ∀ n os, Calls Try.prog 115 #[.pointer (some ⟨qb, 2, none⟩), .int .i64 i, .int .i64 j] (grow (W.drewN n) os) fun e w'' => e = .returned (.bool true) ∧ ∃ p : GrownBy, w'' = grow (W.drewN p.n) p.os :=
    fun n os => (has_any qb _ c _ i j _ (grown_cell c3 n os) hi hj).mono fun e w' ⟨h1, h2⟩ => ⟨h1, ⟨n, os⟩, h2⟩
  have k2 : ∀ n os, Calls Try.prog 60 #[.pointer (some ⟨qb, 2, none⟩), .agg #[.int .i64 (xs.getD i d0).1, .int .i64 (xs.getD i d0).2], .agg #[.int .i64 (xs.getD j d0).1, .int .i64 (xs.getD j d0).2]] (grow (W.drewN n) os) fun e w'' => e = .returned (.int .i64 (cmpI lt (xs.getD i d0) (xs.getD j d0))) ∧ ∃ p : GrownBy, w'' = grow (W.drewN p.n) p.os :=
    fun n os => Calls.grown_of (compare_any qb 2 F lt hF _ _ _ (grown_cell h.c2 n os))
  have HR : Hid (∀ r, cmpI lt (xs.getD i d0) (xs.getD j d0) = r → decide (r < 0) = decide (befI lt (xs.getD i d0) (xs.getD j d0))) := Lib.hid fun r e => by
    rw [← e]; exact decide_eq_decide.2 cmpI_neg
  generalize xs.getD i d0 = x at *
  generalize xs.getD j d0 = y at *
  generalize cmpI lt x y = r at k2 HR
  have HQ := Lib.hid (HR.out r rfl)
  clear HR
  generalize decide (befI lt x y) = bb at HQ ⊢
  obtain ⟨xh, xv⟩ := x
  obtain ⟨yh, yv⟩ := y
  have w1 := grown_cell c3
  have w2 := grown_cell a1
  have w3 := grown_cell a2
  have w4 := grown_cell b1
  have w5 := grown_cell b2
  have hiz : (i : Int) < (xs.length : Int) := by omega
  have hjz : (j : Int) < (xs.length : Int) := by omega
  generalize xs.length = n at *
  clear h hF a1 a2 b1 b2 c3
  go_enter Try.func112, Try.ntmps112
  go_wp2_with fail
  go_quiet_grown (first | (go_at_call 115; exact k1 _ _) | (go_at_call 60; exact k2 _ _))
  have hG : Grew W (grow (W.drewN nq) osq) := Grew.of _ _
  go_wp2_with fail
  go_ret
  exact ⟨congrArg (fun b => Ending.returned (.bool b)) HQ.out, hG⟩
end Go.Proofs.Ytcppgefnocjdiaa
