/- The laws' orders; three, awake, made. -/
import Derived.Test.YtcppgefnocjdiaaHeapsR
namespace Go.Proofs.Ytcppgefnocjdiaa
open Go.RowKit Go.Lib Go.Sort Go.Shelf
set_option linter.unusedVariables false

/-- A block that the queue does not use. -/
structure Off (b qb mb : Nat) (v : Value) (W : World) : Prop where
  lt : b < W.heap.size
  q : b ≠ qb
  m : b ≠ mb
  r : v.ownBlock ≠ some b
theorem Off.onl {b qb mb : Nat} {v v' : Value} {W W' : World} (h : Off b qb mb v W) (k : Onl qb mb W v W' v') : Off b qb mb v' W' ∧ W'.heap[b]? = W.heap[b]? := by
  refine ⟨⟨Nat.lt_of_lt_of_le h.lt k.size, h.q, h.m, fun e => ?_⟩, k.block b h.lt h.q h.m h.r⟩
  rcases k.new b e with h1 | h1
  · exact h.r h1
  · have := h.lt; omega
/-- Every item has a place. -/
theorem place_from {α : Type} (lt : α → α → Prop) (S : List α) (x : α) : ∀ (n k : Nat), S.length - k = n → UpTo lt S k x → ∃ k', PlaceP lt S k' x
  | 0, k, hn, h => ⟨k, h.end (by omega)⟩
  | n + 1, k, hn, h => by
    have hk : k < S.length := by omega
    have hy := List.getElem?_eq_getElem hk
    by_cases hl : lt S[k] x
    · exact place_from lt S x n (k + 1) (by omega) (h.step hy hl)
    · exact ⟨k, h.stop hy hl⟩
theorem place_ex {α : Type} (lt : α → α → Prop) (S : List α) (x : α) : ∃ k, PlaceP lt S k x := place_from lt S x _ 0 rfl (UpTo.start S x)

def ltI (a b : Int) : Bool := decide (a < b)
def tenI (a b : Int) : Bool := decide (max a 0 % 10 > max b 0 % 10)
/-- The order of a number. -/
def ordL (odd : Bool) : Int → Int → Bool := if odd then tenI else ltI
def ordF (odd : Bool) : Value := if odd then .func (.func 36) #[] #[] else .func (.func 31) #[] #[]
theorem ordL_weak (odd : Bool) : WeakB (ordL odd) := by cases odd; exact lt_weak; exact tens_weak
theorem less_less : LessC (.func (.func 31) #[] #[]) ltI := by
  refine ⟨_, _, rfl, enters_of Try.func31 (by kernel_rfl) rfl, fun x y W => ?_⟩
  show Calls Try.prog 31 #[.int .i64 x, .int .i64 y] W _
  go_enter Try.func31, Try.ntmps31
  go_wp2_with fail
  go_ret
  exact ⟨rfl, Grew.refl _⟩
theorem tens_less : LessC (.func (.func 36) #[] #[]) tenI := by
  refine ⟨_, _, rfl, enters_of Try.func36 (by kernel_rfl) rfl, fun x y W => ?_⟩
  show Calls Try.prog 36 #[.int .i64 x, .int .i64 y] W _
  have e1 : ∀ a : Int, (max a 0).tmod 10 = max a 0 % 10 := fun a => Int.tmod_eq_emod_of_nonneg (by omega)
  go_enter Try.func36, Try.ntmps36
  go_wp2_with fail
  go_ret
  exact ⟨rfl, Grew.refl _⟩
theorem ord_less (odd : Bool) : LessC (ordF odd) (ordL odd) := by cases odd; exact less_less; exact tens_less
theorem order_any (n : Nat) (W : World) (hn : n < 256) : Calls Try.prog 12 #[.int .u8 n] W fun e w' => e = .returned (ordF (decide (n % 2 = 1))) ∧ w' = W := by
  by_cases h : n % 2 = 1
  · rw [decide_eq_true h]
    have e1 : ((n : Int).tmod 2) = 1 := by rw [Int.tmod_eq_emod_of_nonneg (by omega)]; omega
    go_enter Try.func12, Try.ntmps12
    go_wp2_with fail
    go_ret
    exact ⟨rfl, rfl⟩
  · rw [decide_eq_false h]
    have e1 : ((n : Int).tmod 2) = 0 := by rw [Int.tmod_eq_emod_of_nonneg (by omega)]; omega
    go_enter Try.func12, Try.ntmps12
    go_wp2_with fail
    go_ret
    exact ⟨rfl, rfl⟩
/-- A new queue. -/
theorem QS.new {W : World} {B qb mb : Nat} {F : Value} {lt : Int → Int → Bool} (h : QM W B qb mb F (.slice none 0 0) 1 []) (hF : LessC F lt) (hw : WeakB lt) : QS W B qb mb F (.slice none 0 0) lt 1 [] :=
  ⟨⟨[], h, QI.new lt 1⟩, hF, hw, by omega⟩
theorem news_any (F : Value) (lt : Int → Int → Bool) (hF : LessC F lt) (hw : WeakB lt) (W : World) :
    Calls Try.prog 11 #[F] W fun e w' => ∃ qb mb, e = .returned (.pointer (some ⟨qb, 0, none⟩)) ∧ Hid (QS w' W.heap.size qb mb F (.slice none 0 0) lt 1 [] ∧ Go.RowKit.Below W.heap.size W w') := by
  obtain ⟨g, cb, e, eg, hc⟩ := hF
  refine (new_any F g cb e W).mono ?_
  rintro e' w' ⟨qb, mb, h1, h2, h3⟩
  exact ⟨qb, mb, h1, Lib.hid ⟨.new h2 ⟨g, cb, e, eg, hc⟩ hw, h3⟩⟩
end Go.Proofs.Ytcppgefnocjdiaa
