/- three and awake. -/
import Derived.Test.YtcppgefnocjdiaaHeapsS
namespace Go.Proofs.Ytcppgefnocjdiaa
open Go.RowKit Go.Lib Go.Sort Go.Shelf
set_option linter.unusedVariables false

def sT : Nat → List HItem
  | 0 => []
  | 1 => [(1, 5)]
  | 2 => [(2, 3), (1, 5)]
  | _ => [(2, 3), (3, 3), (1, 5)]
def uT (i : Nat) : Int := if i = 0 then 5 else 3
def kT (i : Nat) : Nat := if i = 2 then 1 else 0
theorem pT : ∀ i, i < 3 → PlaceP (befI ltI) (sT i) (kT i) ((i : Int) + 1, uT i) ∧ sT (i + 1) = putL (sT i) (kT i) ((i : Int) + 1, uT i)
  | 0, _ => ⟨⟨⟨by decide, by decide⟩, fun z hz => by cases hz⟩, by decide⟩
  | 1, _ => ⟨⟨⟨by decide, by decide⟩, fun z hz => by cases hz; decide⟩, by decide⟩
  | 2, _ => ⟨⟨⟨by decide, by decide⟩, fun z hz => by cases hz; decide⟩, by decide⟩
theorem lT : ∀ i, i < 3 → (sT i).length < 5000
  | 0, _ => by decide
  | 1, _ => by decide
  | 2, _ => by decide
/-- After i pushes. -/
def ThR (W : World) (qb mb ab i : Nat) (wr : World) : Prop := ∃ v, QS wr W.heap.size qb mb (ordF false) v ltI ((i : Int) + 1) (sT i) ∧ Go.RowKit.Below W.heap.size W wr ∧ Off ab qb mb v wr ∧ wr.heap[ab]? = some (.cells #[.int .i64 5, .int .i64 3, .int .i64 3] 110 (0, 0))
theorem ThR.cell {W wr : World} {qb mb ab i : Nat} (h : ThR W qb mb ab i wr) (hi : i < 3) : wr.cell? ⟨ab, i, none⟩ = some (.int .i64 (uT i)) := by
  obtain ⟨v, _, _, _, hb⟩ := h
  rw [cell_of_row _ _ _ _ _ _ hb]
  clear hb
  rcases (by omega : i = 0 ∨ i = 1 ∨ i = 2) with rfl | rfl | rfl <;> simp [uT]
theorem ThR.push {W wr : World} {qb mb ab i : Nat} (h : ThR W qb mb ab i wr) (hi : i < 3) :
    Calls Try.prog 20 #[.pointer (some ⟨qb, 0, none⟩), .int .i64 (uT i)] wr fun e w' => e = .returned (.tuple #[.int .i64 ((i : Int) + 1), .int .i64 0]) ∧ Hid (ThR W qb mb ab (i + 1) w') := by
  obtain ⟨v, h1, h2, h3, h4⟩ := h
  obtain ⟨p1, p2⟩ := pT i hi
  refine (push_some _ qb mb _ v ltI _ (sT i) (kT i) (uT i) wr h1 p1 (lT i hi) (by omega)).mono ?_
  rintro e w' ⟨he, v', g1, g2⟩
  obtain ⟨o1, o2⟩ := h3.onl g2
  rw [← p2] at g1
  obtain ⟨xs, hq, _⟩ := h1.mem
  refine ⟨he, Lib.hid ⟨v', ?_, h2.trans (g2.below hq), o1, o2.trans h4⟩⟩
  exact g1
set_option maxRecDepth 100000 in
set_option maxHeartbeats 1000000 in
theorem three_any (W : World) : Calls Try.prog 35 #[] W fun e w' => ∃ qb mb v, e = .returned (.pointer (some ⟨qb, 0, none⟩)) ∧ Hid (QS w' W.heap.size qb mb (ordF false) v ltI 4 [(2, 3), (3, 3), (1, 5)] ∧ Go.RowKit.Below W.heap.size W w') := by
  have k1 := news_any (ordF false) ltI (ord_less false) lt_weak W
  unfold ordF at k1
  simp only [Bool.false_eq_true, if_false] at k1
  go_enter Try.func35, Try.ntmps35
  go_wp2_with (first | (go_at_call 11; refine k1.mono ?_; rintro e w' ⟨qb, mb, rfl, H⟩))
  have HS : Hid (ThR W qb mb w'.heap.size 0 (w'.alloc (.cells #[.int .i64 5, .int .i64 3, .int .i64 3] 110))) := Lib.hid (by
    obtain ⟨h1, h2⟩ := H.out
    obtain ⟨xs, hq, _⟩ := h1.mem
    have hl := hq.lt
    have hsz := h2.size
    refine ⟨_, h1.later ((Go.RowKit.Below.refl _ _).alloc (Nat.le_refl _) _), h2.alloc hsz _, ⟨by simp, by omega, by omega, by simp [Value.ownBlock]⟩, heap_alloc_new w' _⟩)
  generalize w'.alloc (.cells #[.int .i64 5, .int .i64 3, .int .i64 3] 110) = w1 at HS ⊢
  generalize w'.heap.size = ab at HS ⊢
  go_loopw [3] (fun vi wr => ∃ i : Nat, vi = .int .i64 i ∧ i ≤ 3 ∧ Hid (ThR W qb mb ab i wr)) (fun vi _ => 3 - (intOf vi).toNat)
  case atStart => exact ⟨0, rfl, by omega, HS⟩
  case round =>
    obtain ⟨i, rfl, hi, HR⟩ := hrel
    by_cases hlt : i < 3
    · have c1 := HR.out.cell hlt
      have k2 := HR.out.push hlt
      have i1 : (i : Int) < 3 := by omega
      have i2 : IntKind.i64.wrap ((i : Int) + 1) = (i : Int) + 1 := IntWalk.i64_in _ (by omega)
      generalize uT i = u at c1 k2
      go_wp2_with (first | (go_at_call 20; refine k2.mono ?_; rintro e w2 ⟨rfl, HP⟩))
      go_roundw
      case rel => exact ⟨i + 1, by go_num, by omega, HP⟩
      case measure => simp [intOf]; omega
    · obtain rfl : i = 3 := by omega
      go_wp2_with fail
      go_ret
      obtain ⟨v, h1, h2, _⟩ := HR.out
      exact ⟨qb, mb, v, rfl, Lib.hid ⟨h1, h2⟩⟩
/-- The queue that awake asks. -/
def AwR (W : World) (qb mb : Nat) (nx : Int) (S : List HItem) (w : World) : Prop := ∃ v, QS w W.heap.size qb mb (ordF false) v ltI nx S ∧ Go.RowKit.Below W.heap.size W w
theorem AwR.of {W w w' : World} {qb mb : Nat} {nx ny : Int} {v : Value} {S T : List HItem} (h : QS w W.heap.size qb mb (ordF false) v ltI nx S) (hb : Go.RowKit.Below W.heap.size W w) (k : RemR W.heap.size qb mb (ordF false) v ltI ny T w w') : AwR W qb mb ny T w' := by
  obtain ⟨v', g1, g2⟩ := k
  obtain ⟨xs, hq, _⟩ := h.mem
  exact ⟨v', g1, hb.trans (g2.below hq)⟩
theorem AwR.peek {W w : World} {qb mb : Nat} {nx : Int} {x : HItem} {l : List HItem} (h : AwR W qb mb nx (x :: l) w) :
    Calls Try.prog 22 #[.pointer (some ⟨qb, 0, none⟩)] w fun e w' => e = .returned (.tuple #[.int .i64 x.1, .int .i64 x.2, .int .i64 0]) ∧ Hid (AwR W qb mb nx (x :: l) w') := by
  obtain ⟨v, h1, h2⟩ := h
  obtain ⟨xs, hq, _⟩ := h1.mem
  exact (peek_some _ qb mb _ v ltI nx x l w h1).mono fun e w' ⟨he, hG⟩ => ⟨he, Lib.hid ⟨v, h1.later hG.below, h2.trans ((Onl.grew v hG).below hq)⟩⟩
theorem AwR.pop {W w : World} {qb mb : Nat} {nx : Int} {x : HItem} {l : List HItem} (h : AwR W qb mb nx (x :: l) w) :
    Calls Try.prog 21 #[.pointer (some ⟨qb, 0, none⟩)] w fun e w' => e = .returned (.tuple #[.int .i64 x.1, .int .i64 x.2, .int .i64 0]) ∧ Hid (AwR W qb mb nx l w') := by
  obtain ⟨v, h1, h2⟩ := h
  exact (pop_some _ qb mb _ v ltI nx x l w h1).mono fun e w' ⟨he, hG⟩ => ⟨he, Lib.hid (.of h1 h2 hG)⟩
theorem AwR.popNone {W w : World} {qb mb : Nat} {nx : Int} (h : AwR W qb mb nx [] w) :
    Calls Try.prog 21 #[.pointer (some ⟨qb, 0, none⟩)] w fun e w' => e = .returned (.tuple #[.int .i64 0, .int .i64 0, .int .i64 4]) ∧ Hid (AwR W qb mb nx [] w') := by
  obtain ⟨v, h1, h2⟩ := h
  exact (pop_none _ qb mb _ v ltI nx w h1).mono fun e w' ⟨he, hw⟩ => ⟨he, Lib.hid ⟨v, by rw [hw]; exact h1, by rw [hw]; exact h2⟩⟩
theorem AwR.remove {W w : World} {qb mb : Nat} {nx : Int} {S T : List HItem} (h : AwR W qb mb nx S w) (k : Nat) (x : HItem) (hx : S[k]? = some x) (e : S.eraseIdx k = T) :
    Calls Try.prog 24 #[.pointer (some ⟨qb, 0, none⟩), .int .i64 x.1] w fun e w' => e = .returned (.tuple #[.int .i64 x.2, .int .i64 0]) ∧ Hid (AwR W qb mb nx T w') := by
  obtain ⟨v, h1, h2⟩ := h
  subst e
  exact (remove_some _ qb mb _ v ltI nx S k x w h1 hx).mono fun e w' ⟨he, hG⟩ => ⟨he, Lib.hid (.of h1 h2 hG)⟩
theorem AwR.set {W w : World} {qb mb : Nat} {nx : Int} {S T : List HItem} (h : AwR W qb mb nx S w) (k k' : Nat) (x : HItem) (u : Int) (hx : S[k]? = some x) (hp : PlaceP (befI ltI) (S.eraseIdx k) k' (x.1, u)) (e : putL (S.eraseIdx k) k' (x.1, u) = T) :
    Calls Try.prog 25 #[.pointer (some ⟨qb, 0, none⟩), .int .i64 x.1, .int .i64 u] w fun e w' => e = .returned (.int .i64 0) ∧ Hid (AwR W qb mb nx T w') := by
  obtain ⟨v, h1, h2⟩ := h
  subst e
  exact (set_some _ qb mb _ v ltI nx S k k' x u w h1 hx hp).mono fun e w' ⟨he, hG⟩ => ⟨he, Lib.hid (.of h1 h2 hG)⟩
theorem AwR.len {W w : World} {qb mb : Nat} {nx : Int} {S : List HItem} (h : AwR W qb mb nx S w) :
    Calls Try.prog 26 #[.pointer (some ⟨qb, 0, none⟩)] w fun e w' => e = .returned (.int .i64 S.length) ∧ w' = w := by
  obtain ⟨v, h1, h2⟩ := h
  exact h1.len
theorem set3 : PlaceP (befI ltI) [(2, 3), (3, 3)] 0 (1, 3) := ⟨⟨by decide, by decide⟩, fun z hz => by cases hz; decide⟩
set_option maxRecDepth 100000 in
set_option maxHeartbeats 2000000 in
theorem awake_any (W : World) : Calls Try.prog 10 #[] W fun e w' => e = .returned (.bool true) ∧ Go.RowKit.Below W.heap.size W w' := by
  have k1 := (three_any W).mono (R' := fun e w' => ∃ qb mb, e = .returned (.pointer (some ⟨qb, 0, none⟩)) ∧ Hid (AwR W qb mb 4 [(2, 3), (3, 3), (1, 5)] w')) fun e w' ⟨qb, mb, v, he, H⟩ => ⟨qb, mb, he, Lib.hid ⟨v, H.out⟩⟩
  have k2 : ∀ w' qb mb, Hid (AwR W qb mb 4 [(2, 3), (3, 3), (1, 5)] w') → Calls Try.prog 22 #[.pointer (some ⟨qb, 0, none⟩)] w' fun e w'' => e = .returned (.tuple #[.int .i64 2, .int .i64 3, .int .i64 0]) ∧ Hid (AwR W qb mb 4 [(2, 3), (3, 3), (1, 5)] w'') := fun w' qb mb H => H.out.peek
  have k3 : ∀ w' qb mb, Hid (AwR W qb mb 4 [(2, 3), (3, 3), (1, 5)] w') → Calls Try.prog 25 #[.pointer (some ⟨qb, 0, none⟩), .int .i64 1, .int .i64 3] w' fun e w'' => e = .returned (.int .i64 0) ∧ Hid (AwR W qb mb 4 [(1, 3), (2, 3), (3, 3)] w'') := fun w' qb mb H => H.out.set 2 0 (1, 5) 3 rfl set3 rfl
  have k4 : ∀ w' qb mb, Hid (AwR W qb mb 4 [(1, 3), (2, 3), (3, 3)] w') → Calls Try.prog 24 #[.pointer (some ⟨qb, 0, none⟩), .int .i64 2] w' fun e w'' => e = .returned (.tuple #[.int .i64 3, .int .i64 0]) ∧ Hid (AwR W qb mb 4 [(1, 3), (3, 3)] w'') := fun w' qb mb H => H.out.remove 1 (2, 3) rfl rfl
  have k5 : ∀ w' qb mb, Hid (AwR W qb mb 4 [(1, 3), (3, 3)] w') → Calls Try.prog 21 #[.pointer (some ⟨qb, 0, none⟩)] w' fun e w'' => e = .returned (.tuple #[.int .i64 1, .int .i64 3, .int .i64 0]) ∧ Hid (AwR W qb mb 4 [(3, 3)] w'') := fun w' qb mb H => H.out.pop
  have k6 : ∀ w' qb mb, Hid (AwR W qb mb 4 [(3, 3)] w') → Calls Try.prog 26 #[.pointer (some ⟨qb, 0, none⟩)] w' fun e w'' => e = .returned (.int .i64 1) ∧ w'' = w' := fun w' qb mb H => H.out.len
  go_enter Try.func10, Try.ntmps10
  go_wp2_with (first
    | (go_at_call 35; refine k1.mono ?_; rintro e w1 ⟨qb, mb, rfl, H1⟩; clear k1; have k2 := k2 w1 qb mb H1)
    | (go_at_call 22; refine k2.mono ?_; rintro e w2 ⟨rfl, H2⟩; clear k2 H1; have k3 := k3 w2 qb mb H2)
    | (go_at_call 25; refine k3.mono ?_; rintro e w3 ⟨rfl, H3⟩; clear k3 H2; have k4 := k4 w3 qb mb H3)
    | (go_at_call 24; refine k4.mono ?_; rintro e w4 ⟨rfl, H4⟩; clear k4 H3; have k5 := k5 w4 qb mb H4)
    | (go_at_call 21; refine k5.mono ?_; rintro e w5 ⟨rfl, H5⟩; clear k5 H4; have k6 := k6 w5 qb mb H5)
    | (go_at_call 26; refine k6.mono ?_; rintro e w6 ⟨rfl, hw⟩; subst hw))
  go_ret
  obtain ⟨v, _, hb⟩ := H5.out
  exact ⟨rfl, hb⟩
end Go.Proofs.Ytcppgefnocjdiaa
