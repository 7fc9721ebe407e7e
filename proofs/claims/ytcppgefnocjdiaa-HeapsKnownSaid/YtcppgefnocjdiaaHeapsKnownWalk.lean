/- HeapsKnown: the walk. -/
import Derived.Test.YtcppgefnocjdiaaHeapsSd
import Derived.Test.YtcppgefnocjdiaaHeapsZ
namespace Go.Proofs.Ytcppgefnocjdiaa
open Go.RowKit Go.Lib Go.Sort Go.Shelf
set_option linter.unusedVariables false

theorem AwR.push {W w : World} {qb mb : Nat} {nx : Int} {S T : List HItem} (h : AwR W qb mb nx S w) (k : Nat) (u : Int) (hp : PlaceP (befI ltI) S k (nx, u)) (e : putL S k (nx, u) = T) (hl : S.length < 5000) (hn : nx < 1000000000000000) :
    Calls Try.prog 20 #[.pointer (some ⟨qb, 0, none⟩), .int .i64 u] w fun e w' => e = .returned (.tuple #[.int .i64 nx, .int .i64 0]) ∧ Hid (AwR W qb mb (nx + 1) T w') := by
  obtain ⟨v, h1, h2⟩ := h
  subst e
  exact (push_some _ qb mb _ v ltI nx S k u w h1 hp hl hn).mono fun e w' ⟨he, hG⟩ => ⟨he, Lib.hid (.of h1 h2 hG)⟩
theorem AwR.later {W w w' : World} {qb mb : Nat} {nx : Int} {S : List HItem} (h : AwR W qb mb nx S w) (hb : Go.RowKit.Below w.heap.size w w') : AwR W qb mb nx S w' := by
  obtain ⟨v, h1, h2⟩ := h
  exact ⟨v, h1.later hb, h2.trans (hb.mono h2.size)⟩
theorem AwR.walked {W w : World} {qb mb : Nat} {nx : Int} {S : List HItem} (h : AwR W qb mb nx S w) (hs : SortC S.length) (hl : S.length ≤ 5000) :
    Calls Try.prog 19 #[.pointer (some ⟨qb, 0, none⟩)] w fun e w' => ∃ v', e = .returned v' ∧ Hid (RH w' v' S ∧ AwR W qb mb nx S w') := by
  have h' := h
  obtain ⟨v, h1, h2⟩ := h
  refine (walked_any (some ⟨qb, 0, none⟩) nx S w hl (saves_any _ qb mb _ v ltI nx S w h1 hs)).mono ?_
  rintro e w' ⟨v', he, g1, g2⟩
  exact ⟨v', he, Lib.hid ⟨g1.rh, h'.later g2⟩⟩
theorem AwR.getNone {W w : World} {qb mb : Nat} {nx : Int} {S : List HItem} (h : AwR W qb mb nx S w) (hd : Int) (hx : ∀ y ∈ S, y.1 ≠ hd) :
    Calls Try.prog 23 #[.pointer (some ⟨qb, 0, none⟩), .int .i64 hd] w fun e w' => e = .returned (.tuple #[.int .i64 0, .int .i64 4]) ∧ w' = w := by
  obtain ⟨v, h1, _⟩ := h
  exact get_none _ qb mb _ v ltI nx S hd w h1 hx
theorem AwR.lo {W w : World} {qb mb : Nat} {nx : Int} {S : List HItem} (h : AwR W qb mb nx S w) : Go.RowKit.Below W.heap.size W w := by
  obtain ⟨v, _, h2⟩ := h
  exact h2
theorem lit_rh (w : World) (T : TypeId) : RH (w.alloc (.cells #[.int .i64 1, .int .i64 3, .int .i64 2, .int .i64 3, .int .i64 3, .int .i64 3] T)) (.slice (some ⟨w.heap.size, 0, none⟩) 3 3) [(1, 3), (2, 3), (3, 3)] := by
  have r := fun j => (row_new w #[.int .i64 1, .int .i64 3, .int .i64 2, .int .i64 3, .int .i64 3, .int .i64 3] T w.heap.size j rfl).1
  refine .inr ⟨_, 0, 3, rfl, by simp, fun i s hi => ?_⟩
  have hl := (List.getElem?_eq_some_iff.1 hi).1
  rw [Nat.zero_add, r, r]
  have hl3 : i < 3 := hl
  clear r
  rcases (by omega : i = 0 ∨ i = 1 ∨ i = 2) with rfl | rfl | rfl <;> (simp at hi; subst hi; simp)
set_option maxRecDepth 100000 in
set_option maxHeartbeats 4000000 in
theorem known_any (W : World) : Calls Try.prog 9 #[] W fun e w' => e = .returned (.bool true) ∧ Go.RowKit.Below W.heap.size W w' := by
  have k1 := (three_any W).mono (R' := fun e w' => ∃ qb mb, e = .returned (.pointer (some ⟨qb, 0, none⟩)) ∧ Hid (AwR W qb mb 4 [(2, 3), (3, 3), (1, 5)] w')) fun e w' ⟨qb, mb, v, he, H⟩ => ⟨qb, mb, he, Lib.hid ⟨v, H.out⟩⟩
  have k2 : ∀ w' qb mb, Hid (AwR W qb mb 4 [(2, 3), (3, 3), (1, 5)] w') → Calls Try.prog 25 #[.pointer (some ⟨qb, 0, none⟩), .int .i64 1, .int .i64 3] w' fun e w'' => e = .returned (.int .i64 0) ∧ Hid (AwR W qb mb 4 [(1, 3), (2, 3), (3, 3)] w'') := fun w' qb mb H => H.out.set 2 0 (1, 5) 3 rfl set3 rfl
  have k3 : ∀ w' qb mb, Hid (AwR W qb mb 4 [(1, 3), (2, 3), (3, 3)] w') → Calls Try.prog 19 #[.pointer (some ⟨qb, 0, none⟩)] w' fun e w'' => ∃ v', e = .returned v' ∧ Hid (RH w'' v' [(1, 3), (2, 3), (3, 3)] ∧ AwR W qb mb 4 [(1, 3), (2, 3), (3, 3)] w'') := fun w' qb mb H => H.out.walked (sortC_small (by decide)) (by decide)
  have k4 : ∀ w' qb mb, Hid (AwR W qb mb 4 [(1, 3), (2, 3), (3, 3)] w') → Calls Try.prog 24 #[.pointer (some ⟨qb, 0, none⟩), .int .i64 2] w' fun e w'' => e = .returned (.tuple #[.int .i64 3, .int .i64 0]) ∧ Hid (AwR W qb mb 4 [(1, 3), (3, 3)] w'') := fun w' qb mb H => H.out.remove 1 (2, 3) rfl rfl
  have k5 : ∀ w' qb mb, Hid (AwR W qb mb 4 [(1, 3), (3, 3)] w') → Calls Try.prog 21 #[.pointer (some ⟨qb, 0, none⟩)] w' fun e w'' => e = .returned (.tuple #[.int .i64 1, .int .i64 3, .int .i64 0]) ∧ Hid (AwR W qb mb 4 [(3, 3)] w'') := fun w' qb mb H => H.out.pop
  have k6 : ∀ w' qb mb, Hid (AwR W qb mb 4 [(3, 3)] w') → Calls Try.prog 21 #[.pointer (some ⟨qb, 0, none⟩)] w' fun e w'' => e = .returned (.tuple #[.int .i64 3, .int .i64 3, .int .i64 0]) ∧ Hid (AwR W qb mb 4 [] w'') := fun w' qb mb H => H.out.pop
  have k7 : ∀ w' qb mb, Hid (AwR W qb mb 4 [] w') → Calls Try.prog 21 #[.pointer (some ⟨qb, 0, none⟩)] w' fun e w'' => e = .returned (.tuple #[.int .i64 0, .int .i64 0, .int .i64 4]) ∧ Hid (AwR W qb mb 4 [] w'') := fun w' qb mb H => H.out.popNone
  have k8 : ∀ w' qb mb, Hid (AwR W qb mb 4 [] w') → Calls Try.prog 20 #[.pointer (some ⟨qb, 0, none⟩), .int .i64 9] w' fun e w'' => e = .returned (.tuple #[.int .i64 4, .int .i64 0]) ∧ Hid (AwR W qb mb 5 [(4, 9)] w'') := fun w' qb mb H => H.out.push 0 9 ⟨⟨by decide, by decide⟩, fun z hz => by cases hz⟩ rfl (by decide) (by decide)
  have k9 : ∀ w' qb mb, Hid (AwR W qb mb 5 [(4, 9)] w') → Calls Try.prog 23 #[.pointer (some ⟨qb, 0, none⟩), .int .i64 1] w' fun e w'' => e = .returned (.tuple #[.int .i64 0, .int .i64 4]) ∧ w'' = w' := fun w' qb mb H => H.out.getNone 1 (by decide)
  go_enter Try.func9, Try.ntmps9
  go_wp2_with (first
    | (go_at_call 35; refine k1.mono ?_; rintro e w1 ⟨qb, mb, rfl, H1⟩; clear k1; have k2 := k2 w1 qb mb H1)
    | (go_at_call 25; refine k2.mono ?_; rintro e w2 ⟨rfl, H2⟩; clear k2 H1; have k3 := k3 w2 qb mb H2)
    | (go_at_call 19; refine k3.mono ?_; rintro e w3 ⟨vw, rfl, H3⟩; clear k3 H2; obtain ⟨A3, c3, hv3⟩ := H3.out.1.len; subst hv3)
    | (go_at_call 18; refine (same_eq _ _ [(1, 3), (2, 3), (3, 3)] _ (H3.out.1.later ((Go.RowKit.Below.refl _ w3).alloc (Nat.le_refl _) _)) (lit_rh w3 _) (by decide)).mono ?_; rintro e w5 ⟨rfl, hG⟩; have H5 : Hid (AwR W qb mb 4 [(1, 3), (2, 3), (3, 3)] w5) := Lib.hid ((H3.out.2.later ((Go.RowKit.Below.refl _ w3).alloc (Nat.le_refl _) _)).later hG.below); clear H3 hG; have k4 := k4 w5 qb mb H5)
    | (go_at_call 24; refine k4.mono ?_; rintro e w6 ⟨rfl, H6⟩; clear k4 H5; have k5 := k5 w6 qb mb H6)
    | (go_at_call 21; refine k5.mono ?_; rintro e w7 ⟨rfl, H7⟩; clear k5 H6; have k6 := k6 w7 qb mb H7)
    | (go_at_call 21; refine k6.mono ?_; rintro e w8 ⟨rfl, H8⟩; clear k6 H7; have k7 := k7 w8 qb mb H8)
    | (go_at_call 21; refine k7.mono ?_; rintro e w9 ⟨rfl, H9⟩; clear k7 H8; have k8 := k8 w9 qb mb H9)
    | (go_at_call 20; refine k8.mono ?_; rintro e wa ⟨rfl, Ha⟩; clear k8 H9; have k9 := k9 wa qb mb Ha)
    | (go_at_call 23; refine k9.mono ?_; rintro e wb ⟨rfl, hwb⟩; clear k9; subst hwb)
    | (go_at_call 10; refine (awake_any _).mono ?_; rintro e wc ⟨rfl, hbc⟩))
  go_ret
  exact ⟨rfl, Ha.out.lo.trans (hbc.mono Ha.out.lo.size)⟩
end Go.Proofs.Ytcppgefnocjdiaa
