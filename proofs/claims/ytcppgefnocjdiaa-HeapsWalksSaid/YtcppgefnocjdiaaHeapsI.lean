/- container/heap's up and down over a queue's tree. -/
import Derived.Test.YtcppgefnocjdiaaHeapsF
import Derived.Test.YtcppgefnocjdiaaHeapsH
namespace Go.Proofs.Ytcppgefnocjdiaa
open Go.RowKit Go.Lib Go.Sort Go.Shelf
set_option linter.unusedVariables false

/-- A queue's tree, as an interface. -/
def tI (qb : Nat) : Value := .iface 97 (.pointer (some ⟨qb, 2, none⟩))
theorem UpI.lt_len {lt : HItem → HItem → Prop} {xs ys : List HItem} {n j : Nat} (h : UpI lt d0 xs ys n j) : j < ys.length := Nat.lt_of_lt_of_le h.inn h.kept.le
theorem mLess (qb : Nat) (w : World) : (method 276 97 (.pointer (some ⟨qb, 2, none⟩)) "Less").run Try.prog w = .ok (112, .pointer (some ⟨qb, 2, none⟩)) w := by kernel_rfl
theorem mSwap (qb : Nat) (w : World) : (method 276 97 (.pointer (some ⟨qb, 2, none⟩)) "Swap").run Try.prog w = .ok (114, .pointer (some ⟨qb, 2, none⟩)) w := by kernel_rfl
theorem mLen (qb : Nat) (w : World) : (method 276 97 (.pointer (some ⟨qb, 2, none⟩)) "Len").run Try.prog w = .ok (49, .pointer (some ⟨qb, 2, none⟩)) w := by kernel_rfl
theorem mPush (qb : Nat) (w : World) : (method 276 97 (.pointer (some ⟨qb, 2, none⟩)) "Push").run Try.prog w = .ok (38, .pointer (some ⟨qb, 2, none⟩)) w := by kernel_rfl
theorem mPop (qb : Nat) (w : World) : (method 276 97 (.pointer (some ⟨qb, 2, none⟩)) "Pop").run Try.prog w = .ok (113, .pointer (some ⟨qb, 2, none⟩)) w := by kernel_rfl
/-- What up leaves. -/
def UpR (B qb mb : Nat) (F v : Value) (nx : Int) (xs : List HItem) (lt : Int → Int → Bool) (n : Nat) (W : World) (e : Ending) (w' : World) : Prop :=
  e = .returned (.tuple #[]) ∧ ∃ ys, QM w' B qb mb F v nx ys ∧ Kept d0 xs ys n ∧ HeapP (befI lt) (fnL ys d0) n ∧ Onl qb mb W v w' v
set_option maxRecDepth 100000 in
set_option maxHeartbeats 4000000 in
theorem up_any (B qb mb : Nat) (F v : Value) (nx : Int) (xs : List HItem) (lt : Int → Int → Bool) (hF : LessC F lt) (hw : WeakB lt) (n j : Nat) (W : World) (h : QM W B qb mb F v nx xs) (hu : UpI (befI lt) d0 xs xs n j) :
    Calls Try.prog 67 #[tI qb, .int .i64 j] W (UpR B qb mb F v nx xs lt n W) := by
  have HF := Lib.hid hF
  have HW := Lib.hid hw
  have HQ := Lib.hid h
  have HU := Lib.hid hu
  unfold tI
  clear hF hw h hu
  go_enter Try.func67, Try.ntmps67
  go_wp2_with fail
  go_loopw [1] (fun vj wr => ∃ (j : Nat) (ys : List HItem), vj = .int .i64 j ∧ Hid (UpI (befI lt) d0 xs ys n j ∧ QM wr B qb mb F v nx ys ∧ Onl qb mb W v wr v)) (fun vj _ => (intOf vj).toNat)
  case atStart => exact ⟨j, xs, rfl, Lib.hid ⟨HU.out, HQ.out, Onl.refl _ _ _ _⟩⟩
  case round =>
    obtain ⟨j, ys, rfl, HR⟩ := hrel
    have hj100 : j < 100000 := by have := HR.out.1.lt_len; have := HR.out.2.1.len; omega
    by_cases h0 : j = 0
    · subst h0
      go_wp2_with fail
      go_end0
      exact ⟨rfl, ys, HR.out.2.1, HR.out.1.kept, HR.out.1.done (.inl rfl), HR.out.2.2⟩
    · obtain ⟨p, hp⟩ : ∃ p, par j = p := ⟨_, rfl⟩
      have HP := Lib.hid hp
      have e0 : p = (j - 1) / 2 := by rw [← hp]; rfl
      have i1 : IntKind.i64.wrap ((j : Int) - 1) = (j : Int) - 1 := IntWalk.i64_in _ (by omega)
      have i2 : ((j : Int) - 1).tdiv 2 = (p : Int) := by rw [Int.tdiv_eq_ediv_of_nonneg (by omega)]; omega
      have i3 : ((p : Int) == (j : Int)) = false := by simp; omega
      have hpj : p < j := by omega
      have k1 := less_any B qb mb F v nx ys lt HF.out j p wr HR.out.2.1 HR.out.1.lt_len (Nat.lt_trans hpj HR.out.1.lt_len)
      have m1 := mLess qb
      have m2 := mSwap qb
      cases hb : decide (befI lt (ys.getD j d0) (ys.getD p d0)) with
      | false =>
        have HB := Lib.hid (of_decide_eq_false hb)
        rw [hb] at k1
        clear hb e0 hp m2
        go_wp2_with (go_at_call 112; refine k1.mono ?_; rintro e w' ⟨rfl, hG⟩; have HG := Lib.hid hG; clear hG)
        go_end0
        exact ⟨rfl, ys, HR.out.2.1.grew HG.out, HR.out.1.kept, HR.out.1.done (.inr (by rw [HP.out]; exact HB.out)), HR.out.2.2.trans (Onl.grew v HG.out)⟩
      | true =>
        have HB := Lib.hid (of_decide_eq_true hb)
        rw [hb] at k1
        clear hb e0 hp
        have k2 : ∀ w', Grew wr w' → Calls Try.prog 114 #[.pointer (some ⟨qb, 2, none⟩), .int .i64 p, .int .i64 j] w' fun e w'' => e = .returned (.tuple #[]) ∧ Hid (QM w'' B qb mb F v nx (swapL ys d0 p j) ∧ Onl qb mb W v w'' v) := fun w' hG =>
          (swap_any B qb mb F v nx ys p j w' (HR.out.2.1.grew hG) (Nat.lt_trans hpj HR.out.1.lt_len) HR.out.1.lt_len (by omega)).mono fun e w'' ⟨he, h1, h2⟩ => ⟨he, Lib.hid ⟨h1, HR.out.2.2.trans ((Onl.grew v hG).trans h2)⟩⟩
        go_wp2_with (first | (go_at_call 112; refine k1.mono ?_; rintro e w' ⟨rfl, hG⟩; have k3 := k2 w' hG; clear hG k2) | (go_at_call 114; refine k3.mono ?_; rintro e w'' ⟨rfl, HS⟩))
        go_roundw
        case rel => exact ⟨p, swapL ys d0 p j, rfl, Lib.hid ⟨by have := HR.out.1.step (befI_weak HW.out) (by omega) (by rw [HP.out]; exact HB.out); rw [HP.out] at this; exact this, HS.out⟩⟩
        case measure => simp [intOf]; omega
end Go.Proofs.Ytcppgefnocjdiaa
