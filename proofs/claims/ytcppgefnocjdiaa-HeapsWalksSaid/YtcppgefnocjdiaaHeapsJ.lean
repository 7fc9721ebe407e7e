/- container/heap's down over a queue's tree. -/
import Derived.Test.YtcppgefnocjdiaaHeapsI
namespace Go.Proofs.Ytcppgefnocjdiaa
open Go.RowKit Go.Lib Go.Sort Go.Shelf
set_option linter.unusedVariables false

/-- What down leaves. -/
def DownR (B qb mb : Nat) (F v : Value) (nx : Int) (xs : List HItem) (lt : Int → Int → Bool) (n i0 : Nat) (W : World) (e : Ending) (w' : World) : Prop :=
  ∃ i ys, e = .returned (.bool (decide (i0 < i))) ∧ QM w' B qb mb F v nx ys ∧ DownI (befI lt) d0 xs ys n i0 i ∧ KidsOk (befI lt) (fnL ys d0) n i ∧ i < n ∧ Onl qb mb W v w' v
set_option maxRecDepth 100000 in
set_option maxHeartbeats 4000000 in
theorem down_any (B qb mb : Nat) (F v : Value) (nx : Int) (xs : List HItem) (lt : Int → Int → Bool) (hF : LessC F lt) (hw : WeakB lt) (n i0 : Nat) (W : World) (h : QM W B qb mb F v nx xs) (hn : n ≤ xs.length) (hi : i0 < n) (hh : Hole (befI lt) (fnL xs d0) n i0) :
    Calls Try.prog 68 #[tI qb, .int .i64 i0, .int .i64 n] W (DownR B qb mb F v nx xs lt n i0 W) := by
  have HF := Lib.hid hF
  have HW := Lib.hid hw
  have HQ := Lib.hid h
  have HU := Lib.hid (DownI.start hn hh)
  have hn100 : n ≤ 100000 := Nat.le_trans hn h.len
  unfold tI
  clear hF hw h hh hn
  go_enter Try.func68, Try.ntmps68
  go_wp2_with fail
  go_loopw [7] (fun vi wr => ∃ (i : Nat) (ys : List HItem), vi = .int .i64 i ∧ i < n ∧ i0 ≤ i ∧ Hid (DownI (befI lt) d0 xs ys n i0 i ∧ QM wr B qb mb F v nx ys ∧ Onl qb mb W v wr v)) (fun vi _ => n - (intOf vi).toNat)
  case atStart => exact ⟨i0, xs, rfl, hi, Nat.le_refl _, Lib.hid ⟨HU.out, HQ.out, Onl.refl _ _ _ _⟩⟩
  case round =>
    obtain ⟨i, ys, rfl, hin, hii, HR⟩ := hrel
    obtain ⟨a, ha⟩ : ∃ a, 2 * i + 1 = a := ⟨_, rfl⟩
    have w1 : IntKind.i64.wrap (2 * (i : Int)) = 2 * (i : Int) := IntWalk.i64_in _ (by omega)
    have w2 : IntKind.i64.wrap (2 * (i : Int) + 1) = (a : Int) := by rw [IntWalk.i64_in _ (by omega)]; omega
    have hgt : ((i : Int) > (i0 : Int)) = (i0 < i) := by apply propext; omega
    by_cases hA : a < n
    · have hle := HR.out.1.kept.le
      obtain ⟨b, hb⟩ : ∃ b, a + 1 = b := ⟨_, rfl⟩
      have w3 : IntKind.i64.wrap ((a : Int) + 1) = (b : Int) := by rw [IntWalk.i64_in _ (by omega)]; omega
      have m1 := mLess qb
      have m2 := mSwap qb
      have hia : par a = i := by rw [← ha]; exact par_left i
      have hib : par b = i := by rw [← hb, ← ha]; exact par_right i
      have Hia := Lib.hid hia; have Hib := Lib.hid hib; have Ha := Lib.hid ha; have Hb := Lib.hid hb
      clear hia hib
      -- which child is the lesser one
      have hch : (¬ b < n ∧ ∃ j, j = a ∧ Hid (j < n ∧ 0 < j ∧ par j = i ∧ ∀ c, 0 < c → c < n → par c = i → ¬ befI lt (ys.getD c d0) (ys.getD j d0))) ∨
          (b < n ∧ ∃ r, decide (befI lt (ys.getD b d0) (ys.getD a d0)) = r ∧ ∃ j, j = (if r then b else a) ∧ Hid (j < n ∧ 0 < j ∧ par j = i ∧ ∀ c, 0 < c → c < n → par c = i → ¬ befI lt (ys.getD c d0) (ys.getD j d0))) := by
        by_cases hB : b < n
        · refine .inr ⟨hB, _, rfl, _, rfl, Lib.hid ?_⟩
          by_cases hl : befI lt (ys.getD b d0) (ys.getD a d0)
          · rw [decide_eq_true hl]
            refine ⟨hB, by rw [if_pos rfl]; omega, Hib.out, ?_⟩
            have e : 2 * i + 2 = b := by omega
            rw [if_pos rfl, ← e]
            exact least_right (befI_weak HW.out) (a := fnL ys d0) (by rw [e, ha]; exact hl)
          · rw [decide_eq_false hl]
            refine ⟨hA, by rw [if_neg (by decide)]; omega, Hia.out, ?_⟩
            simp only [Bool.false_eq_true, if_false]
            rw [← ha]
            exact least_left (befI_weak HW.out) (a := fnL ys d0) (by rw [ha, show 2 * i + 2 = b by omega]; exact hl)
        · refine .inl ⟨hB, _, rfl, Lib.hid ⟨hA, by omega, Hia.out, ?_⟩⟩
          rw [← ha]
          exact least_one (befI_weak HW.out) (a := fnL ys d0) (by omega)
      have k2 : ∀ j, Hid (j < n ∧ 0 < j ∧ par j = i ∧ ∀ c, 0 < c → c < n → par c = i → ¬ befI lt (ys.getD c d0) (ys.getD j d0)) → ∀ w', Grew wr w' → Calls Try.prog 112 #[.pointer (some ⟨qb, 2, none⟩), .int .i64 j, .int .i64 i] w' fun e w'' => e = .returned (.bool (decide (befI lt (ys.getD j d0) (ys.getD i d0)))) ∧ Hid (Grew wr w'') := fun j HJ w' hG =>
        (less_any B qb mb F v nx ys lt HF.out j i w' (HR.out.2.1.grew hG) (Nat.lt_of_lt_of_le HJ.out.1 hle) (by omega)).mono fun e w'' ⟨he, h1⟩ => ⟨he, Lib.hid (hG.trans h1)⟩
      have k3 : ∀ j, Hid (j < n ∧ 0 < j ∧ par j = i ∧ ∀ c, 0 < c → c < n → par c = i → ¬ befI lt (ys.getD c d0) (ys.getD j d0)) → ∀ w', Hid (Grew wr w') → Calls Try.prog 114 #[.pointer (some ⟨qb, 2, none⟩), .int .i64 i, .int .i64 j] w' fun e w'' => e = .returned (.tuple #[]) ∧ Hid (QM w'' B qb mb F v nx (swapL ys d0 i j) ∧ Onl qb mb W v w'' v) := fun j HJ w' hG =>
        (swap_any B qb mb F v nx ys i j w' (HR.out.2.1.grew hG.out) (by omega) (Nat.lt_of_lt_of_le HJ.out.1 hle) (fun e => by have := par_lt HJ.out.2.1; have := HJ.out.2.2.1; omega)).mono fun e w'' ⟨he, h1, h2⟩ => ⟨he, Lib.hid ⟨h1, HR.out.2.2.trans ((Onl.grew v hG.out).trans h2)⟩⟩
      have stop : ∀ j w'', Hid (j < n ∧ 0 < j ∧ par j = i ∧ ∀ c, 0 < c → c < n → par c = i → ¬ befI lt (ys.getD c d0) (ys.getD j d0)) → ¬ befI lt (ys.getD j d0) (ys.getD i d0) → Hid (Grew wr w'') → DownR B qb mb F v nx xs lt n i0 W (.returned (.bool (decide (i0 < i)))) w'' := fun j w'' HJ hl hG =>
        ⟨i, ys, rfl, HR.out.2.1.grew hG.out, HR.out.1, kids_least (befI_weak HW.out) (a := fnL ys d0) HJ.out.2.2.2 hl, hin, HR.out.2.2.trans (Onl.grew v hG.out)⟩
      have ST := Lib.hid stop
      have next : ∀ j w'', Hid (j < n ∧ 0 < j ∧ par j = i ∧ ∀ c, 0 < c → c < n → par c = i → ¬ befI lt (ys.getD c d0) (ys.getD j d0)) → befI lt (ys.getD j d0) (ys.getD i d0) → Hid (QM w'' B qb mb F v nx (swapL ys d0 i j) ∧ Onl qb mb W v w'' v) → Hid (DownI (befI lt) d0 xs (swapL ys d0 i j) n i0 j ∧ QM w'' B qb mb F v nx (swapL ys d0 i j) ∧ Onl qb mb W v w'' v) ∧ i < j := fun j w'' HJ hl HS =>
        ⟨Lib.hid ⟨HR.out.1.step (befI_weak HW.out) HJ.out.2.1 HJ.out.1 HJ.out.2.2.1 HJ.out.2.2.2 hl, HS.out⟩, by have := par_lt HJ.out.2.1; have := HJ.out.2.2.1; omega⟩
      have NX := Lib.hid next
      clear stop next
      have HG0 : Grew wr wr := Grew.refl wr
      rcases hch with ⟨hB, j, hj, HJ⟩ | ⟨hB, r, hr, j, hj, HJ⟩
      · have k4 := k2 j HJ wr HG0
        have k5 := k3 j HJ
        have hjn := HJ.out.1
        clear k2 k3 HG0
        cases h2 : decide (befI lt (ys.getD j d0) (ys.getD i d0)) with
        | false =>
          rw [h2] at k4
          have HB2 := Lib.hid (of_decide_eq_false h2)
          subst hj
          clear h2
          go_wp2_with (first | (go_at_call 112; refine k4.mono ?_; rintro e w'' ⟨rfl, HG⟩))
          go_ret
          exact ST.out _ _ HJ HB2.out HG
        | true =>
          rw [h2] at k4
          have HB2 := Lib.hid (of_decide_eq_true h2)
          subst hj
          clear h2
          go_wp2_with (first | (go_at_call 112; refine k4.mono ?_; rintro e w'' ⟨rfl, HG⟩) | (go_at_call 114; refine (k5 _ HG).mono ?_; rintro e w3 ⟨rfl, HS⟩))
          obtain ⟨HN, hij⟩ := NX.out _ _ HJ HB2.out HS
          go_roundw
          case rel => exact ⟨_, _, rfl, hjn, by omega, HN⟩
          case measure => simp [intOf]; omega
      · have k1 := less_any B qb mb F v nx ys lt HF.out b a wr HR.out.2.1 (by omega) (by omega)
        rw [hr] at k1
        have k4 := k2 j HJ
        have k5 := k3 j HJ
        have hjn := HJ.out.1
        clear k2 k3 HG0 hr
        cases r with
        | false =>
          obtain rfl : j = a := hj
          cases h2 : decide (befI lt (ys.getD j d0) (ys.getD i d0)) with
          | false =>
            rw [h2] at k4
            have HB2 := Lib.hid (of_decide_eq_false h2)
            clear h2
            go_wp2_with (first | (go_at_call 112; refine k1.mono ?_; rintro e w' ⟨rfl, hG⟩; clear k1; have k6 := k4 w' hG; clear k4 hG) | (go_at_call 112; refine k6.mono ?_; rintro e w'' ⟨rfl, HG⟩))
            go_ret
            exact ST.out _ _ HJ HB2.out HG
          | true =>
            rw [h2] at k4
            have HB2 := Lib.hid (of_decide_eq_true h2)
            clear h2
            go_wp2_with (first | (go_at_call 112; refine k1.mono ?_; rintro e w' ⟨rfl, hG⟩; clear k1; have k6 := k4 w' hG; clear k4 hG) | (go_at_call 112; refine k6.mono ?_; rintro e w'' ⟨rfl, HG⟩) | (go_at_call 114; refine (k5 _ HG).mono ?_; rintro e w3 ⟨rfl, HS⟩))
            obtain ⟨HN, hij⟩ := NX.out _ _ HJ HB2.out HS
            go_roundw
            case rel => exact ⟨_, _, rfl, hjn, by omega, HN⟩
            case measure => simp [intOf]; omega
        | true =>
          obtain rfl : j = b := hj
          cases h2 : decide (befI lt (ys.getD j d0) (ys.getD i d0)) with
          | false =>
            rw [h2] at k4
            have HB2 := Lib.hid (of_decide_eq_false h2)
            clear h2
            go_wp2_with (first | (go_at_call 112; refine k1.mono ?_; rintro e w' ⟨rfl, hG⟩; clear k1; have k6 := k4 w' hG; clear k4 hG) | (go_at_call 112; refine k6.mono ?_; rintro e w'' ⟨rfl, HG⟩))
            go_ret
            exact ST.out _ _ HJ HB2.out HG
          | true =>
            rw [h2] at k4
            have HB2 := Lib.hid (of_decide_eq_true h2)
            clear h2
            go_wp2_with (first | (go_at_call 112; refine k1.mono ?_; rintro e w' ⟨rfl, hG⟩; clear k1; have k6 := k4 w' hG; clear k4 hG) | (go_at_call 112; refine k6.mono ?_; rintro e w'' ⟨rfl, HG⟩) | (go_at_call 114; refine (k5 _ HG).mono ?_; rintro e w3 ⟨rfl, HS⟩))
            obtain ⟨HN, hij⟩ := NX.out _ _ HJ HB2.out HS
            go_roundw
            case rel => exact ⟨_, _, rfl, hjn, by omega, HN⟩
            case measure => simp [intOf]; omega
    · go_wp2_with fail
      go_ret
      exact ⟨i, ys, rfl, HR.out.2.1, HR.out.1, kids_none (by omega), hin, HR.out.2.2⟩
end Go.Proofs.Ytcppgefnocjdiaa
