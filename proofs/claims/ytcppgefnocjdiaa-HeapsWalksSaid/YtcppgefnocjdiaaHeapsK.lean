/- container/heap's Push, Fix and Remove over a queue's tree. -/
import Derived.Test.YtcppgefnocjdiaaHeapsJ
namespace Go.Proofs.Ytcppgefnocjdiaa
open Go.RowKit Go.Lib Go.Sort Go.Shelf
set_option linter.unusedVariables false

/-- What a call leaves whose values are those of zs. -/
def PutR (B qb mb : Nat) (F v : Value) (nx : Int) (zs : List HItem) (lt : Int → Int → Bool) (W : World) (e : Ending) (w' : World) : Prop :=
  e = .returned (.tuple #[]) ∧ ∃ v' ys, QM w' B qb mb F v' nx ys ∧ ys.Perm zs ∧ HeapP (befI lt) (fnL ys d0) ys.length ∧ Onl qb mb W v w' v'
theorem QM.tlen {W : World} {B qb mb : Nat} {F v : Value} {nx : Int} {xs : List HItem} (h : QM W B qb mb F v nx xs) :
    Calls Try.prog 49 #[.pointer (some ⟨qb, 2, none⟩)] W fun e w' => e = .returned (.int .i64 xs.length) ∧ w' = W := by
  obtain ⟨A, c, hv⟩ := h.row.len
  exact tlen_any qb _ c A W (by rw [h.c3, hv])
set_option maxHeartbeats 2000000 in
theorem hpush_any (B qb mb : Nat) (F v : Value) (nx : Int) (xs : List HItem) (x : HItem) (lt : Int → Int → Bool) (hF : LessC F lt) (hw : WeakB lt) (W : World) (h : QM W B qb mb F v nx xs) (hn : ∀ y ∈ xs, y.1 ≠ x.1) (hl : xs.length < 100000) (hh : HeapP (befI lt) (fnL xs d0) xs.length) :
    Calls Try.prog 50 #[tI qb, .iface 64 (.agg #[.int .i64 x.1, .int .i64 x.2])] W (PutR B qb mb F v nx (xs ++ [x]) lt W) := by
  have k1 := (tpush_any B qb mb F v nx xs x W h hn hl).mono (R' := fun e w' => e = .returned (.tuple #[]) ∧ ∃ v', Hid (QM w' B qb mb F v' nx (xs ++ [x]) ∧ Onl qb mb W v w' v')) fun e w' ⟨he, v', h1, h2⟩ => ⟨he, v', Lib.hid ⟨h1, h2⟩⟩
  obtain ⟨n, hxn⟩ : ∃ n, xs.length = n := ⟨_, rfl⟩
  have hlen : (xs ++ [x]).length = n + 1 := by rw [← hxn]; simp
  have k2 : ∀ (w' : World) (v' : Value), Hid (QM w' B qb mb F v' nx (xs ++ [x]) ∧ Onl qb mb W v w' v') → Calls Try.prog 49 #[.pointer (some ⟨qb, 2, none⟩)] w' fun e w'' => e = .returned (.int .i64 (n + 1 : Nat)) ∧ w'' = w' := fun w' v' H => by
    have := H.out.1.tlen; rw [hlen] at this; exact this
  have k3 : ∀ (w' : World) (v' : Value), Hid (QM w' B qb mb F v' nx (xs ++ [x]) ∧ Onl qb mb W v w' v') → Calls Try.prog 67 #[tI qb, .int .i64 n] w' fun e w'' => e = .returned (.tuple #[]) ∧ Hid (PutR B qb mb F v nx (xs ++ [x]) lt W (.returned (.tuple #[])) w'') := fun w' v' H => by
    have hu := UpI.start (befI_weak hw) (x := x) hh
    rw [hxn] at hu
    refine (up_any B qb mb F v' nx (xs ++ [x]) lt hF hw (n + 1) n w' H.out.1 hu).mono ?_
    rintro e w'' ⟨he, ys, h1, h2, h3, h4⟩
    refine ⟨he, Lib.hid ⟨rfl, v', ys, h1, h2.perm, ?_, H.out.2.trans h4⟩⟩
    rw [h2.perm.length_eq, hlen]; exact h3
  have i1 : IntKind.i64.wrap (((n + 1 : Nat) : Int) - 1) = (n : Int) := by rw [IntWalk.i64_in _ (by omega)]; omega
  obtain ⟨m, hm⟩ : ∃ m, n + 1 = m := ⟨_, rfl⟩
  rw [hm] at i1 k2
  have m1 := mPush qb
  have m2 := mLen qb
  unfold tI at *
  clear h hn hh hF hw hlen hm hxn
  go_enter Try.func50, Try.ntmps50
  go_wp2_with (first
    | (go_at_call 38; refine k1.mono ?_; rintro e w' ⟨rfl, v', H⟩; have k4 := k2 w' v' H; have k5 := k3 w' v' H; clear k2 k3 k1)
    | (go_at_call 49; refine k4.mono ?_; rintro e w'' ⟨rfl, hw2⟩; subst hw2)
    | (go_at_call 67; refine k5.mono ?_; rintro e w3 ⟨rfl, HP⟩))
  go_end0
  exact HP.out
set_option maxHeartbeats 2000000 in
theorem hfix_any (B qb mb : Nat) (F v : Value) (nx : Int) (xs : List HItem) (lt : Int → Int → Bool) (hF : LessC F lt) (hw : WeakB lt) (i : Nat) (W : World) (h : QM W B qb mb F v nx xs) (hi : i < xs.length) (hh : Hole (befI lt) (fnL xs d0) xs.length i) :
    Calls Try.prog 53 #[tI qb, .int .i64 i] W (PutR B qb mb F v nx xs lt W) := by
  have k1 := h.tlen
  have hl := h.len
  have k2 := (down_any B qb mb F v nx xs lt hF hw xs.length i W h (Nat.le_refl _) hi hh).mono (R' := fun e w' => ∃ j ys, e = .returned (.bool (decide (i < j))) ∧ Hid (QM w' B qb mb F v nx ys ∧ DownI (befI lt) d0 xs ys xs.length i j ∧ KidsOk (befI lt) (fnL ys d0) xs.length j ∧ j < xs.length ∧ Onl qb mb W v w' v)) fun e w' ⟨j, ys, he, r⟩ => ⟨j, ys, he, Lib.hid r⟩
  have k3 : ∀ j ys w', Hid (QM w' B qb mb F v nx ys ∧ DownI (befI lt) d0 xs ys xs.length i j ∧ KidsOk (befI lt) (fnL ys d0) xs.length j ∧ j < xs.length ∧ Onl qb mb W v w' v) → ¬ i < j → Calls Try.prog 67 #[tI qb, .int .i64 i] w' fun e w'' => e = .returned (.tuple #[]) ∧ Hid (PutR B qb mb F v nx xs lt W (.returned (.tuple #[])) w'') := fun j ys w' H hij => by
    obtain ⟨h1, h2, h3, h4, h5⟩ := H.out
    obtain rfl : j = i := by have := h2.le; omega
    have hu := h2.stay h3 h4
    have hyl := h2.kept.perm.length_eq
    refine (up_any B qb mb F v nx ys lt hF hw xs.length j w' h1 ⟨Kept.refl d0 (by omega), hu.inn, hu.hole, hu.kids⟩).mono ?_
    rintro e w'' ⟨he, zs, g1, g2, g3, g4⟩
    refine ⟨he, Lib.hid ⟨rfl, v, zs, g1, g2.perm.trans h2.kept.perm, ?_, h5.trans g4⟩⟩
    rw [g2.perm.length_eq, hyl]; exact g3
  have k4 : ∀ j ys w', Hid (QM w' B qb mb F v nx ys ∧ DownI (befI lt) d0 xs ys xs.length i j ∧ KidsOk (befI lt) (fnL ys d0) xs.length j ∧ j < xs.length ∧ Onl qb mb W v w' v) → i < j → PutR B qb mb F v nx xs lt W (.returned (.tuple #[])) w' := fun j ys w' H hij => by
    obtain ⟨h1, h2, h3, h4, h5⟩ := H.out
    refine ⟨rfl, v, ys, h1, h2.kept.perm, ?_, h5⟩
    rw [h2.kept.perm.length_eq]; exact h2.moved h3 hij
  have K4 := Lib.hid k4
  obtain ⟨n, hxn⟩ : ∃ n, xs.length = n := ⟨_, rfl⟩
  rw [hxn] at k1 k2 k3 hl
  have K4 := Lib.hid (hxn ▸ K4.out)
  have m2 := mLen qb
  unfold tI at *
  clear h hh hF hw k4 hi hxn
  go_enter Try.func53, Try.ntmps53
  go_wp2_with (first
    | (go_at_call 49; refine k1.mono ?_; rintro e w'' ⟨rfl, hw2⟩; subst hw2)
    | (go_at_call 68; refine k2.mono ?_; rintro e w' ⟨j, ys, rfl, H⟩; have k5 := k3 j ys w' H; clear k3; generalize hb : decide (i < j) = b; cases b)
    | (go_at_call 67; refine (k5 (of_decide_eq_false hb)).mono ?_; rintro e w3 ⟨rfl, HP⟩))
  all_goals go_end0
  · exact HP.out
  · exact K4.out _ _ _ H (of_decide_eq_true hb)
/-- What Remove leaves: x is taken out. -/
def CutR (B qb mb : Nat) (F v : Value) (nx : Int) (xs : List HItem) (x : HItem) (lt : Int → Int → Bool) (W : World) (e : Ending) (w' : World) : Prop :=
  e = .returned (.iface 64 (.agg #[.int .i64 x.1, .int .i64 x.2])) ∧ ∃ v' ys, QM w' B qb mb F v' nx ys ∧ (ys ++ [x]).Perm xs ∧ HeapP (befI lt) (fnL ys d0) ys.length ∧ Onl qb mb W v w' v'
theorem take_snoc {ys : List HItem} {n : Nat} (hn : ys.length = n + 1) : ys = ys.take n ++ [ys.getD n d0] := by
  have hlt : n < ys.length := by omega
  rw [List.getD_eq_getElem?_getD, List.getElem?_eq_getElem hlt, Option.getD_some, ← List.take_succ_eq_append_getElem hlt, List.take_of_length_le (by omega)]
set_option maxHeartbeats 2000000 in
theorem hremove_any (B qb mb : Nat) (F v : Value) (nx : Int) (xs : List HItem) (lt : Int → Int → Bool) (hF : LessC F lt) (hw : WeakB lt) (i : Nat) (W : World) (h : QM W B qb mb F v nx xs) (hi : i < xs.length) (hh : HeapP (befI lt) (fnL xs d0) xs.length) :
    Calls Try.prog 52 #[tI qb, .int .i64 i] W (CutR B qb mb F v nx xs (xs.getD i d0) lt W) := by
  obtain ⟨n, hxn⟩ : ∃ n, xs.length = n + 1 := ⟨xs.length - 1, by omega⟩
  have hl := h.len
  have k1 := h.tlen
  -- Pop, where the value to be taken out is the last one and the others are a heap
  have kp : ∀ ys w', QM w' B qb mb F v nx ys → Kept d0 (swapL xs d0 i n) ys n → HeapP (befI lt) (fnL ys d0) n → Onl qb mb W v w' v → Calls Try.prog 113 #[.pointer (some ⟨qb, 2, none⟩)] w' fun e w'' => e = .returned (.iface 64 (.agg #[.int .i64 (xs.getD i d0).1, .int .i64 (xs.getD i d0).2])) ∧ Hid (CutR B qb mb F v nx xs (xs.getD i d0) lt W e w'') := fun ys w' h1 h2 h3 h4 => by
    have hlen : ys.length = n + 1 := by rw [h2.perm.length_eq, swapL_len, hxn]
    have hx : (swapL xs d0 i n).getD n d0 = xs.getD i d0 := by
      have := swapL_get xs d0 (i := i) (j := n) (by omega) (by omega) n (by omega)
      rw [this, swapF_r]
    have hlast : ys.getD n d0 = xs.getD i d0 := by rw [h2.rest n (Nat.le_refl _), hx]
    obtain ⟨p1, p2⟩ := take_last (x := xs.getD i d0) h2 hlen hx h3
    have hsp := swapL_perm xs d0 (i := i) (j := n) (by omega) (by omega)
    have e := take_snoc hlen
    rw [hlast] at e
    rw [e] at h1
    refine (tpop_any B qb mb F v nx _ _ w' h1).mono ?_
    rintro e w'' ⟨he, v', g1, g2⟩
    exact ⟨he, Lib.hid ⟨he, v', _, g1, p1.trans hsp, p2, h4.trans g2⟩⟩
  rcases Nat.lt_or_ge i n with hin | hin
  · obtain ⟨s1, s2, s3, s4⟩ := HeapP.swapEnd (befI_weak hw) (d := d0) hh hxn hin
    have KP := Lib.hid kp
    have k2 := (swap_any B qb mb F v nx xs i n W h hi (by omega) (by omega)).mono (R' := fun e w' => e = .returned (.tuple #[]) ∧ Hid (QM w' B qb mb F v nx (swapL xs d0 i n) ∧ Onl qb mb W v w' v)) fun e w' ⟨he, r⟩ => ⟨he, Lib.hid r⟩
    have k3 : ∀ w', Hid (QM w' B qb mb F v nx (swapL xs d0 i n) ∧ Onl qb mb W v w' v) → Calls Try.prog 68 #[tI qb, .int .i64 i, .int .i64 n] w' fun e w'' => ∃ j ys, e = .returned (.bool (decide (i < j))) ∧ Hid (QM w'' B qb mb F v nx ys ∧ DownI (befI lt) d0 (swapL xs d0 i n) ys n i j ∧ KidsOk (befI lt) (fnL ys d0) n j ∧ j < n ∧ Onl qb mb W v w'' v) := fun w' H =>
      (down_any B qb mb F v nx _ lt hF hw n i w' H.out.1 (by rw [s4]; omega) hin s1).mono fun e w'' ⟨j, ys, he, g1, g2, g3, g4, g5⟩ => ⟨j, ys, he, Lib.hid ⟨g1, g2, g3, g4, H.out.2.trans g5⟩⟩
    have k4 : ∀ j ys w', Hid (QM w' B qb mb F v nx ys ∧ DownI (befI lt) d0 (swapL xs d0 i n) ys n i j ∧ KidsOk (befI lt) (fnL ys d0) n j ∧ j < n ∧ Onl qb mb W v w' v) → ¬ i < j → Calls Try.prog 67 #[tI qb, .int .i64 i] w' fun e w'' => e = .returned (.tuple #[]) ∧ ∃ zs, Hid (QM w'' B qb mb F v nx zs ∧ Kept d0 (swapL xs d0 i n) zs n ∧ HeapP (befI lt) (fnL zs d0) n ∧ Onl qb mb W v w'' v) := fun j ys w' H hij => by
      obtain ⟨h1, h2, h3, h4, h5⟩ := H.out
      obtain rfl : j = i := by have := h2.le; omega
      have hu := h2.stay h3 h4
      refine (up_any B qb mb F v nx ys lt hF hw n j w' h1 ⟨Kept.refl d0 h2.kept.le, hu.inn, hu.hole, hu.kids⟩).mono ?_
      rintro e w'' ⟨he, zs, g1, g2, g3, g4⟩
      exact ⟨he, zs, Lib.hid ⟨g1, ⟨g2.perm.trans h2.kept.perm, g2.le, fun k hk => (g2.rest k hk).trans (h2.kept.rest k hk)⟩, g3, h5.trans g4⟩⟩
    have k5 : ∀ ys w', Hid (QM w' B qb mb F v nx ys ∧ Kept d0 (swapL xs d0 i n) ys n ∧ HeapP (befI lt) (fnL ys d0) n ∧ Onl qb mb W v w' v) → Calls Try.prog 113 #[.pointer (some ⟨qb, 2, none⟩)] w' fun e w'' => e = .returned (.iface 64 (.agg #[.int .i64 (xs.getD i d0).1, .int .i64 (xs.getD i d0).2])) ∧ Hid (CutR B qb mb F v nx xs (xs.getD i d0) lt W e w'') := fun ys w' H => KP.out ys w' H.out.1 H.out.2.1 H.out.2.2.1 H.out.2.2.2
    have k6 : ∀ j ys w', Hid (QM w' B qb mb F v nx ys ∧ DownI (befI lt) d0 (swapL xs d0 i n) ys n i j ∧ KidsOk (befI lt) (fnL ys d0) n j ∧ j < n ∧ Onl qb mb W v w' v) → i < j → Hid (QM w' B qb mb F v nx ys ∧ Kept d0 (swapL xs d0 i n) ys n ∧ HeapP (befI lt) (fnL ys d0) n ∧ Onl qb mb W v w' v) := fun j ys w' H hij =>
      Lib.hid ⟨H.out.1, H.out.2.1.kept, H.out.2.1.moved H.out.2.2.1 hij, H.out.2.2.2.2⟩
    have K6 := Lib.hid k6
    rw [hxn] at k1 hl
    have i1 : IntKind.i64.wrap (((n + 1 : Nat) : Int) - 1) = (n : Int) := by rw [IntWalk.i64_in _ (by omega)]; omega
    have i2 : ((n : Int) == (i : Int)) = false := by simp; omega
    have i3 : ((n : Int) != (i : Int)) = true := by simp; omega
    obtain ⟨m, hm⟩ : ∃ m, n + 1 = m := ⟨_, rfl⟩
    rw [hm] at k1 i1
    have m1 := mPop qb
    have m2 := mLen qb
    have m3 := mSwap qb
    unfold tI at *
    generalize xs.getD i d0 = x at *
    obtain ⟨xh, xv⟩ := x
    clear h hi hh hF hw kp KP k6 hm hxn s1 s2 s3 s4
    go_enter Try.func52, Try.ntmps52
    go_wp2_with (first
      | (go_at_call 49; refine k1.mono ?_; rintro e w'' ⟨rfl, hw2⟩; subst hw2)
      | (go_at_call 114; refine k2.mono ?_; rintro e w1 ⟨rfl, H⟩; have k7 := k3 w1 H; clear k3 H)
      | (go_at_call 68; refine k7.mono ?_; rintro e w2 ⟨j, ys, rfl, H⟩; have k8 := k4 j ys w2 H; clear k4; generalize hb : decide (i < j) = b; cases b)
      | (go_at_call 67; refine (k8 (of_decide_eq_false hb)).mono ?_; rintro e w3 ⟨rfl, zs, HP⟩; have k9 := k5 zs w3 HP)
      | (go_at_call 113; refine k9.mono ?_; rintro e w4 ⟨rfl, HE⟩)
      | (go_at_call 113; refine (k5 ys _ (K6.out j ys _ H (of_decide_eq_true hb))).mono ?_; rintro e w4 ⟨rfl, HE⟩))
    all_goals
      refine bodyPost_ret (v := .iface 64 (.agg #[.int .i64 xh, .int .i64 xv])) (by simp [results, Try.results52, go_sem]) rfl ?_
      exact HE.out
  · obtain rfl : i = n := by omega
    have hsw : swapL xs d0 i i = xs := by
      apply List.ext_getElem?
      intro k
      rw [swapL_at hi hi]
      split
      · rename_i e; subst e; exact (getD_some hi).symm
      · rfl
    have k5 := kp xs W h (by rw [hsw]; exact Kept.refl d0 (by omega)) (hh.cut (by omega)) (Onl.refl _ _ _ _)
    rw [hxn] at k1 hl
    have i1 : IntKind.i64.wrap (((i + 1 : Nat) : Int) - 1) = (i : Int) := by rw [IntWalk.i64_in _ (by omega)]; omega
    obtain ⟨m, hm⟩ : ∃ m, i + 1 = m := ⟨_, rfl⟩
    rw [hm] at k1 i1
    have m1 := mPop qb
    have m2 := mLen qb
    unfold tI at *
    generalize xs.getD i d0 = x at *
    obtain ⟨xh, xv⟩ := x
    clear h hi hh hF hw kp hm hxn hsw
    go_enter Try.func52, Try.ntmps52
    go_wp2_with (first
      | (go_at_call 49; refine k1.mono ?_; rintro e w'' ⟨rfl, hw2⟩; subst hw2)
      | (go_at_call 113; refine k5.mono ?_; rintro e w4 ⟨rfl, HE⟩))
    all_goals
      refine bodyPost_ret (v := .iface 64 (.agg #[.int .i64 xh, .int .i64 xv])) (by simp [results, Try.results52, go_sem]) rfl ?_
      exact HE.out
end Go.Proofs.Ytcppgefnocjdiaa
