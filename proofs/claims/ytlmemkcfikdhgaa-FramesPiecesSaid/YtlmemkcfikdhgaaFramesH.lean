/- Feed. -/
import Derived.Test.YtlmemkcfikdhgaaFramesG
namespace Go.Proofs.Ytlmemkcfikdhgaa
open Go.RowKit Go.Lib
set_option linter.unusedVariables false

/-- What comes behind a state and bytes. -/
def nextBuf (buf : List Nat) (bad : Bool) (xs : List Nat) : List Nat := if bad then [] else bufL (buf ++ xs)
def nextBad (buf : List Nat) (bad : Bool) (xs : List Nat) : Bool := if bad then true else badL (buf ++ xs)
def nextPays (buf : List Nat) (bad : Bool) (xs : List Nat) : List (List Nat) := if bad then [] else paysL (buf ++ xs)
def FeedR (w : World) (buf : List Nat) (bad : Bool) (xs : List Nat) (e : Ending) (w' : World) : Prop :=
  ∃ v L, e = .returned (.tuple #[stV (nextBuf buf bad xs) (nextBad buf bad xs), v, .int .i64 0]) ∧ OL w' w.heap.size v L ∧ L.map (·.2) = nextPays buf bad xs ∧ Below w.heap.size w w'
theorem pn_two {w : World} {T : TypeId} {u1 u2 : Value} {a b : List Nat} (h1 : RN w u1 a) (h2 : RN w u2 b) (ha : BB a) (hb : BB b) : PN (w.alloc (.cells #[u1, u2] T)) (.slice (some ⟨w.heap.size, 0, none⟩) 2 2) [a, b] := by
  have hb0 : Below w.heap.size w (w.alloc (.cells #[u1, u2] T)) := bl_alloc _ (Below.refl _ _)
  refine .inr ⟨w.heap.size, 0, 2, rfl, by simp, by simp, by simp, by unfold maxLen; omega, fun i hi => ?_⟩
  match i, hi with
  | 0, _ => exact ⟨u1, by rw [World.cell?_alloc_at _ _ _ _ rfl]; rfl, h1.later hb0, ha⟩
  | 1, _ => exact ⟨u2, by rw [World.cell?_alloc_at _ _ _ _ rfl]; rfl, h2.later hb0, hb⟩
/-- The two boxes. -/
theorem two_boxes {w w2 : World} {A B : Obj} (hb : Below ((w.alloc A).alloc B).heap.size ((w.alloc A).alloc B) w2) : w2.heap[w.heap.size]? = some A ∧ w2.heap[w.heap.size + 1]? = some B := by
  refine ⟨?_, ?_⟩
  · rw [hb.block _ (by simp; omega), Below.heap_alloc _ _ _ (by simp)]; exact World.alloc_heap_new w _
  · rw [hb.block _ (by simp)]
    have := World.alloc_heap_new (w.alloc A) B
    simpa using this
set_option maxRecDepth 20000 in
set_option maxHeartbeats 2000000 in
theorem feed_bad (v : Value) (xs : List Nat) (w : World) (hv : RN w v xs) : Calls Try.prog 15 #[stV [] true, v] w (FeedR w [] true xs) := by
  have hg : GoodS [] true := ⟨BB.nil, by simp, .inl ⟨rfl, rfl⟩⟩
  obtain ⟨A, c, rfl⟩ := hv.len
  have hc : ∀ W, Calls Try.prog 23 #[.agg #[.string (strB []), .bool true]] W (Gives W (.int .i64 0)) := fun W => check_ok [] true W hg
  have HC := Lib.hid hc
  clear hc hg hv
  unfold stV
  go_enter Try.func15, Try.ntmps15
  go_wp2_with (go_at_call 23; (with_reducible refine (HC.out _).mono ?_); rintro e w2 ⟨rfl, hb2⟩; obtain ⟨h0, h1⟩ := two_boxes hb2; obtain ⟨s0, s1, _, _⟩ := cell_of2 h0; obtain ⟨s2, s3, s4, s5⟩ := cell_of2 h1; have H1 := Lib.hid h1; have HB2 := Lib.hid hb2; clear hb2 h0 h1)
  have hh := heap_set2 H1.out (.string (strB [])) (.bool true)
  obtain ⟨z0, z1, _, _⟩ := cell_of2 hh
  refine bodyPost_ret (v := .tuple #[stV [] true, .slice none 0 0, .int .i64 0]) (by simp [results, Try.f15, go_sem, z0, z1, stV]) rfl ?_
  exact ⟨_, [], rfl, OL.nil _ _, rfl, bl_set _ (bl_set _ (bl_call (bl_alloc _ (bl_alloc _ (Below.refl _ _))) HB2.out) (by simp)) (by simp)⟩
set_option maxRecDepth 20000 in
set_option maxHeartbeats 2000000 in
theorem feed_ok (buf : List Nat) (v : Value) (xs : List Nat) (w : World) (hg : GoodS buf false) (hv : RN w v xs) (hb : BB xs) (hl : buf.length + xs.length ≤ 2000000) : Calls Try.prog 15 #[stV buf false, v] w (FeedR w buf false xs) := by
  obtain ⟨A, c, rfl⟩ := hv.len
  have hc : ∀ W, Calls Try.prog 23 #[.agg #[.string (strB buf), .bool false]] W (Gives W (.int .i64 0)) := fun W => check_ok buf false W hg
  have HC := Lib.hid hc; have HG := Lib.hid hg; have HV := Lib.hid hv; have HBB := Lib.hid hb
  clear hc hg hv hb
  have hsum : sumL [buf, xs] ≤ 2000000 := by simp [sumL]; omega
  have hflat : [buf, xs].flatten = buf ++ xs := by simp
  have HS := Lib.hid hsum; have HF := Lib.hid hflat
  clear hsum hflat
  unfold stV
  go_enter Try.func15, Try.ntmps15
  go_wp2_with (first
    | (go_at_call 23; (with_reducible refine (HC.out _).mono ?_); rintro e w2 ⟨rfl, hb2⟩; obtain ⟨h0, h1⟩ := two_boxes hb2; obtain ⟨s0, s1, _, _⟩ := cell_of2 h0; have hw2 : Below w.heap.size w w2 := bl_call (bl_alloc _ (bl_alloc _ (Below.refl _ _))) hb2; obtain ⟨ad, cp, W1, hcv, hr, hb3⟩ := conv_str w2 HG.out.bb HG.out.len; have hp := pn_two (T := 22) hr (HV.out.later (hw2.trans (hb3.mono hw2.size))) HG.out.bb HBB.out; have h1' := (hb3.block _ (Array.getElem?_eq_some_iff.1 h1).1).trans h1; have H1 := Lib.hid h1'; have HP := Lib.hid hp; have HB3 := Lib.hid (bl_alloc (.cells #[.slice (some ad) buf.length cp, .slice A xs.length c] 22) (bl_call hw2 hb3)); clear hb2 h0 h1 h1' hp hr hb3 hw2)
    | (go_at_call 24; (with_reducible refine (concat_any _ [buf, xs] _ HP.out HS.out).mono ?_); rintro e w4 ⟨v4, rfl, ho4, hb4⟩; rw [HF.out] at ho4; have HO4 := Lib.hid ho4; have HB4 := Lib.hid (bl_call HB3.out hb4); have H4 := Lib.hid ((hb4.block _ (Array.getElem?_eq_some_iff.1 (((Below.refl _ W1).alloc (Nat.le_refl _) (.cells #[.slice (some ad) buf.length cp, .slice A xs.length c] 22)).block _ (Array.getElem?_eq_some_iff.1 H1.out).1 |>.trans H1.out)).1).trans (((Below.refl _ W1).alloc (Nat.le_refl _) (.cells #[.slice (some ad) buf.length cp, .slice A xs.length c] 22)).block _ (Array.getElem?_eq_some_iff.1 H1.out).1 |>.trans H1.out)); clear ho4 hb4)
    | (go_at_call 14; (with_reducible refine (split_calls _ (buf ++ xs) _ HO4.out.rn (HG.out.bb.app HBB.out) (by rw [List.length_append]; exact hl)).mono ?_); rintro e w5 ⟨v5, L, rfl, ho5, hp5, hb5⟩; rw [endV_eq]; unfold stV; have h5 := (hb5.block _ (Array.getElem?_eq_some_iff.1 H4.out).1).trans H4.out; obtain ⟨s2, s3, s4, s5⟩ := cell_of2 h5; have H5 := Lib.hid h5; have HO5 := Lib.hid ho5; have HP5 := Lib.hid hp5; have HB5 := Lib.hid (bl_call HB4.out hb5); have HSZ := Lib.hid (Array.getElem?_eq_some_iff.1 H4.out).1; clear h5 ho5 hp5 hb5))
  have hh := heap_set2 (heap_set2 H5.out (.string (strB (bufL (buf ++ xs)))) (.bool (badL (buf ++ xs)))) (.string (strB (bufL (buf ++ xs)))) (.bool (badL (buf ++ xs)))
  obtain ⟨z0, z1, _, _⟩ := cell_of2 hh
  obtain ⟨A5, c5, rfl⟩ := HO5.out.len
  have hlt : w.heap.size + 1 < w4.heap.size := HSZ.out
  refine bodyPost_ret (v := .tuple #[stV (bufL (buf ++ xs)) (badL (buf ++ xs)), .slice A5 L.length c5, .int .i64 0]) (by simp [results, Try.f15, go_sem, z0, z1, stV]) rfl ?_
  exact ⟨_, L, rfl, ((((HO5.out.set ⟨w.heap.size + 1, 0, none⟩ _ hlt).set ⟨w.heap.size + 1, 1, none⟩ _ hlt).set ⟨w.heap.size + 1, 0, none⟩ _ hlt).set ⟨w.heap.size + 1, 1, none⟩ _ hlt).mono (by omega), HP5.out, bl_set _ (bl_set _ (bl_set _ (bl_set _ HB5.out (by simp)) (by simp)) (by simp)) (by simp)⟩
theorem feed_any (buf : List Nat) (bad : Bool) (v : Value) (xs : List Nat) (w : World) (hg : GoodS buf bad) (hv : RN w v xs) (hb : BB xs) (hl : buf.length + xs.length ≤ 2000000) : Calls Try.prog 15 #[stV buf bad, v] w (FeedR w buf bad xs) := by
  rcases hg.ok with ⟨rfl, rfl⟩ | ⟨rfl, _⟩
  · exact feed_bad v xs w hv
  · exact feed_ok buf v xs w hg hv hb hl
end Go.Proofs.Ytlmemkcfikdhgaa
