/- shown: the document's first examples. -/
import Derived.Test.YtdcjnklagklckaaDoorWordsX
import Derived.Test.YtdcjnklagklckaaDoorWordsO
namespace Go.Proofs.YtdcjnklagklckaaDoor
open Go.RowKit Go.Shelf
set_option linter.unusedVariables false

theorem ex_split : splitL [103, 101, 116, 32, 47, 32, 34, 97, 32, 98, 34] = ([(⟨#[103, 101, 116]⟩, false), (⟨#[47]⟩, false), (⟨#[97, 32, 98]⟩, true)], 0) := by kernel_rfl
theorem ex_int : intSp [45, 49, 50] (-20) 20 = (-12, 0) := by kernel_rfl
theorem ex_unq : unqL [34, 97, 92, 110, 92, 120, 48, 48, 92, 34, 34] = ([97, 10, 0, 34], 0) := by kernel_rfl
theorem ex_name : nameB [119, 101, 98, 45, 49] = true := by kernel_rfl
theorem ex_list : listL [1, 2, 3, 5, 8, 9] = ([49, 45, 51, 44, 53, 44, 56, 45, 57], 0) := by
  have r2 : runE [1, 2, 3, 5, 8, 9] 2 = 2 := by rw [runE]; rfl
  have r1 : runE [1, 2, 3, 5, 8, 9] 1 = 2 := by rw [runE]; exact r2
  have r0 : runE [1, 2, 3, 5, 8, 9] 0 = 2 := by rw [runE]; exact r1
  have r3 : runE [1, 2, 3, 5, 8, 9] 3 = 3 := by rw [runE]; rfl
  have r5 : runE [1, 2, 3, 5, 8, 9] 5 = 5 := by rw [runE]; rfl
  have r4 : runE [1, 2, 3, 5, 8, 9] 4 = 5 := by rw [runE]; exact r5
  have hl : listS [1, 2, 3, 5, 8, 9] = [49, 45, 51, 44, 53, 44, 56, 45, 57] := by
    unfold listS
    rw [piecesF, dif_pos (by decide), r0, piecesF, dif_pos (by decide), r3, piecesF, dif_pos (by decide), r4, piecesF, dif_neg (by decide)]
    simp only [pieceB]
    rw [show ([1, 2, 3, 5, 8, 9] : List Int).getD 0 0 = 1 from rfl, show ([1, 2, 3, 5, 8, 9] : List Int).getD 2 0 = 3 from rfl, show ([1, 2, 3, 5, 8, 9] : List Int).getD 3 0 = 5 from rfl, show ([1, 2, 3, 5, 8, 9] : List Int).getD (3 + 1) 0 = 8 from rfl, show ([1, 2, 3, 5, 8, 9] : List Int).getD 5 0 = 9 from rfl]
    simp only [itoa_small 1 (by decide) (by decide), itoa_small 3 (by decide) (by decide), itoa_small 5 (by decide) (by decide), itoa_small 8 (by decide) (by decide), itoa_small 9 (by decide) (by decide)]
    rfl
  unfold listL; rw [hl]; rfl

def exFs : List FD := [(⟨#[103, 101, 116]⟩, false), (⟨#[47]⟩, false), (⟨#[97, 32, 98]⟩, true)]
theorem ex_split_call (w : World) (hE : EscAt w) (hg : 0 < w.heap.size) :
    Calls Tryd.prog 23 #[.string ⟨#[103, 101, 116, 32, 47, 32, 34, 97, 32, 98, 34]⟩] w fun e w' => ∃ v, e = .returned (.tuple #[v, .int .i64 0]) ∧ FSl w' v exFs ∧ Below w.heap.size w w' := by
  refine (split_any _ w (by decide) hE hg).mono ?_
  rintro e w' ⟨v, he, hs, hb⟩
  have hx : splitL (ByteArray.mk #[103, 101, 116, 32, 47, 32, 34, 97, 32, 98, 34]).data.toList = (exFs, 0) := ex_split
  rw [hx] at he hs
  exact ⟨v, he, hs, hb⟩
theorem ex_int_call (w : World) (hvar : ∃ tp p, w.var? Tryd.prog "strconv.ErrRange" = some #[.iface tp p]) :
    Calls Tryd.prog 13 #[.string ⟨#[45, 49, 50]⟩, .int .i64 (-20), .int .i64 20] w fun e w' => e = .returned (.tuple #[.int .i64 (-12), .int .i64 0]) ∧ Below w.heap.size w w' := by
  refine (int_any _ _ _ w (by decide) (by decide) (by decide) hvar).mono ?_
  rintro e w' ⟨he, hb⟩
  have hx : intSp (ByteArray.mk #[45, 49, 50]).data.toList (-20) 20 = (-12, 0) := ex_int
  rw [hx] at he
  exact ⟨he, hb⟩
theorem ex_unq_call (w : World) (hE : EscAt w) (hg : 0 < w.heap.size) :
    Calls Tryd.prog 19 #[.string ⟨#[34, 97, 92, 110, 92, 120, 48, 48, 92, 34, 34]⟩] w fun e w' => e = .returned (.tuple #[.string ⟨#[97, 10, 0, 34]⟩, .int .i64 0]) ∧ Below w.heap.size w w' := by
  refine (unquote_any _ w (by decide) hE hg).mono ?_
  rintro e w' ⟨he, hb⟩
  have hx : unqL (ByteArray.mk #[34, 97, 92, 110, 92, 120, 48, 48, 92, 34, 34]).data.toList = ([97, 10, 0, 34], 0) := ex_unq
  rw [hx] at he
  exact ⟨he, hb⟩
theorem ex_name_call (w : World) :
    Calls Tryd.prog 15 #[.string ⟨#[119, 101, 98, 45, 49]⟩] w fun e w' => e = .returned (.bool true) ∧ w = w' := by
  refine (name_any _ w (by decide)).mono ?_
  rintro e w' ⟨he, hb⟩
  have hx : nameB (ByteArray.mk #[119, 101, 98, 45, 49]).data.toList = true := ex_name
  rw [hx] at he
  exact ⟨he, hb⟩
theorem ex_list_call (v : Value) (w : World) (h : ISl w v [1, 2, 3, 5, 8, 9]) (htab : Lib.TabIs Tryd.prog w "internal/strconv.uint64pow10" .u64 Lib.pow10Tab) :
    Calls Tryd.prog 30 #[v] w fun e w' => e = .returned (.tuple #[.string ⟨#[49, 45, 51, 44, 53, 44, 56, 45, 57]⟩, .int .i64 0]) ∧ Below w.heap.size w w' := by
  refine (list_any v _ w h htab).mono ?_
  rintro e w' ⟨he, hb⟩
  rw [ex_list] at he
  exact ⟨he, hb⟩

/-- What the calls of this layer read of the program's own variables. -/
structure G1 (w : World) : Prop where
  esc : EscAt w
  tab : Lib.TabIs Tryd.prog w "internal/strconv.uint64pow10" .u64 Lib.pow10Tab
  err : ∃ tp p, w.var? Tryd.prog "strconv.ErrRange" = some #[.iface tp p]
theorem G1.lt {w : World} (h : G1 w) : 0 < w.heap.size := by
  obtain ⟨t, fr, hg⟩ := h.esc; exact (Array.getElem?_eq_some_iff.1 hg).1
theorem var_keep {P : Program} {W W' : World} {n : String} {cs : Array Value} (h : W.var? P n = some cs) (hb : Below W.heap.size W W') : W'.var? P n = some cs := by
  unfold World.var? at h ⊢
  cases hg : P.globalNamed n with
  | none => simp [hg] at h
  | some g =>
    simp only [hg, Option.bind_some] at h ⊢
    have hlt : g < W.heap.size := by
      rcases Nat.lt_or_ge g W.heap.size with h' | h'
      · exact h'
      · rw [Array.getElem?_eq_none h'] at h; cases h
    rw [hb.block g hlt]; exact h
theorem G1.below {w w' : World} (h : G1 w) (hb : Below w.heap.size w w') : G1 w' :=
  ⟨h.esc.below hb h.lt, Lib.tabBelow_of_tabIs h.tab _ hb, by obtain ⟨tp, p, e⟩ := h.err; exact ⟨tp, p, var_keep e hb⟩⟩

theorem ex_list_lit (W : World) (hG : G1 W) (t : TypeId) :
    Calls Tryd.prog 30 #[.slice (some ⟨W.heap.size, 0, none⟩) 6 6] (W.alloc (.cells #[.int .i64 1, .int .i64 2, .int .i64 3, .int .i64 5, .int .i64 8, .int .i64 9] t)) fun e w' =>
      e = .returned (.tuple #[.string ⟨#[49, 45, 51, 44, 53, 44, 56, 45, 57]⟩, .int .i64 0]) ∧ Below W.heap.size W w' := by
  refine (ex_list_call _ _ (.inr ⟨W.heap.size, 0, 6, rfl, by simp, by decide, fun i hi => ?_⟩) (hG.below ((Below.refl _ W).alloc (Nat.le_refl _) _)).tab).mono ?_
  · rw [cell_of_row _ _ _ _ _ _ (heap_alloc_new W _), Nat.zero_add]
    have hi' : i < 6 := hi
    have : i = 0 ∨ i = 1 ∨ i = 2 ∨ i = 3 ∨ i = 4 ∨ i = 5 := by omega
    rcases this with rfl | rfl | rfl | rfl | rfl | rfl <;> rfl
  · rintro e w' ⟨rfl, hb⟩
    exact ⟨rfl, bl_call ((Below.refl _ W).alloc (Nat.le_refl _) _) hb⟩
theorem ex_fs_lit (W : World) (t : TypeId) :
    FSl (W.alloc (.cells #[.string ⟨#[103, 101, 116]⟩, .bool false, .string ⟨#[47]⟩, .bool false, .string ⟨#[97, 32, 98]⟩, .bool true] t)) (.slice (some ⟨W.heap.size, 0, none⟩) 3 3) exFs := by
  refine .inr ⟨W.heap.size, 0, 3, rfl, by simp, by decide, fun i hi => ?_⟩
  rw [cell_of_row _ _ _ _ _ _ (heap_alloc_new W _), cell_of_row _ _ _ _ _ _ (heap_alloc_new W _)]
  have hi' : i < 3 := hi
  have : i = 0 ∨ i = 1 ∨ i = 2 := by omega
  rcases this with rfl | rfl | rfl <;> exact ⟨rfl, rfl⟩

set_option maxRecDepth 20000 in
set_option maxHeartbeats 400000 in
theorem shown_any (w : World) (hG : G1 w) :
    Calls Tryd.prog 12 #[] w fun e w' => e = .returned (.bool true) ∧ Below w.heap.size w w' := by
  have HG := Lib.hid hG; clear hG
  have HB := Lib.hid (Below.refl w.heap.size w)
  go_enter Tryd.func12, Tryd.ntmps12
  go_wp2_with (first
    | (go_at_call 23; refine (ex_split_call _ HG.out.esc HG.out.lt).mono ?_; rintro e w1 ⟨v, rfl, hs, hb⟩; have HS := Lib.hid hs; replace HB := Lib.hid (bl_call HB.out hb); replace HG := Lib.hid (HG.out.below hb); clear hb hs)
    | (go_at_call 13; refine (ex_int_call _ HG.out.err).mono ?_; rintro e w2 ⟨rfl, hb⟩; replace HS := Lib.hid (HS.out.later hb); replace HB := Lib.hid (bl_call HB.out hb); replace HG := Lib.hid (HG.out.below hb); clear hb)
    | (go_at_call 30; refine (ex_list_lit _ HG.out _).mono ?_; rintro e w3 ⟨rfl, hb⟩; replace HS := Lib.hid (HS.out.later hb); replace HB := Lib.hid (bl_call HB.out hb); replace HG := Lib.hid (HG.out.below hb); clear hb)
    | (go_at_call 19; refine (ex_unq_call _ HG.out.esc HG.out.lt).mono ?_; rintro e w4 ⟨rfl, hb⟩; replace HS := Lib.hid (HS.out.later hb); replace HB := Lib.hid (bl_call HB.out hb); replace HG := Lib.hid (HG.out.below hb); clear hb)
    | (go_at_call 15; refine (ex_name_call _).mono ?_; rintro e w5 ⟨rfl, rfl⟩)
    | (go_at_call 25; refine (same_any v _ exFs exFs _ (HS.out.later (bl_alloc _ (Below.refl _ _))) (ex_fs_lit _ _)).mono ?_; rintro e w5 ⟨rfl, n, hw⟩; rw [sameB_true rfl]; replace HB := Lib.hid (show Below w.heap.size w w5 by rw [hw]; exact bl_drewN _ (bl_alloc _ HB.out)); clear hw))
  go_ret
  exact ⟨rfl, HB.out⟩
end Go.Proofs.YtdcjnklagklckaaDoor
