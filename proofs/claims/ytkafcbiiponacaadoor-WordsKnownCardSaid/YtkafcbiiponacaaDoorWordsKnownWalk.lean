/- The law WordsKnown. -/
import Derived.Test.YtkafcbiiponacaaDoorParseG
import Derived.Test.YtkafcbiiponacaaDoorWordsY
namespace Go.Proofs.YtkafcbiiponacaaDoor
open Go.RowKit Go.Shelf
set_option linter.unusedVariables false

theorem kn_int0 (w : World) (hvar : ∃ tp p, w.var? Tryd.prog "strconv.ErrRange" = some #[.iface tp p]) :
    Calls Tryd.prog 13 #[.string ⟨#[48, 48, 55]⟩, .int .i64 0, .int .i64 10] w fun e w' => e = .returned (.tuple #[.int .i64 0, .int .i64 6]) ∧ Below w.heap.size w w' := by
  refine (int_any _ _ _ w (by decide) (by decide) (by decide) hvar).mono ?_
  rintro e w' ⟨he, hb⟩
  have hx : intSp (ByteArray.mk #[48, 48, 55]).data.toList 0 10 = (0, 6) := by kernel_rfl
  rw [hx] at he
  exact ⟨he, hb⟩
theorem kn_int1 (w : World) (hvar : ∃ tp p, w.var? Tryd.prog "strconv.ErrRange" = some #[.iface tp p]) :
    Calls Tryd.prog 13 #[.string ⟨#[45, 48]⟩, .int .i64 0, .int .i64 10] w fun e w' => e = .returned (.tuple #[.int .i64 0, .int .i64 6]) ∧ Below w.heap.size w w' := by
  refine (int_any _ _ _ w (by decide) (by decide) (by decide) hvar).mono ?_
  rintro e w' ⟨he, hb⟩
  have hx : intSp (ByteArray.mk #[45, 48]).data.toList 0 10 = (0, 6) := by kernel_rfl
  rw [hx] at he
  exact ⟨he, hb⟩
theorem kn_int2 (w : World) (hvar : ∃ tp p, w.var? Tryd.prog "strconv.ErrRange" = some #[.iface tp p]) :
    Calls Tryd.prog 13 #[.string ⟨#[49, 50]⟩, .int .i64 0, .int .i64 10] w fun e w' => e = .returned (.tuple #[.int .i64 0, .int .i64 7]) ∧ Below w.heap.size w w' := by
  refine (int_any _ _ _ w (by decide) (by decide) (by decide) hvar).mono ?_
  rintro e w' ⟨he, hb⟩
  have hx : intSp (ByteArray.mk #[49, 50]).data.toList 0 10 = (0, 7) := by kernel_rfl
  rw [hx] at he
  exact ⟨he, hb⟩
theorem kn_unq0 (w : World) (hE : EscAt w) (hg : 0 < w.heap.size) :
    Calls Tryd.prog 19 #[.string ⟨#[34, 92, 120, 52, 49, 34]⟩] w fun e w' => e = .returned (.tuple #[.string ⟨#[]⟩, .int .i64 6]) ∧ Below w.heap.size w w' := by
  refine (unquote_any _ w (by decide) hE hg).mono ?_
  rintro e w' ⟨he, hb⟩
  have hx : unqL (ByteArray.mk #[34, 92, 120, 52, 49, 34]).data.toList = ([], 6) := by kernel_rfl
  rw [hx] at he
  exact ⟨he, hb⟩
theorem kn_unq1 (w : World) (hE : EscAt w) (hg : 0 < w.heap.size) :
    Calls Tryd.prog 19 #[.string ⟨#[34, 92, 120, 55, 70, 34]⟩] w fun e w' => e = .returned (.tuple #[.string ⟨#[]⟩, .int .i64 6]) ∧ Below w.heap.size w w' := by
  refine (unquote_any _ w (by decide) hE hg).mono ?_
  rintro e w' ⟨he, hb⟩
  have hx : unqL (ByteArray.mk #[34, 92, 120, 55, 70, 34]).data.toList = ([], 6) := by kernel_rfl
  rw [hx] at he
  exact ⟨he, hb⟩
theorem kn_unq2 (w : World) (hE : EscAt w) (hg : 0 < w.heap.size) :
    Calls Tryd.prog 19 #[.string ⟨#[34, 97]⟩] w fun e w' => e = .returned (.tuple #[.string ⟨#[]⟩, .int .i64 6]) ∧ Below w.heap.size w w' := by
  refine (unquote_any _ w (by decide) hE hg).mono ?_
  rintro e w' ⟨he, hb⟩
  have hx : unqL (ByteArray.mk #[34, 97]).data.toList = ([], 6) := by kernel_rfl
  rw [hx] at he
  exact ⟨he, hb⟩
theorem kn_split0 (w : World) (hE : EscAt w) (hg : 0 < w.heap.size) :
    Calls Tryd.prog 23 #[.string ⟨#[97, 32, 32, 98]⟩] w fun e w' => ∃ a c, e = .returned (.tuple #[.slice a 0 c, .int .i64 6]) ∧ Below w.heap.size w w' := by
  refine (split_any _ w (by decide) hE hg).mono ?_
  rintro e w' ⟨v, he, hs, hb⟩
  have hx : splitL (ByteArray.mk #[97, 32, 32, 98]).data.toList = ([], 6) := by kernel_rfl
  rw [hx] at he hs
  rcases hs with ⟨rfl, _⟩ | ⟨g, off, cap, rfl, _⟩
  · exact ⟨_, _, he, hb⟩
  · exact ⟨_, _, he, hb⟩
theorem kn_split1 (w : World) (hE : EscAt w) (hg : 0 < w.heap.size) :
    Calls Tryd.prog 23 #[.string ⟨#[]⟩] w fun e w' => ∃ a c, e = .returned (.tuple #[.slice a 0 c, .int .i64 0]) ∧ Below w.heap.size w w' := by
  refine (split_any _ w (by decide) hE hg).mono ?_
  rintro e w' ⟨v, he, hs, hb⟩
  have hx : splitL (ByteArray.mk #[]).data.toList = ([], 0) := by kernel_rfl
  rw [hx] at he hs
  rcases hs with ⟨rfl, _⟩ | ⟨g, off, cap, rfl, _⟩
  · exact ⟨_, _, he, hb⟩
  · exact ⟨_, _, he, hb⟩
theorem kn_list (w : World) (htab : Lib.TabIs Tryd.prog w "internal/strconv.uint64pow10" .u64 Lib.pow10Tab) :
    Calls Tryd.prog 30 #[.slice none 0 0] w fun e w' => e = .returned (.tuple #[.string ⟨#[45]⟩, .int .i64 0]) ∧ Below w.heap.size w w' := by
  refine (list_any _ [] w (.inl ⟨rfl, rfl⟩) htab).mono ?_
  rintro e w' ⟨he, hb⟩
  have hx : listL [] = ([45], 0) := by kernel_rfl
  rw [hx] at he
  exact ⟨he, hb⟩
theorem kn_pl0 (w : World) (hM : MaxAt w) (hE : ∃ tp p, w.var? Tryd.prog "strconv.ErrRange" = some #[.iface tp p]) :
    Calls Tryd.prog 32 #[.string ⟨#[49, 45, 51, 44, 52]⟩] w fun e w' => ∃ v, e = .returned (.tuple #[v, .int .i64 6]) ∧ Below w.heap.size w w' := by
  refine (parseList_any _ w (by decide) hM hE).mono ?_
  rintro e w' ⟨v, he, hs, hb⟩
  have hx : (parseL (ByteArray.mk #[49, 45, 51, 44, 52]).data.toList).2 = 6 := by kernel_rfl
  rw [hx] at he
  exact ⟨v, he, hb⟩
theorem kn_pl1 (w : World) (hM : MaxAt w) (hE : ∃ tp p, w.var? Tryd.prog "strconv.ErrRange" = some #[.iface tp p]) :
    Calls Tryd.prog 32 #[.string ⟨#[51, 45, 51]⟩] w fun e w' => ∃ v, e = .returned (.tuple #[v, .int .i64 6]) ∧ Below w.heap.size w w' := by
  refine (parseList_any _ w (by decide) hM hE).mono ?_
  rintro e w' ⟨v, he, hs, hb⟩
  have hx : (parseL (ByteArray.mk #[51, 45, 51]).data.toList).2 = 6 := by kernel_rfl
  rw [hx] at he
  exact ⟨v, he, hb⟩
theorem kn_pl2 (w : World) (hM : MaxAt w) (hE : ∃ tp p, w.var? Tryd.prog "strconv.ErrRange" = some #[.iface tp p]) :
    Calls Tryd.prog 32 #[.string ⟨#[50, 44, 49]⟩] w fun e w' => ∃ v, e = .returned (.tuple #[v, .int .i64 6]) ∧ Below w.heap.size w w' := by
  refine (parseList_any _ w (by decide) hM hE).mono ?_
  rintro e w' ⟨v, he, hs, hb⟩
  have hx : (parseL (ByteArray.mk #[50, 44, 49]).data.toList).2 = 6 := by kernel_rfl
  rw [hx] at he
  exact ⟨v, he, hb⟩
theorem kn_pl3 (w : World) (hM : MaxAt w) (hE : ∃ tp p, w.var? Tryd.prog "strconv.ErrRange" = some #[.iface tp p]) :
    Calls Tryd.prog 32 #[.string ⟨#[48, 45, 54, 48, 48]⟩] w fun e w' => ∃ v, e = .returned (.tuple #[v, .int .i64 3]) ∧ Below w.heap.size w w' := by
  refine (parseList_any _ w (by decide) hM hE).mono ?_
  rintro e w' ⟨v, he, hs, hb⟩
  have hx : (parseL (ByteArray.mk #[48, 45, 54, 48, 48]).data.toList).2 = 3 := by kernel_rfl
  rw [hx] at he
  exact ⟨v, he, hb⟩
theorem kn_name0 (w : World) :
    Calls Tryd.prog 15 #[.string ⟨#[87, 101, 98]⟩] w fun e w' => e = .returned (.bool false) ∧ w = w' := by
  refine (name_any _ w (by decide)).mono ?_
  rintro e w' ⟨he, hb⟩
  have hx : nameB (ByteArray.mk #[87, 101, 98]).data.toList = false := by kernel_rfl
  rw [hx] at he
  exact ⟨he, hb⟩
theorem kn_name1 (w : World) :
    Calls Tryd.prog 15 #[.string ⟨#[97, 97, 97, 97, 97, 97, 97, 97, 97, 97, 97, 97, 97, 97, 97, 97, 97]⟩] w fun e w' => e = .returned (.bool false) ∧ w = w' := by
  refine (name_any _ w (by decide)).mono ?_
  rintro e w' ⟨he, hb⟩
  have hx : nameB (ByteArray.mk #[97, 97, 97, 97, 97, 97, 97, 97, 97, 97, 97, 97, 97, 97, 97, 97, 97]).data.toList = false := by kernel_rfl
  rw [hx] at he
  exact ⟨he, hb⟩

set_option maxRecDepth 20000 in
set_option maxHeartbeats 400000 in
theorem known_any (w : World) (hG : G1 w) (hM : MaxAt w) :
    Calls Tryd.prog 11 #[] w fun e w' => e = .returned (.bool true) ∧ Below w.heap.size w w' := by
  have HG := Lib.hid hG; have HM := Lib.hid hM; clear hG hM
  have HB := Lib.hid (Below.refl w.heap.size w)
  go_enter Tryd.func11, Tryd.ntmps11
  have tk0 : True := trivial; have tk1 : True := trivial; have tk2 : True := trivial; have tk3 : True := trivial; have tk4 : True := trivial; have tk5 : True := trivial; have tk6 : True := trivial; have tk7 : True := trivial; have tk8 : True := trivial; have tk9 : True := trivial; have tk10 : True := trivial; have tk11 : True := trivial; have tk12 : True := trivial; have tk13 : True := trivial; have tk14 : True := trivial
  go_wp2_with (first
    | (go_at_call 13; have _t := tk0; refine (kn_int0 _ HG.out.err).mono ?_; rintro e w1 ⟨rfl, hb⟩; replace HB := Lib.hid (bl_call HB.out hb); replace HG := Lib.hid (HG.out.below hb); replace HM := Lib.hid (HM.out.below hb); clear hb; clear tk0 _t)
    | (go_at_call 13; have _t := tk1; refine (kn_int1 _ HG.out.err).mono ?_; rintro e w1 ⟨rfl, hb⟩; replace HB := Lib.hid (bl_call HB.out hb); replace HG := Lib.hid (HG.out.below hb); replace HM := Lib.hid (HM.out.below hb); clear hb; clear tk1 _t)
    | (go_at_call 13; have _t := tk2; refine (kn_int2 _ HG.out.err).mono ?_; rintro e w1 ⟨rfl, hb⟩; replace HB := Lib.hid (bl_call HB.out hb); replace HG := Lib.hid (HG.out.below hb); replace HM := Lib.hid (HM.out.below hb); clear hb; clear tk2 _t)
    | (go_at_call 19; have _t := tk3; refine (kn_unq0 _ HG.out.esc HG.out.lt).mono ?_; rintro e w1 ⟨rfl, hb⟩; replace HB := Lib.hid (bl_call HB.out hb); replace HG := Lib.hid (HG.out.below hb); replace HM := Lib.hid (HM.out.below hb); clear hb; clear tk3 _t)
    | (go_at_call 19; have _t := tk4; refine (kn_unq1 _ HG.out.esc HG.out.lt).mono ?_; rintro e w1 ⟨rfl, hb⟩; replace HB := Lib.hid (bl_call HB.out hb); replace HG := Lib.hid (HG.out.below hb); replace HM := Lib.hid (HM.out.below hb); clear hb; clear tk4 _t)
    | (go_at_call 19; have _t := tk5; refine (kn_unq2 _ HG.out.esc HG.out.lt).mono ?_; rintro e w1 ⟨rfl, hb⟩; replace HB := Lib.hid (bl_call HB.out hb); replace HG := Lib.hid (HG.out.below hb); replace HM := Lib.hid (HM.out.below hb); clear hb; clear tk5 _t)
    | (go_at_call 23; have _t := tk6; refine (kn_split0 _ HG.out.esc HG.out.lt).mono ?_; rintro e w1 ⟨a0, c0, rfl, hb⟩; replace HB := Lib.hid (bl_call HB.out hb); replace HG := Lib.hid (HG.out.below hb); replace HM := Lib.hid (HM.out.below hb); clear hb; clear tk6 _t)
    | (go_at_call 23; have _t := tk7; refine (kn_split1 _ HG.out.esc HG.out.lt).mono ?_; rintro e w1 ⟨a1, c1, rfl, hb⟩; replace HB := Lib.hid (bl_call HB.out hb); replace HG := Lib.hid (HG.out.below hb); replace HM := Lib.hid (HM.out.below hb); clear hb; clear tk7 _t)
    | (go_at_call 30; have _t := tk8; refine (kn_list _ HG.out.tab).mono ?_; rintro e w1 ⟨rfl, hb⟩; replace HB := Lib.hid (bl_call HB.out hb); replace HG := Lib.hid (HG.out.below hb); replace HM := Lib.hid (HM.out.below hb); clear hb; clear tk8 _t)
    | (go_at_call 32; have _t := tk9; refine (kn_pl0 _ HM.out HG.out.err).mono ?_; rintro e w1 ⟨v0, rfl, hb⟩; replace HB := Lib.hid (bl_call HB.out hb); replace HG := Lib.hid (HG.out.below hb); replace HM := Lib.hid (HM.out.below hb); clear hb; clear tk9 _t)
    | (go_at_call 32; have _t := tk10; refine (kn_pl1 _ HM.out HG.out.err).mono ?_; rintro e w1 ⟨v1, rfl, hb⟩; replace HB := Lib.hid (bl_call HB.out hb); replace HG := Lib.hid (HG.out.below hb); replace HM := Lib.hid (HM.out.below hb); clear hb; clear tk10 _t)
    | (go_at_call 32; have _t := tk11; refine (kn_pl2 _ HM.out HG.out.err).mono ?_; rintro e w1 ⟨v2, rfl, hb⟩; replace HB := Lib.hid (bl_call HB.out hb); replace HG := Lib.hid (HG.out.below hb); replace HM := Lib.hid (HM.out.below hb); clear hb; clear tk11 _t)
    | (go_at_call 32; have _t := tk12; refine (kn_pl3 _ HM.out HG.out.err).mono ?_; rintro e w1 ⟨v3, rfl, hb⟩; replace HB := Lib.hid (bl_call HB.out hb); replace HG := Lib.hid (HG.out.below hb); replace HM := Lib.hid (HM.out.below hb); clear hb; clear tk12 _t)
    | (go_at_call 15; have _t := tk13; refine (kn_name0 _).mono ?_; rintro e w1 ⟨rfl, rfl⟩; clear tk13 _t)
    | (go_at_call 15; have _t := tk14; refine (kn_name1 _).mono ?_; rintro e w1 ⟨rfl, rfl⟩; clear tk14 _t)
    | (go_at_call 12; refine (shown_any _ HG.out).mono ?_; rintro e w4 ⟨rfl, hb⟩; replace HB := Lib.hid (bl_call HB.out hb); clear hb))
  go_ret
  exact ⟨rfl, HB.out⟩
end Go.Proofs.YtkafcbiiponacaaDoor
