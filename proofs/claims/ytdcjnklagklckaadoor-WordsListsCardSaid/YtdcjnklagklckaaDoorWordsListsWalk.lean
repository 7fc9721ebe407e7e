/- The law WordsLists: the walk. -/
import Derived.Test.YtdcjnklagklckaaDoorInvC
import Derived.Test.YtdcjnklagklckaaDoorListsA
import Derived.Test.YtdcjnklagklckaaDoorParseG
import Derived.Test.YtdcjnklagklckaaDoorParseN
import Derived.Test.YtdcjnklagklckaaDoorWordsY
namespace Go.Proofs.YtdcjnklagklckaaDoor
open Go.RowKit Go.Shelf
set_option linter.unusedVariables false

/-- What every call leaves as it was. -/
structure VL (w : World) (lv : Value) (ns : List Int) (W : World) : Prop where
  g1 : G1 W
  mx : MaxAt W
  ia : IA W lv ns
  bel : Below w.heap.size w W
theorem VL.step {w : World} {lv : Value} {ns : List Int} {W W' : World} (h : VL w lv ns W) (hb : Below W.heap.size W W') : VL w lv ns W' :=
  ⟨h.g1.below hb, h.mx.below hb, h.ia.later hb, h.bel.trans (hb.mono h.bel.size)⟩

set_option maxRecDepth 20000 in
set_option maxHeartbeats 4000000 in
theorem lists_main (la : Option Addr) (lc : Nat) (ns : List Int) (s : ByteArray) (w : World) (hG : G1 w) (hM : MaxAt w) (hn : ns.length ≤ 510) (hs : s.size ≤ 2000) (hI : IA w (.slice la ns.length lc) ns) :
    Calls Tryd.prog 8 #[.slice la ns.length lc, .string s] w fun e w' => e = .returned (.bool true) ∧ Below w.heap.size w w' := by
  have HV : Hid (VL w (.slice la ns.length lc) ns w) := Lib.hid ⟨hG, hM, hI, Below.refl _ _⟩
  clear hG hM hI
  obtain ⟨T, hT⟩ : ∃ T : ByteArray, (⟨(listL ns).1.toArray⟩ : ByteArray) = T := ⟨_, rfl⟩
  obtain ⟨e1, he1⟩ : ∃ x, (listL ns).2 = x := ⟨_, rfl⟩
  have HL : Hid (∀ W, VL w (.slice la ns.length lc) ns W → Calls Tryd.prog 30 #[.slice la ns.length lc] W fun e w' => e = .returned (.tuple #[.string T, .int .i64 e1]) ∧ Below W.heap.size W w') := Lib.hid (fun W h => by
    refine (listA_any _ ns W h.ia h.g1.tab).mono ?_; rintro e w' ⟨rfl, hb⟩; exact ⟨by rw [hT, he1], hb⟩)
  have HLR : Hid (∀ W, VL w (.slice la ns.length lc) ns W → Calls Tryd.prog 31 #[.slice la ns.length lc] W fun e w' => e = .returned (.tuple #[.string T, .int .i64 e1]) ∧ Below W.heap.size W w') := Lib.hid (fun W h => by
    refine (rlistA_any _ ns W h.ia).mono ?_; rintro e w' ⟨rfl, hb⟩; exact ⟨by rw [hT, he1], hb⟩)
  obtain ⟨pl, hpl⟩ : ∃ x, parseL s.data.toList = x := ⟨_, rfl⟩
  obtain ⟨ms, e5⟩ := pl
  have HP : Hid (∀ W, VL w (.slice la ns.length lc) ns W → Calls Tryd.prog 32 #[.string s] W fun e w' => ∃ v, e = .returned (.tuple #[v, .int .i64 e5]) ∧ ISl w' v ms ∧ Below W.heap.size W w') := Lib.hid (fun W h => by
    have := parseList_any s W (by omega) h.mx h.g1.err
    unfold ParsePost at this
    rw [hpl] at this; exact this)
  have HPR : Hid (∀ W, VL w (.slice la ns.length lc) ns W → Calls Tryd.prog 33 #[.string s] W fun e w' => ∃ v, e = .returned (.tuple #[v, .int .i64 e5]) ∧ ISl w' v ms ∧ Below W.heap.size W w') := Lib.hid (fun W h => by
    have := rparseList_any s W hs
    unfold ParsePost at this
    rw [hpl] at this; exact this)
  clear hT he1 hpl
  have q : (T.toList == T.toList) = true := by simp
  have j1 : (e1 == e1) = true := beq_self_eq_true _
  have j5 : (e5 == e5) = true := beq_self_eq_true _
  go_enter Tryd.func8, Tryd.ntmps8
  go_wp2_with (first
    | (go_at_call 30; refine (HL.out _ HV.out).mono ?_; rintro e w1 ⟨rfl, hb⟩; replace HV := Lib.hid (HV.out.step hb); clear hb)
    | (go_at_call 31; refine (HLR.out _ HV.out).mono ?_; rintro e w2 ⟨rfl, hb⟩; replace HV := Lib.hid (HV.out.step hb); clear hb)
    | (go_at_call 32; refine (HP.out _ HV.out).mono ?_; rintro e w3 ⟨v1, rfl, hv, hb⟩; have HV1 := Lib.hid hv; replace HV := Lib.hid (HV.out.step hb); clear hb hv)
    | (go_at_call 33; refine (HPR.out _ HV.out).mono ?_; rintro e w4 ⟨v2, rfl, hv, hb⟩; have HV2 := Lib.hid hv; replace HV1 := Lib.hid (HV1.out.later hb); replace HV := Lib.hid (HV.out.step hb); clear hb hv)
    | (go_at_call 34; refine (lists_eq _ _ ms _ (.inl HV1.out) (.inl HV2.out)).mono ?_; rintro e w5 ⟨rfl, k, rfl⟩; replace HV := Lib.hid (HV.out.step (bl_drewN k (Below.refl _ _))))
    | (go_at_call 12; refine (shown_any _ HV.out.g1).mono ?_; rintro e w6 ⟨rfl, hb⟩; replace HV := Lib.hid (HV.out.step hb); clear hb))
  go_ret
  exact ⟨rfl, HV.out.bel⟩
set_option maxRecDepth 20000 in
set_option maxHeartbeats 1000000 in
/-- What is not examined. -/
theorem lists_early (la : Option Addr) (lc : Nat) (ns : List Int) (s : ByteArray) (w : World) (hG : G1 w) (hl : ns.length ≤ maxLen) (hz : s.size ≤ maxLen) (hc : 510 < ns.length ∨ (ns.length ≤ 510 ∧ 2000 < s.size)) :
    Calls Tryd.prog 8 #[.slice la ns.length lc, .string s] w fun e w' => e = .returned (.bool true) ∧ Below w.heap.size w w' := by
  have HG := Lib.hid hG
  clear hG
  unfold maxLen at hl hz
  rcases hc with hc | ⟨hc, hc2⟩
  all_goals
    go_enter Tryd.func8, Tryd.ntmps8
    go_wp2_with (go_at_call 12; refine (shown_any _ HG.out).mono ?_; rintro e w6 ⟨rfl, hb⟩; have HB := Lib.hid hb; clear hb)
    go_ret
    exact ⟨rfl, HB.out⟩
theorem words_lists (lv : Value) (ns : List Int) (s : ByteArray) (w : World) (hG : G1 w) (hM : MaxAt w) (hI : IA w lv ns) (hs : s.size ≤ maxLen) :
    Calls Tryd.prog 8 #[lv, .string s] w fun e w' => e = .returned (.bool true) ∧ Below w.heap.size w w' := by
  obtain ⟨la, lc, rfl, hml⟩ := hI.len
  by_cases h1 : 510 < ns.length
  · exact lists_early la lc ns s w hG hml hs (.inl h1)
  by_cases h2 : 2000 < s.size
  · exact lists_early la lc ns s w hG hml hs (.inr ⟨by omega, h2⟩)
  · exact lists_main la lc ns s w hG hM (by omega) (by omega) hI
open Go.ChangeShapes Go.WideShapes Go.Deep in
set_option maxRecDepth 100000 in
theorem open_ints {H : Type} {enc : TypeId × Value → H} {W : World} {v : Value} {d : DataW H} {p : List MemPlace} {r : Reach} {b0 : Nat}
    (hv : Value.okWide Tryd.prog W r b0 40 v) (h : DataW.Trod enc Tryd.prog W 0 (fun _ => true) true 40 v d p) : ∃ ns, IA W v ns := by
  obtain ⟨a0, len, cap, rfl⟩ := okWide_slice Tryd.underlying40 hv
  obtain ⟨fuel, hf⟩ := h
  exact open_list hf
end Go.Proofs.YtdcjnklagklckaaDoor
