/- words.ParseList. -/
import Derived.Test.YtdcjnklagklckaaDoorParseF
namespace Go.Proofs.YtdcjnklagklckaaDoor
open Go.RowKit Go.Shelf
set_option linter.unusedVariables false

def ParsePost (l : List UInt8) (w : World) (e : Ending) (w' : World) : Prop := ∃ v, e = .returned (.tuple #[v, .int .i64 (parseL l).2]) ∧ ISl w' v (parseL l).1 ∧ Below w.heap.size w w'

theorem chk_size : ∀ (ps : List (List UInt8)) (g z : List UInt8), chkGo g ps = some z → z.length ≤ g.length ∨ ∃ p ∈ ps, z.length ≤ p.length
  | [], g, z, h => by rw [chkGo] at h; cases h; exact .inl (Nat.le_refl _)
  | q :: ps, g, z, h => by
    rw [chkGo] at h
    cases hr : readR q with
    | none => rw [hr] at h; cases h
    | some ab =>
      obtain ⟨a, b⟩ := ab
      rw [hr] at h
      simp only at h
      split at h
      · cases h
      · rcases chk_size ps b z h with h1 | ⟨p, hp, h1⟩
        · exact .inr ⟨q, by simp, Nat.le_trans h1 (readR_len hr).2⟩
        · exact .inr ⟨p, by simp [hp], h1⟩
theorem chk_le {l z : List UInt8} (h : chkGo [] (cutAt 44 l) = some z) : z.length ≤ l.length := by
  rcases chk_size _ _ _ h with h1 | ⟨p, hp, h1⟩
  · simp at h1; subst h1; simp
  · exact Nat.le_trans h1 (cutAt_size 44 l p hp)
theorem exp_of {l z : List UInt8} (h : chkGo [] (cutAt 44 l) = some z) : expOf l = match expGo [] (cutAt 44 l) with
      | none => ([], 3)
      | some ns => (ns, 0) := by
  unfold expOf runsY
  rw [expY_go _ _ (chk_some _ _ _ h)]
  cases expGo [] (cutAt 44 l) <;> rfl
theorem parse_dash : parseL [45] = ([], 0) := by unfold parseL; rw [if_pos rfl]
theorem parse_form {l : List UInt8} (h0 : l ≠ [45]) (h : chkGo [] (cutAt 44 l) = none) : parseL l = ([], 6) := by unfold parseL; rw [if_neg h0, h]
theorem parse_int {l z : List UInt8} (h0 : l ≠ [45]) (h : chkGo [] (cutAt 44 l) = some z) (he : (intSp z 0 1000000000).2 ≠ 0) : parseL l = ([], (intSp z 0 1000000000).2) := by
  unfold parseL; rw [if_neg h0, h]; simp only; rw [if_neg he]
theorem parse_exp {l z : List UInt8} (h0 : l ≠ [45]) (h : chkGo [] (cutAt 44 l) = some z) (he : (intSp z 0 1000000000).2 = 0) : parseL l = expOf l := by
  rw [exp_of h]; unfold parseL; rw [if_neg h0, h]; simp only; rw [if_pos he]; cases expGo [] (cutAt 44 l) <;> rfl

set_option maxRecDepth 20000 in
set_option maxHeartbeats 400000 in
theorem parseList_any (s : ByteArray) (w : World) (hs : s.size ≤ 1048576) (hM : MaxAt w) (hE : ∃ tp p, w.var? Tryd.prog "strconv.ErrRange" = some #[.iface tp p]) :
    Calls Tryd.prog 32 #[.string s] w (ParsePost s.data.toList w) := by
  have HM := Lib.hid hM; have HE := Lib.hid hE; clear hM hE
  by_cases hd : s = ⟨#[45]⟩
  · subst hd
    go_enter Tryd.func32, Tryd.ntmps32
    go_wp2_with fail
    refine bodyPost_ret (v := .tuple #[.slice none 0 0, .int .i64 0]) (by simp [results, Tryd.f32, go_sem]) rfl ?_
    show ParsePost [45] w _ w
    exact ⟨_, by rw [parse_dash], by rw [parse_dash]; exact .inl ⟨rfl, rfl⟩, Below.refl _ _⟩
  · have hl : s.data.toList ≠ [45] := fun h => hd (by apply WideShapes.bytes_inj; simpa using h)
    have hdash : (s.toList == [45]) = false := by rw [ByteArray.toList_eq]; simpa using hl
    have HL := Lib.hid hl; clear hl
    cases hc : chkGo [] (cutAt 44 s.data.toList) with
    | none =>
      have HN := Lib.hid (parse_form HL.out hc)
      have HC : Hid (chkOf s.data.toList = (⟨#[]⟩, false)) := Lib.hid (by unfold chkOf; rw [hc])
      clear hc
      go_enter Tryd.func32, Tryd.ntmps32
      go_wp2_with (go_at_call 55; refine (checkRuns_any s _ hs HM.out).mono ?_; rintro e w1 ⟨rfl, hb⟩; rw [HC.out]; dsimp only; have HB := Lib.hid hb; clear hb)
      refine bodyPost_ret (v := .tuple #[.slice none 0 0, .int .i64 6]) (by simp [results, Tryd.f32, go_sem]) rfl ?_
      exact ⟨_, by rw [HN.out], by rw [HN.out]; exact .inl ⟨rfl, rfl⟩, HB.out⟩
    | some z =>
      have hz : (⟨z.toArray⟩ : ByteArray).size ≤ 1048576 := by
        have := chk_le hc
        rw [len_data] at this
        show z.toArray.size ≤ 1048576
        simp; omega
      have HC : Hid (chkOf s.data.toList = (⟨z.toArray⟩, true)) := Lib.hid (by unfold chkOf; rw [hc])
      obtain ⟨k, hk⟩ : ∃ k, intSp z 0 1000000000 = k := ⟨_, rfl⟩
      obtain ⟨n, e⟩ := k
      have HI : Hid (∀ V, Below w.heap.size w V → Calls Tryd.prog 13 #[.string ⟨z.toArray⟩, .int .i64 0, .int .i64 1000000000] V fun e' w' => e' = .returned (.tuple #[.int .i64 n, .int .i64 e]) ∧ Below V.heap.size V w') := Lib.hid (fun V hV => by
        refine (int_any ⟨z.toArray⟩ 0 1000000000 V (by omega) (by omega) (by omega) (by obtain ⟨tp, p, h⟩ := HE.out; exact ⟨tp, p, var_keep h hV⟩)).mono ?_
        rintro e' w' ⟨rfl, h⟩
        have h2 : intSp (⟨z.toArray⟩ : ByteArray).data.toList 0 1000000000 = (n, e) := hk
        exact ⟨by rw [h2], h⟩)
      by_cases he : e = 0
      · subst he
        have HN : Hid (parseL s.data.toList = expOf s.data.toList) := Lib.hid (parse_exp HL.out hc (by rw [hk]))
        clear hc hk
        go_enter Tryd.func32, Tryd.ntmps32
        go_wp2_with (first
          | (go_at_call 55; refine (checkRuns_any s _ hs HM.out).mono ?_; rintro e w1 ⟨rfl, hb⟩; rw [HC.out]; dsimp only; have HB := Lib.hid hb; clear hb)
          | (go_at_call 13; refine (HI.out _ HB.out).mono ?_; rintro e w2 ⟨rfl, hb⟩; replace HB := Lib.hid (bl_call HB.out hb); clear hb)
          | (go_at_call 56; refine (expand_any s _ hs (HM.out.below HB.out) (by obtain ⟨tp, p, h⟩ := HE.out; exact ⟨tp, p, var_keep h HB.out⟩)).mono ?_; rintro e w3 ⟨v, rfl, hv, hb⟩; have HV := Lib.hid hv; replace HB := Lib.hid (bl_call HB.out hb); clear hb hv))
        refine bodyPost_ret (v := .tuple #[v, .int .i64 (expOf s.data.toList).2]) (by simp [results, Tryd.f32, go_sem]) rfl ?_
        exact ⟨_, by rw [HN.out], by rw [HN.out]; exact HV.out, HB.out⟩
      · have hne : (e != 0) = true := by simpa using he
        have HN : Hid (parseL s.data.toList = ([], e)) := Lib.hid (by rw [parse_int HL.out hc (by rw [hk]; exact he), hk])
        clear hc hk
        go_enter Tryd.func32, Tryd.ntmps32
        go_wp2_with (first
          | (go_at_call 55; refine (checkRuns_any s _ hs HM.out).mono ?_; rintro e w1 ⟨rfl, hb⟩; rw [HC.out]; dsimp only; have HB := Lib.hid hb; clear hb)
          | (go_at_call 13; refine (HI.out _ HB.out).mono ?_; rintro e w2 ⟨rfl, hb⟩; replace HB := Lib.hid (bl_call HB.out hb); clear hb))
        refine bodyPost_ret (v := .tuple #[.slice none 0 0, .int .i64 e]) (by simp [results, Tryd.f32, go_sem]) rfl ?_
        exact ⟨_, by rw [HN.out], by rw [HN.out]; exact .inl ⟨rfl, rfl⟩, HB.out⟩
end Go.Proofs.YtdcjnklagklckaaDoor
