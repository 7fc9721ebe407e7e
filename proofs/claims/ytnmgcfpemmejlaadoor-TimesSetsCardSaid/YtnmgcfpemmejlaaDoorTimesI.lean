/- checkLists. -/
import Derived.Test.YtnmgcfpemmejlaaDoorTimesH
namespace Go.Proofs.YtnmgcfpemmejlaaDoor
open Go.RowKit Go.Lib
set_option linter.unusedVariables false

def firstE : List (List Span) → Int
  | [] => 0
  | l :: ls => if lstS l = 0 then firstE ls else lstS l
def errL (ls : List (List Span)) : Int := if (ls.any fun l => decide (200 < l.length)) = true then 3 else firstE ls
theorem take_snocL {α : Type} {l : List α} {k : Nat} {s : α} (h : l[k]? = some s) : l.take (k + 1) = l.take k ++ [s] := by
  obtain ⟨hk, e⟩ := List.getElem?_eq_some_iff.1 h
  rw [List.take_succ_eq_append_getElem hk, e]
theorem firstE_app : ∀ {l m : List (List Span)}, firstE (l ++ m) = if firstE l = 0 then firstE m else firstE l
  | [], m => by simp [firstE]
  | s :: l, m => by
    rw [List.cons_append, firstE, firstE_app, firstE]
    by_cases h : lstS s = 0
    · rw [if_pos h, if_pos h]
    · rw [if_neg h, if_neg h, if_neg h]
theorem firstE_step {ls : List (List Span)} {k : Nat} {l : List Span} (h : ls[k]? = some l) (h0 : firstE (ls.take k) = 0) (h1 : lstS l = 0) : firstE (ls.take (k + 1)) = 0 := by
  rw [take_snocL h, firstE_app, if_pos h0, firstE, if_pos h1]; rfl
theorem firstE_bad {ls : List (List Span)} {k : Nat} {l : List Span} (h : ls[k]? = some l) (h0 : firstE (ls.take k) = 0) (h1 : lstS l ≠ 0) : firstE ls = lstS l := by
  obtain ⟨hk, e⟩ := List.getElem?_eq_some_iff.1 h
  have : ls = ls.take k ++ l :: ls.drop (k + 1) := by rw [← e, ← List.drop_eq_getElem_cons hk, List.take_append_drop]
  rw [this, firstE_app, if_pos h0, firstE, if_neg h1]
/-- A row of slices that read as lists of spans. -/
def LS (w : World) (g : Nat) (ls : List (List Span)) : Prop := ∀ i l, ls[i]? = some l → ∃ v, w.cell? ⟨g, i, none⟩ = some v ∧ RS w v l ∧ ∀ s ∈ l, S64 s
theorem LS.later {w W : World} {g : Nat} {ls : List (List Span)} (h : LS w g ls) (hg : g < w.heap.size) (hb : Below w.heap.size w W) : LS W g ls := fun i l hi => by
  obtain ⟨v, h1, h2, h3⟩ := h i l hi
  exact ⟨v, (hb.cell (p := ⟨g, i, none⟩) hg).trans h1, h2.later hb, h3⟩

set_option maxRecDepth 20000 in
set_option maxHeartbeats 2000000 in
theorem checkLists_any (g c : Nat) (ls : List (List Span)) (w : World) (hg : g < w.heap.size) (hn : ls.length ≤ 100) (h : LS w g ls) :
    Calls Tryd.prog 39 #[.slice (some ⟨g, 0, none⟩) ls.length c] w (IntR w (errL ls)) := by
  obtain ⟨N, hN⟩ : ∃ N, ls.length = N := ⟨_, rfl⟩
  rw [hN] at hn ⊢
  have HN := Lib.hid hN; have HL := Lib.hid h
  clear hN h
  go_enter Tryd.func39, Tryd.ntmps39
  go_wp2_with fail
  go_loop [4, 10] (fun _ i => ∃ k : Nat, k ≤ N ∧ i = .int .i64 k ∧ Hid ((ls.take k).any (fun l => decide (200 < l.length)) = false)) (fun _ i => N - (intOf i).toNat)
  case atStart => exact ⟨0, by omega, rfl, Lib.hid rfl⟩
  case round =>
    obtain ⟨k, hk, rfl, HX⟩ := hrel
    by_cases hlt : k < N
    · obtain ⟨l, hl⟩ : ∃ l, ls[k]? = some l := ⟨_, List.getElem?_eq_getElem (by rw [HN.out]; exact hlt)⟩
      obtain ⟨v, c0, hv, h64⟩ := HL.out k l hl
      obtain ⟨A, cv, rfl⟩ := hv.len
      have hmx := hv.max
      unfold maxLen at hmx
      have HLK := Lib.hid hl
      obtain ⟨m, hm⟩ : ∃ m, l.length = m := ⟨_, rfl⟩
      rw [hm] at c0 hmx
      have HM := Lib.hid hm
      clear hl hv h64 hm
      by_cases h2 : 200 < m
      · have HE : Hid (errL ls = 3) := Lib.hid (by
          unfold errL
          rw [if_pos (List.any_eq_true.2 ⟨l, List.mem_of_getElem? HLK.out, by rw [HM.out]; exact decide_eq_true h2⟩)])
        go_wp2_with fail
        go_ret
        exact ⟨ret_int HE.out.symm, Below.refl _ _⟩
      · have HE : Hid ((ls.take (k + 1)).any (fun l => decide (200 < l.length)) = false) := Lib.hid (by
          rw [take_snocL HLK.out, List.any_append, HX.out]; simp [HM.out]; omega)
        go_wp2_with fail
        go_round
        case rel => exact ⟨k + 1, by omega, by go_num, HE⟩
        case measure => simp [intOf]; omega
    · have HA : Hid (ls.any (fun l => decide (200 < l.length)) = false) := Lib.hid (by have := HX.out; rwa [List.take_of_length_le (by rw [HN.out]; omega)] at this)
      have HE0 : Hid (errL ls = firstE ls) := Lib.hid (by unfold errL; rw [HA.out]; rfl)
      clear HX
      go_wp2_with fail
      go_loopw [6, 7, 20] (fun _ _ i wr => ∃ k : Nat, k ≤ N ∧ i = .int .i64 k ∧ Hid (Below w.heap.size w wr) ∧ Hid (firstE (ls.take k) = 0)) (fun _ _ i _ => N - (intOf i).toNat)
      case atStart => exact ⟨0, by omega, rfl, Lib.hid (Below.refl _ _), Lib.hid rfl⟩
      case round =>
        obtain ⟨j, hj, rfl, HB, HX⟩ := hrel
        by_cases hlt2 : j < N
        · obtain ⟨l, hl⟩ : ∃ l, ls[j]? = some l := ⟨_, List.getElem?_eq_getElem (by rw [HN.out]; exact hlt2)⟩
          obtain ⟨v, c0, hv, h64⟩ := (HL.out.later hg HB.out) j l hl
          obtain ⟨A, cv, rfl⟩ := hv.len
          have HLK := Lib.hid hl; have HV := Lib.hid hv; have H64 := Lib.hid h64
          obtain ⟨m, hm⟩ : ∃ m, l.length = m := ⟨_, rfl⟩
          rw [hm] at c0 HV
          obtain ⟨r, hr⟩ : ∃ r, lstS l = r := ⟨_, rfl⟩
          have HR := Lib.hid hr
          clear hl hv h64 hm hr
          by_cases h0 : r = 0
          · subst h0
            have HE : Hid (firstE (ls.take (j + 1)) = 0) := Lib.hid (firstE_step HLK.out HX.out HR.out)
            go_wp2_with (go_at_call 38; (with_reducible refine (checkAll_any _ l _ HV.out H64.out).mono ?_); rintro e w' ⟨rfl, hb⟩; rw [HR.out]; have HB1 := Lib.hid hb; clear hb)
            go_roundw
            case rel => exact ⟨j + 1, by omega, by go_num, Lib.hid (bl_call HB.out HB1.out), HE⟩
            case measure => simp [intOf]; omega
          · have HE : Hid (errL ls = r) := Lib.hid (by rw [HE0.out, firstE_bad HLK.out HX.out (by rw [HR.out]; exact h0), HR.out])
            have h0' : (r == 0) = false := by simpa using h0
            have h0'' : (r != 0) = true := by simpa using h0
            clear h0
            go_wp2_with (go_at_call 38; (with_reducible refine (checkAll_any _ l _ HV.out H64.out).mono ?_); rintro e w' ⟨rfl, hb⟩; rw [HR.out]; have HB1 := Lib.hid hb; clear hb)
            go_ret
            exact ⟨ret_int HE.out.symm, bl_call HB.out HB1.out⟩
        · have HE : Hid (errL ls = 0) := Lib.hid (by rw [HE0.out]; have := HX.out; rwa [List.take_of_length_le (by rw [HN.out]; omega)] at this)
          go_wp2_with fail
          go_ret
          exact ⟨ret_int HE.out.symm, HB.out⟩
theorem errL_two (a b : List Span) : errL [a, b] = errS a b := by
  unfold errL errS firstE firstE firstE
  by_cases h : 200 < a.length ∨ 200 < b.length
  · rw [if_pos h, if_pos (by simpa using h)]
  · rw [if_neg h, if_neg (by simpa using h)]
    split
    · split
      · rename_i h1; rw [h1]
      · rfl
    · rfl
theorem errL_one (a : List Span) : errL [a] = errS a [] := by
  unfold errL errS firstE firstE
  by_cases h : 200 < a.length
  · rw [if_pos (by simpa using h), if_pos (.inl h)]
  · have h2 : ¬ (200 < a.length ∨ 200 < ([] : List Span).length) := by rintro (h1 | h1); exact h h1; simp at h1
    rw [if_neg (by simpa using h), if_neg h2]
    rfl
theorem checkLists2 (v u : Value) (a b : List Span) (r : Int) (T : TypeId) (W : World) (g : Nat) (hg : g = W.heap.size) (hv : RS W v a) (hu : RS W u b) (ha : ∀ s ∈ a, S64 s) (hb : ∀ s ∈ b, S64 s) (hr : errS a b = r) :
    Calls Tryd.prog 39 #[.slice (some ⟨g, 0, none⟩) 2 2] (W.alloc (.cells #[v, u] T)) (IntR (W.alloc (.cells #[v, u] T)) r) := by
  subst hg hr
  rw [← errL_two]
  refine checkLists_any W.heap.size 2 [a, b] _ (by simp) (by simp) (fun i l hi => ?_)
  have hb1 := bl_alloc (.cells #[v, u] T) (Below.refl W.heap.size W)
  match i, hi with
  | 0, hi => cases hi; exact ⟨v, by rw [cell_fresh]; rfl, hv.later hb1, ha⟩
  | 1, hi => cases hi; exact ⟨u, by rw [cell_fresh]; rfl, hu.later hb1, hb⟩
theorem checkLists1 (v : Value) (a : List Span) (r : Int) (T : TypeId) (W : World) (g : Nat) (hg : g = W.heap.size) (hv : RS W v a) (ha : ∀ s ∈ a, S64 s) (hr : errS a [] = r) :
    Calls Tryd.prog 39 #[.slice (some ⟨g, 0, none⟩) 1 1] (W.alloc (.cells #[v] T)) (IntR (W.alloc (.cells #[v] T)) r) := by
  subst hg hr
  rw [← errL_one]
  refine checkLists_any W.heap.size 1 [a] _ (by simp) (by simp) (fun i l hi => ?_)
  have hb1 := bl_alloc (.cells #[v] T) (Below.refl W.heap.size W)
  match i, hi with
  | 0, hi => cases hi; exact ⟨v, by rw [cell_fresh]; rfl, hv.later hb1, ha⟩
end Go.Proofs.YtnmgcfpemmejlaaDoor
