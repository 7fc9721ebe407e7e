/- What each law asks first: some calls return what the document says of them. -/
import Derived.Test.YtnmgcfpemmejlaaDoorTimesLa
import Derived.Test.YtnmgcfpemmejlaaDoorTimesRb
namespace Go.Proofs.YtnmgcfpemmejlaaDoor
open Go.RowKit Go.Lib
set_option linter.unusedVariables false

theorem rs_lit (l : List Span) (T : TypeId) (W : World) (g n : Nat) (hg : g = W.heap.size) (hn : l.length = n) (hm : n ≤ 1000) : RS (W.alloc (.cells (spC l).toArray T)) (.slice (some ⟨g, 0, none⟩) n n) l := by
  subst hg hn
  refine .inr ⟨W.heap.size, 0, _, rfl, by simp, by unfold maxLen; omega, fun i s hi => ?_⟩
  obtain ⟨e0, e1⟩ := spC_at l i s hi
  rw [cell_fresh, cell_fresh, Nat.zero_add, List.getElem?_toArray, List.getElem?_toArray]
  exact ⟨e0, e1⟩
theorem n64_small {n : Int} (h1 : -1000000 ≤ n) (h2 : n ≤ 1000000) : N64 n := ⟨by omega, by omega⟩
theorem add57 (w : World) : Calls Tryd.prog 10 #[.int .i64 5, .int .i64 7] w (NumR w 12 0) := add_any 5 7 w (n64_small (by omega) (by omega)) (n64_small (by omega) (by omega))
theorem addMax (w : World) : Calls Tryd.prog 10 #[.int .i64 9223372036854775807, .int .i64 1] w (NumR w 9223372036854775807 0) := add_any 9223372036854775807 1 w ⟨by omega, by omega⟩ (n64_small (by omega) (by omega))
theorem passed109 (w : World) : Calls Tryd.prog 12 #[.int .i64 10, .int .i64 9] w (BoolR w false 0) := passed_any 10 9 w (n64_small (by omega) (by omega)) (n64_small (by omega) (by omega))
theorem left107 (w : World) : Calls Tryd.prog 14 #[.int .i64 10, .int .i64 7] w (NumR w 3 0) := left_any 10 7 w (n64_small (by omega) (by omega)) (n64_small (by omega) (by omega))
theorem adv54 (w : World) : Calls Tryd.prog 16 #[.int .i64 5, .int .i64 4] w (NumR w 0 18) := advance_any 5 4 w (n64_small (by omega) (by omega)) (n64_small (by omega) (by omega))
def SetL (w : World) (u : List Span) (e : Ending) (w' : World) : Prop := ∃ v, e = .returned (.tuple #[v, .int .i64 0]) ∧ RS w' v u ∧ Below w.heap.size w w'
theorem canon2 {a b c d : Int} (h1 : a < b) (h2 : b < c) (h3 : c < d) : Canon [(a, b), (c, d)] :=
  ⟨by simp; omega, by simp; omega⟩
theorem set_u : IsSet [(5, 7), (0, 2), (2, 3)] [] [(0, 3), (5, 7)] := ⟨canon2 (by omega) (by omega) (by omega), fun t => by
  simp only [hasS_cons]
  have := hasS_nil t
  simp only [this, or_false, not_false_iff, and_true]
  omega⟩
theorem set_m : IsSet [(0, 10)] [(3, 4), (9, 20)] [(0, 3), (4, 9)] := ⟨canon2 (by omega) (by omega) (by omega), fun t => by
  simp only [hasS_cons]
  have := hasS_nil t
  simp only [this, or_false]
  omega⟩
theorem union3 (T : TypeId) (W : World) (g : Nat) (hg : g = W.heap.size) : Calls Tryd.prog 24 #[.slice (some ⟨g, 0, none⟩) 3 3] (W.alloc (.cells #[.int .i64 5, .int .i64 7, .int .i64 0, .int .i64 2, .int .i64 2, .int .i64 3] T)) (SetL (W.alloc (.cells #[.int .i64 5, .int .i64 7, .int .i64 0, .int .i64 2, .int .i64 2, .int .i64 3] T)) [(0, 3), (5, 7)]) := by
  refine (union_any _ [(5, 7), (0, 2), (2, 3)] _ (rs_lit [(5, 7), (0, 2), (2, 3)] T W g 3 hg rfl (by omega)) (fun s hs => by simp at hs; rcases hs with rfl | rfl | rfl <;> exact ⟨n64_small (by simp only; omega) (by simp only; omega), n64_small (by simp only; omega) (by simp only; omega)⟩)).mono ?_
  rintro e w' ⟨v, u, rfl, h1, h2, h3, hb⟩
  have e0 : errS [(5, 7), (0, 2), (2, 3)] [] = 0 := by decide
  rw [e0] at h1 ⊢
  rw [(h1 rfl).one set_u] at h3
  exact ⟨v, rfl, h3, hb⟩
theorem minus2 (T : TypeId) (W : World) (g h : Nat) (hg : g = W.heap.size) (hh : h = W.heap.size + 1) : Calls Tryd.prog 26 #[.slice (some ⟨g, 0, none⟩) 1 1, .slice (some ⟨h, 0, none⟩) 2 2] ((W.alloc (.cells #[.int .i64 0, .int .i64 10] T)).alloc (.cells #[.int .i64 3, .int .i64 4, .int .i64 9, .int .i64 20] T)) (SetL ((W.alloc (.cells #[.int .i64 0, .int .i64 10] T)).alloc (.cells #[.int .i64 3, .int .i64 4, .int .i64 9, .int .i64 20] T)) [(0, 3), (4, 9)]) := by
  refine (minus_any _ _ [(0, 10)] [(3, 4), (9, 20)] _ ((rs_lit [(0, 10)] T W g 1 hg rfl (by omega)).later (bl_alloc _ (Below.refl _ _))) (rs_lit [(3, 4), (9, 20)] T (W.alloc (.cells #[.int .i64 0, .int .i64 10] T)) h 2 (by rw [hh]; simp) rfl (by omega)) (fun s hs => by simp at hs; subst hs; exact ⟨n64_small (by simp only; omega) (by simp only; omega), n64_small (by simp only; omega) (by simp only; omega)⟩) (fun s hs => by simp at hs; rcases hs with rfl | rfl <;> exact ⟨n64_small (by simp only; omega) (by simp only; omega), n64_small (by simp only; omega) (by simp only; omega)⟩)).mono ?_
  rintro e w' ⟨v, u, rfl, h1, h2, h3, hb⟩
  have e0 : errS [(0, 10)] [(3, 4), (9, 20)] = 0 := by decide
  rw [e0] at h1 ⊢
  rw [(h1 rfl).one set_m] at h3
  exact ⟨v, rfl, h3, hb⟩
theorem text93784 : textT 93784 = [49, 100, 48, 50, 58, 48, 51, 58, 48, 52] := by
  unfold textT
  rw [show 93784 / 86400 = 1 from rfl, ddT_small (by omega)]
  decide
theorem print93784 (w : World) (h : TV w) : Calls Tryd.prog 31 #[.int .i64 93784] w fun e w' => e = .returned (.tuple #[.string ⟨#[49, 100, 48, 50, 58, 48, 51, 58, 48, 52]⟩, .int .i64 0]) ∧ Below w.heap.size w w' := by
  refine (print_any 93784 w (n64_small (by omega) (by omega)) h).mono ?_
  rintro e w' ⟨rfl, hb⟩
  refine ⟨?_, hb⟩
  rw [show prS 93784 = [49, 100, 48, 50, 58, 48, 51, 58, 48, 52] from text93784]; rfl
theorem parse93784 (w : World) (h : TV w) : Calls Tryd.prog 33 #[.string ⟨#[49, 100, 48, 50, 58, 48, 51, 58, 48, 52]⟩] w fun e w' => e = .returned (.tuple #[.int .i64 93784, .int .i64 0]) ∧ Below w.heap.size w w' := by
  refine (parse_any ⟨#[49, 100, 48, 50, 58, 48, 51, 58, 48, 52]⟩ w (by decide) h).mono ?_
  rintro e w' ⟨rfl, hb⟩
  refine ⟨?_, hb⟩
  have e1 : parseT [49, 100, 48, 50, 58, 48, 51, 58, 48, 52] = (93784, 0) := by
    rw [← text93784]; exact parseT_text (t := 93784) (by omega)
  rw [show (⟨#[49, 100, 48, 50, 58, 48, 51, 58, 48, 52]⟩ : ByteArray).data.toList = [49, 100, 48, 50, 58, 48, 51, 58, 48, 52] from rfl, e1]
set_option maxRecDepth 100000 in
set_option maxHeartbeats 8000000 in
theorem awake_any (w : World) (hT : TV w) : Calls Tryd.prog 18 #[] w fun e w' => e = .returned (.bool true) ∧ Below w.heap.size w w' := by
  have HT := Lib.hid hT; clear hT
  have tk1 : True := trivial
  have B0 := Lib.hid (Below.refl w.heap.size w)
  go_enter Tryd.func18, Tryd.ntmps18
  go_wp2_with (first
    | (go_at_call 10; (with_reducible refine (add57 _).mono ?_); rintro e w1 ⟨rfl, hb⟩; replace B0 := Lib.hid (bl_call B0.out hb); clear hb)
    | (go_at_call 10; (with_reducible refine (addMax _).mono ?_); rintro e w2 ⟨rfl, hb⟩; replace B0 := Lib.hid (bl_call B0.out hb); clear hb)
    | (go_at_call 12; (with_reducible refine (passed109 _).mono ?_); rintro e w3 ⟨rfl, hb⟩; replace B0 := Lib.hid (bl_call B0.out hb); clear hb)
    | (go_at_call 14; (with_reducible refine (left107 _).mono ?_); rintro e w4 ⟨rfl, hb⟩; replace B0 := Lib.hid (bl_call B0.out hb); clear hb)
    | (go_at_call 16; (with_reducible refine (adv54 _).mono ?_); rintro e w5 ⟨rfl, hb⟩; replace B0 := Lib.hid (bl_call B0.out hb); clear hb)
    | (go_at_call 24; (with_reducible refine (union3 _ _ _ (by simp)).mono ?_); rintro e w6 ⟨vu, rfl, hr, hb⟩; replace B0 := Lib.hid (bl_call (bl_alloc _ B0.out) hb); have HU := Lib.hid hr; clear hb hr)
    | (go_at_call 26; (with_reducible refine (minus2 _ _ _ _ (by simp) (by simp)).mono ?_); rintro e w7 ⟨vm, rfl, hr, hb⟩; replace B0 := Lib.hid (bl_call (bl_alloc _ (bl_alloc _ B0.out)) hb); replace HU := Lib.hid (HU.out.later (bl_call (bl_alloc _ (bl_alloc _ (Below.refl _ _))) hb)); have HM := Lib.hid hr; clear hb hr)
    | (go_at_call 31; (with_reducible refine (print93784 _ (HT.out.below B0.out)).mono ?_); rintro e w8 ⟨rfl, hb⟩; replace B0 := Lib.hid (bl_call B0.out hb); replace HU := Lib.hid (HU.out.later hb); replace HM := Lib.hid (HM.out.later hb); clear hb)
    | (go_at_call 33; (with_reducible refine (parse93784 _ (HT.out.below B0.out)).mono ?_); rintro e w9 ⟨rfl, hb⟩; replace B0 := Lib.hid (bl_call B0.out hb); replace HU := Lib.hid (HU.out.later hb); replace HM := Lib.hid (HM.out.later hb); clear hb)
    | (go_at_call 30; have _t := tk1; refine (same_eq vu _ [(0, 3), (5, 7)] _ (HU.out.later (bl_alloc _ (Below.refl _ _))) (rs_lit [(0, 3), (5, 7)] _ _ _ 2 rfl rfl (by omega))).mono ?_; rintro e w10 ⟨rfl, q1, hw⟩; have hb : Below w9.heap.size w9 w10 := (by rw [hw]; exact bl_drewN _ (bl_alloc _ (Below.refl _ _))); replace B0 := Lib.hid (bl_call B0.out hb); replace HM := Lib.hid (HM.out.later hb); clear hb hw tk1)
    | (go_at_call 30; refine (same_eq vm _ [(0, 3), (4, 9)] _ (HM.out.later (bl_alloc _ (Below.refl _ _))) (rs_lit [(0, 3), (4, 9)] _ _ _ 2 rfl rfl (by omega))).mono ?_; rintro e w11 ⟨rfl, q2, hw⟩; have hb : Below w10.heap.size w10 w11 := (by rw [hw]; exact bl_drewN _ (bl_alloc _ (Below.refl _ _))); replace B0 := Lib.hid (bl_call B0.out hb); clear hb hw))
  go_ret
  exact ⟨rfl, B0.out⟩
end Go.Proofs.YtnmgcfpemmejlaaDoor
