/- Meet of both sides. -/
import Derived.Test.YtnmgcfpemmejlaaDoorTimesD
namespace Go.Proofs.YtnmgcfpemmejlaaDoor
open Go.RowKit Go.Lib
set_option linter.unusedVariables false

theorem bcell {W w1 : World} (hb : Below W.heap.size W w1) : (∀ b o, b < W.heap.size → w1.cell? ⟨b, o, none⟩ = W.cell? ⟨b, o, none⟩) ∧ (∀ b o, b < W.heap.size → w1.frozen? ⟨b, o, none⟩ = W.frozen? ⟨b, o, none⟩) :=
  ⟨fun b o h => hb.cell (p := ⟨b, o, none⟩) h, fun b o h => hb.frozen (p := ⟨b, o, none⟩) h⟩
theorem rs_two (a b c d : Int) (T : TypeId) (W : World) (g : Nat) (hg : g = W.heap.size) : RS (W.alloc (.cells #[.int .i64 a, .int .i64 b, .int .i64 c, .int .i64 d] T)) (.slice (some ⟨g, 0, none⟩) 2 2) [(a, b), (c, d)] := by
  subst hg
  refine .inr ⟨W.heap.size, 0, 2, rfl, by simp, by unfold maxLen; simp, fun i s hi => ?_⟩
  rw [cell_fresh, cell_fresh]
  match i, hi with
  | 0, hi => cases hi; exact ⟨rfl, rfl⟩
  | 1, hi => cases hi; exact ⟨rfl, rfl⟩
theorem old_cell (w : World) (o : Obj) {b : Nat} (i : Nat) (h : b < w.heap.size) : (w.alloc o).cell? ⟨b, i, none⟩ = w.cell? ⟨b, i, none⟩ := (bl_self1 w o).cell (p := ⟨b, i, none⟩) h
theorem old_frozen (w : World) (o : Obj) {b : Nat} (i : Nat) (h : b < w.heap.size) : (w.alloc o).frozen? ⟨b, i, none⟩ = w.frozen? ⟨b, i, none⟩ := (bl_self1 w o).frozen (p := ⟨b, i, none⟩) h
theorem new_cell (w : World) (cs : Array Value) (t : TypeId) (b i : Nat) (h : b = w.heap.size) : (w.alloc (.cells cs t)).cell? ⟨b, i, none⟩ = cs[i]? := by subst h; exact cell_fresh w cs t i
theorem new_frozen (w : World) (cs : Array Value) (t : TypeId) (b i : Nat) (h : b = w.heap.size) : (w.alloc (.cells cs t)).frozen? ⟨b, i, none⟩ = false := by
  subst h; simp only [World.frozen?, heap_alloc_new]; simp
structure Boxes3 (w w1 : World) (x0 y0 x1 y1 : Value) : Prop where
  a0 : w1.cell? ⟨w.heap.size, 0, none⟩ = some x0
  a1 : w1.cell? ⟨w.heap.size, 1, none⟩ = some y0
  b0 : w1.cell? ⟨w.heap.size + 1, 0, none⟩ = some x1
  b1 : w1.cell? ⟨w.heap.size + 1, 1, none⟩ = some y1
  c0 : w1.cell? ⟨w.heap.size + 1 + 1, 0, none⟩ = some (.int .i64 0)
  c1 : w1.cell? ⟨w.heap.size + 1 + 1, 1, none⟩ = some (.int .i64 0)
  f0 : w1.frozen? ⟨w.heap.size + 1 + 1, 0, none⟩ = false
  f1 : w1.frozen? ⟨w.heap.size + 1 + 1, 1, none⟩ = false
theorem boxes3 {w w1 : World} {x0 y0 x1 y1 : Value} {T : TypeId} (hb : Below (((w.alloc (.cells #[x0, y0] T)).alloc (.cells #[x1, y1] T)).alloc (.cells #[.int .i64 0, .int .i64 0] T)).heap.size (((w.alloc (.cells #[x0, y0] T)).alloc (.cells #[x1, y1] T)).alloc (.cells #[.int .i64 0, .int .i64 0] T)) w1) : Boxes3 w w1 x0 y0 x1 y1 := by
  refine ⟨(hb.cell (p := ⟨_, _, none⟩) (by simp; omega)).trans ?_, (hb.cell (p := ⟨_, _, none⟩) (by simp; omega)).trans ?_, (hb.cell (p := ⟨_, _, none⟩) (by simp)).trans ?_, (hb.cell (p := ⟨_, _, none⟩) (by simp)).trans ?_, (hb.cell (p := ⟨_, _, none⟩) (by simp)).trans ?_, (hb.cell (p := ⟨_, _, none⟩) (by simp)).trans ?_, (hb.frozen (p := ⟨_, _, none⟩) (by simp)).trans ?_, (hb.frozen (p := ⟨_, _, none⟩) (by simp)).trans ?_⟩
  · rw [old_cell _ _ _ (by simp; omega), old_cell _ _ _ (by simp), new_cell _ _ _ _ _ rfl]; rfl
  · rw [old_cell _ _ _ (by simp; omega), old_cell _ _ _ (by simp), new_cell _ _ _ _ _ rfl]; rfl
  · rw [old_cell _ _ _ (by simp), new_cell _ _ _ _ _ (by simp)]; rfl
  · rw [old_cell _ _ _ (by simp), new_cell _ _ _ _ _ (by simp)]; rfl
  · rw [new_cell _ _ _ _ _ (by simp)]; rfl
  · rw [new_cell _ _ _ _ _ (by simp)]; rfl
  · rw [new_frozen _ _ _ _ _ (by simp)]
  · rw [new_frozen _ _ _ _ _ (by simp)]
def meetX (a b : Span) : Bool := (lstS [a, b] == 0) && decide (max a.1 b.1 < min a.2 b.2)
def meetF (a b : Span) : Int := if meetX a b = true then max a.1 b.1 else 0
def meetT (a b : Span) : Int := if meetX a b = true then min a.2 b.2 else 0
def MeetR (w : World) (a b : Span) (e : Ending) (w' : World) : Prop := e = .returned (.tuple #[.agg #[.int .i64 (meetF a b), .int .i64 (meetT a b)], .bool (meetX a b), .int .i64 (lstS [a, b])]) ∧ Below w.heap.size w w'
theorem ret_meet {w w' : World} {a b : Span} {f t r : Int} {x : Bool} (h1 : meetF a b = f) (h2 : meetT a b = t) (h3 : meetX a b = x) (h4 : lstS [a, b] = r) (hb : Below w.heap.size w w') : MeetR w a b (.returned (.tuple #[.agg #[.int .i64 f, .int .i64 t], .bool x, .int .i64 r])) w' := by
  subst h1 h2 h3 h4; exact ⟨rfl, hb⟩
theorem meet_no {a b : Span} (h : meetX a b = false) : meetF a b = 0 ∧ meetT a b = 0 := by unfold meetF meetT; rw [h]; exact ⟨rfl, rfl⟩
theorem meet_yes {a b : Span} (h : meetX a b = true) : meetF a b = max a.1 b.1 ∧ meetT a b = min a.2 b.2 := by unfold meetF meetT; rw [h]; exact ⟨rfl, rfl⟩

theorem bl_meet {w w1 : World} {o1 o2 o3 o4 o5 : Obj} {x y : Value} (hb : Below ((((w.alloc o1).alloc o2).alloc o3).alloc o4).heap.size ((((w.alloc o1).alloc o2).alloc o3).alloc o4) w1) :
    Below w.heap.size w (((w1.setCell ⟨w.heap.size + 1 + 1, 0, none⟩ x).setCell ⟨w.heap.size + 1 + 1, 1, none⟩ y).alloc o5) := by
  have h0 : Below w.heap.size w ((((w.alloc o1).alloc o2).alloc o3).alloc o4) := ((((Below.refl _ _).alloc (Nat.le_refl _) _).alloc (by simp) _).alloc (by simp; omega) _).alloc (by simp; omega) _
  have h1 := h0.trans (hb.mono (by simp; omega))
  exact ((h1.setCell (p := ⟨_, _, none⟩) (by simp; omega) _).setCell (p := ⟨_, _, none⟩) (by simp; omega) _).alloc (by have := h1.size; simp; omega) _
theorem bl_meet0 {w w1 : World} {o1 o2 o3 o4 : Obj} {x y : Value} (hb : Below ((((w.alloc o1).alloc o2).alloc o3).alloc o4).heap.size ((((w.alloc o1).alloc o2).alloc o3).alloc o4) w1) :
    Below w.heap.size w ((w1.setCell ⟨w.heap.size + 1 + 1, 0, none⟩ x).setCell ⟨w.heap.size + 1 + 1, 1, none⟩ y) := by
  have h0 : Below w.heap.size w ((((w.alloc o1).alloc o2).alloc o3).alloc o4) := ((((Below.refl _ _).alloc (Nat.le_refl _) _).alloc (by simp) _).alloc (by simp; omega) _).alloc (by simp; omega) _
  have h1 := h0.trans (hb.mono (by simp; omega))
  exact (h1.setCell (p := ⟨_, _, none⟩) (by simp; omega) _).setCell (p := ⟨_, _, none⟩) (by simp; omega) _
set_option maxRecDepth 20000 in
set_option maxHeartbeats 4000000 in
theorem meet_any (a b c d : Int) (w : World) (ha : N64 a) (hb : N64 b) (hc : N64 c) (hd : N64 d) :
    Calls Tryd.prog 20 #[.agg #[.int .i64 a, .int .i64 b], .agg #[.int .i64 c, .int .i64 d]] w (MeetR w (a, b) (c, d)) := by
  have H64 : Hid (∀ s ∈ [(a, b), (c, d)], S64 s) := Lib.hid (fun s hs => by simp at hs; rcases hs with rfl | rfl; exact ⟨ha, hb⟩; exact ⟨hc, hd⟩)
  clear ha hb hc hd
  obtain ⟨r, hr⟩ : ∃ r, lstS [(a, b), (c, d)] = r := ⟨_, rfl⟩
  have HR := Lib.hid hr
  by_cases h0 : r = 0
  · subst h0
    by_cases hm : max a c < min b d
    · have HX : Hid (meetX (a, b) (c, d) = true) := Lib.hid (by unfold meetX; rw [hr]; simp; omega)
      clear hr
      go_enter Tryd.func20, Tryd.ntmps20
      go_wp2_with (go_at_call 38; (with_reducible refine (checkAll_any _ [(a, b), (c, d)] _ (rs_two _ _ _ _ _ _ _ (by simp)) H64.out).mono ?_); rintro e w1 ⟨rfl, hb⟩; obtain ⟨a0, a1, b0, b1, c0, c1, f0, f1⟩ := boxes3 ((bl_self1 _ _).trans (hb.mono (by simp))); have hz0 : w.heap.size < w1.heap.size := (by have := hb.size; simp at this; omega); have hz1 : w.heap.size + 1 < w1.heap.size := (by have := hb.size; simp at this; omega); have hz2 : w.heap.size + 1 + 1 < w1.heap.size := (by have := hb.size; simp at this; omega); have HB := Lib.hid hb; clear hb; rw [HR.out])
      all_goals first
        | (refine bodyPost_ret (v := .tuple #[.agg #[.int .i64 a, .int .i64 b], .bool true, .int .i64 0]) ?_ rfl (ret_meet ?_ ?_ HX.out HR.out ?_); (focus (simp [results, Tryd.f20, go_sem, hz2, c0, c1]; done)); (focus (rw [(meet_yes HX.out).1]; simp only; omega)); (focus (rw [(meet_yes HX.out).2]; simp only; omega)); exact bl_meet HB.out)
        | (refine bodyPost_ret (v := .tuple #[.agg #[.int .i64 a, .int .i64 d], .bool true, .int .i64 0]) ?_ rfl (ret_meet ?_ ?_ HX.out HR.out ?_); (focus (simp [results, Tryd.f20, go_sem, hz2, c0, c1]; done)); (focus (rw [(meet_yes HX.out).1]; simp only; omega)); (focus (rw [(meet_yes HX.out).2]; simp only; omega)); exact bl_meet HB.out)
        | (refine bodyPost_ret (v := .tuple #[.agg #[.int .i64 c, .int .i64 b], .bool true, .int .i64 0]) ?_ rfl (ret_meet ?_ ?_ HX.out HR.out ?_); (focus (simp [results, Tryd.f20, go_sem, hz2, c0, c1]; done)); (focus (rw [(meet_yes HX.out).1]; simp only; omega)); (focus (rw [(meet_yes HX.out).2]; simp only; omega)); exact bl_meet HB.out)
        | (refine bodyPost_ret (v := .tuple #[.agg #[.int .i64 c, .int .i64 d], .bool true, .int .i64 0]) ?_ rfl (ret_meet ?_ ?_ HX.out HR.out ?_); (focus (simp [results, Tryd.f20, go_sem, hz2, c0, c1]; done)); (focus (rw [(meet_yes HX.out).1]; simp only; omega)); (focus (rw [(meet_yes HX.out).2]; simp only; omega)); exact bl_meet HB.out)
    · have HX : Hid (meetX (a, b) (c, d) = false) := Lib.hid (by unfold meetX; rw [hr]; simp; omega)
      clear hr
      go_enter Tryd.func20, Tryd.ntmps20
      go_wp2_with (go_at_call 38; (with_reducible refine (checkAll_any _ [(a, b), (c, d)] _ (rs_two _ _ _ _ _ _ _ (by simp)) H64.out).mono ?_); rintro e w1 ⟨rfl, hb⟩; obtain ⟨a0, a1, b0, b1, c0, c1, f0, f1⟩ := boxes3 ((bl_self1 _ _).trans (hb.mono (by simp))); have hz0 : w.heap.size < w1.heap.size := (by have := hb.size; simp at this; omega); have hz1 : w.heap.size + 1 < w1.heap.size := (by have := hb.size; simp at this; omega); have hz2 : w.heap.size + 1 + 1 < w1.heap.size := (by have := hb.size; simp at this; omega); have HB := Lib.hid hb; clear hb; rw [HR.out])
      all_goals (refine bodyPost_ret (v := .tuple #[.agg #[.int .i64 0, .int .i64 0], .bool false, .int .i64 0]) ?_ rfl (ret_meet (meet_no HX.out).1 (meet_no HX.out).2 HX.out HR.out (bl_meet HB.out)); (focus (simp [results, Tryd.f20, go_sem, hz2, c0, c1]; done)))
  · have HX : Hid (meetX (a, b) (c, d) = false) := Lib.hid (by unfold meetX; rw [hr]; simp [h0])
    have h0' : (r == 0) = false := by simpa using h0
    have h0'' : (r != 0) = true := by simpa using h0
    clear hr h0
    go_enter Tryd.func20, Tryd.ntmps20
    go_wp2_with (go_at_call 38; (with_reducible refine (checkAll_any _ [(a, b), (c, d)] _ (rs_two _ _ _ _ _ _ _ (by simp)) H64.out).mono ?_); rintro e w1 ⟨rfl, hb⟩; obtain ⟨a0, a1, b0, b1, c0, c1, f0, f1⟩ := boxes3 ((bl_self1 _ _).trans (hb.mono (by simp))); have hz0 : w.heap.size < w1.heap.size := (by have := hb.size; simp at this; omega); have hz1 : w.heap.size + 1 < w1.heap.size := (by have := hb.size; simp at this; omega); have hz2 : w.heap.size + 1 + 1 < w1.heap.size := (by have := hb.size; simp at this; omega); have HB := Lib.hid hb; clear hb; rw [HR.out])
    (refine bodyPost_ret (v := .tuple #[.agg #[.int .i64 0, .int .i64 0], .bool false, .int .i64 r]) ?_ rfl (ret_meet (meet_no HX.out).1 (meet_no HX.out).2 HX.out HR.out (bl_meet0 HB.out)); (focus (simp [results, Tryd.f20, go_sem, c0, c1]; done)))
theorem bl_meet3 {w w1 : World} {o1 o2 o3 o5 : Obj} {x y : Value} (hb : Below (((w.alloc o1).alloc o2).alloc o3).heap.size (((w.alloc o1).alloc o2).alloc o3) w1) :
    Below w.heap.size w (((w1.setCell ⟨w.heap.size + 1 + 1, 0, none⟩ x).setCell ⟨w.heap.size + 1 + 1, 1, none⟩ y).alloc o5) := by
  have h0 : Below w.heap.size w (((w.alloc o1).alloc o2).alloc o3) := (((Below.refl _ _).alloc (Nat.le_refl _) _).alloc (by simp) _).alloc (by simp; omega) _
  have h1 := h0.trans (hb.mono (by simp; omega))
  exact ((h1.setCell (p := ⟨_, _, none⟩) (by simp; omega) _).setCell (p := ⟨_, _, none⟩) (by simp; omega) _).alloc (by have := h1.size; simp; omega) _
theorem lst2 {a b : Span} : lstS [a, b] = if chkS a = 0 then chkS b else chkS a := by
  rw [lstS]
  split
  · rw [lstS, lstS]
    split
    · rename_i h; rw [h]
    · rfl
  · rfl
set_option maxRecDepth 20000 in
set_option maxHeartbeats 4000000 in
theorem rmeet_any (a b c d : Int) (w : World) (ha : N64 a) (hb : N64 b) (hc : N64 c) (hd : N64 d) :
    Calls Tryd.prog 21 #[.agg #[.int .i64 a, .int .i64 b], .agg #[.int .i64 c, .int .i64 d]] w (MeetR w (a, b) (c, d)) := by
  have HA := Lib.hid ha; have HB4 := Lib.hid hb; have HC := Lib.hid hc; have HD := Lib.hid hd
  clear ha hb hc hd
  obtain ⟨r1, hr1⟩ : ∃ r, chkS (a, b) = r := ⟨_, rfl⟩
  obtain ⟨r2, hr2⟩ : ∃ r, chkS (c, d) = r := ⟨_, rfl⟩
  have HR1 := Lib.hid hr1; have HR2 := Lib.hid hr2
  have hl := lst2 (a := (a, b)) (b := (c, d))
  have tk1 : True := trivial
  by_cases h0 : r1 = 0
  · subst h0
    rw [hr1, if_pos rfl, hr2] at hl
    have HR := Lib.hid hl
    by_cases h1 : r2 = 0
    · subst h1
      by_cases hm : max a c < min b d
      · have HX : Hid (meetX (a, b) (c, d) = true) := Lib.hid (by unfold meetX; rw [hl]; simp; omega)
        clear hl hr1 hr2
        go_enter Tryd.func21, Tryd.ntmps21
        go_wp2_with (first | (go_at_call 23; have _t := tk1; (with_reducible refine (rcheck_any a b _ HA.out HB4.out).mono ?_); rintro e w1 ⟨rfl, hb⟩; clear tk1; obtain ⟨a0, a1, b0, b1, c0, c1, f0, f1⟩ := boxes3 hb; have hz0 : w.heap.size < w1.heap.size := (by have := hb.size; simp at this; omega); have hz1 : w.heap.size + 1 < w1.heap.size := (by have := hb.size; simp at this; omega); have hz2 : w.heap.size + 1 + 1 < w1.heap.size := (by have := hb.size; simp at this; omega); have HB := Lib.hid hb; clear hb; rw [HR1.out]) | (go_at_call 23; (with_reducible refine (rcheck_any c d _ HC.out HD.out).mono ?_); rintro e w2 ⟨rfl, hb⟩; replace HB := Lib.hid (HB.out.trans (hb.mono HB.out.size)); clear a0 a1 b0 b1 c0 c1 f0 f1 hz0 hz1 hz2; obtain ⟨a0, a1, b0, b1, c0, c1, f0, f1⟩ := boxes3 HB.out; have hz0 : w.heap.size < w2.heap.size := (by have := HB.out.size; simp at this; omega); have hz1 : w.heap.size + 1 < w2.heap.size := (by have := HB.out.size; simp at this; omega); have hz2 : w.heap.size + 1 + 1 < w2.heap.size := (by have := HB.out.size; simp at this; omega); clear hb; rw [HR2.out]))
        all_goals first
          | (refine bodyPost_ret (v := .tuple #[.agg #[.int .i64 a, .int .i64 b], .bool true, .int .i64 0]) ?_ rfl (ret_meet ?_ ?_ HX.out HR.out ?_); (focus (simp [results, Tryd.f21, go_sem, hz2, c0, c1]; done)); (focus (rw [(meet_yes HX.out).1]; simp only; omega)); (focus (rw [(meet_yes HX.out).2]; simp only; omega)); exact bl_meet3 HB.out)
          | (refine bodyPost_ret (v := .tuple #[.agg #[.int .i64 a, .int .i64 d], .bool true, .int .i64 0]) ?_ rfl (ret_meet ?_ ?_ HX.out HR.out ?_); (focus (simp [results, Tryd.f21, go_sem, hz2, c0, c1]; done)); (focus (rw [(meet_yes HX.out).1]; simp only; omega)); (focus (rw [(meet_yes HX.out).2]; simp only; omega)); exact bl_meet3 HB.out)
          | (refine bodyPost_ret (v := .tuple #[.agg #[.int .i64 c, .int .i64 b], .bool true, .int .i64 0]) ?_ rfl (ret_meet ?_ ?_ HX.out HR.out ?_); (focus (simp [results, Tryd.f21, go_sem, hz2, c0, c1]; done)); (focus (rw [(meet_yes HX.out).1]; simp only; omega)); (focus (rw [(meet_yes HX.out).2]; simp only; omega)); exact bl_meet3 HB.out)
          | (refine bodyPost_ret (v := .tuple #[.agg #[.int .i64 c, .int .i64 d], .bool true, .int .i64 0]) ?_ rfl (ret_meet ?_ ?_ HX.out HR.out ?_); (focus (simp [results, Tryd.f21, go_sem, hz2, c0, c1]; done)); (focus (rw [(meet_yes HX.out).1]; simp only; omega)); (focus (rw [(meet_yes HX.out).2]; simp only; omega)); exact bl_meet3 HB.out)
      · have HX : Hid (meetX (a, b) (c, d) = false) := Lib.hid (by unfold meetX; rw [hl]; simp; omega)
        clear hl hr1 hr2
        go_enter Tryd.func21, Tryd.ntmps21
        go_wp2_with (first | (go_at_call 23; have _t := tk1; (with_reducible refine (rcheck_any a b _ HA.out HB4.out).mono ?_); rintro e w1 ⟨rfl, hb⟩; clear tk1; obtain ⟨a0, a1, b0, b1, c0, c1, f0, f1⟩ := boxes3 hb; have hz0 : w.heap.size < w1.heap.size := (by have := hb.size; simp at this; omega); have hz1 : w.heap.size + 1 < w1.heap.size := (by have := hb.size; simp at this; omega); have hz2 : w.heap.size + 1 + 1 < w1.heap.size := (by have := hb.size; simp at this; omega); have HB := Lib.hid hb; clear hb; rw [HR1.out]) | (go_at_call 23; (with_reducible refine (rcheck_any c d _ HC.out HD.out).mono ?_); rintro e w2 ⟨rfl, hb⟩; replace HB := Lib.hid (HB.out.trans (hb.mono HB.out.size)); clear a0 a1 b0 b1 c0 c1 f0 f1 hz0 hz1 hz2; obtain ⟨a0, a1, b0, b1, c0, c1, f0, f1⟩ := boxes3 HB.out; have hz0 : w.heap.size < w2.heap.size := (by have := HB.out.size; simp at this; omega); have hz1 : w.heap.size + 1 < w2.heap.size := (by have := HB.out.size; simp at this; omega); have hz2 : w.heap.size + 1 + 1 < w2.heap.size := (by have := HB.out.size; simp at this; omega); clear hb; rw [HR2.out]))
        all_goals (refine bodyPost_ret (v := .tuple #[.agg #[.int .i64 0, .int .i64 0], .bool false, .int .i64 0]) ?_ rfl (ret_meet (meet_no HX.out).1 (meet_no HX.out).2 HX.out HR.out (bl_meet3 HB.out)); (focus (simp [results, Tryd.f21, go_sem, hz2, c0, c1]; done)))
    · have HX : Hid (meetX (a, b) (c, d) = false) := Lib.hid (by unfold meetX; rw [hl]; simp [h1])
      have h1' : (r2 == 0) = false := by simpa using h1
      have h1'' : (r2 != 0) = true := by simpa using h1
      clear hl hr1 hr2 h1
      go_enter Tryd.func21, Tryd.ntmps21
      go_wp2_with (first | (go_at_call 23; have _t := tk1; (with_reducible refine (rcheck_any a b _ HA.out HB4.out).mono ?_); rintro e w1 ⟨rfl, hb⟩; clear tk1; obtain ⟨a0, a1, b0, b1, c0, c1, f0, f1⟩ := boxes3 hb; have hz0 : w.heap.size < w1.heap.size := (by have := hb.size; simp at this; omega); have hz1 : w.heap.size + 1 < w1.heap.size := (by have := hb.size; simp at this; omega); have hz2 : w.heap.size + 1 + 1 < w1.heap.size := (by have := hb.size; simp at this; omega); have HB := Lib.hid hb; clear hb; rw [HR1.out]) | (go_at_call 23; (with_reducible refine (rcheck_any c d _ HC.out HD.out).mono ?_); rintro e w2 ⟨rfl, hb⟩; replace HB := Lib.hid (HB.out.trans (hb.mono HB.out.size)); clear a0 a1 b0 b1 c0 c1 f0 f1 hz0 hz1 hz2; obtain ⟨a0, a1, b0, b1, c0, c1, f0, f1⟩ := boxes3 HB.out; have hz0 : w.heap.size < w2.heap.size := (by have := HB.out.size; simp at this; omega); have hz1 : w.heap.size + 1 < w2.heap.size := (by have := HB.out.size; simp at this; omega); have hz2 : w.heap.size + 1 + 1 < w2.heap.size := (by have := HB.out.size; simp at this; omega); clear hb; rw [HR2.out]))
      all_goals (refine bodyPost_ret (v := .tuple #[.agg #[.int .i64 0, .int .i64 0], .bool false, .int .i64 r2]) ?_ rfl (ret_meet (meet_no HX.out).1 (meet_no HX.out).2 HX.out HR.out (bl_meet3 HB.out)); (focus (simp [results, Tryd.f21, go_sem, hz2, c0, c1]; done)))
  · rw [hr1, if_neg h0] at hl
    have HR := Lib.hid hl
    have HX : Hid (meetX (a, b) (c, d) = false) := Lib.hid (by unfold meetX; rw [hl]; simp [h0])
    have h1' : (r1 == 0) = false := by simpa using h0
    have h1'' : (r1 != 0) = true := by simpa using h0
    clear hl hr1 hr2 h0
    go_enter Tryd.func21, Tryd.ntmps21
    go_wp2_with (go_at_call 23; have _t := tk1; (with_reducible refine (rcheck_any a b _ HA.out HB4.out).mono ?_); rintro e w1 ⟨rfl, hb⟩; clear tk1; obtain ⟨a0, a1, b0, b1, c0, c1, f0, f1⟩ := boxes3 hb; have hz0 : w.heap.size < w1.heap.size := (by have := hb.size; simp at this; omega); have hz1 : w.heap.size + 1 < w1.heap.size := (by have := hb.size; simp at this; omega); have hz2 : w.heap.size + 1 + 1 < w1.heap.size := (by have := hb.size; simp at this; omega); have HB := Lib.hid hb; clear hb; rw [HR1.out])
    all_goals (refine bodyPost_ret (v := .tuple #[.agg #[.int .i64 0, .int .i64 0], .bool false, .int .i64 r1]) ?_ rfl (ret_meet (meet_no HX.out).1 (meet_no HX.out).2 HX.out HR.out (bl_meet3 HB.out)); (focus (simp [results, Tryd.f21, go_sem, hz2, c0, c1]; done)))
end Go.Proofs.YtnmgcfpemmejlaaDoor
