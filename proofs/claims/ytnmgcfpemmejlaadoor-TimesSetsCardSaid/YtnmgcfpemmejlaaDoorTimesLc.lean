/- What the last three laws share: contracts whose errors are named. -/
import Derived.Test.YtnmgcfpemmejlaaDoorTimesDeadlinesWalk
namespace Go.Proofs.YtnmgcfpemmejlaaDoor
open Go.RowKit Go.Lib
set_option linter.unusedVariables false

def farB (n : Nat) : Bool := decide ((60 < n ∧ n ≤ 200) ∨ 210 < n)
theorem farB_no {n : Nat} (h : farB n = false) : n ≤ 60 ∨ 200 < n ∧ n ≤ 210 := by unfold farB at h; simp at h; omega
theorem far_r (A : Option Addr) (n c : Nat) (b : Bool) (w : World) (hm : n ≤ maxLen) (hb : farB n = b) :
    Calls Tryd.prog 19 #[.slice A n c] w fun e w' => e = .returned (.bool b) ∧ w = w' := by
  unfold maxLen at hm
  subst hb
  by_cases h1 : n ≤ 60
  · go_enter Tryd.func19, Tryd.ntmps19
    go_wp2_with fail
    go_ret
    exact ⟨ret_bool (Bool.eq_iff_iff.2 (by unfold farB; simp; try omega)), rfl⟩
  · by_cases h2 : n ≤ 200
    · go_enter Tryd.func19, Tryd.ntmps19
      go_wp2_with fail
      go_ret
      exact ⟨ret_bool (Bool.eq_iff_iff.2 (by unfold farB; simp; try omega)), rfl⟩
    · by_cases h3 : n ≤ 210
      · go_enter Tryd.func19, Tryd.ntmps19
        go_wp2_with fail
        go_ret
        exact ⟨ret_bool (Bool.eq_iff_iff.2 (by unfold farB; simp; try omega)), rfl⟩
      · go_enter Tryd.func19, Tryd.ntmps19
        go_wp2_with fail
        go_ret
        exact ⟨ret_bool (Bool.eq_iff_iff.2 (by unfold farB; simp; try omega)), rfl⟩

/-- What a list of the program's is: the set, or empty with an error. -/
structure SetOf (a b u : List Span) (r : Int) : Prop where
  yes : r = 0 → IsSet a b u
  no : r ≠ 0 → u = []
theorem SetOf.one {a b u v : List Span} {r : Int} (h : SetOf a b u r) (k : SetOf a b v r) : u = v := by
  by_cases e : r = 0
  · exact (h.yes e).one (k.yes e)
  · rw [h.no e, k.no e]
structure TotOf (a : List Span) (n r : Int) : Prop where
  yes : r = 0 → ∃ u, IsSet a [] u ∧ n = totalS u
  no : r ≠ 0 → n = 0
theorem TotOf.one {a : List Span} {n m r : Int} (h : TotOf a n r) (k : TotOf a m r) : n = m := by
  by_cases e : r = 0
  · obtain ⟨u, h1, h2⟩ := h.yes e
    obtain ⟨v, k1, k2⟩ := k.yes e
    rw [h2, k2, h1.one k1]
  · rw [h.no e, k.no e]
def ListR (w : World) (a b : List Span) (r : Int) (e : Ending) (w' : World) : Prop := ∃ v u, e = .returned (.tuple #[v, .int .i64 r]) ∧ SetOf a b u r ∧ RS w' v u ∧ Below w.heap.size w w'
theorem ListR.of {w : World} {a b : List Span} {r : Int} (hr : errS a b = r) {e : Ending} {w' : World} (h : SetR w a b e w') : ListR w a b r e w' := by
  subst hr
  obtain ⟨v, u, he, h1, h2, h3, h4⟩ := h
  exact ⟨v, u, he, ⟨h1, h2⟩, h3, h4⟩
def CountR (w : World) (a : List Span) (r : Int) (e : Ending) (w' : World) : Prop := ∃ n, e = .returned (.tuple #[.int .i64 n, .int .i64 r]) ∧ TotOf a n r ∧ Below w.heap.size w w'
theorem CountR.of {w : World} {a : List Span} {r : Int} (hr : errS a [] = r) {e : Ending} {w' : World} (h : TotR w a e w') : CountR w a r e w' := by
  subst hr
  obtain ⟨n, he, h1, h2, h4⟩ := h
  exact ⟨n, he, ⟨h1, h2⟩, h4⟩
section
variable {a b : List Span} {r : Int} (v u : Value) (w : World) (hv : RS w v a) (ha : ∀ s ∈ a, S64 s)
include hv ha
theorem union_r (hr : errS a [] = r) : Calls Tryd.prog 24 #[v] w (ListR w a [] r) := (union_any v a w hv ha).mono fun _ _ h => .of hr h
theorem runion_r (hr : errS a [] = r) : Calls Tryd.prog 25 #[v] w (ListR w a [] r) := (runion_any v a w hv ha).mono fun _ _ h => .of hr h
theorem total_r (hr : errS a [] = r) : Calls Tryd.prog 28 #[v] w (CountR w a r) := (total_any v a w hv ha).mono fun _ _ h => .of hr h
theorem rtotal_r (hr : errS a [] = r) : Calls Tryd.prog 29 #[v] w (CountR w a r) := (rtotal_any v a w hv ha).mono fun _ _ h => .of hr h
theorem minus_r (hu : RS w u b) (hb : ∀ s ∈ b, S64 s) (hr : errS a b = r) : Calls Tryd.prog 26 #[v, u] w (ListR w a b r) := (minus_any v u a b w hv hu ha hb).mono fun _ _ h => .of hr h
theorem rminus_r (hu : RS w u b) (hb : ∀ s ∈ b, S64 s) (hr : errS a b = r) : Calls Tryd.prog 27 #[v, u] w (ListR w a b r) := (rminus_any v u a b w hv hu ha hb).mono fun _ _ h => .of hr h
end
theorem check_r (x y r : Int) (w : World) (h : S64 (x, y)) (hr : chkS (x, y) = r) : Calls Tryd.prog 22 #[.agg #[.int .i64 x, .int .i64 y]] w (IntR w r) := by subst hr; exact check_any x y w h.1 h.2
theorem rcheck_r (x y r : Int) (w : World) (h : S64 (x, y)) (hr : chkS (x, y) = r) : Calls Tryd.prog 23 #[.agg #[.int .i64 x, .int .i64 y]] w (IntR w r) := by subst hr; exact rcheck_any x y w h.1 h.2
/-- What Meet says of two spans. -/
structure MeetOf (a b : Span) (f t : Int) (x : Bool) (r : Int) : Prop where
  f : meetF a b = f
  t : meetT a b = t
  x : meetX a b = x
  r : lstS [a, b] = r
def MeetV (w : World) (f t : Int) (x : Bool) (r : Int) (e : Ending) (w' : World) : Prop := e = .returned (.tuple #[.agg #[.int .i64 f, .int .i64 t], .bool x, .int .i64 r]) ∧ Below w.heap.size w w'
section
variable {f t r : Int} {x : Bool} (a b c d : Int) (w : World) (h : S64 (a, b)) (k : S64 (c, d)) (m : MeetOf (a, b) (c, d) f t x r)
include h k m
theorem meet_r : Calls Tryd.prog 20 #[.agg #[.int .i64 a, .int .i64 b], .agg #[.int .i64 c, .int .i64 d]] w (MeetV w f t x r) := by
  obtain ⟨rfl, rfl, rfl, rfl⟩ := m
  exact meet_any a b c d w h.1 h.2 k.1 k.2
theorem rmeet_r : Calls Tryd.prog 21 #[.agg #[.int .i64 a, .int .i64 b], .agg #[.int .i64 c, .int .i64 d]] w (MeetV w f t x r) := by
  obtain ⟨rfl, rfl, rfl, rfl⟩ := m
  exact rmeet_any a b c d w h.1 h.2 k.1 k.2
end
/-- The first span's cells. -/
theorem RS.first {W : World} {A : Option Addr} {n c : Nat} {l : List Span} (h : RS W (.slice A n c) l) (hn : l.length = n) (h0 : 0 < n) :
    ∃ x y l', l = (x, y) :: l' ∧ ∃ g off, A = some ⟨g, off, none⟩ ∧ g < W.heap.size ∧ W.cell? ⟨g, off, none⟩ = some (.int .i64 x) ∧ W.cell? ⟨g, off + 1, none⟩ = some (.int .i64 y) := by
  cases l with
  | nil => simp at hn; omega
  | cons s l' =>
    obtain ⟨g, off, h1, h2, h3, h4⟩ := h.at (i := 0) (s := s) rfl
    exact ⟨s.1, s.2, l', rfl, g, off, h1, h2, by simpa using h3, by simpa using h4⟩
end Go.Proofs.YtnmgcfpemmejlaaDoor
