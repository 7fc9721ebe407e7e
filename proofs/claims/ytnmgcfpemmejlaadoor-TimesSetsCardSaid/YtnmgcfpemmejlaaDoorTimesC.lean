/- Lists of spans in memory; checkAll, the reference's list, In and Same, far. -/
import Derived.Test.YtnmgcfpemmejlaaDoorTimesB
import Derived.Deep.QuietTactic
import Derived.BigQuiet
import Derived.Deep.DeepCutAuto
namespace Go.Proofs.YtnmgcfpemmejlaaDoor
open Go.RowKit Go.Lib
set_option linter.unusedVariables false

/-- The slice v reads as the spans l: at any address, if it has none. -/
def RS (w : World) (v : Value) (l : List Span) : Prop :=
  (∃ a c, v = .slice a 0 c ∧ l = []) ∨
  ∃ g off cap, v = .slice (some ⟨g, off, none⟩) l.length cap ∧ g < w.heap.size ∧ l.length ≤ maxLen ∧ ∀ i s, l[i]? = some s → w.cell? ⟨g, off + i * 2, none⟩ = some (.int .i64 s.1) ∧ w.cell? ⟨g, off + i * 2 + 1, none⟩ = some (.int .i64 s.2)
theorem RS.later {W W' : World} {v : Value} {l : List Span} (h : RS W v l) (hb : Below W.heap.size W W') : RS W' v l := by
  rcases h with h | ⟨g, off, cap, h1, h2, h3, h4⟩
  · exact .inl h
  · exact .inr ⟨g, off, cap, h1, Nat.lt_of_lt_of_le h2 hb.size, h3, fun i s hi => ⟨(hb.cell (p := ⟨g, _, none⟩) h2).trans (h4 i s hi).1, (hb.cell (p := ⟨g, _, none⟩) h2).trans (h4 i s hi).2⟩⟩
theorem RS.len {W : World} {v : Value} {l : List Span} (h : RS W v l) : ∃ A c, v = .slice A l.length c := by
  rcases h with ⟨a, c, rfl, rfl⟩ | ⟨g, off, cap, h1, _⟩
  · exact ⟨a, c, rfl⟩
  · exact ⟨_, _, h1⟩
theorem RS.max {W : World} {v : Value} {l : List Span} (h : RS W v l) : l.length ≤ maxLen := by
  rcases h with ⟨a, c, rfl, rfl⟩ | ⟨g, off, cap, h1, h2, h3, _⟩
  · simp
  · exact h3
theorem RS.nil (w : World) : RS w (.slice none 0 0) [] := .inl ⟨_, _, rfl, rfl⟩
theorem RS.drawn {W : World} {v : Value} {l : List Span} (h : RS W v l) (n : Nat) : RS (W.drewN n) v l := h
/-- The i-th span's cells. -/
theorem RS.at {W : World} {A : Option Addr} {n c : Nat} {l : List Span} (h : RS W (.slice A n c) l) {i : Nat} {s : Span} (hi : l[i]? = some s) :
    ∃ g off, A = some ⟨g, off, none⟩ ∧ g < W.heap.size ∧ W.cell? ⟨g, off + i * 2, none⟩ = some (.int .i64 s.1) ∧ W.cell? ⟨g, off + i * 2 + 1, none⟩ = some (.int .i64 s.2) := by
  rcases h with ⟨a, c, h, rfl⟩ | ⟨g, off, cap, h1, h2, h3, h4⟩
  · simp at hi
  · simp only [Value.slice.injEq] at h1
    obtain ⟨rfl, _, _⟩ := h1
    exact ⟨g, off, rfl, h2, h4 i s hi⟩

/-! ### Checking lists -/
theorem getS {l : List Span} {k n : Nat} (hn : l.length = n) (h : k < n) : ∃ s, l[k]? = some s := ⟨_, List.getElem?_eq_getElem (by omega)⟩
theorem lstS_all {l : List Span} {k : Nat} (h : lstS (l.take k) = 0) (hk : ¬ k < l.length) : lstS l = 0 := by rwa [List.take_of_length_le (by omega)] at h
theorem mem_of {l : List Span} {k : Nat} {s : Span} (h : l[k]? = some s) {P : Span → Prop} (hP : ∀ r ∈ l, P r) : P s := hP s (List.mem_of_getElem? h)

set_option maxRecDepth 20000 in
set_option maxHeartbeats 2000000 in
theorem checkAll_any (v : Value) (l : List Span) (w : World) (hv : RS w v l) (h64 : ∀ s ∈ l, S64 s) :
    Calls Tryd.prog 38 #[v] w (IntR w (lstS l)) := by
  obtain ⟨A, c, rfl⟩ := hv.len
  have hm := hv.max
  unfold maxLen at hm
  obtain ⟨n, hn⟩ : ∃ n, l.length = n := ⟨_, rfl⟩
  rw [hn] at hv hm ⊢
  have HV := Lib.hid hv; have HN := Lib.hid hn; have H64 := Lib.hid h64
  clear hv hn h64
  go_enter Tryd.func38, Tryd.ntmps38
  go_wp2_with fail
  go_loopw [4, 5, 8] (fun _ _ i wr => ∃ k : Nat, k ≤ n ∧ i = .int .i64 k ∧ Hid (Below w.heap.size w wr) ∧ Hid (lstS (l.take k) = 0)) (fun _ _ i _ => n - (intOf i).toNat)
  case atStart => exact ⟨0, by omega, rfl, Lib.hid (Below.refl _ _), Lib.hid rfl⟩
  case round =>
    obtain ⟨k, hk, rfl, HB, HX⟩ := hrel
    by_cases hlt : k < n
    · obtain ⟨s, hs⟩ := getS HN.out hlt
      obtain ⟨g, off, rfl, hg, c0, c1⟩ := (HV.out.later HB.out).at hs
      obtain ⟨hx, hy⟩ := mem_of hs H64.out
      obtain ⟨x, y⟩ := s
      have HS := Lib.hid hs; have HX6 := Lib.hid hx; have HY6 := Lib.hid hy
      obtain ⟨r, hr⟩ : ∃ r, chkS (x, y) = r := ⟨_, rfl⟩
      have HR := Lib.hid hr
      clear hs hr hx hy
      simp only at c0 c1
      by_cases h0 : r = 0
      · subst h0
        have HN2 : Hid (lstS (l.take (k + 1)) = 0) := Lib.hid (lstS_step HS.out HX.out HR.out)
        go_wp2_with (go_at_call 22; (with_reducible refine (check_any x y _ HX6.out HY6.out).mono ?_); rintro e w' ⟨rfl, hb⟩; rw [HR.out]; have HB1 := Lib.hid hb; clear hb)
        go_roundw
        case rel => exact ⟨k + 1, by omega, by go_num, Lib.hid ((HB.out.alloc HB.out.size _).trans (HB1.out.mono (by have := HB.out.size; simp; omega))), HN2⟩
        case measure => simp [intOf]; omega
      · have HE : Hid (lstS l = r) := Lib.hid ((lstS_bad HS.out HX.out (by rw [HR.out]; exact h0)).trans HR.out)
        have h0' : (r == 0) = false := by simpa using h0
        have h0'' : (r != 0) = true := by simpa using h0
        clear h0
        go_wp2_with (go_at_call 22; (with_reducible refine (check_any x y _ HX6.out HY6.out).mono ?_); rintro e w' ⟨rfl, hb⟩; rw [HR.out]; have HB1 := Lib.hid hb; clear hb)
        go_ret
        exact ⟨ret_int HE.out.symm, (HB.out.alloc HB.out.size _).trans (HB1.out.mono (by have := HB.out.size; simp; omega))⟩
    · have HE : Hid (lstS l = 0) := Lib.hid (lstS_all HX.out (by rw [HN.out]; exact hlt))
      go_wp2_with fail
      go_ret
      exact ⟨ret_int HE.out.symm, HB.out⟩
set_option maxRecDepth 20000 in
set_option maxHeartbeats 2000000 in
theorem rlist_any (v : Value) (l : List Span) (w : World) (hv : RS w v l) (h64 : ∀ s ∈ l, S64 s) :
    Calls Tryd.prog 42 #[v] w (IntR w (lstS l)) := by
  obtain ⟨A, c, rfl⟩ := hv.len
  have hm := hv.max
  unfold maxLen at hm
  obtain ⟨n, hn⟩ : ∃ n, l.length = n := ⟨_, rfl⟩
  rw [hn] at hv hm ⊢
  have HV := Lib.hid hv; have HN := Lib.hid hn; have H64 := Lib.hid h64
  clear hv hn h64
  go_enter Tryd.func42, Tryd.ntmps42
  go_wp2_with fail
  go_loopw [3, 4] (fun i _ wr => ∃ k : Nat, k ≤ n ∧ i = .int .i64 k ∧ Hid (Below w.heap.size w wr) ∧ Hid (lstS (l.take k) = 0)) (fun i _ _ => n - (intOf i).toNat)
  case atStart => exact ⟨0, by omega, rfl, Lib.hid (Below.refl _ _), Lib.hid rfl⟩
  case round =>
    obtain ⟨k, hk, rfl, HB, HX⟩ := hrel
    by_cases hlt : k < n
    · obtain ⟨s, hs⟩ := getS HN.out hlt
      obtain ⟨g, off, rfl, hg, c0, c1⟩ := (HV.out.later HB.out).at hs
      obtain ⟨hx, hy⟩ := mem_of hs H64.out
      obtain ⟨x, y⟩ := s
      have HS := Lib.hid hs; have HX6 := Lib.hid hx; have HY6 := Lib.hid hy
      obtain ⟨r, hr⟩ : ∃ r, chkS (x, y) = r := ⟨_, rfl⟩
      have HR := Lib.hid hr
      clear hs hr hx hy
      simp only at c0 c1
      by_cases h0 : r = 0
      · subst h0
        have HN2 : Hid (lstS (l.take (k + 1)) = 0) := Lib.hid (lstS_step HS.out HX.out HR.out)
        go_wp2_with (go_at_call 23; (with_reducible refine (rcheck_any x y _ HX6.out HY6.out).mono ?_); rintro e w' ⟨rfl, hb⟩; rw [HR.out]; have HB1 := Lib.hid hb; clear hb)
        go_roundw
        case rel => exact ⟨k + 1, by omega, by go_num, Lib.hid (HB.out.trans (HB1.out.mono HB.out.size)), HN2⟩
        case measure => simp [intOf]; omega
      · have HE : Hid (lstS l = r) := Lib.hid ((lstS_bad HS.out HX.out (by rw [HR.out]; exact h0)).trans HR.out)
        have h0' : (r == 0) = false := by simpa using h0
        have h0'' : (r != 0) = true := by simpa using h0
        clear h0
        go_wp2_with (go_at_call 23; (with_reducible refine (rcheck_any x y _ HX6.out HY6.out).mono ?_); rintro e w' ⟨rfl, hb⟩; rw [HR.out]; have HB1 := Lib.hid hb; clear hb)
        go_ret
        exact ⟨ret_int HE.out.symm, HB.out.trans (HB1.out.mono HB.out.size)⟩
    · have HE : Hid (lstS l = 0) := Lib.hid (lstS_all HX.out (by rw [HN.out]; exact hlt))
      go_wp2_with fail
      go_ret
      exact ⟨ret_int HE.out.symm, HB.out⟩
end Go.Proofs.YtnmgcfpemmejlaaDoor
