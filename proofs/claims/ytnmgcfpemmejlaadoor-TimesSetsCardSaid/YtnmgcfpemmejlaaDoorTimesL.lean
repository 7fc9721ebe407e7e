/- Total. -/
import Derived.Test.YtnmgcfpemmejlaaDoorTimesK
namespace Go.Proofs.YtnmgcfpemmejlaaDoor
open Go.RowKit Go.Lib
set_option linter.unusedVariables false

theorem totalS_snoc {u : List Span} {k : Nat} {s : Span} (h : u[k]? = some s) : totalS (u.take (k + 1)) = totalS (u.take k) + (s.2 - s.1) := by
  rw [take_snocS h]; simp [totalS]
/-- The sums of the first spans are times. -/
theorem total_take {u : List Span} (hc : Canon u) (hb : ∀ s ∈ u, 0 ≤ s.1 ∧ s.2 ≤ 9223372036854775807) (k : Nat) : 0 ≤ totalS (u.take k) ∧ totalS (u.take k) ≤ 9223372036854775807 :=
  total_le (hc.take k) (fun s hs => hb s (List.mem_of_mem_take hs)) (by omega)
/-- Total's number: of the set, if there is no error. -/
def TotR (w : World) (a : List Span) (e : Ending) (w' : World) : Prop := ∃ n, e = .returned (.tuple #[.int .i64 n, .int .i64 (errS a [])]) ∧ (errS a [] = 0 → ∃ u, IsSet a [] u ∧ n = totalS u) ∧ (errS a [] ≠ 0 → n = 0) ∧ Below w.heap.size w w'
theorem set_bound {a b u : List Span} (h : IsSet a b u) (he : errS a b = 0) (h64 : ∀ s ∈ a, S64 s) : ∀ s ∈ u, 0 ≤ s.1 ∧ s.1 < s.2 ∧ s.2 ≤ 9223372036854775807 :=
  h.bound (fun s hs => ⟨((errS_ok.1 he).2.1 s hs).1, (h64 s hs).2.2⟩)
theorem ret_nn1 {a c d : Int} (h2 : c = d) : Ending.returned (.tuple #[.int .i64 a, .int .i64 c]) = .returned (.tuple #[.int .i64 a, .int .i64 d]) := by rw [h2]
set_option maxRecDepth 20000 in
set_option maxHeartbeats 4000000 in
theorem total_any (v : Value) (a : List Span) (w : World) (hv : RS w v a) (h64 : ∀ s ∈ a, S64 s) : Calls Tryd.prog 28 #[v] w (TotR w a) := by
  obtain ⟨r, hr⟩ : ∃ r, errS a [] = r := ⟨_, rfl⟩
  obtain ⟨A0, c0, rfl⟩ := hv.len
  obtain ⟨n0, hn0⟩ : ∃ n0, a.length = n0 := ⟨_, rfl⟩
  rw [hn0] at hv ⊢
  clear hn0
  have HV := Lib.hid hv; have H64 := Lib.hid h64; have HR := Lib.hid hr
  clear hv h64
  by_cases h0 : r = 0
  · subst h0
    have HO := Lib.hid (ok_all hr)
    clear hr
    go_enter Tryd.func28, Tryd.ntmps28
    go_wp2_with (first
      | (go_at_call 39; (with_reducible refine (checkLists1 _ a 0 _ _ _ (by simp) HV.out H64.out HR.out).mono ?_); rintro e w1 ⟨rfl, hb⟩; have B1 := Lib.hid (bl_call (bl_alloc _ (Below.refl _ _)) hb); clear hb)
      | (go_at_call 40; (with_reducible refine (joined_any _ a _ (HV.out.later B1.out) HO.out.1.1 HO.out.2.1 H64.out).mono ?_); rintro e w2 ⟨v2, u, rfl, hs, hl, ho, hb⟩; have B2 := Lib.hid (bl_call B1.out hb); have HS := Lib.hid hs; have O2 := Lib.hid ho; clear hs hl ho hb; obtain ⟨A, c, rfl⟩ := O2.out.len; obtain ⟨n, hn⟩ : ∃ n, u.length = n := ⟨_, rfl⟩; have hmx := O2.out.rs.max; unfold maxLen at hmx; rw [hn] at O2 hmx ⊢; have HN := Lib.hid hn; clear hn))
    have HBD := Lib.hid (set_bound HS.out HR.out H64.out)
    go_loopw [5, 7, 17] (fun t _ i wr => ∃ (k : Nat) (n : Int), k ≤ u.length ∧ i = .int .i64 k ∧ t = .int .i64 n ∧ Hid (n = totalS (u.take k)) ∧ Hid (Below w2.heap.size w2 wr)) (fun _ _ i _ => n - (intOf i).toNat)
    case atStart => exact ⟨0, 0, by omega, rfl, rfl, Lib.hid rfl, Lib.hid (Below.refl _ _)⟩
    case round =>
      obtain ⟨k, t, hk, rfl, rfl, HT, HB⟩ := hrel
      have HK := Lib.hid hk
      have hkn : k ≤ n := by rw [← HN.out]; exact hk
      clear hk
      by_cases hlt : k < n
      · obtain ⟨s, hs⟩ := getS HN.out hlt
        obtain ⟨g, off, rfl, hg, c0, c1⟩ := (O2.out.rs.later HB.out).at hs
        obtain ⟨q0, q1, q2⟩ := HBD.out s (List.mem_of_getElem? hs)
        have HT2 := Lib.hid (totalS_snoc hs)
        obtain ⟨t1, t2⟩ := total_take HS.out.can (fun s hs => ⟨(HBD.out s hs).1, (HBD.out s hs).2.2⟩) (k + 1)
        obtain ⟨t3, t4⟩ := total_take HS.out.can (fun s hs => ⟨(HBD.out s hs).1, (HBD.out s hs).2.2⟩) k
        obtain ⟨x, y⟩ := s
        simp only at c0 c1 q0 q1 q2
        rw [HT2.out, ← HT.out] at t1 t2
        rw [← HT.out] at t3 t4
        simp only at t1 t2 t3 t4
        have HT3 : Hid (t + (y - x) = totalS (u.take (k + 1))) := Lib.hid (by rw [HT2.out, ← HT.out])
        clear hs
        go_wp2_with fail
        go_roundw
        case rel => exact ⟨k + 1, _, by rw [HN.out]; omega, by go_num, rfl, HT3, Lib.hid (HB.out.trans ((bl_alloc _ (Below.refl _ _)).mono HB.out.size))⟩
        case measure => simp [intOf]; omega
      · go_wp2_with fail
        go_ret2
        exact ⟨t, ret_nn1 HR.out.symm, fun _ => ⟨u, HS.out, by rw [HT.out, List.take_of_length_le (by rw [HN.out]; omega)]⟩, fun h => absurd HR.out h, B2.out.trans (HB.out.mono B2.out.size)⟩
  · have h1 : (r == 0) = false := by simpa using h0
    have h2 : (r != 0) = true := by simpa using h0
    have H0 := Lib.hid h0
    clear hr h0
    go_enter Tryd.func28, Tryd.ntmps28
    go_wp2_with (go_at_call 39; (with_reducible refine (checkLists1 _ a r _ _ _ (by simp) HV.out H64.out HR.out).mono ?_); rintro e w1 ⟨rfl, hb⟩; have B1 := Lib.hid (bl_call (bl_alloc _ (Below.refl _ _)) hb); clear hb)
    go_ret2
    exact ⟨0, ret_nn1 HR.out.symm, fun h => absurd (HR.out.symm.trans h) H0.out, fun _ => rfl, B1.out⟩
end Go.Proofs.YtnmgcfpemmejlaaDoor
