/- The reference's In and Same; far. -/
import Derived.Test.YtnmgcfpemmejlaaDoorTimesC
namespace Go.Proofs.YtnmgcfpemmejlaaDoor
open Go.RowKit Go.Lib
set_option linter.unusedVariables false

theorem inB_snoc {l : List Span} {k : Nat} {s : Span} (h : l[k]? = some s) (t : Int) : inB (l.take (k + 1)) t = (inB (l.take k) t || (decide (s.1 ≤ t) && decide (t < s.2))) := by
  rw [take_snocS h]; simp [inB]
theorem inB_hit {l : List Span} {k : Nat} {s : Span} (h : l[k]? = some s) {t : Int} (h1 : s.1 ≤ t) (h2 : t < s.2) : inB l t = true :=
  (inB_iff l t).2 ⟨s, List.mem_of_getElem? h, h1, h2⟩
theorem inB_end {l : List Span} {k : Nat} {t : Int} (h : inB (l.take k) t = false) (hk : ¬ k < l.length) : inB l t = false := by rwa [List.take_of_length_le (by omega)] at h

set_option maxRecDepth 20000 in
set_option maxHeartbeats 2000000 in
theorem in_any (v : Value) (l : List Span) (t : Int) (w : World) (hv : RS w v l) :
    Calls Tryd.prog 35 #[v, .int .i64 t] w fun e w' => e = .returned (.bool (inB l t)) ∧ w = w' := by
  obtain ⟨A, c, rfl⟩ := hv.len
  have hm := hv.max
  unfold maxLen at hm
  obtain ⟨n, hn⟩ : ∃ n, l.length = n := ⟨_, rfl⟩
  rw [hn] at hv hm ⊢
  have HV := Lib.hid hv; have HN := Lib.hid hn
  clear hv hn
  go_enter Tryd.func35, Tryd.ntmps35
  go_wp2_with fail
  go_loop [5] (fun i => ∃ k : Nat, k ≤ n ∧ i = .int .i64 k ∧ Hid (inB (l.take k) t = false)) (fun i => n - (intOf i).toNat)
  case atStart => exact ⟨0, by omega, rfl, Lib.hid rfl⟩
  case round =>
    obtain ⟨k, hk, rfl, HX⟩ := hrel
    by_cases hlt : k < n
    · obtain ⟨s, hs⟩ := getS HN.out hlt
      obtain ⟨g, off, rfl, hg, c0, c1⟩ := HV.out.at hs
      obtain ⟨x, y⟩ := s
      have HS := Lib.hid hs; have HSN := Lib.hid (inB_snoc hs t)
      clear hs
      simp only at c0 c1
      by_cases h1 : x ≤ t
      · by_cases h2 : t < y
        · have HE : Hid (inB l t = true) := Lib.hid (inB_hit HS.out h1 h2)
          go_wp2_with fail
          go_ret
          exact ⟨ret_bool HE.out.symm, rfl⟩
        · have HE : Hid (inB (l.take (k + 1)) t = false) := Lib.hid (by rw [HSN.out, HX.out]; simp; omega)
          go_wp2_with fail
          go_round
          case rel => exact ⟨k + 1, by omega, by go_num, HE⟩
          case measure => simp [intOf]; omega
      · have HE : Hid (inB (l.take (k + 1)) t = false) := Lib.hid (by rw [HSN.out, HX.out]; simp; omega)
        have hd : decide (x ≤ t) = false := decide_eq_false h1
        go_wp2_with fail
        go_round
        case rel => exact ⟨k + 1, by omega, by go_num, HE⟩
        case measure => simp [intOf]; omega
    · have HE : Hid (inB l t = false) := Lib.hid (inB_end HX.out (by rw [HN.out]; exact hlt))
      go_wp2_with fail
      go_ret
      exact ⟨ret_bool HE.out.symm, rfl⟩

/-- Two spans, compared as structs. -/
def eqSp (x y : Span) : Bool := x.1 == y.1 && x.2 == y.2
set_option maxRecDepth 20000 in
theorem neq_span (w : World) (x y : Int) : (binOp .neq 32 (.agg #[.int .i64 x, .int .i64 y]) (.agg #[.int .i64 x, .int .i64 y])).run Tryd.prog w = .ok (.bool false) w := by
  have u3 := Tryd.underlying2
  have hS : Tryd.prog.underlying 32 = some (.struct (Tryd.prog.fieldsOf 32)) := by kernel_rfl
  have hp : Tryd.prog.stoodInHeld 32 = false := by kernel_rfl
  rw [run_neq_struct, show (10000 : Nat) = 9999 + 1 from rfl, run_equalIn_agg w 9999 32 _ _ hS hp]
  simp only [Program.fieldsOf, Tryd.underlying32]
  go_simp
set_option maxRecDepth 20000 in
set_option maxHeartbeats 2000000 in
/-- Two slices that read as the same spans. -/
theorem same_eq (v u : Value) (l : List Span) (w : World) (hv : RS w v l) (hu : RS w u l) :
    Calls Tryd.prog 30 #[v, u] w fun e w' => e = .returned (.bool true) ∧ ∃ q, w' = w.drewN q := by
  obtain ⟨A, c, rfl⟩ := hv.len
  obtain ⟨B, d, rfl⟩ := hu.len
  have hm := hv.max
  unfold maxLen at hm
  obtain ⟨n, hn⟩ : ∃ n, l.length = n := ⟨_, rfl⟩
  rw [hn] at hv hu hm ⊢
  have HV := Lib.hid hv; have HU := Lib.hid hu; have HN := Lib.hid hn
  clear hv hu hn
  have hne : ((n : Int) != (n : Int)) = false := by simp
  go_enter Tryd.func30, Tryd.ntmps30
  go_wp2_with fail
  go_loopw [5] (fun i wr => ∃ k : Nat, k ≤ n ∧ i = .int .i64 k ∧ Hid (∃ q, wr = w.drewN q)) (fun i _ => n - (intOf i).toNat)
  case atStart => exact ⟨0, by omega, rfl, Lib.hid ⟨0, rfl⟩⟩
  case round =>
    obtain ⟨k, hk, rfl, HW⟩ := hrel
    by_cases hlt : k < n
    · obtain ⟨s, hs⟩ := getS HN.out hlt
      obtain ⟨g, off, rfl, hg, c0, c1⟩ := (show RS wr _ l by obtain ⟨q, e⟩ := HW.out; rw [e]; exact HV.out.drawn q).at hs
      obtain ⟨g2, off2, rfl, hg2, e0, e1⟩ := (show RS wr _ l by obtain ⟨q, e⟩ := HW.out; rw [e]; exact HU.out.drawn q).at hs
      obtain ⟨x, y⟩ := s
      clear hs
      simp only at c0 c1 e0 e1
      have hnf := neq_span
      have j1 : (k : Int) < (n : Int) := by omega
      go_wp2_with fail
      go_quiet (fail)
      go_wp2_with fail
      go_roundw
      case rel => exact ⟨k + 1, by omega, by go_num, Lib.hid (by obtain ⟨q, e⟩ := HW.out; rw [e]; exact ⟨q + nq, by simp [World.drewN, Nat.add_assoc]⟩)⟩
      case measure => simp [intOf]; omega
    · go_wp2_with fail
      go_ret
      exact ⟨rfl, HW.out⟩
/-- far says false, or there are not too many. -/
def FarP (n : Nat) (w : World) (e : Ending) (w' : World) : Prop := ∃ b, e = .returned (.bool b) ∧ (b = false → n ≤ 60 ∨ 200 < n ∧ n ≤ 210) ∧ w = w'
theorem far_any (v : Value) (l : List Span) (w : World) (hv : RS w v l) :
    Calls Tryd.prog 19 #[v] w (FarP l.length w) := by
  obtain ⟨A, c, rfl⟩ := hv.len
  have hm := hv.max
  unfold maxLen at hm
  obtain ⟨n, hn⟩ : ∃ n, l.length = n := ⟨_, rfl⟩
  rw [hn] at hm ⊢
  clear hv hn
  by_cases h1 : n ≤ 60
  · go_enter Tryd.func19, Tryd.ntmps19
    go_wp2_with fail
    go_ret
    exact ⟨_, rfl, fun _ => .inl h1, rfl⟩
  · by_cases h2 : n ≤ 200
    · go_enter Tryd.func19, Tryd.ntmps19
      go_wp2_with fail
      go_ret
      exact ⟨_, rfl, by simp; try omega, rfl⟩
    · by_cases h3 : n ≤ 210
      · go_enter Tryd.func19, Tryd.ntmps19
        go_wp2_with fail
        go_ret
        exact ⟨_, rfl, fun _ => .inr ⟨by omega, h3⟩, rfl⟩
      · go_enter Tryd.func19, Tryd.ntmps19
        go_wp2_with fail
        go_ret
        exact ⟨_, rfl, by simp; try omega, rfl⟩
end Go.Proofs.YtnmgcfpemmejlaaDoor
