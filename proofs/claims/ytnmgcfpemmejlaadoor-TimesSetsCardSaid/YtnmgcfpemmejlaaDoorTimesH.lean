/- joined: the walk. -/
import Derived.Test.YtnmgcfpemmejlaaDoorTimesG
namespace Go.Proofs.YtnmgcfpemmejlaaDoor
open Go.RowKit Go.Lib
set_option linter.unusedVariables false

set_option maxRecDepth 100000 in
set_option maxHeartbeats 8000000 in
theorem joined_any (v : Value) (l : List Span) (w : World) (hv : RS w v l) (hl : l.length ≤ 100000) (hok : ∀ s ∈ l, s.1 < s.2) (h64 : ∀ s ∈ l, S64 s) :
    Calls Tryd.prog 40 #[v] w (JoinR w l) := by
  obtain ⟨i0, hi, hz0, hz1, hz2⟩ := info_parts info_span
  have HV := Lib.hid hv; have HOK := Lib.hid hok; have H64 := Lib.hid h64
  clear hv hok h64
  go_enter Tryd.func40, Tryd.ntmps40
  go_wp2_with (first
    | (go_at_call 50; refine (clone_any v l _ HV.out hl).mono ?_; rintro e w1 ⟨v1, rfl, ho, hb⟩; have O1 := Lib.hid ho; have B1 := Lib.hid hb; clear ho hb)
    | (go_at_call 51; refine (sort_any v1 l w.heap.size _ O1.out hl).mono ?_; rintro e w2 ⟨rfl, d, hp, hs, ho, hb⟩; have B2 := Lib.hid (B1.out.trans hb); have HP := Lib.hid hp; have HS := Lib.hid hs; clear O1 B1 hp hs hb; obtain ⟨A, c, rfl⟩ := ho.len; obtain ⟨n, hn⟩ : ∃ n, d.length = n := ⟨_, rfl⟩; rw [hn] at ho ⊢; have O2 := Lib.hid ho; have HN := Lib.hid hn; clear ho hn))
  have hn5 : n ≤ 100000 := by have h1 := HP.out.length_eq; have h2 := HN.out; omega
  have hdok : ∀ s ∈ d, s.1 < s.2 ∧ S64 s := fun s hs => ⟨HOK.out s (HP.out.mem_iff.1 hs), H64.out s (HP.out.mem_iff.1 hs)⟩
  have HD := Lib.hid hdok
  clear hdok
  go_loopw [4, 6, 7, 14] (fun u _ _ i wr => ∃ (k : Nat) (out : List Span), k ≤ n ∧ i = .int .i64 k ∧ Hid (JM w2 wr d k u out)) (fun _ _ _ i _ => n - (intOf i).toNat)
  case atStart => exact ⟨0, [], by omega, rfl, Lib.hid ⟨JoinInv.start d, OS.nil _ _, Below.refl _ _⟩⟩
  case round =>
    obtain ⟨k, out, hk, rfl, HJ⟩ := hrel
    obtain ⟨U, cu, rfl⟩ := HJ.out.own.len
    obtain ⟨m, hm⟩ : ∃ m, out.length = m := ⟨_, rfl⟩
    have hm5 : m ≤ k := by rw [← hm]; exact HJ.out.inv.len
    have HM := Lib.hid hm
    rw [hm] at HJ ⊢
    clear hm
    by_cases hlt : k < n
    · obtain ⟨s, hs⟩ := getS HN.out hlt
      obtain ⟨g, off, rfl, hg, c0, c1⟩ := (O2.out.rs.later HJ.out.bel).at hs
      obtain ⟨hxy, hx, hy⟩ := mem_of hs HD.out
      obtain ⟨x, y⟩ := s
      have HS1 := Lib.hid hs
      clear hs
      obtain ⟨x1, x2⟩ := hx
      obtain ⟨y1, y2⟩ := hy
      simp only at c0 c1 hxy x1 x2 y1 y2
      rcases List.eq_nil_or_concat out with rfl | ⟨o, ⟨p, q⟩, rfl⟩
      · have hm0 : m ≤ 0 := by have := HM.out; simp at this; omega
        have d1 : decide ((0 : Int) ≤ (m : Int) - 1) = false := by simp; omega
        have d2 : decide ((1 : Int) ≤ (m : Int)) = false := by simp; omega
        go_wp2_with fail
        go_quiet (fail)
        have HS3 : Hid (JM w2 (((wr.alloc (.cells #[.int .i64 x, .int .i64 y] 32)).drewN nq).alloc (.cells #[.int .i64 x, .int .i64 y] 32)) d k (.slice U m cu) []) := Lib.hid (HJ.out.step (bl_alloc _ (bl_drewN _ (bl_alloc _ (Below.refl _ _)))))
        go_wp2_with (at_builtin; refine wpList_append_span _ rfl _ _ rfl w2.heap.size _ _ [] x y _ _ rfl HS3.out.own rfl rfl (by simp) HS3.out.bel.size (by rw [HM.out]; omega) ?_; intro v3 w3 hn hg; have HN3 := Lib.hid hn; have HG3 := Lib.hid hg; clear hn hg)
        go_roundw
        case rel => exact ⟨k + 1, _, by omega, by go_num, Lib.hid (HS3.out.more HS1.out hxy (fun o r e => by simp at e) HN3.out HG3.out)⟩
        case measure => simp [intOf]; omega
      · rw [List.concat_eq_append] at *
        have hm1 : 1 ≤ m := by have := HM.out; simp at this; omega
        have d1 : decide ((0 : Int) ≤ (m : Int) - 1) = true := by simp; omega
        have d2 : decide ((1 : Int) ≤ (m : Int)) = true := by simp; omega
        obtain ⟨gu, rfl, hgu, hgl, e0, e1, f1⟩ := HJ.out.own.last HM.out
        by_cases hq : x ≤ q
        · have d3 : decide (x ≤ q) = true := decide_eq_true hq
          go_wp2_with fail
          go_quiet (fail)
          go_wp2_with fail
          obtain ⟨W3, hW3⟩ : ∃ W3, (wr.alloc (.cells #[.int .i64 x, .int .i64 y] 32)).drewN nq = W3 := ⟨_, rfl⟩
          have HS3 : Hid (JM w2 W3 d k (.slice (some ⟨gu, 0, none⟩) m cu) (o ++ [(p, q)])) := Lib.hid (by rw [← hW3]; exact HJ.out.step (bl_drewN _ (bl_alloc _ (Below.refl _ _))))
          obtain ⟨gu', hgu', _, hgl3, e03, e13, f13⟩ := HS3.out.own.last HM.out
          simp only [Option.some.injEq, Addr.mk.injEq, and_true] at hgu'
          subst hgu'
          have b0 : W3.cell? ⟨wr.heap.size, 0, none⟩ = some (.int .i64 x) := by rw [← hW3]; exact new_cell _ _ _ _ _ rfl
          have b1 : W3.cell? ⟨wr.heap.size, 1, none⟩ = some (.int .i64 y) := by rw [← hW3]; exact new_cell _ _ _ _ _ rfl
          rw [hW3]
          clear hW3 e0 e1 f1 c0 c1
          go_region
          go_wp2_with fail
          go_roundw
          case rel => exact ⟨k + 1, _, by omega, by go_num, Lib.hid ((HS3.out.grow HM.out HS.out HS1.out hxy hq rfl).step (bl_drew (Below.refl _ _)))⟩
          case measure => simp [intOf]; omega
        · have d3 : decide (x ≤ q) = false := decide_eq_false hq
          go_wp2_with fail
          go_quiet (fail)
          have HS3 : Hid (JM w2 (((wr.alloc (.cells #[.int .i64 x, .int .i64 y] 32)).drewN nq).alloc (.cells #[.int .i64 x, .int .i64 y] 32)) d k (.slice (some ⟨gu, 0, none⟩) m cu) (o ++ [(p, q)])) := Lib.hid (HJ.out.step (bl_alloc _ (bl_drewN _ (bl_alloc _ (Below.refl _ _)))))
          go_wp2_with (at_builtin; refine wpList_append_span _ rfl _ _ rfl w2.heap.size _ _ (o ++ [(p, q)]) x y _ _ rfl HS3.out.own rfl rfl (by simp) HS3.out.bel.size (by rw [HM.out]; omega) ?_; intro v3 w3 hn hg; have HN3 := Lib.hid hn; have HG3 := Lib.hid hg; clear hn hg)
          go_roundw
          case rel => exact ⟨k + 1, _, by omega, by go_num, Lib.hid (HS3.out.more HS1.out hxy (fun o r e => by obtain ⟨_, e⟩ := List.append_inj' e rfl; simp at e; rw [← e]; simp only; omega) HN3.out HG3.out)⟩
          case measure => simp [intOf]; omega
    · go_wp2_with fail
      go_ret
      exact ⟨_, out, rfl, HJ.out.inv.done (by rw [HN.out]; exact hlt) HP.out, by have h1 := HJ.out.inv.len; have h2 := HP.out.length_eq; have h3 := HN.out; omega, HJ.out.own.base B2.out.size, B2.out.trans (HJ.out.bel.mono B2.out.size)⟩
end Go.Proofs.YtnmgcfpemmejlaaDoor
