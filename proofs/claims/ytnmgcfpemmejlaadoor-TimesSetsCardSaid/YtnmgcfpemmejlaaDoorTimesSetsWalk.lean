/- The law TimesSets: the walk. -/
import Derived.Test.YtnmgcfpemmejlaaDoorTimesLe
namespace Go.Proofs.YtnmgcfpemmejlaaDoor
open Go.RowKit Go.Lib
set_option linter.unusedVariables false

theorem RS.parts {W : World} {v : Value} {l : List Span} (h : RS W v l) : ∃ A n c, v = .slice A n c ∧ l.length = n ∧ n ≤ maxLen ∧ RS W (.slice A n c) l := by
  obtain ⟨A, c, rfl⟩ := h.len
  exact ⟨A, _, c, rfl, rfl, h.max, h⟩
theorem RS.empty {W : World} {v : Value} (h : RS W v []) : ∃ A c, v = .slice A 0 c := h.len
theorem in_r (v : Value) (l : List Span) (t : Int) (p : Bool) (w : World) (hv : RS w v l) (hp : inB l t = p) : Calls Tryd.prog 35 #[v, .int .i64 t] w fun e w' => e = .returned (.bool p) ∧ w = w' := by
  rw [← hp]; exact in_any v l t w hv
theorem in_set {a b u : List Span} (h : IsSet a b u) (t : Int) : inB u t = (inB a t && !inB b t) := by
  refine Bool.eq_iff_iff.2 ?_
  rw [inB_iff, h.mem t, Bool.and_eq_true, inB_iff, Bool.not_eq_true', inB_no]
theorem in_union {a u : List Span} (h : IsSet a [] u) (t : Int) : inB u t = inB a t := by
  rw [in_set h t]; simp [inB]
/-- Two spans of a set, one after the other. -/
theorem Canon.next {u : List Span} (h : Canon u) {k : Nat} {s r : Span} (hs : u[k]? = some s) (hr : u[k + 1]? = some r) : s.2 < r.1 := by
  obtain ⟨h1, e1⟩ := List.getElem?_eq_some_iff.1 hs
  obtain ⟨h2, e2⟩ := List.getElem?_eq_some_iff.1 hr
  rw [← e1, ← e2]
  exact List.pairwise_iff_getElem.1 h.asc _ _ h1 h2 (by omega)
theorem err_not {a b : List Span} (h : errS a [] ≠ 0) : errS a b ≠ 0 := fun e => h (err_left e)
set_option maxRecDepth 100000 in
set_option maxHeartbeats 8000000 in
theorem tsets_any (v1 v2 : Value) (a b : List Span) (t : Int) (w : World) (h1 : RS w v1 a) (h2 : RS w v2 b) (ha : ∀ s ∈ a, S64 s) (hb : ∀ s ∈ b, S64 s) (ht : N64 t) (hT : TV w) : Calls Tryd.prog 8 #[v1, v2, .int .i64 t] w (GivesD w (.bool true)) := by
  have HT := Lib.hid hT; have H64 := Lib.hid ht
  clear ht
  clear hT
  have B0 := Lib.hid (Below.refl w.heap.size w)
  have M1 := Lib.hid h1.max; have M2 := Lib.hid h2.max
  obtain ⟨A1, c1, rfl⟩ := h1.len
  obtain ⟨A2, c2, rfl⟩ := h2.len
  obtain ⟨n1, hn1⟩ : ∃ n, a.length = n := ⟨_, rfl⟩
  obtain ⟨n2, hn2⟩ : ∃ n, b.length = n := ⟨_, rfl⟩
  rw [hn1] at h1 M1 ⊢
  rw [hn2] at h2 M2 ⊢
  obtain ⟨f1, hf1⟩ : ∃ f, farB n1 = f := ⟨_, rfl⟩
  obtain ⟨f2, hf2⟩ : ∃ f, farB n2 = f := ⟨_, rfl⟩
  obtain ⟨r1, hr1⟩ : ∃ r, errS a [] = r := ⟨_, rfl⟩
  obtain ⟨r2, hr2⟩ : ∃ r, errS a b = r := ⟨_, rfl⟩
  have V1 := Lib.hid h1; have V2 := Lib.hid h2; have N1 := Lib.hid hn1; have N2 := Lib.hid hn2; have F1 := Lib.hid hf1; have F2 := Lib.hid hf2; have R1 := Lib.hid hr1; have R2 := Lib.hid hr2; have HA := Lib.hid ha; have HB := Lib.hid hb
  clear h1 h2 hn1 hn2 hf1 hf2 hr1 hr2 ha hb
  cases f1 with
  | true =>
    go_enter Tryd.func8, Tryd.ntmps8
    go_wp2_with (first
        | (go_at_call 19; (with_reducible refine (far_r A1 n1 c1 true _ M1.out F1.out).mono ?_); rintro e w' ⟨rfl, rfl⟩)
        | (go_at_call 18; (with_reducible refine (awake_any _ (HT.out.below B0.out)).mono ?_); rintro e w9 ⟨rfl, hb⟩; replace B0 := Lib.hid (bl_call B0.out hb); clear hb))
    go_ret
    exact ⟨rfl, B0.out⟩
  | false => cases f2 with
    | true =>
      go_enter Tryd.func8, Tryd.ntmps8
      go_wp2_with (first
          | (go_at_call 19; (with_reducible refine (far_r A1 n1 c1 false _ M1.out F1.out).mono ?_); rintro e w' ⟨rfl, rfl⟩)
          | (go_at_call 19; (with_reducible refine (far_r A2 n2 c2 true _ M2.out F2.out).mono ?_); rintro e w' ⟨rfl, rfl⟩)
          | (go_at_call 18; (with_reducible refine (awake_any _ (HT.out.below B0.out)).mono ?_); rintro e w9 ⟨rfl, hb⟩; replace B0 := Lib.hid (bl_call B0.out hb); clear hb))
      go_ret
      exact ⟨rfl, B0.out⟩
    | false =>
      by_cases h1 : r1 = 0
      · by_cases h2 : r2 = 0
        · subst h1 h2
          have SA : Hid (Small a 60) := Lib.hid (small_of (by rw [N1.out]; exact farB_no F1.out) (err_left R2.out) HA.out)
          have SB : Hid (Small b 60) := Lib.hid (small_of (by rw [N2.out]; exact farB_no F2.out) (err_right R2.out) HB.out)
          go_enter Tryd.func8, Tryd.ntmps8
          go_wp2_with (first
              | (go_at_call 19; (with_reducible refine (far_r A1 n1 c1 false _ M1.out F1.out).mono ?_); rintro e w' ⟨rfl, rfl⟩)
              | (go_at_call 19; (with_reducible refine (far_r A2 n2 c2 false _ M2.out F2.out).mono ?_); rintro e w' ⟨rfl, rfl⟩)
              | (go_at_call 24; (with_reducible refine (union_r _ _ (V1.out.later B0.out) HA.out R1.out).mono ?_); rintro e w1 ⟨v1, u1, rfl, s1, rs1, hb⟩; have HU1 := Lib.hid (s1.yes rfl); obtain ⟨Au, nu, cu, rfl, hnu, hmu, hru⟩ := rs1.parts; clear hmu; have L1 := Lib.hid hru; have NU := Lib.hid hnu; clear rs1 s1 hru hnu; replace B0 := Lib.hid (bl_call B0.out hb); clear hb)
              | (go_at_call 26; (with_reducible refine (minus_r _ _ _ (V1.out.later B0.out) HA.out (V2.out.later B0.out) HB.out R2.out).mono ?_); rintro e w2 ⟨v2, u2, rfl, s2, rs2, hb⟩; have HU2 := Lib.hid (s2.yes rfl); obtain ⟨Am, nm, cm, rfl, hnm, hmm, hrm⟩ := rs2.parts; clear hmm; have L2 := Lib.hid hrm; have NM := Lib.hid hnm; clear rs2 s2 hrm hnm; replace L1 := Lib.hid (L1.out.later hb); replace B0 := Lib.hid (bl_call B0.out hb); clear hb))
          have SU : Hid (Small u1 60) := Lib.hid (SA.out.set HU1.out Small.nil)
          have SM : Hid (Small u2 120) := Lib.hid (SA.out.set HU2.out SB.out)
          obtain ⟨pa, hpa⟩ : ∃ p, inB a t = p := ⟨_, rfl⟩
          obtain ⟨pb, hpb⟩ : ∃ p, inB b t = p := ⟨_, rfl⟩
          have PU : Hid (inB u1 t = pa) := Lib.hid ((in_union HU1.out t).trans hpa)
          have PM : Hid (inB u2 t = (pa && !pb)) := Lib.hid (by rw [in_set HU2.out t, hpa, hpb])
          have PA := Lib.hid hpa; have PB := Lib.hid hpb
          clear hpa hpb
          go_loopw [11] (fun i wr => ∃ k : Nat, k ≤ nu ∧ i = .int .i64 k ∧ Hid (Below w2.heap.size w2 wr)) (fun i _ => nu - (intOf i).toNat)
          case atStart => exact ⟨0, by omega, rfl, Lib.hid (Below.refl _ _)⟩
          case round =>
            obtain ⟨k, hk, rfl, HB2⟩ := hrel
            have hn120 : nu ≤ 120 := by have := SU.out.len; have := NU.out; omega
            by_cases hlt : k < nu
            · obtain ⟨s, hs⟩ := getS NU.out hlt
              obtain ⟨g, off, rfl, hg, c0, c1⟩ := (L1.out.later HB2.out).at hs
              have hsk := mem_of hs SU.out.ok
              have HS64 := Lib.hid (mem_of hs SU.out.s64)
              have HCK := Lib.hid (chkS_ok.2 hsk)
              have HSK := Lib.hid hs
              obtain ⟨x, y⟩ := s
              clear hs hsk
              simp only at c0 c1
              obtain ⟨wb, rfl⟩ : ∃ wb : World, wb = wr := ⟨_, rfl⟩
              have HBD : Hid (Below wb.heap.size wb wb.drew) := Lib.hid (bl_drewN 1 (Below.refl _ _))
              rcases Nat.eq_zero_or_pos k with hk0 | hk0
              · subst hk0
                rw [show ((0 : Nat) : Int) = 0 from rfl]
                simp only [Nat.zero_mul, Nat.add_zero] at c0 c1
                have HQ : ∀ W, Hid (Below wb.heap.size wb W) → (W.cell? ⟨g, off, none⟩ = some (.int .i64 x) ∧ W.cell? ⟨g, off + 1, none⟩ = some (.int .i64 y)) ∧ Hid (Below wb.heap.size wb W) := fun W h => ⟨⟨(h.out.cell (p := ⟨g, _, none⟩) hg).trans c0, (h.out.cell (p := ⟨g, _, none⟩) hg).trans c1⟩, h⟩
                have HQQ := Lib.hid HQ
                clear HQ
                go_upto_region 10 with fail
                go_cut [81] (fun sc we => sc = .bool false ∧ Hid (Below wb.heap.size wb we))
                case first => as_aux_lemma =>
                  refine wp_region_held_drew (S := fun W => (W.cell? ⟨g, off, none⟩ = some (.int .i64 x) ∧ W.cell? ⟨g, off + 1, none⟩ = some (.int .i64 y)) ∧ Hid (Below wb.heap.size wb W)) (by kernel_rfl) (HQQ.out _ HBD) (fun hHeld => ?_)
                  refine wpAnyH_take (i := 0) (oi := { dst := some 58, op := _, type := _, pos := _, after := _, guard := _ }) (v := ?v58) rfl (by kernel_rfl) (by kernel_rfl) (by kernel_rfl) (fun _ _ _ h => h) (Or.inl ⟨by rfl, ?y58⟩) hHeld ?r58
                  case y58 => intro w9 hSw; obtain ⟨⟨e0, e1⟩, _⟩ := hSw; go_simp <;> with_reducible rfl
                  (try simp only [Act.put, List.setIfInBounds_toArray, List.set_cons_zero, List.set_cons_succ])
                  refine wpAnyH_take (i := 1) (oi := { dst := some 59, op := _, type := _, pos := _, after := _, guard := _ }) (v := ?v59) rfl (by kernel_rfl) (by kernel_rfl) (by kernel_rfl) (fun _ _ _ h => h) (Or.inl ⟨by rfl, ?y59⟩) hHeld ?r59
                  case y59 => intro w9 hSw; obtain ⟨⟨e0, e1⟩, _⟩ := hSw; go_simp <;> with_reducible rfl
                  (try simp only [Act.put, List.setIfInBounds_toArray, List.set_cons_zero, List.set_cons_succ])
                  refine wpAnyH_take (i := 2) (oi := { dst := some 60, op := _, type := _, pos := _, after := _, guard := _ }) (v := ?v60) rfl (by kernel_rfl) (by kernel_rfl) (by kernel_rfl) (fun _ _ _ h => h) (Or.inl ⟨by rfl, ?y60⟩) hHeld ?r60
                  case y60 => intro w9 hSw; obtain ⟨⟨e0, e1⟩, _⟩ := hSw; go_simp <;> with_reducible rfl
                  (try simp only [Act.put, List.setIfInBounds_toArray, List.set_cons_zero, List.set_cons_succ])
                  refine wpAnyH_take (i := 3) (oi := { dst := some 61, op := _, type := _, pos := _, after := _, guard := _ }) (v := ?v61) rfl (by kernel_rfl) (by kernel_rfl) (by kernel_rfl) (fun _ _ _ h => h) (Or.inl ⟨by rfl, ?y61⟩) hHeld ?r61
                  case y61 => intro w9 hSw; obtain ⟨⟨e0, e1⟩, _⟩ := hSw; go_simp <;> with_reducible rfl
                  (try simp only [Act.put, List.setIfInBounds_toArray, List.set_cons_zero, List.set_cons_succ])
                  refine wpAnyH_ready (rs := [4]) (by kernel_rfl) (by simp) (AllReadyH.cons (o := { dst := some 62, op := _, type := _, pos := _, after := _, guard := _ }) rfl (fun K hK => ?_) AllReadyH.nil)
                  go_simp
                  go_at_call 22; (with_reducible refine (check_r x y 0 _ HS64.out HCK.out).mono ?_); rintro e w' ⟨rfl, hb⟩; have HN := Lib.hid (bl_call HBD.out hb); clear hb
                  refine hK.out _ _ (HQQ.out _ HN) (fun hHeld4 => ?_)
                  clear hK K
                  (try simp only [Act.put, List.setIfInBounds_toArray, List.set_cons_zero, List.set_cons_succ])
                  refine wpAnyH_take (i := 5) (oi := { dst := some 63, op := _, type := _, pos := _, after := _, guard := _ }) (v := ?v63) rfl (by kernel_rfl) (by kernel_rfl) (by kernel_rfl) (fun _ _ _ h => h) (Or.inl ⟨by rfl, ?y63⟩) hHeld4 ?r63
                  case y63 => intro w9 hSw; obtain ⟨⟨e0, e1⟩, _⟩ := hSw; go_simp <;> with_reducible rfl
                  (try simp only [Act.put, List.setIfInBounds_toArray, List.set_cons_zero, List.set_cons_succ])
                  refine wpAnyH_take (i := 6) (oi := { dst := some 64, op := _, type := _, pos := _, after := _, guard := _ }) (v := ?v64) rfl (by kernel_rfl) (by kernel_rfl) (by kernel_rfl) (fun _ _ _ h => h) (Or.inl ⟨by rfl, ?y64⟩) hHeld4 ?r64
                  case y64 => intro w9 hSw; obtain ⟨⟨e0, e1⟩, _⟩ := hSw; go_simp <;> with_reducible rfl
                  (try simp only [Act.put, List.setIfInBounds_toArray, List.set_cons_zero, List.set_cons_succ])
                  refine wpAnyH_take (i := 7) (oi := { dst := some 65, op := _, type := _, pos := _, after := _, guard := _ }) (v := ?v65) rfl (by kernel_rfl) (by kernel_rfl) (by kernel_rfl) (fun _ _ _ h => h) (Or.inl ⟨by rfl, ?y65⟩) hHeld4 ?r65
                  case y65 => intro w9 hSw; obtain ⟨⟨e0, e1⟩, _⟩ := hSw; go_simp <;> with_reducible rfl
                  (try simp only [Act.put, List.setIfInBounds_toArray, List.set_cons_zero, List.set_cons_succ])
                  refine wpAnyH_take (i := 8) (oi := { dst := some 66, op := _, type := _, pos := _, after := _, guard := _ }) (v := ?v66) rfl (by kernel_rfl) (by kernel_rfl) (by kernel_rfl) (fun _ _ _ h => h) (Or.inl ⟨by rfl, ?y66⟩) hHeld4 ?r66
                  case y66 => intro w9 hSw; obtain ⟨⟨e0, e1⟩, _⟩ := hSw; go_simp <;> with_reducible rfl
                  (try simp only [Act.put, List.setIfInBounds_toArray, List.set_cons_zero, List.set_cons_succ])
                  refine wpAnyH_take (i := 9) (oi := { dst := some 67, op := _, type := _, pos := _, after := _, guard := _ }) (v := ?v67) rfl (by kernel_rfl) (by kernel_rfl) (by kernel_rfl) (fun _ _ _ h => h) (Or.inl ⟨by rfl, ?y67⟩) hHeld4 ?r67
                  case y67 => intro w9 hSw; obtain ⟨⟨e0, e1⟩, _⟩ := hSw; go_simp <;> with_reducible rfl
                  (try simp only [Act.put, List.setIfInBounds_toArray, List.set_cons_zero, List.set_cons_succ])
                  refine wpAnyH_take (i := 10) (oi := { dst := some 68, op := _, type := _, pos := _, after := _, guard := _ }) (v := undef) rfl (by kernel_rfl) (by kernel_rfl) (by kernel_rfl) (fun _ _ _ h => h) (Or.inr ⟨by rfl, rfl⟩) hHeld4 ?r68
                  (try simp only [Act.put, List.setIfInBounds_toArray, List.set_cons_zero, List.set_cons_succ])
                  refine wpAnyH_take (i := 11) (oi := { dst := some 69, op := _, type := _, pos := _, after := _, guard := _ }) (v := undef) rfl (by kernel_rfl) (by kernel_rfl) (by kernel_rfl) (fun _ _ _ h => h) (Or.inr ⟨by rfl, rfl⟩) hHeld4 ?r69
                  (try simp only [Act.put, List.setIfInBounds_toArray, List.set_cons_zero, List.set_cons_succ])
                  refine wpAnyH_take (i := 12) (oi := { dst := some 70, op := _, type := _, pos := _, after := _, guard := _ }) (v := undef) rfl (by kernel_rfl) (by kernel_rfl) (by kernel_rfl) (fun _ _ _ h => h) (Or.inr ⟨by rfl, rfl⟩) hHeld4 ?r70
                  (try simp only [Act.put, List.setIfInBounds_toArray, List.set_cons_zero, List.set_cons_succ])
                  refine wpAnyH_take (i := 13) (oi := { dst := some 71, op := _, type := _, pos := _, after := _, guard := _ }) (v := undef) rfl (by kernel_rfl) (by kernel_rfl) (by kernel_rfl) (fun _ _ _ h => h) (Or.inr ⟨by rfl, rfl⟩) hHeld4 ?r71
                  (try simp only [Act.put, List.setIfInBounds_toArray, List.set_cons_zero, List.set_cons_succ])
                  refine wpAnyH_take (i := 14) (oi := { dst := some 72, op := _, type := _, pos := _, after := _, guard := _ }) (v := undef) rfl (by kernel_rfl) (by kernel_rfl) (by kernel_rfl) (fun _ _ _ h => h) (Or.inr ⟨by rfl, rfl⟩) hHeld4 ?r72
                  (try simp only [Act.put, List.setIfInBounds_toArray, List.set_cons_zero, List.set_cons_succ])
                  refine wpAnyH_take (i := 15) (oi := { dst := some 73, op := _, type := _, pos := _, after := _, guard := _ }) (v := undef) rfl (by kernel_rfl) (by kernel_rfl) (by kernel_rfl) (fun _ _ _ h => h) (Or.inr ⟨by rfl, rfl⟩) hHeld4 ?r73
                  (try simp only [Act.put, List.setIfInBounds_toArray, List.set_cons_zero, List.set_cons_succ])
                  refine wpAnyH_take (i := 16) (oi := { dst := some 74, op := _, type := _, pos := _, after := _, guard := _ }) (v := undef) rfl (by kernel_rfl) (by kernel_rfl) (by kernel_rfl) (fun _ _ _ h => h) (Or.inr ⟨by rfl, rfl⟩) hHeld4 ?r74
                  (try simp only [Act.put, List.setIfInBounds_toArray, List.set_cons_zero, List.set_cons_succ])
                  refine wpAnyH_take (i := 17) (oi := { dst := some 75, op := _, type := _, pos := _, after := _, guard := _ }) (v := undef) rfl (by kernel_rfl) (by kernel_rfl) (by kernel_rfl) (fun _ _ _ h => h) (Or.inr ⟨by rfl, rfl⟩) hHeld4 ?r75
                  (try simp only [Act.put, List.setIfInBounds_toArray, List.set_cons_zero, List.set_cons_succ])
                  refine wpAnyH_take (i := 18) (oi := { dst := some 76, op := _, type := _, pos := _, after := _, guard := _ }) (v := undef) rfl (by kernel_rfl) (by kernel_rfl) (by kernel_rfl) (fun _ _ _ h => h) (Or.inr ⟨by rfl, rfl⟩) hHeld4 ?r76
                  (try simp only [Act.put, List.setIfInBounds_toArray, List.set_cons_zero, List.set_cons_succ])
                  refine wpAnyH_take (i := 19) (oi := { dst := some 77, op := _, type := _, pos := _, after := _, guard := _ }) (v := undef) rfl (by kernel_rfl) (by kernel_rfl) (by kernel_rfl) (fun _ _ _ h => h) (Or.inr ⟨by rfl, rfl⟩) hHeld4 ?r77
                  (try simp only [Act.put, List.setIfInBounds_toArray, List.set_cons_zero, List.set_cons_succ])
                  refine wpAnyH_take (i := 20) (oi := { dst := some 78, op := _, type := _, pos := _, after := _, guard := _ }) (v := undef) rfl (by kernel_rfl) (by kernel_rfl) (by kernel_rfl) (fun _ _ _ h => h) (Or.inr ⟨by rfl, rfl⟩) hHeld4 ?r78
                  (try simp only [Act.put, List.setIfInBounds_toArray, List.set_cons_zero, List.set_cons_succ])
                  refine wpAnyH_take (i := 21) (oi := { dst := some 79, op := _, type := _, pos := _, after := _, guard := _ }) (v := undef) rfl (by kernel_rfl) (by kernel_rfl) (by kernel_rfl) (fun _ _ _ h => h) (Or.inr ⟨by rfl, rfl⟩) hHeld4 ?r79
                  (try simp only [Act.put, List.setIfInBounds_toArray, List.set_cons_zero, List.set_cons_succ])
                  refine wpAnyH_take (i := 22) (oi := { dst := some 80, op := _, type := _, pos := _, after := _, guard := _ }) (v := ?v80) rfl (by kernel_rfl) (by kernel_rfl) (by kernel_rfl) (fun _ _ _ h => h) (Or.inl ⟨by rfl, ?y80⟩) hHeld4 ?r80
                  case y80 => intro w9 hSw; obtain ⟨⟨e0, e1⟩, _⟩ := hSw; go_simp <;> with_reducible rfl
                  (try simp only [Act.put, List.setIfInBounds_toArray, List.set_cons_zero, List.set_cons_succ])
                  refine wpAnyH_take (i := 23) (oi := { dst := some 81, op := _, type := _, pos := _, after := _, guard := _ }) (v := ?v81) rfl (by kernel_rfl) (by kernel_rfl) (by kernel_rfl) (fun _ _ _ h => h) (Or.inl ⟨by rfl, ?y81⟩) hHeld4 ?r81
                  case y81 => intro w9 hSw; obtain ⟨⟨e0, e1⟩, _⟩ := hSw; go_simp <;> with_reducible rfl
                  (try simp only [Act.put, List.setIfInBounds_toArray, List.set_cons_zero, List.set_cons_succ])
                  refine wpAnyH_done (by kernel_rfl) ?_ _
                  go_wp2_with fail
                  go_meet
                  exact ⟨rfl, HN⟩
                case rest => as_aux_lemma =>
                  obtain ⟨rfl, HE⟩ := hcut
                  go_wp2_with fail
                  go_roundw
                  case rel => exact ⟨1, by omega, by go_num, Lib.hid (bl_call HB2.out HE.out)⟩
                  case measure => simp [intOf]; omega
              · obtain ⟨r, hr⟩ := getS NU.out (show k - 1 < nu by omega)
                obtain ⟨g', off', e, hg', d0, d1⟩ := (L1.out.later HB2.out).at hr
                obtain ⟨rfl, rfl⟩ : g = g' ∧ off = off' := by cases e; exact ⟨rfl, rfl⟩
                have hnx := HU1.out.can.next hr (by rw [show k - 1 + 1 = k by omega]; exact HSK.out)
                obtain ⟨p, q⟩ := r
                clear hr e hg'
                simp only at d1 hnx
                have HQ : ∀ W, Hid (Below wb.heap.size wb W) → (W.cell? ⟨g, off + k * 2, none⟩ = some (.int .i64 x) ∧ W.cell? ⟨g, off + k * 2 + 1, none⟩ = some (.int .i64 y) ∧ W.cell? ⟨g, off + (k - 1) * 2 + 1, none⟩ = some (.int .i64 q)) ∧ Hid (Below wb.heap.size wb W) := fun W h => ⟨⟨(h.out.cell (p := ⟨g, _, none⟩) hg).trans c0, (h.out.cell (p := ⟨g, _, none⟩) hg).trans c1, (h.out.cell (p := ⟨g, _, none⟩) hg).trans d1⟩, h⟩
                have HQQ := Lib.hid HQ
                clear HQ d0
                have z1 : decide (0 < (k : Int)) = true := by simp; omega
                have z2 : decide (0 < k) = true := by simp; omega
                have z3 : decide (x ≤ q) = false := by simp; omega
                have i1 : IntKind.i64.wrap ((k : Int) - 1) = (k : Int) - 1 := IntWalk.i64_in _ (by omega)
                have z4 : (0 : Int) ≤ (k : Int) - 1 := by omega
                have z5 : (k : Int) - 1 < (nu : Int) := by omega
                have z6 : (0 : Int) ≤ (k : Int) := by omega
                have z7 : (k : Int) < (nu : Int) := by omega
                have z9 : (1 : Int) ≤ (k : Int) := by omega
                clear hnx
                go_upto_region 10 with fail
                go_cut [81] (fun sc we => sc = .bool false ∧ Hid (Below wb.heap.size wb we))
                case first => as_aux_lemma =>
                  go_region_held3 (fun W => (W.cell? ⟨g, off + k * 2, none⟩ = some (.int .i64 x) ∧ W.cell? ⟨g, off + k * 2 + 1, none⟩ = some (.int .i64 y) ∧ W.cell? ⟨g, off + (k - 1) * 2 + 1, none⟩ = some (.int .i64 q)) ∧ Hid (Below wb.heap.size wb W)) (exact HQQ.out _ (by assumption))
                    (first | (go_at_call 22; (with_reducible refine (check_r x y 0 _ HS64.out HCK.out).mono ?_); rintro e w' ⟨rfl, hb⟩; have HN := Lib.hid (bl_call (by assumption : Hid (Below wb.heap.size wb _)).out hb); clear hb))
                  all_goals go_wp2_with fail
                  all_goals go_meet
                  all_goals exact ⟨rfl, (by assumption : Hid (Below wb.heap.size wb _))⟩
                case rest => as_aux_lemma =>
                  obtain ⟨rfl, HE⟩ := hcut
                  go_wp2_with fail
                  go_roundw
                  case rel => exact ⟨k + 1, by omega, by go_num, Lib.hid (bl_call HB2.out HE.out)⟩
                  case measure => simp [intOf]; omega
            · have hb := HB2.out
              replace L1 := Lib.hid (L1.out.later hb)
              replace L2 := Lib.hid (L2.out.later hb)
              replace B0 := Lib.hid (bl_call B0.out hb)
              clear hb HB2
              obtain ⟨wa, rfl⟩ : ∃ wa : World, wa = wr := ⟨_, rfl⟩
              go_wp2_with fail
              go_loopw [12] (fun i wr => ∃ k : Nat, k ≤ nm ∧ i = .int .i64 k ∧ Hid (Below wa.heap.size wa wr)) (fun i _ => nm - (intOf i).toNat)
              case atStart => exact ⟨0, by omega, rfl, Lib.hid (Below.refl _ _)⟩
              case round =>
                obtain ⟨k, hk, rfl, HB2⟩ := hrel
                have hn120 : nm ≤ 120 := by have := SM.out.len; have := NM.out; omega
                by_cases hlt : k < nm
                · obtain ⟨s, hs⟩ := getS NM.out hlt
                  obtain ⟨g, off, rfl, hg, c0, c1⟩ := (L2.out.later HB2.out).at hs
                  have hsk := mem_of hs SM.out.ok
                  have HS64 := Lib.hid (mem_of hs SM.out.s64)
                  have HCK := Lib.hid (chkS_ok.2 hsk)
                  have HSK := Lib.hid hs
                  obtain ⟨x, y⟩ := s
                  clear hs hsk
                  simp only at c0 c1
                  obtain ⟨wb, rfl⟩ : ∃ wb : World, wb = wr := ⟨_, rfl⟩
                  have HBD : Hid (Below wb.heap.size wb wb.drew) := Lib.hid (bl_drewN 1 (Below.refl _ _))
                  rcases Nat.eq_zero_or_pos k with hk0 | hk0
                  · subst hk0
                    rw [show ((0 : Nat) : Int) = 0 from rfl]
                    simp only [Nat.zero_mul, Nat.add_zero] at c0 c1
                    have HQ : ∀ W, Hid (Below wb.heap.size wb W) → (W.cell? ⟨g, off, none⟩ = some (.int .i64 x) ∧ W.cell? ⟨g, off + 1, none⟩ = some (.int .i64 y)) ∧ Hid (Below wb.heap.size wb W) := fun W h => ⟨⟨(h.out.cell (p := ⟨g, _, none⟩) hg).trans c0, (h.out.cell (p := ⟨g, _, none⟩) hg).trans c1⟩, h⟩
                    have HQQ := Lib.hid HQ
                    clear HQ
                    go_upto_region 15 with fail
                    go_cut [111] (fun sc we => sc = .bool false ∧ Hid (Below wb.heap.size wb we))
                    case first => as_aux_lemma =>
                      refine wp_region_held_drew (S := fun W => (W.cell? ⟨g, off, none⟩ = some (.int .i64 x) ∧ W.cell? ⟨g, off + 1, none⟩ = some (.int .i64 y)) ∧ Hid (Below wb.heap.size wb W)) (by kernel_rfl) (HQQ.out _ HBD) (fun hHeld => ?_)
                      refine wpAnyH_take (i := 0) (oi := { dst := some 88, op := _, type := _, pos := _, after := _, guard := _ }) (v := ?v88) rfl (by kernel_rfl) (by kernel_rfl) (by kernel_rfl) (fun _ _ _ h => h) (Or.inl ⟨by rfl, ?y88⟩) hHeld ?r88
                      case y88 => intro w9 hSw; obtain ⟨⟨e0, e1⟩, _⟩ := hSw; go_simp <;> with_reducible rfl
                      (try simp only [Act.put, List.setIfInBounds_toArray, List.set_cons_zero, List.set_cons_succ])
                      refine wpAnyH_take (i := 1) (oi := { dst := some 89, op := _, type := _, pos := _, after := _, guard := _ }) (v := ?v89) rfl (by kernel_rfl) (by kernel_rfl) (by kernel_rfl) (fun _ _ _ h => h) (Or.inl ⟨by rfl, ?y89⟩) hHeld ?r89
                      case y89 => intro w9 hSw; obtain ⟨⟨e0, e1⟩, _⟩ := hSw; go_simp <;> with_reducible rfl
                      (try simp only [Act.put, List.setIfInBounds_toArray, List.set_cons_zero, List.set_cons_succ])
                      refine wpAnyH_take (i := 2) (oi := { dst := some 90, op := _, type := _, pos := _, after := _, guard := _ }) (v := ?v90) rfl (by kernel_rfl) (by kernel_rfl) (by kernel_rfl) (fun _ _ _ h => h) (Or.inl ⟨by rfl, ?y90⟩) hHeld ?r90
                      case y90 => intro w9 hSw; obtain ⟨⟨e0, e1⟩, _⟩ := hSw; go_simp <;> with_reducible rfl
                      (try simp only [Act.put, List.setIfInBounds_toArray, List.set_cons_zero, List.set_cons_succ])
                      refine wpAnyH_take (i := 3) (oi := { dst := some 91, op := _, type := _, pos := _, after := _, guard := _ }) (v := ?v91) rfl (by kernel_rfl) (by kernel_rfl) (by kernel_rfl) (fun _ _ _ h => h) (Or.inl ⟨by rfl, ?y91⟩) hHeld ?r91
                      case y91 => intro w9 hSw; obtain ⟨⟨e0, e1⟩, _⟩ := hSw; go_simp <;> with_reducible rfl
                      (try simp only [Act.put, List.setIfInBounds_toArray, List.set_cons_zero, List.set_cons_succ])
                      refine wpAnyH_ready (rs := [4]) (by kernel_rfl) (by simp) (AllReadyH.cons (o := { dst := some 92, op := _, type := _, pos := _, after := _, guard := _ }) rfl (fun K hK => ?_) AllReadyH.nil)
                      go_simp
                      go_at_call 22; (with_reducible refine (check_r x y 0 _ HS64.out HCK.out).mono ?_); rintro e w' ⟨rfl, hb⟩; have HN := Lib.hid (bl_call HBD.out hb); clear hb
                      refine hK.out _ _ (HQQ.out _ HN) (fun hHeld4 => ?_)
                      clear hK K
                      (try simp only [Act.put, List.setIfInBounds_toArray, List.set_cons_zero, List.set_cons_succ])
                      refine wpAnyH_take (i := 5) (oi := { dst := some 93, op := _, type := _, pos := _, after := _, guard := _ }) (v := ?v93) rfl (by kernel_rfl) (by kernel_rfl) (by kernel_rfl) (fun _ _ _ h => h) (Or.inl ⟨by rfl, ?y93⟩) hHeld4 ?r93
                      case y93 => intro w9 hSw; obtain ⟨⟨e0, e1⟩, _⟩ := hSw; go_simp <;> with_reducible rfl
                      (try simp only [Act.put, List.setIfInBounds_toArray, List.set_cons_zero, List.set_cons_succ])
                      refine wpAnyH_take (i := 6) (oi := { dst := some 94, op := _, type := _, pos := _, after := _, guard := _ }) (v := ?v94) rfl (by kernel_rfl) (by kernel_rfl) (by kernel_rfl) (fun _ _ _ h => h) (Or.inl ⟨by rfl, ?y94⟩) hHeld4 ?r94
                      case y94 => intro w9 hSw; obtain ⟨⟨e0, e1⟩, _⟩ := hSw; go_simp <;> with_reducible rfl
                      (try simp only [Act.put, List.setIfInBounds_toArray, List.set_cons_zero, List.set_cons_succ])
                      refine wpAnyH_take (i := 7) (oi := { dst := some 95, op := _, type := _, pos := _, after := _, guard := _ }) (v := ?v95) rfl (by kernel_rfl) (by kernel_rfl) (by kernel_rfl) (fun _ _ _ h => h) (Or.inl ⟨by rfl, ?y95⟩) hHeld4 ?r95
                      case y95 => intro w9 hSw; obtain ⟨⟨e0, e1⟩, _⟩ := hSw; go_simp <;> with_reducible rfl
                      (try simp only [Act.put, List.setIfInBounds_toArray, List.set_cons_zero, List.set_cons_succ])
                      refine wpAnyH_take (i := 8) (oi := { dst := some 96, op := _, type := _, pos := _, after := _, guard := _ }) (v := ?v96) rfl (by kernel_rfl) (by kernel_rfl) (by kernel_rfl) (fun _ _ _ h => h) (Or.inl ⟨by rfl, ?y96⟩) hHeld4 ?r96
                      case y96 => intro w9 hSw; obtain ⟨⟨e0, e1⟩, _⟩ := hSw; go_simp <;> with_reducible rfl
                      (try simp only [Act.put, List.setIfInBounds_toArray, List.set_cons_zero, List.set_cons_succ])
                      refine wpAnyH_take (i := 9) (oi := { dst := some 97, op := _, type := _, pos := _, after := _, guard := _ }) (v := ?v97) rfl (by kernel_rfl) (by kernel_rfl) (by kernel_rfl) (fun _ _ _ h => h) (Or.inl ⟨by rfl, ?y97⟩) hHeld4 ?r97
                      case y97 => intro w9 hSw; obtain ⟨⟨e0, e1⟩, _⟩ := hSw; go_simp <;> with_reducible rfl
                      (try simp only [Act.put, List.setIfInBounds_toArray, List.set_cons_zero, List.set_cons_succ])
                      refine wpAnyH_take (i := 10) (oi := { dst := some 98, op := _, type := _, pos := _, after := _, guard := _ }) (v := undef) rfl (by kernel_rfl) (by kernel_rfl) (by kernel_rfl) (fun _ _ _ h => h) (Or.inr ⟨by rfl, rfl⟩) hHeld4 ?r98
                      (try simp only [Act.put, List.setIfInBounds_toArray, List.set_cons_zero, List.set_cons_succ])
                      refine wpAnyH_take (i := 11) (oi := { dst := some 99, op := _, type := _, pos := _, after := _, guard := _ }) (v := undef) rfl (by kernel_rfl) (by kernel_rfl) (by kernel_rfl) (fun _ _ _ h => h) (Or.inr ⟨by rfl, rfl⟩) hHeld4 ?r99
                      (try simp only [Act.put, List.setIfInBounds_toArray, List.set_cons_zero, List.set_cons_succ])
                      refine wpAnyH_take (i := 12) (oi := { dst := some 100, op := _, type := _, pos := _, after := _, guard := _ }) (v := undef) rfl (by kernel_rfl) (by kernel_rfl) (by kernel_rfl) (fun _ _ _ h => h) (Or.inr ⟨by rfl, rfl⟩) hHeld4 ?r100
                      (try simp only [Act.put, List.setIfInBounds_toArray, List.set_cons_zero, List.set_cons_succ])
                      refine wpAnyH_take (i := 13) (oi := { dst := some 101, op := _, type := _, pos := _, after := _, guard := _ }) (v := undef) rfl (by kernel_rfl) (by kernel_rfl) (by kernel_rfl) (fun _ _ _ h => h) (Or.inr ⟨by rfl, rfl⟩) hHeld4 ?r101
                      (try simp only [Act.put, List.setIfInBounds_toArray, List.set_cons_zero, List.set_cons_succ])
                      refine wpAnyH_take (i := 14) (oi := { dst := some 102, op := _, type := _, pos := _, after := _, guard := _ }) (v := undef) rfl (by kernel_rfl) (by kernel_rfl) (by kernel_rfl) (fun _ _ _ h => h) (Or.inr ⟨by rfl, rfl⟩) hHeld4 ?r102
                      (try simp only [Act.put, List.setIfInBounds_toArray, List.set_cons_zero, List.set_cons_succ])
                      refine wpAnyH_take (i := 15) (oi := { dst := some 103, op := _, type := _, pos := _, after := _, guard := _ }) (v := undef) rfl (by kernel_rfl) (by kernel_rfl) (by kernel_rfl) (fun _ _ _ h => h) (Or.inr ⟨by rfl, rfl⟩) hHeld4 ?r103
                      (try simp only [Act.put, List.setIfInBounds_toArray, List.set_cons_zero, List.set_cons_succ])
                      refine wpAnyH_take (i := 16) (oi := { dst := some 104, op := _, type := _, pos := _, after := _, guard := _ }) (v := undef) rfl (by kernel_rfl) (by kernel_rfl) (by kernel_rfl) (fun _ _ _ h => h) (Or.inr ⟨by rfl, rfl⟩) hHeld4 ?r104
                      (try simp only [Act.put, List.setIfInBounds_toArray, List.set_cons_zero, List.set_cons_succ])
                      refine wpAnyH_take (i := 17) (oi := { dst := some 105, op := _, type := _, pos := _, after := _, guard := _ }) (v := undef) rfl (by kernel_rfl) (by kernel_rfl) (by kernel_rfl) (fun _ _ _ h => h) (Or.inr ⟨by rfl, rfl⟩) hHeld4 ?r105
                      (try simp only [Act.put, List.setIfInBounds_toArray, List.set_cons_zero, List.set_cons_succ])
                      refine wpAnyH_take (i := 18) (oi := { dst := some 106, op := _, type := _, pos := _, after := _, guard := _ }) (v := undef) rfl (by kernel_rfl) (by kernel_rfl) (by kernel_rfl) (fun _ _ _ h => h) (Or.inr ⟨by rfl, rfl⟩) hHeld4 ?r106
                      (try simp only [Act.put, List.setIfInBounds_toArray, List.set_cons_zero, List.set_cons_succ])
                      refine wpAnyH_take (i := 19) (oi := { dst := some 107, op := _, type := _, pos := _, after := _, guard := _ }) (v := undef) rfl (by kernel_rfl) (by kernel_rfl) (by kernel_rfl) (fun _ _ _ h => h) (Or.inr ⟨by rfl, rfl⟩) hHeld4 ?r107
                      (try simp only [Act.put, List.setIfInBounds_toArray, List.set_cons_zero, List.set_cons_succ])
                      refine wpAnyH_take (i := 20) (oi := { dst := some 108, op := _, type := _, pos := _, after := _, guard := _ }) (v := undef) rfl (by kernel_rfl) (by kernel_rfl) (by kernel_rfl) (fun _ _ _ h => h) (Or.inr ⟨by rfl, rfl⟩) hHeld4 ?r108
                      (try simp only [Act.put, List.setIfInBounds_toArray, List.set_cons_zero, List.set_cons_succ])
                      refine wpAnyH_take (i := 21) (oi := { dst := some 109, op := _, type := _, pos := _, after := _, guard := _ }) (v := undef) rfl (by kernel_rfl) (by kernel_rfl) (by kernel_rfl) (fun _ _ _ h => h) (Or.inr ⟨by rfl, rfl⟩) hHeld4 ?r109
                      (try simp only [Act.put, List.setIfInBounds_toArray, List.set_cons_zero, List.set_cons_succ])
                      refine wpAnyH_take (i := 22) (oi := { dst := some 110, op := _, type := _, pos := _, after := _, guard := _ }) (v := ?v110) rfl (by kernel_rfl) (by kernel_rfl) (by kernel_rfl) (fun _ _ _ h => h) (Or.inl ⟨by rfl, ?y110⟩) hHeld4 ?r110
                      case y110 => intro w9 hSw; obtain ⟨⟨e0, e1⟩, _⟩ := hSw; go_simp <;> with_reducible rfl
                      (try simp only [Act.put, List.setIfInBounds_toArray, List.set_cons_zero, List.set_cons_succ])
                      refine wpAnyH_take (i := 23) (oi := { dst := some 111, op := _, type := _, pos := _, after := _, guard := _ }) (v := ?v111) rfl (by kernel_rfl) (by kernel_rfl) (by kernel_rfl) (fun _ _ _ h => h) (Or.inl ⟨by rfl, ?y111⟩) hHeld4 ?r111
                      case y111 => intro w9 hSw; obtain ⟨⟨e0, e1⟩, _⟩ := hSw; go_simp <;> with_reducible rfl
                      (try simp only [Act.put, List.setIfInBounds_toArray, List.set_cons_zero, List.set_cons_succ])
                      refine wpAnyH_done (by kernel_rfl) ?_ _
                      go_wp2_with fail
                      go_meet
                      exact ⟨rfl, HN⟩
                    case rest => as_aux_lemma =>
                      obtain ⟨rfl, HE⟩ := hcut
                      go_wp2_with fail
                      go_roundw
                      case rel => exact ⟨1, by omega, by go_num, Lib.hid (bl_call HB2.out HE.out)⟩
                      case measure => simp [intOf]; omega
                  · obtain ⟨r, hr⟩ := getS NM.out (show k - 1 < nm by omega)
                    obtain ⟨g', off', e, hg', d0, d1⟩ := (L2.out.later HB2.out).at hr
                    obtain ⟨rfl, rfl⟩ : g = g' ∧ off = off' := by cases e; exact ⟨rfl, rfl⟩
                    have hnx := HU2.out.can.next hr (by rw [show k - 1 + 1 = k by omega]; exact HSK.out)
                    obtain ⟨p, q⟩ := r
                    clear hr e hg'
                    simp only at d1 hnx
                    have HQ : ∀ W, Hid (Below wb.heap.size wb W) → (W.cell? ⟨g, off + k * 2, none⟩ = some (.int .i64 x) ∧ W.cell? ⟨g, off + k * 2 + 1, none⟩ = some (.int .i64 y) ∧ W.cell? ⟨g, off + (k - 1) * 2 + 1, none⟩ = some (.int .i64 q)) ∧ Hid (Below wb.heap.size wb W) := fun W h => ⟨⟨(h.out.cell (p := ⟨g, _, none⟩) hg).trans c0, (h.out.cell (p := ⟨g, _, none⟩) hg).trans c1, (h.out.cell (p := ⟨g, _, none⟩) hg).trans d1⟩, h⟩
                    have HQQ := Lib.hid HQ
                    clear HQ d0
                    have z1 : decide (0 < (k : Int)) = true := by simp; omega
                    have z2 : decide (0 < k) = true := by simp; omega
                    have z3 : decide (x ≤ q) = false := by simp; omega
                    have i1 : IntKind.i64.wrap ((k : Int) - 1) = (k : Int) - 1 := IntWalk.i64_in _ (by omega)
                    have z4 : (0 : Int) ≤ (k : Int) - 1 := by omega
                    have z5 : (k : Int) - 1 < (nm : Int) := by omega
                    have z6 : (0 : Int) ≤ (k : Int) := by omega
                    have z7 : (k : Int) < (nm : Int) := by omega
                    have z9 : (1 : Int) ≤ (k : Int) := by omega
                    clear hnx
                    go_upto_region 15 with fail
                    go_cut [111] (fun sc we => sc = .bool false ∧ Hid (Below wb.heap.size wb we))
                    case first => as_aux_lemma =>
                      go_region_held3 (fun W => (W.cell? ⟨g, off + k * 2, none⟩ = some (.int .i64 x) ∧ W.cell? ⟨g, off + k * 2 + 1, none⟩ = some (.int .i64 y) ∧ W.cell? ⟨g, off + (k - 1) * 2 + 1, none⟩ = some (.int .i64 q)) ∧ Hid (Below wb.heap.size wb W)) (exact HQQ.out _ (by assumption))
                        (first | (go_at_call 22; (with_reducible refine (check_r x y 0 _ HS64.out HCK.out).mono ?_); rintro e w' ⟨rfl, hb⟩; have HN := Lib.hid (bl_call (by assumption : Hid (Below wb.heap.size wb _)).out hb); clear hb))
                      all_goals go_wp2_with fail
                      all_goals go_meet
                      all_goals exact ⟨rfl, (by assumption : Hid (Below wb.heap.size wb _))⟩
                    case rest => as_aux_lemma =>
                      obtain ⟨rfl, HE⟩ := hcut
                      go_wp2_with fail
                      go_roundw
                      case rel => exact ⟨k + 1, by omega, by go_num, Lib.hid (bl_call HB2.out HE.out)⟩
                      case measure => simp [intOf]; omega
                · have hb := HB2.out
                  replace L1 := Lib.hid (L1.out.later hb)
                  replace L2 := Lib.hid (L2.out.later hb)
                  replace B0 := Lib.hid (bl_call B0.out hb)
                  clear hb HB2
                  cases pa <;> cases pb
                  · go_wp2_with (first
                        | (go_at_call 35; (with_reducible refine (in_r _ u1 t _ _ (L1.out) PU.out).mono ?_); rintro e w' ⟨rfl, rfl⟩)
                        | (go_at_call 35; (with_reducible refine (in_r _ a t _ _ (V1.out.later B0.out) PA.out).mono ?_); rintro e w' ⟨rfl, rfl⟩)
                        | (go_at_call 35; (with_reducible refine (in_r _ u2 t _ _ (L2.out) PM.out).mono ?_); rintro e w' ⟨rfl, rfl⟩)
                        | (go_at_call 35; (with_reducible refine (in_r _ b t _ _ (V2.out.later B0.out) PB.out).mono ?_); rintro e w' ⟨rfl, rfl⟩)
                        | (go_at_call 18; (with_reducible refine (awake_any _ (HT.out.below B0.out)).mono ?_); rintro e w9 ⟨rfl, hb⟩; replace B0 := Lib.hid (bl_call B0.out hb); clear hb))
                    all_goals go_ret
                    all_goals exact ⟨rfl, B0.out⟩
                  · go_wp2_with (first
                        | (go_at_call 35; (with_reducible refine (in_r _ u1 t _ _ (L1.out) PU.out).mono ?_); rintro e w' ⟨rfl, rfl⟩)
                        | (go_at_call 35; (with_reducible refine (in_r _ a t _ _ (V1.out.later B0.out) PA.out).mono ?_); rintro e w' ⟨rfl, rfl⟩)
                        | (go_at_call 35; (with_reducible refine (in_r _ u2 t _ _ (L2.out) PM.out).mono ?_); rintro e w' ⟨rfl, rfl⟩)
                        | (go_at_call 35; (with_reducible refine (in_r _ b t _ _ (V2.out.later B0.out) PB.out).mono ?_); rintro e w' ⟨rfl, rfl⟩)
                        | (go_at_call 18; (with_reducible refine (awake_any _ (HT.out.below B0.out)).mono ?_); rintro e w9 ⟨rfl, hb⟩; replace B0 := Lib.hid (bl_call B0.out hb); clear hb))
                    all_goals go_ret
                    all_goals exact ⟨rfl, B0.out⟩
                  · go_wp2_with (first
                        | (go_at_call 35; (with_reducible refine (in_r _ u1 t _ _ (L1.out) PU.out).mono ?_); rintro e w' ⟨rfl, rfl⟩)
                        | (go_at_call 35; (with_reducible refine (in_r _ a t _ _ (V1.out.later B0.out) PA.out).mono ?_); rintro e w' ⟨rfl, rfl⟩)
                        | (go_at_call 35; (with_reducible refine (in_r _ u2 t _ _ (L2.out) PM.out).mono ?_); rintro e w' ⟨rfl, rfl⟩)
                        | (go_at_call 35; (with_reducible refine (in_r _ b t _ _ (V2.out.later B0.out) PB.out).mono ?_); rintro e w' ⟨rfl, rfl⟩)
                        | (go_at_call 18; (with_reducible refine (awake_any _ (HT.out.below B0.out)).mono ?_); rintro e w9 ⟨rfl, hb⟩; replace B0 := Lib.hid (bl_call B0.out hb); clear hb))
                    all_goals go_ret
                    all_goals exact ⟨rfl, B0.out⟩
                  · go_wp2_with (first
                        | (go_at_call 35; (with_reducible refine (in_r _ u1 t _ _ (L1.out) PU.out).mono ?_); rintro e w' ⟨rfl, rfl⟩)
                        | (go_at_call 35; (with_reducible refine (in_r _ a t _ _ (V1.out.later B0.out) PA.out).mono ?_); rintro e w' ⟨rfl, rfl⟩)
                        | (go_at_call 35; (with_reducible refine (in_r _ u2 t _ _ (L2.out) PM.out).mono ?_); rintro e w' ⟨rfl, rfl⟩)
                        | (go_at_call 35; (with_reducible refine (in_r _ b t _ _ (V2.out.later B0.out) PB.out).mono ?_); rintro e w' ⟨rfl, rfl⟩)
                        | (go_at_call 18; (with_reducible refine (awake_any _ (HT.out.below B0.out)).mono ?_); rintro e w9 ⟨rfl, hb⟩; replace B0 := Lib.hid (bl_call B0.out hb); clear hb))
                    all_goals go_ret
                    all_goals exact ⟨rfl, B0.out⟩
        · subst h1
          have b1 : (r2 == 0) = false := by simpa using h2
          have b2 : (r2 != 0) = true := by simpa using h2
          have H2 := Lib.hid h2
          clear h2
          go_enter Tryd.func8, Tryd.ntmps8
          go_wp2_with (first
              | (go_at_call 19; (with_reducible refine (far_r A1 n1 c1 false _ M1.out F1.out).mono ?_); rintro e w' ⟨rfl, rfl⟩)
              | (go_at_call 19; (with_reducible refine (far_r A2 n2 c2 false _ M2.out F2.out).mono ?_); rintro e w' ⟨rfl, rfl⟩)
              | (go_at_call 24; (with_reducible refine (union_r _ _ (V1.out.later B0.out) HA.out R1.out).mono ?_); rintro e w1 ⟨v1, u1, rfl, s1, rs1, hb⟩; have HU1 := Lib.hid (s1.yes rfl); obtain ⟨Au, nu, cu, rfl, hnu, hmu, hru⟩ := rs1.parts; clear hmu; have L1 := Lib.hid hru; have NU := Lib.hid hnu; clear rs1 s1 hru hnu; replace B0 := Lib.hid (bl_call B0.out hb); clear hb)
              | (go_at_call 26; (with_reducible refine (minus_r _ _ _ (V1.out.later B0.out) HA.out (V2.out.later B0.out) HB.out R2.out).mono ?_); rintro e w2 ⟨v2, u2, rfl, s2, rs2, hb⟩; obtain rfl := s2.no H2.out; obtain ⟨Am, cm, rfl⟩ := rs2.empty; clear rs2 s2; replace L1 := Lib.hid (L1.out.later hb); replace B0 := Lib.hid (bl_call B0.out hb); clear hb)
              | (go_at_call 18; (with_reducible refine (awake_any _ (HT.out.below B0.out)).mono ?_); rintro e w9 ⟨rfl, hb⟩; replace B0 := Lib.hid (bl_call B0.out hb); clear hb))
          go_ret
          exact ⟨rfl, B0.out⟩
      · have h2 : r2 ≠ 0 := by rw [← R2.out]; exact err_not (by rw [R1.out]; exact h1)
        have b1 : (r1 == 0) = false := by simpa using h1
        have b2 : (r1 != 0) = true := by simpa using h1
        have H1 := Lib.hid h1; have H2 := Lib.hid h2
        clear h1 h2
        go_enter Tryd.func8, Tryd.ntmps8
        go_wp2_with (first
            | (go_at_call 19; (with_reducible refine (far_r A1 n1 c1 false _ M1.out F1.out).mono ?_); rintro e w' ⟨rfl, rfl⟩)
            | (go_at_call 19; (with_reducible refine (far_r A2 n2 c2 false _ M2.out F2.out).mono ?_); rintro e w' ⟨rfl, rfl⟩)
            | (go_at_call 24; (with_reducible refine (union_r _ _ (V1.out.later B0.out) HA.out R1.out).mono ?_); rintro e w1 ⟨v1, u1, rfl, s1, rs1, hb⟩; obtain rfl := s1.no H1.out; obtain ⟨Au, cu, rfl⟩ := rs1.empty; clear rs1 s1; replace B0 := Lib.hid (bl_call B0.out hb); clear hb)
            | (go_at_call 26; (with_reducible refine (minus_r _ _ _ (V1.out.later B0.out) HA.out (V2.out.later B0.out) HB.out R2.out).mono ?_); rintro e w2 ⟨v2, u2, rfl, s2, rs2, hb⟩; obtain rfl := s2.no H2.out; obtain ⟨Am, cm, rfl⟩ := rs2.empty; clear rs2 s2; replace B0 := Lib.hid (bl_call B0.out hb); clear hb)
            | (go_at_call 18; (with_reducible refine (awake_any _ (HT.out.below B0.out)).mono ?_); rintro e w9 ⟨rfl, hb⟩; replace B0 := Lib.hid (bl_call B0.out hb); clear hb))
        go_ret
        exact ⟨rfl, B0.out⟩
end Go.Proofs.YtnmgcfpemmejlaaDoor
