/- The law WordsBoth: the walk. -/
import Derived.Test.YtkafcbiiponacaaDoorBothA
import Derived.Test.YtkafcbiiponacaaDoorWordsY
namespace Go.Proofs.YtkafcbiiponacaaDoor
open Go.RowKit Go.Shelf
set_option linter.unusedVariables false

/-- The cells of a slice of fields that lies somewhere. -/
theorem fcells_at {W : World} {g off : Nat} {fs : List FD} (hc : ∀ i (h : i < fs.length), W.cell? ⟨g, off + i * 2, none⟩ = some (.string fs[i].1) ∧ W.cell? ⟨g, off + i * 2 + 1, none⟩ = some (.bool fs[i].2)) :
    ∀ (j : Nat) (u : Value), (fcells fs)[j]? = some u → W.cell? ((⟨g, off, none⟩ : Addr).add j) = some u := by
  intro j u hu
  have hlen : (fcells fs).length = fs.length * 2 := by
    clear hc hu
    induction fs with
    | nil => rfl
    | cons f r ih => simp only [fcells, List.flatMap_cons, List.length_append, List.length_cons, List.length_nil] at ih ⊢; omega
  have hj := (List.getElem?_eq_some_iff.1 hu).1
  rw [add_plain]
  obtain ⟨g0, g1⟩ := fcells_get fs (j / 2) (by omega)
  obtain ⟨c0, c1⟩ := hc (j / 2) (by omega)
  rcases Nat.mod_two_eq_zero_or_one j with h | h
  · rw [show j / 2 * 2 = j by omega] at g0 c0
    rw [g0] at hu; cases hu; exact c0
  · rw [show j / 2 * 2 + 1 = j by omega] at g1
    rw [Nat.add_assoc, show j / 2 * 2 + 1 = j by omega] at c1
    rw [g1] at hu; cases hu; exact c1
theorem fcells_len (fs : List FD) : (fcells fs).length = fs.length * 2 := by
  induction fs with
  | nil => rfl
  | cons f r ih => simp only [fcells, List.flatMap_cons, List.length_append, List.length_cons, List.length_nil] at ih ⊢; omega
theorem fcells_one (fs : List FD) : ∀ u ∈ fcells fs, u.oneCell' = true := by
  intro u hu
  unfold fcells at hu
  obtain ⟨f, _, h⟩ := List.mem_flatMap.1 hu
  simp only [List.mem_cons, List.not_mem_nil, or_false] at h
  rcases h with rfl | rfl <;> rfl
theorem fcells_app (l m : List FD) : fcells (l ++ m) = fcells l ++ fcells m := by simp [fcells]

/-- What the three calls of Join come to. -/
inductive BothOut (fs ms : List FD) (ea eb ec : Int) (TA TB TC : ByteArray) : Prop
  | bad : ((ea != 0) = true ∨ ((ea != 0) = false ∧ (eb != 0) = true)) → (ec != 0) = true → BothOut fs ms ea eb ec TA TB TC
  | long : ea = 0 → eb = 0 → (TA.size ≤ 8192 ∧ TB.size ≤ 8192) → (64 < fs.length + ms.length ∨ (fs.length + ms.length ≤ 64 ∧ 8192 < TA.size + 1 + TB.size)) → ec = 3 → TC = ⟨#[]⟩ → BothOut fs ms ea eb ec TA TB TC
  | good : ea = 0 → eb = 0 → fs.length + ms.length ≤ 64 → TA.size + 1 + TB.size ≤ 8192 → ec = 0 → TC = TA ++ ⟨#[32]⟩ ++ TB → BothOut fs ms ea eb ec TA TB TC
theorem both_out (fs ms : List FD) (h1 : fs ≠ []) (h2 : ms ≠ []) :
    BothOut fs ms (joinL fs).2 (joinL ms).2 (joinL (fs ++ ms)).2 ⟨(joinL fs).1.toArray⟩ ⟨(joinL ms).1.toArray⟩ ⟨(joinL (fs ++ ms)).1.toArray⟩ := by
  by_cases ha : (joinL fs).2 = 0
  · by_cases hb : (joinL ms).2 = 0
    · have h := joinL_app h1 h2 (a := (joinL fs).1) (b := (joinL ms).1) (by rw [← ha]) (by rw [← hb])
      have s1 : (⟨(joinL fs).1.toArray⟩ : ByteArray).size = (joinL fs).1.length := by show (joinL fs).1.toArray.size = _; simp
      have s2 : (⟨(joinL ms).1.toArray⟩ : ByteArray).size = (joinL ms).1.length := by show (joinL ms).1.toArray.size = _; simp
      by_cases hc : 64 < fs.length + ms.length ∨ 8192 < (joinL fs).1.length + 1 + (joinL ms).1.length
      · rw [if_pos hc] at h
        exact .long ha hb ⟨by rw [s1]; exact (joinL_ok (fs := fs) (a := (joinL fs).1) (by rw [← ha])).2.2.2, by rw [s2]; exact (joinL_ok (fs := ms) (a := (joinL ms).1) (by rw [← hb])).2.2.2⟩ (by rw [s1, s2]; omega) (by rw [h]) (by rw [h])
      · rw [if_neg hc] at h
        refine .good ha hb (by omega) (by rw [s1, s2]; omega) (by rw [h]) (by rw [h]; apply WideShapes.bytes_inj; simp)
    · exact .bad (.inr ⟨bne_eq_false_iff_eq.2 ha, bne_iff_ne.2 hb⟩) (bne_iff_ne.2 (joinL_bad_app fs ms h1 h2 (.inr hb)))
  · exact .bad (.inl (bne_iff_ne.2 ha)) (bne_iff_ne.2 (joinL_bad_app fs ms h1 h2 (.inl ha)))

theorem far_is {v : Value} {fs : List FD} {w : World} {b : Bool} (h : FA w v fs) (hb : farB fs = b) : Calls Tryd.prog 26 #[v] w fun e w' => e = .returned (.bool b) ∧ w = w' := by
  subst hb; exact farA v fs w h

set_option maxRecDepth 20000 in
set_option maxHeartbeats 1000000 in
/-- Not examined: the first list is far. -/
theorem both_far1 (v1 v2 : Value) (w : World) (hG : G1 w) (h1 : Calls Tryd.prog 26 #[v1] w fun e w' => e = .returned (.bool true) ∧ w = w') :
    Calls Tryd.prog 10 #[v1, v2] w fun e w' => e = .returned (.bool true) ∧ Below w.heap.size w w' := by
  have HG := Lib.hid hG; clear hG
  have H1 := Lib.hid h1; clear h1
  go_enter Tryd.func10, Tryd.ntmps10
  go_wp2_with (first
    | (go_at_call 26; refine H1.out.mono ?_; rintro e w1 ⟨rfl, rfl⟩)
    | (go_at_call 12; refine (shown_any _ HG.out).mono ?_; rintro e w4 ⟨rfl, hb⟩; have HB := Lib.hid hb; clear hb))
  go_ret
  exact ⟨rfl, HB.out⟩
set_option maxRecDepth 20000 in
set_option maxHeartbeats 1000000 in
/-- Not examined: the second list is far. -/
theorem both_far2 (v1 v2 : Value) (w : World) (hG : G1 w) (h1 : Calls Tryd.prog 26 #[v1] w fun e w' => e = .returned (.bool false) ∧ w = w')
    (h2 : Calls Tryd.prog 26 #[v2] w fun e w' => e = .returned (.bool true) ∧ w = w') :
    Calls Tryd.prog 10 #[v1, v2] w fun e w' => e = .returned (.bool true) ∧ Below w.heap.size w w' := by
  have HG := Lib.hid hG; clear hG
  have H1 := Lib.hid h1; have H2 := Lib.hid h2; clear h1 h2
  have tok : True := trivial
  go_enter Tryd.func10, Tryd.ntmps10
  go_wp2_with (first
    | (go_at_call 26; have _t := tok; refine H1.out.mono ?_; rintro e w1 ⟨rfl, rfl⟩; clear tok _t)
    | (go_at_call 26; refine H2.out.mono ?_; rintro e w1 ⟨rfl, rfl⟩)
    | (go_at_call 12; refine (shown_any _ HG.out).mono ?_; rintro e w4 ⟨rfl, hb⟩; have HB := Lib.hid hb; clear hb))
  go_ret
  exact ⟨rfl, HB.out⟩

set_option maxRecDepth 20000 in
set_option maxHeartbeats 2000000 in
/-- No fields in one of them. -/
theorem both_none (v1 v2 : Value) (fs ms : List FD) (w : World) (hG : G1 w) (h1 : FA w v1 fs) (h2 : FA w v2 ms) (hf : farB fs = false) (hf2 : farB ms = false)
    (h0 : fs.length = 0 ∨ (0 < fs.length ∧ ms.length = 0)) :
    Calls Tryd.prog 10 #[v1, v2] w fun e w' => e = .returned (.bool true) ∧ Below w.heap.size w w' := by
  have len : ∀ {v : Value} {fs : List FD}, FA w v fs → ∃ a c, v = .slice a fs.length c := by
    intro v fs h
    rcases h with (⟨rfl, rfl⟩ | ⟨g, off, cap, rfl, _⟩) | ⟨a, c, rfl, rfl⟩
    · exact ⟨_, _, rfl⟩
    · exact ⟨_, _, rfl⟩
    · exact ⟨_, _, rfl⟩
  have HG := Lib.hid hG; clear hG
  have HB := Lib.hid (Below.refl w.heap.size w)
  have HF := Lib.hid hf; have HF2 := Lib.hid hf2; clear hf hf2
  obtain ⟨a1, c1, rfl⟩ := len h1
  obtain ⟨a2, c2, rfl⟩ := len h2
  have H1 := Lib.hid h1; have H2 := Lib.hid h2; clear h1 h2 len
  obtain ⟨N, hN⟩ : ∃ N, fs.length = N := ⟨_, rfl⟩
  obtain ⟨M, hM⟩ : ∃ M, ms.length = M := ⟨_, rfl⟩
  have HN := Lib.hid hN; have HM := Lib.hid hM
  have k1 : N ≤ 70 := by rw [← hN]; exact farB_len HF.out
  have k2 : M ≤ 70 := by rw [← hM]; exact farB_len HF2.out
  rw [hN] at h0 H1 ⊢
  rw [hM] at h0 H2 ⊢
  clear hN hM
  rcases h0 with h0 | ⟨h0, h3⟩
  case' inl => have j1 : ((N : Int) == 0) = true := beq_iff_eq.2 (by omega)
  case' inr =>
    have j1 : ((N : Int) == 0) = false := beq_eq_false_iff_ne.2 (by omega)
    have j2 : ((M : Int) == 0) = true := beq_iff_eq.2 (by omega)
    clear h3
  all_goals
    clear h0
    go_enter Tryd.func10, Tryd.ntmps10
    have tok : True := trivial
    go_wp2_with (first
      | (go_at_call 26; have _t := tok; refine (farA _ fs _ H1.out).mono ?_; rintro e w1 ⟨rfl, rfl⟩; rw [HF.out]; clear tok _t)
      | (go_at_call 26; refine (farA _ ms _ H2.out).mono ?_; rintro e w2 ⟨rfl, rfl⟩; rw [HF2.out])
      | (go_at_call 12; refine (shown_any _ HG.out).mono ?_; rintro e w4 ⟨rfl, hb⟩; replace HB := Lib.hid (bl_call HB.out hb); clear hb))
    go_ret
    exact ⟨rfl, HB.out⟩

set_option maxRecDepth 20000 in
set_option maxHeartbeats 4000000 in
theorem both_main (g1 o1 c1 g2 o2 c2 : Nat) (fs ms : List FD) (w : World) (hG : G1 w) (hg1 : g1 < w.heap.size) (hg2 : g2 < w.heap.size) (hf : farB fs = false) (hf2 : farB ms = false) (h01 : 0 < fs.length) (h02 : 0 < ms.length)
    (hc1 : ∀ i (h : i < fs.length), w.cell? ⟨g1, o1 + i * 2, none⟩ = some (.string fs[i].1) ∧ w.cell? ⟨g1, o1 + i * 2 + 1, none⟩ = some (.bool fs[i].2))
    (hc2 : ∀ i (h : i < ms.length), w.cell? ⟨g2, o2 + i * 2, none⟩ = some (.string ms[i].1) ∧ w.cell? ⟨g2, o2 + i * 2 + 1, none⟩ = some (.bool ms[i].2)) :
    Calls Tryd.prog 10 #[.slice (some ⟨g1, o1, none⟩) fs.length c1, .slice (some ⟨g2, o2, none⟩) ms.length c2] w fun e w' => e = .returned (.bool true) ∧ Below w.heap.size w w' := by
  obtain ⟨i0, hi, hz0, hz1, hz2⟩ := info_parts info_field
  have HG := Lib.hid hG; have HG0 := Lib.hid hG; clear hG
  have HB := Lib.hid (Below.refl w.heap.size w)
  have k1 := farB_len hf
  have k2 := farB_len hf2
  have HF := Lib.hid hf; have HF2 := Lib.hid hf2; clear hf hf2
  have H1 : Hid (FA w (.slice (some ⟨g1, o1, none⟩) fs.length c1) fs) := Lib.hid (.inl (.inr ⟨g1, o1, c1, rfl, hg1, by unfold maxLen; omega, hc1⟩))
  have H2 : Hid (FA w (.slice (some ⟨g2, o2, none⟩) ms.length c2) ms) := Lib.hid (.inl (.inr ⟨g2, o2, c2, rfl, hg2, by unfold maxLen; omega, hc2⟩))
  have HC1 : Hid (∀ W, Below w.heap.size w W → ∀ (j : Nat) (u : Value), (fcells fs)[j]? = some u → W.cell? ((⟨g1, o1, none⟩ : Addr).add j) = some u) := Lib.hid (fun W hb => fcells_at (fun i h => ⟨(hb.cell (p := ⟨g1, _, none⟩) hg1).trans (hc1 i h).1, (hb.cell (p := ⟨g1, _, none⟩) hg1).trans (hc1 i h).2⟩))
  have HC2 : Hid (∀ W, Below w.heap.size w W → ∀ (j : Nat) (u : Value), (fcells ms)[j]? = some u → W.cell? ((⟨g2, o2, none⟩ : Addr).add j) = some u) := Lib.hid (fun W hb => fcells_at (fun i h => ⟨(hb.cell (p := ⟨g2, _, none⟩) hg2).trans (hc2 i h).1, (hb.cell (p := ⟨g2, _, none⟩) hg2).trans (hc2 i h).2⟩))
  clear hc1 hc2
  have hbs : ∀ W : World, (Instr.buildSlice 32 0 #[]).run Tryd.prog W = .ok (.slice (some ⟨W.heap.size, 0, none⟩) 0 0) (W.alloc (.cells #[] 50)) := fun W => by kernel_rfl
  have hout := both_out fs ms (by rintro rfl; simp at h01) (by rintro rfl; simp at h02)
  have j1 : ((fs.length : Int) == 0) = false := beq_eq_false_iff_ne.2 (by omega)
  have j2 : ((ms.length : Int) == 0) = false := beq_eq_false_iff_ne.2 (by omega)
  obtain ⟨TA, hTA⟩ : ∃ T : ByteArray, (⟨(joinL fs).1.toArray⟩ : ByteArray) = T := ⟨_, rfl⟩
  obtain ⟨TB, hTB⟩ : ∃ T : ByteArray, (⟨(joinL ms).1.toArray⟩ : ByteArray) = T := ⟨_, rfl⟩
  obtain ⟨TC, hTC⟩ : ∃ T : ByteArray, (⟨(joinL (fs ++ ms)).1.toArray⟩ : ByteArray) = T := ⟨_, rfl⟩
  obtain ⟨ea, hea⟩ : ∃ x, (joinL fs).2 = x := ⟨_, rfl⟩
  obtain ⟨eb, heb⟩ : ∃ x, (joinL ms).2 = x := ⟨_, rfl⟩
  obtain ⟨ec, hec⟩ : ∃ x, (joinL (fs ++ ms)).2 = x := ⟨_, rfl⟩
  rw [hTA, hTB, hTC, hea, heb, hec] at hout
  have HJ1 : Hid (∀ W v, FA W v fs → EscAt W → 0 < W.heap.size → Calls Tryd.prog 27 #[v] W fun e w' => e = .returned (.tuple #[.string TA, .int .i64 ea]) ∧ Below W.heap.size W w') := Lib.hid (fun W v h h2 h3 => by
    refine (joinA_any v fs W h h2 h3).mono ?_; rintro e w' ⟨rfl, hb⟩; exact ⟨by rw [hTA, hea], hb⟩)
  have HJ2 : Hid (∀ W v, FA W v ms → EscAt W → 0 < W.heap.size → Calls Tryd.prog 27 #[v] W fun e w' => e = .returned (.tuple #[.string TB, .int .i64 eb]) ∧ Below W.heap.size W w') := Lib.hid (fun W v h h2 h3 => by
    refine (joinA_any v ms W h h2 h3).mono ?_; rintro e w' ⟨rfl, hb⟩; exact ⟨by rw [hTB, heb], hb⟩)
  have HJ3 : Hid (∀ W v, FA W v (fs ++ ms) → EscAt W → 0 < W.heap.size → Calls Tryd.prog 27 #[v] W fun e w' => e = .returned (.tuple #[.string TC, .int .i64 ec]) ∧ Below W.heap.size W w') := Lib.hid (fun W v h h2 h3 => by
    refine (joinA_any v (fs ++ ms) W h h2 h3).mono ?_; rintro e w' ⟨rfl, hb⟩; exact ⟨by rw [hTC, hec], hb⟩)
  clear hTA hTB hTC hea heb hec
  have HRW : Hid (∀ (W : World) (v : Value), W.ownsRow w.heap.size 50 2 v (0 + fs.length + ms.length) ([] ++ fcells fs ++ fcells ms) → FA W v (fs ++ ms)) := Lib.hid (fun W v h => by
    rw [Nat.zero_add, List.nil_append, ← fcells_app, ← List.length_append] at h
    exact .inl (FSl_of_row h))
  cases hout with
  | bad hx hy =>
    rcases hx with hx | ⟨hx, hx2⟩
    all_goals
      have tok1 : True := trivial
      have tok2 : True := trivial
      have tok3 : True := trivial
      go_enter Tryd.func10, Tryd.ntmps10
      go_wp2_with (first
        | (go_at_call 26; have _t := tok1; refine (farA _ fs _ H1.out).mono ?_; rintro e w1 ⟨rfl, rfl⟩; rw [HF.out]; clear tok1 _t)
        | (go_at_call 26; refine (farA _ ms _ H2.out).mono ?_; rintro e w2 ⟨rfl, rfl⟩; rw [HF2.out])
        | (go_at_call 27; have _t := tok2; refine (HJ1.out _ _ H1.out HG.out.esc HG.out.lt).mono ?_; rintro e w3 ⟨rfl, hb⟩; replace HB := Lib.hid (bl_call HB.out hb); replace HG := Lib.hid (HG.out.below hb); replace H2 := Lib.hid (H2.out.later hb); clear hb tok2 _t)
        | (go_at_call 27; have _t := tok3; refine (HJ2.out _ _ H2.out HG.out.esc HG.out.lt).mono ?_; rintro e w4 ⟨rfl, hb⟩; replace HB := Lib.hid (bl_call HB.out hb); replace HG := Lib.hid (HG.out.below hb); clear hb tok3 _t)
        | (at_builtin; refine wpList_append_own _ rfl (.tmp 39) (.tmp 40) 32 rfl w.heap.size 50 i0 (.agg #[.string ⟨#[]⟩, .bool false]) 2 24 Tryd.underlying32 hi hz0 hz1 hz2 rfl (by decide) _ 0 [] rfl (World.ownsRow_lit _ #[] 0 HB.out.size (by unfold maxLen; omega) rfl) ⟨g1, o1, none⟩ fs.length c1 (fcells fs) rfl (fcells_len fs) (HC1.out _ (bl_alloc _ HB.out)) (fcells_one fs) (by unfold maxLen; omega) (by omega) (bl_alloc _ HB.out).size ?_; intro v5 w5 hown hgrow _; have HO1 := Lib.hid hown; replace HB := Lib.hid ((bl_alloc _ HB.out).grown hgrow (bl_alloc _ HB.out).size (fun k e => by cases e; exact HB.out.size)); clear hown hgrow)
        | (at_builtin; refine wpList_append_own _ rfl (.tmp 41) (.tmp 42) 32 rfl w.heap.size 50 i0 (.agg #[.string ⟨#[]⟩, .bool false]) 2 24 Tryd.underlying32 hi hz0 hz1 hz2 rfl (by decide) _ (0 + fs.length) ([] ++ fcells fs) rfl HO1.out ⟨g2, o2, none⟩ ms.length c2 (fcells ms) rfl (fcells_len ms) (HC2.out _ HB.out) (fcells_one ms) (by unfold maxLen; omega) (by omega) HB.out.size ?_; intro v6 w6 hown hgrow _; have HROW := Lib.hid (HRW.out _ _ hown); replace HB := Lib.hid (HB.out.grown hgrow HB.out.size (fun k e => (HO1.out.lt k e).1)); replace HG := Lib.hid (HG0.out.below HB.out); clear hown hgrow)
        | (go_at_call 27; refine (HJ3.out _ _ HROW.out HG.out.esc HG.out.lt).mono ?_; rintro e w7 ⟨rfl, hb⟩; replace HB := Lib.hid (bl_call HB.out hb); replace HG := Lib.hid (HG.out.below hb); clear hb)
        | (go_at_call 12; refine (shown_any _ HG.out).mono ?_; rintro e w8 ⟨rfl, hb⟩; replace HB := Lib.hid (bl_call HB.out hb); clear hb))
      go_ret
      exact ⟨rfl, HB.out⟩
  | long hx hy hz hl hc ht =>
    subst hx hy hc ht
    obtain ⟨z1, z2⟩ := hz
    rcases hl with hl | ⟨hl, hl2⟩
    all_goals
      have tok1 : True := trivial
      have tok2 : True := trivial
      have tok3 : True := trivial
      go_enter Tryd.func10, Tryd.ntmps10
      go_wp2_with (first
        | (go_at_call 26; have _t := tok1; refine (farA _ fs _ H1.out).mono ?_; rintro e w1 ⟨rfl, rfl⟩; rw [HF.out]; clear tok1 _t)
        | (go_at_call 26; refine (farA _ ms _ H2.out).mono ?_; rintro e w2 ⟨rfl, rfl⟩; rw [HF2.out])
        | (go_at_call 27; have _t := tok2; refine (HJ1.out _ _ H1.out HG.out.esc HG.out.lt).mono ?_; rintro e w3 ⟨rfl, hb⟩; replace HB := Lib.hid (bl_call HB.out hb); replace HG := Lib.hid (HG.out.below hb); replace H2 := Lib.hid (H2.out.later hb); clear hb tok2 _t)
        | (go_at_call 27; have _t := tok3; refine (HJ2.out _ _ H2.out HG.out.esc HG.out.lt).mono ?_; rintro e w4 ⟨rfl, hb⟩; replace HB := Lib.hid (bl_call HB.out hb); replace HG := Lib.hid (HG.out.below hb); clear hb tok3 _t)
        | (at_builtin; refine wpList_append_own _ rfl (.tmp 39) (.tmp 40) 32 rfl w.heap.size 50 i0 (.agg #[.string ⟨#[]⟩, .bool false]) 2 24 Tryd.underlying32 hi hz0 hz1 hz2 rfl (by decide) _ 0 [] rfl (World.ownsRow_lit _ #[] 0 HB.out.size (by unfold maxLen; omega) rfl) ⟨g1, o1, none⟩ fs.length c1 (fcells fs) rfl (fcells_len fs) (HC1.out _ (bl_alloc _ HB.out)) (fcells_one fs) (by unfold maxLen; omega) (by omega) (bl_alloc _ HB.out).size ?_; intro v5 w5 hown hgrow _; have HO1 := Lib.hid hown; replace HB := Lib.hid ((bl_alloc _ HB.out).grown hgrow (bl_alloc _ HB.out).size (fun k e => by cases e; exact HB.out.size)); clear hown hgrow)
        | (at_builtin; refine wpList_append_own _ rfl (.tmp 41) (.tmp 42) 32 rfl w.heap.size 50 i0 (.agg #[.string ⟨#[]⟩, .bool false]) 2 24 Tryd.underlying32 hi hz0 hz1 hz2 rfl (by decide) _ (0 + fs.length) ([] ++ fcells fs) rfl HO1.out ⟨g2, o2, none⟩ ms.length c2 (fcells ms) rfl (fcells_len ms) (HC2.out _ HB.out) (fcells_one ms) (by unfold maxLen; omega) (by omega) HB.out.size ?_; intro v6 w6 hown hgrow _; have HROW := Lib.hid (HRW.out _ _ hown); replace HB := Lib.hid (HB.out.grown hgrow HB.out.size (fun k e => (HO1.out.lt k e).1)); replace HG := Lib.hid (HG0.out.below HB.out); clear hown hgrow)
        | (go_at_call 27; refine (HJ3.out _ _ HROW.out HG.out.esc HG.out.lt).mono ?_; rintro e w7 ⟨rfl, hb⟩; replace HB := Lib.hid (bl_call HB.out hb); replace HG := Lib.hid (HG.out.below hb); clear hb)
        | (go_at_call 12; refine (shown_any _ HG.out).mono ?_; rintro e w8 ⟨rfl, hb⟩; replace HB := Lib.hid (bl_call HB.out hb); clear hb))
      go_ret
      exact ⟨rfl, HB.out⟩
  | good hx hy h64 h8 hc ht =>
    subst hx hy hc ht
    have z1 : TA.size ≤ 8192 := by omega
    have z2 : TB.size ≤ 8192 := by omega
    have tok1 : True := trivial
    have tok2 : True := trivial
    have tok3 : True := trivial
    go_enter Tryd.func10, Tryd.ntmps10
    go_wp2_with (first
      | (go_at_call 26; have _t := tok1; refine (farA _ fs _ H1.out).mono ?_; rintro e w1 ⟨rfl, rfl⟩; rw [HF.out]; clear tok1 _t)
      | (go_at_call 26; refine (farA _ ms _ H2.out).mono ?_; rintro e w2 ⟨rfl, rfl⟩; rw [HF2.out])
      | (go_at_call 27; have _t := tok2; refine (HJ1.out _ _ H1.out HG.out.esc HG.out.lt).mono ?_; rintro e w3 ⟨rfl, hb⟩; replace HB := Lib.hid (bl_call HB.out hb); replace HG := Lib.hid (HG.out.below hb); replace H2 := Lib.hid (H2.out.later hb); clear hb tok2 _t)
      | (go_at_call 27; have _t := tok3; refine (HJ2.out _ _ H2.out HG.out.esc HG.out.lt).mono ?_; rintro e w4 ⟨rfl, hb⟩; replace HB := Lib.hid (bl_call HB.out hb); replace HG := Lib.hid (HG.out.below hb); clear hb tok3 _t)
      | (at_builtin; refine wpList_append_own _ rfl (.tmp 39) (.tmp 40) 32 rfl w.heap.size 50 i0 (.agg #[.string ⟨#[]⟩, .bool false]) 2 24 Tryd.underlying32 hi hz0 hz1 hz2 rfl (by decide) _ 0 [] rfl (World.ownsRow_lit _ #[] 0 HB.out.size (by unfold maxLen; omega) rfl) ⟨g1, o1, none⟩ fs.length c1 (fcells fs) rfl (fcells_len fs) (HC1.out _ (bl_alloc _ HB.out)) (fcells_one fs) (by unfold maxLen; omega) (by omega) (bl_alloc _ HB.out).size ?_; intro v5 w5 hown hgrow _; have HO1 := Lib.hid hown; replace HB := Lib.hid ((bl_alloc _ HB.out).grown hgrow (bl_alloc _ HB.out).size (fun k e => by cases e; exact HB.out.size)); clear hown hgrow)
      | (at_builtin; refine wpList_append_own _ rfl (.tmp 41) (.tmp 42) 32 rfl w.heap.size 50 i0 (.agg #[.string ⟨#[]⟩, .bool false]) 2 24 Tryd.underlying32 hi hz0 hz1 hz2 rfl (by decide) _ (0 + fs.length) ([] ++ fcells fs) rfl HO1.out ⟨g2, o2, none⟩ ms.length c2 (fcells ms) rfl (fcells_len ms) (HC2.out _ HB.out) (fcells_one ms) (by unfold maxLen; omega) (by omega) HB.out.size ?_; intro v6 w6 hown hgrow _; have HROW := Lib.hid (HRW.out _ _ hown); replace HB := Lib.hid (HB.out.grown hgrow HB.out.size (fun k e => (HO1.out.lt k e).1)); replace HG := Lib.hid (HG0.out.below HB.out); clear hown hgrow)
      | (go_at_call 27; refine (HJ3.out _ _ HROW.out HG.out.esc HG.out.lt).mono ?_; rintro e w7 ⟨rfl, hb⟩; replace HB := Lib.hid (bl_call HB.out hb); replace HG := Lib.hid (HG.out.below hb); clear hb)
      | (go_at_call 12; refine (shown_any _ HG.out).mono ?_; rintro e w8 ⟨rfl, hb⟩; replace HB := Lib.hid (bl_call HB.out hb); clear hb))
    go_ret
    exact ⟨rfl, HB.out⟩

theorem both_any (v1 v2 : Value) (fs ms : List FD) (w : World) (hG : G1 w) (h1 : FA w v1 fs) (h2 : FA w v2 ms) :
    Calls Tryd.prog 10 #[v1, v2] w fun e w' => e = .returned (.bool true) ∧ Below w.heap.size w w' := by
  cases f1 : farB fs
  case true => exact both_far1 v1 v2 w hG (far_is h1 f1)
  cases f2 : farB ms
  case true => exact both_far2 v1 v2 w hG (far_is h1 f1) (far_is h2 f2)
  by_cases n1 : fs.length = 0
  · exact both_none v1 v2 fs ms w hG h1 h2 f1 f2 (.inl n1)
  by_cases n2 : ms.length = 0
  · exact both_none v1 v2 fs ms w hG h1 h2 f1 f2 (.inr ⟨by omega, n2⟩)
  rcases h1 with (⟨rfl, rfl⟩ | ⟨g1, o1, c1, rfl, a1, a2, a3⟩) | ⟨a, c, rfl, rfl⟩
  · exact absurd rfl n1
  · rcases h2 with (⟨rfl, rfl⟩ | ⟨g2, o2, c2, rfl, b1, b2, b3⟩) | ⟨a, c, rfl, rfl⟩
    · exact absurd rfl n2
    · exact both_main g1 o1 c1 g2 o2 c2 fs ms w hG a1 b1 f1 f2 (by omega) (by omega) a3 b3
    · exact absurd rfl n2
  · exact absurd rfl n1
end Go.Proofs.YtkafcbiiponacaaDoor
