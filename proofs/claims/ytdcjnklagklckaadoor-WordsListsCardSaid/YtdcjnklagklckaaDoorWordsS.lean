/- words.fieldsOf: what its iterator yields. -/
import Derived.Test.YtdcjnklagklckaaDoorWordsR
import Derived.Test.YtdcjnklagklckaaDoorRange
import Derived.Test.YtdcjnklagklckaaDoorScope
namespace Go.Proofs.YtdcjnklagklckaaDoor
open Go.RowKit Go.Shelf
set_option linter.unusedVariables false
attribute [local go_sem] Oper.semAt_some

/-- What the iterator yields: a field's string, whether it is quoted, and whether there was one. -/
abbrev FY := ByteArray × Bool × Bool
abbrev fEnc (x : FY) : Array Value := #[.agg #[.string x.1, .bool x.2.1], .bool x.2.2]
/-- The field that l begins with, and how many bytes it has: 0 if there is none. -/
def oneF (l : List UInt8) : ByteArray × Bool × Nat := if l.headD 0 = 34 then (⟨(qT l).1.toArray⟩, true, (qT l).2) else (⟨(l.take (bareN l)).toArray⟩, false, bareN l)
def fBad (l : List UInt8) : Bool := (oneF l).2.2 == 0 || (!(l.drop (oneF l).2.2).isEmpty && !((l.drop (oneF l).2.2).headD 0 == 32))
def fGo : Nat → List UInt8 → List FY
  | 0, _ => []
  | F + 1, l => if fBad l then [(⟨#[]⟩, false, false)] else ((oneF l).1, (oneF l).2.1, true) :: (if (l.drop (oneF l).2.2).isEmpty then [] else fGo F (l.drop ((oneF l).2.2 + 1)))
def fieldsY (l : List UInt8) : List FY := if l.isEmpty then [] else fGo (l.length + 1) l

/-- The string that is still to be read, off the frame. -/
def rsz (a : Act) : Nat := match a.tmps.getD 5 undef with | .string s => s.size | _ => 0
def fMu (l : Nat) (a : Act) (_w : World) : Nat := match l with | 1 => 3 * rsz a + 3 | 0 => 3 * rsz a + 2 | _ => 3 * rsz a + 1

/-- What the iterator knows between two steps: what has come, and what is to come of R. -/
structure FSt (L : List UInt8) (J : List FY → World → Prop) (bf : Nat) (pre : List FY) (R : ByteArray) (W : World) : Prop where
  j : J pre W
  esc : EscAt W
  big : 0 < W.heap.size
  box : ∃ x y fr, W.heap[bf]? = some (.cells #[x, y] 50 fr) ∧ fr = (0, 0)
  size : R.size ≤ 35184372088000
  todo : ∃ F, R.size < F ∧ fieldsY L = pre ++ fGo F R.data.toList

def fJ (L : List UInt8) (J : List FY → World → Prop) (l bf b : Nat) (lab : Nat) (a : Act) (W : World) : Prop :=
  ∃ (pre : List FY) (R : ByteArray) (n : Int), FSt L J bf pre R W ∧ (∃ u2 u6 u7 u8 u9 u10 u11 u12 u13 u14 u15 u16 u17 u18 u19 u20 u21 u22 u23 u24 u25 u26 u27 u28 u29 u30 u31 u32 u33 u34 u35 u36 u37 u38 u39 u40 u41 u42 u43 u44 u45 u46 u47 u48 u49 u50, a = { tmps := #[.func (.yield l) #[] #[], .pointer (some ⟨b, 0, none⟩), u2, .pointer (some ⟨bf, 0, none⟩), .int .i64 n, .string R, u6, u7, u8, u9, u10, u11, u12, u13, u14, u15, u16, u17, u18, u19, u20, u21, u22, u23, u24, u25, u26, u27, u28, u29, u30, u31, u32, u33, u34, u35, u36, u37, u38, u39, u40, u41, u42, u43, u44, u45, u46, u47, u48, u49, u50], defers := [] }) ∧
    match lab with
    | 1 => True
    | 0 => R.data.toList.headD 0 = 34
    | 2 => n = (oneF R.data.toList).2.2 ∧ W.heap[bf]? = some (.cells #[.string (oneF R.data.toList).1, .bool (oneF R.data.toList).2.1] 50 (0, 0))
    | _ => False

theorem grow_set (W : World) (p : Addr) (u : Value) : W.grownBy (W.setCell p u) (some p.block) :=
  ⟨rfl, rfl, rfl, by simp [World.setCell], fun k hk hne => Below.heap_setCell _ _ _ _ (fun e => hne (by rw [e]))⟩
theorem heap_set {W : World} {B i : Nat} {cs : Array Value} {t : TypeId} {fr : Nat × Nat} (h : W.heap[B]? = some (.cells cs t fr)) (u : Value) : (W.setCell ⟨B, i, none⟩ u).heap[B]? = some (.cells (cs.setIfInBounds i u) t fr) := by
  simp [World.setCell, Array.getElem?_modify, h]
/-- Two stores into the two cells of a block. -/
theorem heap_set2 {W : World} {B : Nat} {x y : Value} {t : TypeId} {fr : Nat × Nat} (h : W.heap[B]? = some (.cells #[x, y] t fr)) (u v : Value) : ((W.setCell ⟨B, 0, none⟩ u).setCell ⟨B, 1, none⟩ v).heap[B]? = some (.cells #[u, v] t fr) := heap_set (heap_set h u) v
theorem cell_of2 {W : World} {B : Nat} {x y : Value} {t : TypeId} (h : W.heap[B]? = some (.cells #[x, y] t (0, 0))) :
    W.cell? ⟨B, 0, none⟩ = some x ∧ W.cell? ⟨B, 1, none⟩ = some y ∧ W.frozen? ⟨B, 0, none⟩ = false ∧ W.frozen? ⟨B, 1, none⟩ = false := by
  refine ⟨?_, ?_, ?_, ?_⟩
  · rw [cell_of_row W B 0 _ _ _ h]; rfl
  · rw [cell_of_row W B 1 _ _ _ h]; rfl
  · simp [World.frozen?, h]
  · simp [World.frozen?, h]

theorem oneF_bare {l : List UInt8} (h : l.headD 0 ≠ 34) : oneF l = (⟨(l.take (bareN l)).toArray⟩, false, bareN l) := by unfold oneF; rw [if_neg h]
theorem oneF_quoted {l : List UInt8} (h : l.headD 0 = 34) : oneF l = (⟨(qT l).1.toArray⟩, true, (qT l).2) := by unfold oneF; rw [if_pos h]
theorem hasPrefix_quote (s : ByteArray) : Lib.hasPrefix s.data.toList [34] = (s.data.toList.headD 0 == 34) := by
  cases h : s.data.toList with
  | nil => rfl
  | cons c r => rw [Bool.eq_iff_iff]; simp only [Lib.hasPrefix, List.isPrefixOf, Bool.and_true, beq_iff_eq, List.headD_cons]; exact eq_comm
theorem extract_take (s : ByteArray) (n : Nat) : s.extract 0 n = ⟨(s.data.toList.take n).toArray⟩ := by
  apply WideShapes.bytes_inj; rw [Lib.extract_data]; simp

theorem oneF_le (l : List UInt8) : (oneF l).2.2 ≤ l.length := by
  unfold oneF; split
  · exact qT_le l
  · exact bareN_le l
/-- What is to come of R, when its first field is none, or one with nothing behind it, or one with a space behind it. -/
theorem todo_bad {L : List UInt8} {pre : List FY} {R : ByteArray} (h : ∃ F, R.size < F ∧ fieldsY L = pre ++ fGo F R.data.toList) (hb : fBad R.data.toList = true) : fieldsY L = pre ++ [((⟨#[]⟩, false, false) : FY)] := by
  obtain ⟨F, hF, h⟩ := h
  cases F with
  | zero => omega
  | succ F => rw [h, fGo, if_pos hb]
theorem todo_ok {L : List UInt8} {pre : List FY} {R : ByteArray} (h : ∃ F, R.size < F ∧ fieldsY L = pre ++ fGo F R.data.toList) (hb : fBad R.data.toList = false) {T : ByteArray} {q : Bool} {k : Nat} (ho : oneF R.data.toList = (T, q, k)) :
    ∃ F, R.size ≤ F ∧ fieldsY L = (pre ++ [((T, q, true) : FY)]) ++ (if (R.data.toList.drop k).isEmpty then [] else fGo F (R.data.toList.drop (k + 1))) := by
  obtain ⟨F, hF, h⟩ := h
  cases F with
  | zero => omega
  | succ F => exact ⟨F, by omega, by rw [h, fGo, if_neg (by rw [hb]; simp), ho]; simp⟩
theorem drop_empty (R : ByteArray) (k : Nat) : (R.data.toList.drop k).isEmpty = decide (R.size ≤ k) := by
  rw [Bool.eq_iff_iff]; simp
theorem fBad_of {R : ByteArray} {T : ByteArray} {q : Bool} {k : Nat} (ho : oneF R.data.toList = (T, q, k)) : fBad R.data.toList = ((k == 0) || (!decide (R.size ≤ k) && !((R.data.toList.drop k).headD 0 == 32))) := by
  unfold fBad; rw [ho, drop_empty]

/-- Turning the iterator's own block, drawing, adding blocks: what it knows stays. -/
theorem FSt.set {L : List UInt8} {J : List FY → World → Prop} {bf : Nat} {pre : List FY} {R : ByteArray} {W : World} (h : FSt L J bf pre R W) (hJ : StayBut bf J) (hbf : 0 ≠ bf) (i : Nat) (u : Value) (hi : i < 2) : FSt L J bf pre R (W.setCell ⟨bf, i, none⟩ u) := by
  obtain ⟨x, y, fr, hb, rfl⟩ := h.box
  refine ⟨hJ _ _ _ _ h.j (grow_set W _ u) (fun r e => by cases e; rfl), ?_, by simpa [World.setCell] using h.big, ?_, h.size, h.todo⟩
  · obtain ⟨t, fr, hg⟩ := h.esc
    exact ⟨t, fr, (Below.heap_setCell _ _ _ _ hbf).trans hg⟩
  · rcases (show i = 0 ∨ i = 1 by omega) with rfl | rfl
    · exact ⟨u, y, _, heap_set hb u, rfl⟩
    · exact ⟨x, u, _, heap_set hb u, rfl⟩

theorem at_ret {J : Nat → Act → World → Prop} {Q : Exit → Act → World → Prop} {a : Act} {w : World} (h : Q .ret a w) : AtLabel J Q .ret a w := h
theorem grow_none' {w W : World} (h : Below w.heap.size w W) : w.grownBy W none := ⟨h.os, h.tape, h.output, h.size, fun k hk _ => h.block k hk⟩
theorem FSt.later {L : List UInt8} {J : List FY → World → Prop} {bf : Nat} {pre : List FY} {R : ByteArray} {W W' : World} (h : FSt L J bf pre R W) (hJ : StayBut bf J) (hb : Below W.heap.size W W') : FSt L J bf pre R W' := by
  obtain ⟨x, y, fr, hbx, rfl⟩ := h.box
  exact ⟨hJ _ _ _ _ h.j (grow_none' hb) (fun r e => by cases e), h.esc.below hb h.big, Nat.lt_of_lt_of_le h.big hb.size, ⟨x, y, _, (hb.block bf (Array.getElem?_eq_some_iff.1 hbx).1).trans hbx, rfl⟩, h.size, h.todo⟩

theorem FSt.lt {L : List UInt8} {J : List FY → World → Prop} {bf : Nat} {pre : List FY} {R : ByteArray} {W : World} (h : FSt L J bf pre R W) : bf < W.heap.size := by
  obtain ⟨_, _, _, hb, _⟩ := h.box; exact (Array.getElem?_eq_some_iff.1 hb).1

theorem grow_none {w W : World} (h : Below w.heap.size w W) : w.grownBy W none := ⟨h.os, h.tape, h.output, h.size, fun k hk _ => h.block k hk⟩

set_option maxRecDepth 100000 in
set_option maxHeartbeats 2000000 in
theorem fields1_box (n b n₀ : Nat) (s : ByteArray) (w : World) (hs : s.size ≤ 35184372088000) (hc : w.cell? ⟨b, 0, none⟩ = some (.string s)) (hb : b < w.heap.size) (hE : EscAt w) (hn : 0 < n₀) (hn₀ : n₀ ≤ w.heap.size) :
    SeqBox Fence.wide n Tryd.prog 69 #[.pointer (some ⟨b, 0, none⟩)] fEnc n₀ (fun xs => xs = fieldsY s.data.toList) (fun pre => pre <+: fieldsY s.data.toList) (fieldsY s.data.toList).length w := by
  intro l J Jx W hW hJ hJx hY h0
  have hbW : b < W.heap.size := Nat.lt_of_lt_of_le hb hW.size
  have hcW : W.cell? ⟨b, 0, none⟩ = some (.string s) := (hW.cell (p := ⟨b, 0, none⟩) hb).trans hc
  have HEW := Lib.hid (hE.below hW (by omega))
  have hbig : 0 < W.heap.size := by have := hW.size; omega
  have HJ := Lib.hid hJ; have HJX := Lib.hid hJx; have HY := Lib.hid hY; have H0 := Lib.hid h0
  clear hE hJ hJx hY h0 hW
  have hc2 : (W.alloc (.cells #[.string ⟨#[]⟩, .bool false] 50)).cell? ⟨b, 0, none⟩ = some (.string s) := by rw [World.cell?_alloc_past _ _ _ hbW]; exact hcW
  refine callsIn_of_wp Tryd.func69 rfl trivial ?_ rfl
  simp only [Tryd.ntmps69, List.size_toArray, List.length_cons, List.length_nil, Nat.reduceAdd, Nat.reduceSub, Array.replicate_succ, Array.replicate_zero, List.push_toArray, List.append_toArray, List.nil_append, List.cons_append]
  refine wpIn_scope_labels (fJ s.data.toList J l W.heap.size b) fMu ?_ ?_ ?_
  · rintro lab a w0 ⟨pre, R, m, hst, _, hl⟩
    match lab, hl with
    | 0, _ => rfl
    | 1, _ => rfl
    | 2, _ => rfl
  · intro hp
    have HP := Lib.hid hp; clear hp
    by_cases hz : 0 < s.size
    · have hem := nonempty_of s hz
      gi_wp2
      gi_region
      gi_wp2
      rename_i hcont
      refine wpIn_label ?_
      refine hcont _ _ ?_
      refine HP.out 1 _ _ ⟨[], s, 0, ⟨?_, ?_, ?_, ?_, hs, ?_⟩, ⟨_, _, _, _, _, _, _, _, _, _, _, _, _, _, _, _, _, _, _, _, _, _, _, _, _, _, _, _, _, _, _, _, _, _, _, _, _, _, _, _, _, _, _, _, _, _, rfl⟩, trivial⟩
      · exact HJ.out _ W _ none H0.out (grow_none (bl_drew (bl_alloc _ (Below.refl _ _)))) (fun r e => by cases e)
      · exact HEW.out.below (bl_drew (bl_alloc _ (Below.refl _ _))) hbig
      · simp <;> omega
      · exact ⟨_, _, _, heap_alloc_new W _, rfl⟩
      · exact ⟨s.size + 1, by omega, by unfold fieldsY; rw [if_neg (by rw [← ByteArray.toList_eq, hem]; simp), len_data]; rfl⟩
    · have hem : s.toList.isEmpty = true := by rw [isEmpty_size]; exact decide_eq_true (by omega)
      gi_wp2
      gi_region
      gi_wp2
      refine at_ret (bodyPost_ret (results_none rfl _ _ _) rfl ?_)
      refine ⟨⟨_, rfl⟩, .inl ⟨[], ?_, HJ.out _ W _ none H0.out (grow_none (bl_drew (bl_alloc _ (Below.refl _ _)))) (fun r e => by cases e)⟩⟩
      unfold fieldsY; rw [← ByteArray.toList_eq, hem]; rfl
  · rintro lab a w0 ⟨pre, R, m, hst, ⟨u2, u6, u7, u8, u9, u10, u11, u12, u13, u14, u15, u16, u17, u18, u19, u20, u21, u22, u23, u24, u25, u26, u27, u28, u29, u30, u31, u32, u33, u34, u35, u36, u37, u38, u39, u40, u41, u42, u43, u44, u45, u46, u47, u48, u49, u50, rfl⟩, hl⟩ hp
    have HP := Lib.hid hp; clear hp
    have hsm : R.size ≤ maxLen := by unfold maxLen; have := hst.size; omega
    match lab, hl with
    | 1, _ =>
      cases hq : Lib.hasPrefix R.data.toList [34]
      · rw [hasPrefix_quote] at hq
        have hne : R.data.toList.headD 0 ≠ 34 := by simpa using hq
        have HQ := Lib.hid (((hasPrefix_quote R).trans hq)); clear hq
        have HO := Lib.hid (oneF_bare hne); clear hne
        have HST := Lib.hid hst
        obtain ⟨x, y, fr, hbox, rfl⟩ := hst.box
        obtain ⟨c0, c1, f0, f1⟩ := cell_of2 hbox
        have HBOX := Lib.hid hbox
        have hbn := bareN_le R.data.toList
        rw [len_data] at hbn
        clear hst hbox
        simp only [behind, findLabel]
        gi_wp2_with (first
          | (refine ⟨trivial, (fun h => by cases h), ?_⟩; gi_at_call 70; refine (callsIn_wide.2 (Tryd.strings_HasPrefix _ _ _)).mono ?_; rintro e w' ⟨rfl, hw⟩; obtain rfl : w0 = w' := hw.symm; rw [HQ.out])
          | (refine ⟨trivial, (fun h => by cases h), ?_⟩; gi_at_call 50; refine (callsIn_wide.2 (bareSize_any _ _ hsm)).mono ?_; rintro e w' ⟨rfl, rfl⟩))
        refine wpIn_goto ?_
        refine ⟨⟨pre, R, _, (HST.out.set HJ.out (by omega) 0 _ (by omega)).set HJ.out (by omega) 1 _ (by omega), ⟨_, _, _, _, _, _, _, _, _, _, _, _, _, _, _, _, _, _, _, _, _, _, _, _, _, _, _, _, _, _, _, _, _, _, _, _, _, _, _, _, _, _, _, _, _, _, rfl⟩, ?_⟩, ?_⟩
        · rw [HO.out]
          exact ⟨rfl, by rw [← extract_take]; exact heap_set2 HBOX.out _ _⟩
        · simp [fMu, rsz]
      · rw [hasPrefix_quote] at hq
        have hne : R.data.toList.headD 0 = 34 := by simpa using hq
        have HQ := Lib.hid (((hasPrefix_quote R).trans hq)); clear hq
        have HN := Lib.hid hne; clear hne
        have HST := Lib.hid hst
        clear hst
        simp only [behind, findLabel]
        gi_wp2_with (refine ⟨trivial, (fun h => by cases h), ?_⟩; gi_at_call 70; refine (callsIn_wide.2 (Tryd.strings_HasPrefix _ _ _)).mono ?_; rintro e w' ⟨rfl, hw⟩; obtain rfl : w0 = w' := hw.symm; rw [HQ.out])
        refine wpIn_goto ?_
        refine ⟨⟨pre, R, _, HST.out, ⟨_, _, _, _, _, _, _, _, _, _, _, _, _, _, _, _, _, _, _, _, _, _, _, _, _, _, _, _, _, _, _, _, _, _, _, _, _, _, _, _, _, _, _, _, _, _, rfl⟩, HN.out⟩, ?_⟩
        simp [fMu, rsz]
    | 0, hl =>
      have HO := Lib.hid (oneF_quoted hl); clear hl
      have HST := Lib.hid hst
      obtain ⟨x, y, fr, hbox, rfl⟩ := hst.box
      obtain ⟨c0, c1, f0, f1⟩ := cell_of2 hbox
      have hbfs : W.heap.size < w0.heap.size := (Array.getElem?_eq_some_iff.1 hbox).1
      have HBOX := Lib.hid hbox
      have hRs := hst.size
      clear hst hbox
      simp only [behind, findLabel]
      gi_wp2_with fail
      have hst2 := (HST.out.set HJ.out (by omega) 0 (.string ⟨#[]⟩) (by omega)).set HJ.out (by omega) 1 (.bool true) (by omega)
      have hbox2 := heap_set2 HBOX.out (.string ⟨#[]⟩) (.bool true)
      obtain ⟨W2, hW2⟩ : ∃ W2, (w0.setCell ⟨W.heap.size, 0, none⟩ (.string ⟨#[]⟩)).setCell ⟨W.heap.size, 1, none⟩ (.bool true) = W2 := ⟨_, rfl⟩
      rw [hW2] at hst2 hbox2 ⊢
      clear hW2 c0 c1 f0 f1 hbfs
      refine ⟨trivial, (fun h => by cases h), ?_⟩
      refine (callsIn_wide.2 (readQuoted_any R W2 hRs hst2.esc hst2.big)).mono ?_
      rintro e w1 ⟨rfl, hbl⟩
      have HST3 := Lib.hid (hst2.later HJ.out hbl)
      have hbox3 := (hbl.block _ (Array.getElem?_eq_some_iff.1 hbox2).1).trans hbox2
      obtain ⟨c0, c1, f0, f1⟩ := cell_of2 hbox3
      have HBOX3 := Lib.hid hbox3
      clear hbox3 hbox2 hst2 hbl
      gi_wp2
      rename_i hcont
      refine wpIn_label ?_
      refine hcont _ _ ?_
      refine HP.out 2 _ _ ⟨pre, R, _, HST3.out.set HJ.out (by omega) 0 _ (by omega), ⟨_, _, _, _, _, _, _, _, _, _, _, _, _, _, _, _, _, _, _, _, _, _, _, _, _, _, _, _, _, _, _, _, _, _, _, _, _, _, _, _, _, _, _, _, _, _, rfl⟩, ?_⟩ ?_
      · rw [HO.out]; exact ⟨rfl, heap_set HBOX3.out _⟩
      · simp [fMu, rsz]
    | 2, hl =>
      have hkle := oneF_le R.data.toList
      obtain ⟨⟨T, q, k⟩, ho⟩ : ∃ x, oneF R.data.toList = x := ⟨_, rfl⟩
      rw [ho] at hl hkle
      obtain ⟨rfl, hbox⟩ := hl
      rw [len_data] at hkle
      simp only at hkle hbox
      have hfb := fBad_of ho
      obtain ⟨c0, c1, f0, f1⟩ := cell_of2 hbox
      have HO := Lib.hid ho
      have HST := Lib.hid hst
      have HBOX := Lib.hid hbox
      have hRs := hst.size
      clear hst ho hbox
      cases hbad : fBad R.data.toList
      case true =>
        have HT := Lib.hid (todo_bad HST.out.todo hbad)
        rw [hbad] at hfb
        obtain ⟨fn, tmps, assign, body, hy, hR⟩ := HY.out pre (⟨#[]⟩, false, false) w0 HST.out.j (by rw [HT.out]; simp) HST.out.lt
        clear hbad
        by_cases hk0 : k = 0
        · have e0 : ((k : Int) == 0) = true := beq_iff_eq.2 (by omega)
          clear hfb hk0
          simp only [behind, findLabel]
          gi_wp2
          refine ⟨(fun h => by cases h), hR.mono ?_⟩
          rintro e W3 (⟨rfl, hJ3, _⟩ | ⟨rfl, hJx3⟩)
          · gi_wp2
            refine at_ret (bodyPost_ret (results_none rfl _ _ _) rfl ?_)
            exact ⟨⟨_, rfl⟩, .inl ⟨_, HT.out.symm, hJ3⟩⟩
          · gi_wp2
            refine at_ret (bodyPost_ret (results_none rfl _ _ _) rfl ?_)
            exact ⟨⟨_, rfl⟩, .inr ⟨_, by rw [HT.out]; exact List.prefix_refl _, hJx3⟩⟩
        · have e0 : ((k : Int) == 0) = false := beq_eq_false_iff_ne.2 (by omega)
          have hk1 : k < R.size := by
            rcases Nat.lt_or_ge k R.size with h | h
            · exact h
            · rw [show (k == 0) = false from beq_eq_false_iff_ne.2 hk0, decide_eq_true h] at hfb; simp at hfb
          have hEs : 0 < (R.extract k R.size).size := by simp; omega
          have e1 := nonempty_of _ hEs
          have e2 : (((R.extract k R.size)[0].toNat : Int) != 32) = true := by
            rw [show (k == 0) = false from beq_eq_false_iff_ne.2 hk0, decide_eq_false (by omega), (drop_head R k hk1).1] at hfb
            simp only [Bool.false_or, Bool.not_false, Bool.true_and] at hfb
            rw [bne_iff_ne]; intro e
            have : R[k] = 32 := by apply UInt8.toNat_inj.1; have h2 : (R.extract k R.size)[0] = R[k] := by simp [ByteArray.getElem_extract]
                                   rw [← h2]; show _ = 32; omega
            rw [this] at hfb; simp at hfb
          clear hfb hk0
          simp only [behind, findLabel]
          gi_wp2
          refine ⟨(fun h => by cases h), hR.mono ?_⟩
          rintro e W3 (⟨rfl, hJ3, _⟩ | ⟨rfl, hJx3⟩)
          · gi_wp2
            refine at_ret (bodyPost_ret (results_none rfl _ _ _) rfl ?_)
            exact ⟨⟨_, rfl⟩, .inl ⟨_, HT.out.symm, hJ3⟩⟩
          · gi_wp2
            refine at_ret (bodyPost_ret (results_none rfl _ _ _) rfl ?_)
            exact ⟨⟨_, rfl⟩, .inr ⟨_, by rw [HT.out]; exact List.prefix_refl _, hJx3⟩⟩
      case false =>
        obtain ⟨F, hF, hfy⟩ := todo_ok HST.out.todo hbad HO.out
        rw [hbad] at hfb
        clear hbad
        have hk0 : k ≠ 0 := by intro e; rw [e] at hfb; simp at hfb
        have e0 : ((k : Int) == 0) = false := beq_eq_false_iff_ne.2 (by omega)
        rw [drop_empty] at hfy
        obtain ⟨fn, tmps, assign, body, hy, hR⟩ := HY.out pre (T, q, true) w0 HST.out.j (by rw [hfy]; simp) HST.out.lt
        by_cases hk1 : k < R.size
        case neg =>
          have hz : (R.extract k R.size).size = 0 := by simp; omega
          have e1 : (R.extract k R.size).toList.isEmpty = true := by rw [isEmpty_size]; exact decide_eq_true hz
          rw [decide_eq_true (show R.size ≤ k by omega), if_pos rfl] at hfy
          have HFY := Lib.hid hfy; clear hfy hfb hk0 hz
          simp only [behind, findLabel]
          gi_wp2
          refine ⟨(fun h => by cases h), hR.mono ?_⟩
          rintro e W3 (⟨rfl, hJ3, hk3⟩ | ⟨rfl, hJx3⟩)
          · gi_wp2
            refine at_ret (bodyPost_ret (results_none rfl _ _ _) rfl ?_)
            exact ⟨⟨_, rfl⟩, .inl ⟨_, by rw [HFY.out]; simp, hJ3⟩⟩
          · gi_wp2
            refine at_ret (bodyPost_ret (results_none rfl _ _ _) rfl ?_)
            exact ⟨⟨_, rfl⟩, .inr ⟨_, by rw [HFY.out]; exact List.prefix_append _ _, hJx3⟩⟩
        case pos =>
          have hEs : 0 < (R.extract k R.size).size := by simp; omega
          have e1 := nonempty_of _ hEs
          have e2 : (((R.extract k R.size)[0].toNat : Int) != 32) = false := by
            rw [show (k == 0) = false from beq_eq_false_iff_ne.2 hk0, decide_eq_false (by omega), (drop_head R k hk1).1] at hfb
            simp only [Bool.false_or, Bool.not_false, Bool.true_and] at hfb
            have h3 : R[k] = 32 := by simpa using hfb.symm
            have h2 : (R.extract k R.size)[0] = R[k] := by simp [ByteArray.getElem_extract]
            rw [h2, h3]; rfl
          rw [decide_eq_false (show ¬ R.size ≤ k by omega), if_neg (by simp)] at hfy
          have HFY := Lib.hid hfy; clear hfy hfb hk0
          obtain ⟨R2, hR2⟩ : ∃ R2, (R.extract k R.size).extract 1 (R.size - k) = R2 := ⟨_, rfl⟩
          have hd2 : R2.data.toList = R.data.toList.drop (k + 1) := by
            rw [← hR2, show R.size - k = (R.extract k R.size).size by simp, extract_drop, extract_drop, List.drop_drop]
          have HD2 := Lib.hid hd2; have HR2 := Lib.hid hR2; clear hd2 hR2
          simp only [behind, findLabel]
          gi_wp2
          refine ⟨(fun h => by cases h), hR.mono ?_⟩
          rintro e W3 (⟨rfl, hJ3, hk3⟩ | ⟨rfl, hJx3⟩)
          · gi_wp2
            have hsz2 : R2.size = R.size - (k + 1) := by rw [← len_data, HD2.out, List.length_drop, len_data]
            refine wpIn_goto ?_
            rw [HR2.out]
            refine ⟨⟨pre ++ [(T, q, true)], R2, _, ⟨hJ3, HST.out.esc.below hk3.1 hn, Nat.lt_of_lt_of_le HST.out.big hk3.1.size, ⟨_, _, _, hk3.2.trans HBOX.out, rfl⟩, by omega, ⟨F, by omega, by rw [HFY.out, HD2.out]⟩⟩, ⟨_, _, _, _, _, _, _, _, _, _, _, _, _, _, _, _, _, _, _, _, _, _, _, _, _, _, _, _, _, _, _, _, _, _, _, _, _, _, _, _, _, _, _, _, _, _, rfl⟩, trivial⟩, ?_⟩
            simp only [fMu, rsz]
            show 3 * R2.size + 3 < 3 * R.size + 1
            omega
          · gi_wp2
            refine at_ret (bodyPost_ret (results_none rfl _ _ _) rfl ?_)
            exact ⟨⟨_, rfl⟩, .inr ⟨_, by rw [HFY.out]; exact List.prefix_append _ _, hJx3⟩⟩
end Go.Proofs.YtdcjnklagklckaaDoor
