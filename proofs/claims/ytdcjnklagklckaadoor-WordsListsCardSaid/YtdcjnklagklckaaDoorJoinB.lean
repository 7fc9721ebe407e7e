/- words.Join returns what joinL says. -/
import Derived.Test.YtdcjnklagklckaaDoorJoinA
import Derived.Test.YtdcjnklagklckaaDoorWordsU
namespace Go.Proofs.YtdcjnklagklckaaDoor
open Go.RowKit Go.Shelf
set_option linter.unusedVariables false

theorem made_empty (n : Nat) : (madeCells (Value.string ⟨#[]⟩).cells (n * 1)).toList = List.replicate n (Value.string ⟨#[]⟩) := by
  apply List.ext_getElem
  · simp [size_madeCells]
  · intro i h1 h2
    simp [madeCells, Value.cells, Nat.mod_one]
/-- The strings that are written, k of them. -/
def wcells (fs : List FD) (k : Nat) : List Value := ((fs.take k).map fun f => Value.string ⟨(writL f).toArray⟩) ++ List.replicate (fs.length - k) (.string ⟨#[]⟩)
theorem wcells_len (fs : List FD) (k : Nat) (h : k ≤ fs.length) : (wcells fs k).length = fs.length := by simp [wcells]; omega
theorem wcells_get (fs : List FD) (k : Nat) (h : k < fs.length) : (wcells fs k)[k]? = some (.string ⟨#[]⟩) := by
  unfold wcells
  rw [List.getElem?_append_right (by simp <;> omega)]
  simp [List.getElem?_replicate]
  omega
theorem wcells_set (fs : List FD) (k : Nat) (h : k < fs.length) : (wcells fs k).set k (.string ⟨(writL fs[k]).toArray⟩) = wcells fs (k + 1) := by
  unfold wcells
  have hl : ((fs.take k).map fun f => Value.string ⟨(writL f).toArray⟩).length = k := by simp; omega
  rw [List.set_append_right _ _ (by omega), hl, Nat.sub_self, List.take_succ_eq_append_getElem h, List.map_append, List.append_assoc]
  congr 1
  rw [show fs.length - k = (fs.length - (k + 1)) + 1 by omega, List.replicate_succ]; rfl

theorem ret_join {a : ByteArray} {b : Int} {fs : List FD} {l : List UInt8} (h1 : a = ⟨l.toArray⟩) (h : joinL fs = (l, b)) : Ending.returned (.tuple #[.string a, .int .i64 b]) = .returned (.tuple #[.string ⟨(joinL fs).1.toArray⟩, .int .i64 (joinL fs).2]) := by rw [h, h1]

def JoinPost (fs : List FD) (w : World) (e : Ending) (w' : World) : Prop := e = .returned (.tuple #[.string ⟨(joinL fs).1.toArray⟩, .int .i64 (joinL fs).2]) ∧ Below w.heap.size w w'

/-- Behind the loop: the line, or it is too long. -/
theorem wmap_all (fs : List FD) : wcells fs fs.length = ((fs.map fun f => (⟨(writL f).toArray⟩ : ByteArray))).map Value.string := by
  unfold wcells; simp

theorem join_too (v : Value) (fs : List FD) (w : World) (h : FSl w v fs) (htb : tooB fs = true) :
    Calls Tryd.prog 27 #[v] w (JoinPost fs w) := by
  have HF := Lib.hid h
  have HTB := Lib.hid htb; clear htb
  have HN : Hid (joinL fs = ([], 3)) := Lib.hid (by unfold joinL; rw [HTB.out]; rfl)
  go_enter Tryd.func27, Tryd.ntmps27
  go_wp2_with (go_at_call 48; refine (tooLong_any _ fs _ HF.out).mono ?_; rintro e w' ⟨rfl, hb⟩; rw [HTB.out]; have HB := Lib.hid hb; clear hb)
  go_ret2
  exact ⟨ret_join rfl HN.out, HB.out⟩

theorem bareSize_q (s : ByteArray) (w : World) (hs : s.size ≤ maxLen) : Calls Tryd.prog 50 #[.string s] w fun e w' => e = .returned (.int .i64 (bareN s.data.toList)) ∧ w' = w :=
  (bareSize_any s w hs).mono fun _ _ ⟨h, hw⟩ => ⟨h, hw.symm⟩
theorem wr_q (f : FD) (h : f.2 = true) : writL f = quoteL f.1.data.toList := by unfold writL; rw [if_pos h]
theorem wr_b (f : FD) (h : f.2 = false) : writL f = f.1.data.toList := by unfold writL; rw [h]; rfl
theorem lineL_nil : lineL [] = [] := rfl
theorem Below.keepRow {w W : World} (h : Below w.heap.size w W) : ∀ (g off : Nat) (v : Value), g < w.heap.size → w.cell? ⟨g, off, none⟩ = some v → W.cell? ⟨g, off, none⟩ = some v := fun g off v hg hv => (h.cell (p := ⟨g, off, none⟩) hg).trans hv

set_option maxRecDepth 20000 in
set_option maxHeartbeats 2000000 in
theorem join_cells (g off c : Nat) (fs : List FD) (w : World) (h : FSl w (.slice (some ⟨g, off, none⟩) fs.length c) fs) (htb : tooB fs = false) (hgl : g < w.heap.size)
    (hcell : ∀ i (h : i < fs.length), w.cell? ⟨g, off + i * 2, none⟩ = some (.string fs[i].1) ∧ w.cell? ⟨g, off + i * 2 + 1, none⟩ = some (.bool fs[i].2))
    (hE : EscAt w) (hg : 0 < w.heap.size) :
    Calls Tryd.prog 27 #[.slice (some ⟨g, off, none⟩) fs.length c] w (JoinPost fs w) := by
  have HF := Lib.hid h; clear h
  have HTB := Lib.hid htb; clear htb
  obtain ⟨hn64, hn2000⟩ := tooB_no HTB.out
  have H2000 := Lib.hid hn2000; clear hn2000
  obtain ⟨i0, hi, hz0, hz1, hz2⟩ := info_parts info_str
  have HE := Lib.hid hE; clear hE
  have HC := Lib.hid hcell; clear hcell
  go_enter Tryd.func27, Tryd.ntmps27
  go_wp2_with (first
    | (go_at_call 48; refine (tooLong_any _ fs _ HF.out).mono ?_; rintro e w' ⟨rfl, hb⟩; rw [HTB.out]; have HB := Lib.hid hb; clear hb)
    | (refine wpList_make_full _ rfl _ _ 64 rfl w.heap.size 9 i0 (.string ⟨#[]⟩) 1 Tryd.underlying64 hi hz0 hz1 .i64 .i64 fs.length fs.length fs.length rfl rfl rfl rfl (by rw [hz2]; omega) (by unfold maxLen; omega) HB.out.size ?_; intro w2 hown hgrow))
  have hlt := (hown.lt _ rfl).2
  have hge := HB.out.size
  have hrow : w2.ownsRow w.heap.size 9 1 (.slice (some ⟨w'.heap.size, 0, none⟩) fs.length fs.length) fs.length (wcells fs 0) := by
    rw [made_empty] at hown; exact hown
  have hbw : Below w.heap.size w w2 := HB.out.grown hgrow hge (fun k e => by cases e)
  have HROW := Lib.hid hrow; have HB2 := Lib.hid hbw
  obtain ⟨G, hG⟩ : ∃ G, w'.heap.size = G := ⟨_, rfl⟩
  rw [hG] at HROW hge ⊢
  clear hown hgrow hrow hbw hlt hG
  go_wp2_with fail
  go_loopw [15] (fun i wr => ∃ k : Nat, k ≤ fs.length ∧ i = .int .i64 k ∧ Hid (Below w.heap.size w wr) ∧ Hid (wr.ownsRow w.heap.size 9 1 (.slice (some ⟨G, 0, none⟩) fs.length fs.length) fs.length (wcells fs k)) ∧ Hid ((fs.take k).all okF = true)) (fun i _ => fs.length - (intOf i).toNat)
  case atStart => exact ⟨0, by omega, rfl, HB2, HROW, Lib.hid rfl⟩
  case round =>
    obtain ⟨k, hk, rfl, HBR, HR, HOK⟩ := hrel
    by_cases hlt : k < fs.length
    case neg =>
      have hke : k = fs.length := by omega
      have hrow := HR.out
      rw [hke, wmap_all] at hrow
      have HJ := Lib.hid hrow; clear hrow
      have hall : fs.all okF = true := by have := HOK.out; rwa [List.take_of_length_le (by omega)] at this
      have HEND := Lib.hid (joinL_end HTB.out hall)
      have hmap : ((fs.map fun f => (⟨(writL f).toArray⟩ : ByteArray)).map (·.data.toList)) = fs.map writL := by rw [List.map_map]; rfl
      have HM := Lib.hid hmap; clear hmap hall
      have hLL := lineL_len HTB.out
      have hj : (Lib.join ((fs.map fun f => (⟨(writL f).toArray⟩ : ByteArray)).map (·.data.toList)) [32]).length ≤ 140737488355328 := by rw [HM.out]; show (lineL fs).length ≤ _; omega
      have HJL := Lib.hid hj; clear hj
      obtain ⟨LL, hLLe⟩ : ∃ LL : ByteArray, (⟨(lineL fs).toArray⟩ : ByteArray) = LL := ⟨_, rfl⟩
      have hLs : LL.size = (lineL fs).length := by rw [← hLLe]; show (lineL fs).toArray.size = _; simp
      have HLE := Lib.hid hLLe; clear hLLe
      have HCALL : Hid (∀ W, W.ownsRow w.heap.size 9 1 (.slice (some ⟨G, 0, none⟩) fs.length fs.length) fs.length ((fs.map fun f => (⟨(writL f).toArray⟩ : ByteArray)).map Value.string) → Calls Tryd.prog 51 #[.slice (some ⟨G, 0, none⟩) fs.length fs.length, .string ⟨#[32]⟩] W fun e w' => e = .returned (.string LL) ∧ Below W.heap.size W w') := Lib.hid (fun W hW => by
        have hlen : (fs.map fun f => (⟨(writL f).toArray⟩ : ByteArray)).length = fs.length := List.length_map _
        have := join_row (B := w.heap.size) (W := W) (v := .slice (some ⟨G, 0, none⟩) fs.length fs.length) (P := fs.map fun f => (⟨(writL f).toArray⟩ : ByteArray)) ⟨#[32]⟩ (by rw [hlen]; exact hW) (by omega) HJL.out
        refine this.mono ?_
        rintro e w' ⟨rfl, hb⟩
        refine ⟨ret_str ?_, hb⟩
        rw [← HLE.out, HM.out]; rfl)
      by_cases hbig : 8192 < (lineL fs).length
      case' pos =>
        have HN := Lib.hid (HEND.out.trans (if_pos hbig))
      case' neg =>
        have HN := Lib.hid (HEND.out.trans (if_neg hbig))
      all_goals go_wp2_with (go_at_call 51; refine (HCALL.out _ HJ.out).mono ?_; rintro e w9 ⟨rfl, hb⟩; have HB9 := Lib.hid hb; clear hb)
      all_goals go_ret2
      all_goals first
        | exact ⟨ret_join rfl HN.out, bl_call HBR.out HB9.out⟩
        | exact ⟨ret_join HLE.out.symm HN.out, bl_call HBR.out HB9.out⟩
    case pos =>
      obtain ⟨h0, h1⟩ := HC.out k hlt
      have c0 := (HBR.out.cell (p := ⟨g, off + k * 2, none⟩) hgl).trans h0
      have c1 := (HBR.out.cell (p := ⟨g, off + k * 2 + 1, none⟩) hgl).trans h1
      clear h0 h1
      have hsz : fs[k].1.size ≤ 2000 := H2000.out fs[k] (List.getElem_mem hlt)
      obtain ⟨S, hS⟩ : ∃ S, fs[k].1 = S := ⟨_, rfl⟩
      rw [hS] at c0 hsz
      cases hq : fs[k].2
      case true =>
        have hwr : (⟨(writL fs[k]).toArray⟩ : ByteArray) = ⟨(quoteL S.data.toList).toArray⟩ := by rw [wr_q _ hq, hS]
        have HWR := Lib.hid hwr; clear hwr
        have HOK2 := Lib.hid (okF_step hlt HOK.out (by unfold okF; rw [hq]; rfl))
        rw [hq] at c1
        have HS := Lib.hid hS; have HQ := Lib.hid hq; clear hS hq
        go_wp2_with (go_at_call 21; refine (quote_any S _ (by omega) ((HE.out.below HBR.out hg).below (bl_alloc _ (Below.refl _ _)) (Nat.lt_of_lt_of_le hg HBR.out.size)) (by have := HBR.out.size; rw [World.size_alloc]; omega)).mono ?_; rintro e w3 ⟨rfl, hb⟩; have hr2 := row_below (HR.out.alloc _) hb; have cs := (hr2.cellAt k (by omega)).trans (wcells_get fs k hlt); have fz := hr2.frozenAt k; have HR2 := Lib.hid hr2; have HB3 := Lib.hid (bl_call (bl_alloc _ HBR.out) hb); clear hr2 hb)
        go_roundw
        case rel =>
          refine ⟨k + 1, by omega, by go_num, Lib.hid (HB3.out.setCell (p := ⟨G, k, none⟩) hge _), Lib.hid ?_, HOK2⟩
          have := (HR2.out.stored k (.string ⟨(quoteL S.data.toList).toArray⟩)).1
          rw [← HWR.out, wcells_set fs k hlt, HWR.out] at this
          exact this
        case measure => simp [intOf]; omega
      case false =>
        have hok : okF fs[k] = bareB S.data.toList := by unfold okF; rw [hq, hS]; rfl
        have hwr : (⟨(writL fs[k]).toArray⟩ : ByteArray) = S := by rw [wr_b _ hq, hS]
        have HBN := Lib.hid (hok.trans (bareB_N S))
        have HWR := Lib.hid hwr; clear hwr hok
        rw [hq] at c1
        have HS := Lib.hid hS; have HQ := Lib.hid hq; clear hS hq
        by_cases h0 : 0 < S.size
        case neg =>
          have hem : S.toList.isEmpty = true := by rw [isEmpty_size]; exact decide_eq_true (by omega)
          have HN := Lib.hid (joinL_bad HTB.out (okF_bad hlt (by rw [HBN.out, decide_eq_true (by omega)]; rfl)))
          go_wp2_with fail
          go_quiet (fail)
          go_wp2_with fail
          go_ret2
          exact ⟨ret_join rfl HN.out, bl_drewN _ (bl_alloc _ HBR.out)⟩
        case pos =>
          have hem := nonempty_of S h0
          by_cases hbn : bareN S.data.toList = S.size
          case' pos =>
            have HOK2 := Lib.hid (okF_step hlt HOK.out (by rw [HBN.out, decide_eq_false (by omega), decide_eq_true hbn]; rfl))
            have j1 : ((bareN S.data.toList : Int) == (S.size : Int)) = true := by rw [beq_iff_eq]; omega
          case' neg =>
            have HN := Lib.hid (joinL_bad HTB.out (okF_bad hlt (by rw [HBN.out, decide_eq_false hbn]; simp)))
            have j1 : ((bareN S.data.toList : Int) == (S.size : Int)) = false := by rw [beq_eq_false_iff_ne]; omega
          all_goals
            have HBNN := Lib.hid hbn; clear hbn
            have HSM : Hid (S.size ≤ maxLen) := Lib.hid (by unfold maxLen; omega)
            have hr2 := HR.out.alloc (.cells #[.string S, .bool false] 50)
            have cs := (hr2.cellAt k (by omega)).trans (wcells_get fs k hlt)
            have fz := hr2.frozenAt k
            have HR2 := Lib.hid hr2; clear hr2
            go_wp2_with fail
            go_quiet ((go_at_call 50; exact Calls.quiet_of_same (bareSize_q S _ HSM.out)))
          all_goals go_wp2_with fail
          all_goals first
            | (go_ret2
               exact ⟨ret_join rfl HN.out, bl_drewN _ (bl_alloc _ HBR.out)⟩)
            | (go_roundw
               case rel =>
                 refine ⟨k + 1, by omega, by go_num, Lib.hid ((bl_drewN _ (bl_alloc _ HBR.out)).setCell (p := ⟨G, k, none⟩) hge _), Lib.hid ?_, HOK2⟩
                 have := (((HR2.out.kept (row := none) (grow_none' (bl_drewN nq (Below.refl _ _))) (.inr (fun e => by cases e))).stored k (.string S))).1
                 rw [← HWR.out, wcells_set fs k hlt, HWR.out] at this
                 exact this
               case measure => simp [intOf]; omega)

set_option maxRecDepth 20000 in
theorem tooLong_zero (a : Option Addr) (ca : Nat) (w : World) : Calls Tryd.prog 48 #[.slice a 0 ca] w fun e w' => e = .returned (.bool false) ∧ Below w.heap.size w w' := by
  go_enter Tryd.func48, Tryd.ntmps48
  go_wp2_with fail
  refine wp_loop_rounds 1 ?_
  rw [rounds_succ]
  go_wp2_with fail
  go_ret
  exact ⟨rfl, Below.refl _ _⟩
set_option maxRecDepth 20000 in
set_option maxHeartbeats 1000000 in
theorem join_none (a : Option Addr) (ca : Nat) (w : World) : Calls Tryd.prog 27 #[.slice a 0 ca] w (JoinPost [] w) := by
  obtain ⟨i0, hi, hz0, hz1, hz2⟩ := info_parts info_str
  have HCALL : Hid (∀ W G c, W.ownsRow w.heap.size 9 1 (.slice (some ⟨G, 0, none⟩) 0 c) 0 [] → Calls Tryd.prog 51 #[.slice (some ⟨G, 0, none⟩) 0 c, .string ⟨#[32]⟩] W fun e w' => e = .returned (.string ⟨#[]⟩) ∧ Below W.heap.size W w') := Lib.hid (fun W G c hW => by
    refine (join_row (B := w.heap.size) (W := W) (v := .slice (some ⟨G, 0, none⟩) 0 c) (P := []) ⟨#[32]⟩ hW (by simp) (by decide)).mono ?_
    rintro e w' ⟨rfl, hb⟩; exact ⟨rfl, hb⟩)
  go_enter Tryd.func27, Tryd.ntmps27
  go_wp2_with (first
    | (go_at_call 48; refine (tooLong_zero _ _ _).mono ?_; rintro e w' ⟨rfl, hb⟩; have HB := Lib.hid hb; clear hb)
    | (refine wpList_make_full _ rfl _ _ 64 rfl w.heap.size 9 i0 (.string ⟨#[]⟩) 1 Tryd.underlying64 hi hz0 hz1 .i64 .i64 0 0 0 rfl rfl rfl rfl (by rw [hz2]; omega) (by unfold maxLen; omega) HB.out.size ?_; intro w2 hown hgrow))
  have hge := HB.out.size
  have hrow : w2.ownsRow w.heap.size 9 1 (.slice (some ⟨w'.heap.size, 0, none⟩) 0 0) 0 [] := by rw [made_empty] at hown; exact hown
  have hbw : Below w.heap.size w w2 := HB.out.grown hgrow hge (fun k e => by cases e)
  have HROW := Lib.hid hrow; have HB2 := Lib.hid hbw
  clear hown hgrow hrow hbw
  go_wp2_with fail
  refine wp_loop_rounds 1 ?_
  rw [rounds_succ]
  go_wp2_with (go_at_call 51; refine (HCALL.out _ _ _ HROW.out).mono ?_; rintro e w9 ⟨rfl, hb⟩; have HB9 := Lib.hid hb; clear hb)
  go_ret2
  exact ⟨rfl, bl_call HB2.out HB9.out⟩

theorem join_any (v : Value) (fs : List FD) (w : World) (h : FSl w v fs) (hE : EscAt w) (hg : 0 < w.heap.size) :
    Calls Tryd.prog 27 #[v] w (JoinPost fs w) := by
  cases htb : tooB fs
  · rcases h with ⟨rfl, rfl⟩ | ⟨g, off, cap, rfl, h1, h2, h3⟩
    · exact join_none _ _ w
    · exact join_cells g off cap fs w (.inr ⟨g, off, cap, rfl, h1, h2, h3⟩) htb h1 h3 hE hg
  · exact join_too v fs w h htb
end Go.Proofs.YtdcjnklagklckaaDoor
