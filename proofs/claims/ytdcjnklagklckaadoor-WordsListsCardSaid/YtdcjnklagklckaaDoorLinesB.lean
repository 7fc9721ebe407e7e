/- words.Lines and the reference's Lines return what linesL says. -/
import Derived.Test.YtdcjnklagklckaaDoorLinesA
import Derived.Test.YtdcjnklagklckaaDoorSplitM
namespace Go.Proofs.YtdcjnklagklckaaDoor
open Go.RowKit Go.Shelf
set_option linter.unusedVariables false

def LinesPost (l : List UInt8) (w : World) (e : Ending) (w' : World) : Prop := ∃ v, e = .returned (.tuple #[v, .int .i64 (linesL l).2]) ∧ SSl w' v (linesL l).1 ∧ Below w.heap.size w w'
/-- A variable of the library's own, of whatever value. -/
def MaxAt (w : World) : Prop := ∃ m, w.cell? ⟨4, 0, none⟩ = some (.int .i64 m)
theorem cell_lt {w : World} {g o : Nat} {v : Value} (h : w.cell? ⟨g, o, none⟩ = some v) : g < w.heap.size := by
  unfold World.cell? at h
  cases hb : w.heap[g]? with
  | none => simp [hb] at h
  | some ob => exact (Array.getElem?_eq_some_iff.1 hb).1
theorem MaxAt.below {w w' : World} (h : MaxAt w) (hb : Below w.heap.size w w') : MaxAt w' := by
  obtain ⟨m, h⟩ := h; exact ⟨m, (hb.cell (p := ⟨_, 0, none⟩) (cell_lt h)).trans h⟩
theorem max_of_shaped {w : World} (h : w.ShapedOpen Tryd.prog) : MaxAt w := Tryd.laysM146.s1_3 w h
theorem split_nl (s : ByteArray) (w : World) (hs : s.size ≤ 1048576) (hm : MaxAt w) :
    Calls Tryd.prog 76 #[.string s, .string ⟨#[10]⟩] w fun e w' => ∃ v, e = .returned v ∧ SSl w' v (cutAt 10 s.data.toList) ∧ Below w.heap.size w w' := by
  obtain ⟨m, hm⟩ := hm
  refine (Tryd.strings_Split s ⟨#[10]⟩ m w (by omega) hm (by decide)).mono ?_
  rintro e w' ⟨rfl, rfl⟩
  refine ⟨_, rfl, ?_, (Below.refl _ w).alloc (Nat.le_refl _) _⟩
  have hcut := splitB_cut s 10
  have hlen := Lib.splitB_all ⟨#[10]⟩ (by decide) 0 _ s rfl
  have hcl : (cutAt 10 s.data.toList).length = Lib.countB s ⟨#[10]⟩ + 1 := by rw [← hcut, List.length_map, hlen]
  have hle := cutAt_count 10 s.data.toList
  rw [len_data] at hle
  refine .inr ⟨w.heap.size, 0, Lib.countB s ⟨#[10]⟩ + 1, by rw [hcl], by simp, by unfold maxLen; omega, fun i hi => ?_⟩
  have hi2 : i < (Lib.splitB ⟨#[10]⟩ 0 (Lib.countB s ⟨#[10]⟩) s).length := by rw [hlen, ← hcl]; exact hi
  rw [cell_of_row _ _ _ _ _ _ (heap_alloc_new w _), Nat.zero_add]
  have e1 : (cutAt 10 s.data.toList)[i] = ((Lib.splitB ⟨#[10]⟩ 0 (Lib.countB s ⟨#[10]⟩) s)[i]).data.toList := by
    have : (cutAt 10 s.data.toList)[i]? = some (((Lib.splitB ⟨#[10]⟩ 0 (Lib.countB s ⟨#[10]⟩) s)[i]).data.toList) := by
      rw [← hcut, List.getElem?_map, List.getElem?_eq_getElem hi2]; rfl
    rw [List.getElem?_eq_getElem hi] at this; exact Option.some.inj this
  rw [e1]
  simp [hi2]

theorem lines_six {s : ByteArray} (h1 : ¬ 1048576 < s.size) (h0 : 0 < s.size) : linesL s.data.toList = if !Lib.hasSuffix s.data.toList [10] then ([], 6) else if 5000 < s.data.toList.count 10 then ([], 3) else (cutAt 10 (s.data.toList.take (s.size - 1)), 0) := by
  have hem : s.data.toList.isEmpty = false := by have := nonempty_of s h0; rwa [ByteArray.toList_eq] at this
  unfold linesL; rw [len_data, if_neg h1, hem]; rfl
theorem lines_long {s : ByteArray} (h1 : 1048576 < s.size) : linesL s.data.toList = ([], 3) := by unfold linesL; rw [len_data, if_pos h1]
theorem lines_none {s : ByteArray} (h0 : ¬ 0 < s.size) : linesL s.data.toList = ([], 0) := by
  have : s.data.toList = [] := List.eq_nil_of_length_eq_zero (by rw [len_data]; omega)
  rw [this]; rfl

set_option maxRecDepth 20000 in
set_option maxHeartbeats 1000000 in
theorem lines_any (s : ByteArray) (w : World) (hs : s.size ≤ maxLen) (hm : MaxAt w) :
    Calls Tryd.prog 52 #[.string s] w (LinesPost s.data.toList w) := by
  have HSM : Hid (s.size ≤ 9223372036854775807) := Lib.hid hs
  unfold maxLen at hs
  have HM := Lib.hid hm; clear hm
  by_cases h1 : 1048576 < s.size
  · have HN := Lib.hid (lines_long h1)
    go_enter Tryd.func52, Tryd.ntmps52
    go_wp2_with fail
    go_ret2
    exact ⟨.slice none 0 0, by rw [HN.out]; rfl, by rw [HN.out]; exact .inl ⟨rfl, rfl⟩, Below.refl _ _⟩
  by_cases h0 : 0 < s.size
  case neg =>
    have hem : s.toList.isEmpty = true := by rw [isEmpty_size]; exact decide_eq_true (by omega)
    have HN := Lib.hid (lines_none h0)
    go_enter Tryd.func52, Tryd.ntmps52
    go_wp2_with fail
    go_ret2
    exact ⟨.slice none 0 0, by rw [HN.out]; rfl, by rw [HN.out]; exact .inl ⟨rfl, rfl⟩, Below.refl _ _⟩
  have hem := nonempty_of s h0
  have HL := Lib.hid (lines_six h1 h0)
  obtain ⟨b, hb⟩ : ∃ b, Lib.hasSuffix s.data.toList [10] = b := ⟨_, rfl⟩
  obtain ⟨T, hT⟩ : ∃ T : ByteArray, (⟨(Lib.trimSuffix s.data.toList [10]).toArray⟩ : ByteArray) = T := ⟨_, rfl⟩
  have HCS : Hid (∀ W, Calls Tryd.prog 74 #[.string s, .string ⟨#[10]⟩] W fun e w' => e = .returned (.tuple #[.string T, .bool b]) ∧ W = w') := Lib.hid (fun W =>
    (Tryd.strings_CutSuffix s ⟨#[10]⟩ W HSM.out).mono fun e w' ⟨he, hw⟩ => ⟨by rw [he, ← hT, ← hb], hw.symm⟩)
  obtain ⟨n, hn⟩ : ∃ n : Nat, s.data.toList.count 10 = n := ⟨_, rfl⟩
  have HCN : Hid (∀ W, Calls Tryd.prog 75 #[.string s, .string ⟨#[10]⟩] W fun e w' => e = .returned (.int .i64 (n : Int)) ∧ W = w') := Lib.hid (fun W =>
    (Tryd.strings_Count_one s 10 W).mono fun e w' ⟨he, hw⟩ => ⟨by rw [he, ← hn]; rfl, hw.symm⟩)
  have HB := Lib.hid hb; have HT := Lib.hid hT; have HC := Lib.hid hn; clear hb hT hn
  cases b
  · have HN : Hid (linesL s.data.toList = ([], 6)) := Lib.hid (by rw [HL.out, HB.out]; rfl)
    go_enter Tryd.func52, Tryd.ntmps52
    go_wp2_with (go_at_call 74; refine (HCS.out _).mono ?_; rintro e w1 ⟨rfl, rfl⟩)
    go_ret2
    exact ⟨.slice none 0 0, by rw [HN.out]; rfl, by rw [HN.out]; exact .inl ⟨rfl, rfl⟩, Below.refl _ _⟩
  · by_cases hbig : 5000 < n
    · have HN : Hid (linesL s.data.toList = ([], 3)) := Lib.hid (by rw [HL.out, HB.out, HC.out, if_neg (by simp), if_pos hbig])
      go_enter Tryd.func52, Tryd.ntmps52
      go_wp2_with (first
        | (go_at_call 74; refine (HCS.out _).mono ?_; rintro e w1 ⟨rfl, rfl⟩)
        | (go_at_call 75; refine (HCN.out _).mono ?_; rintro e w1 ⟨rfl, rfl⟩))
      go_ret2
      exact ⟨.slice none 0 0, by rw [HN.out]; rfl, by rw [HN.out]; exact .inl ⟨rfl, rfl⟩, Below.refl _ _⟩
    · have HN : Hid (linesL s.data.toList = (cutAt 10 T.data.toList, 0)) := Lib.hid (by
        rw [HL.out, HB.out, HC.out, if_neg (by simp), if_neg hbig, ← HT.out]
        unfold Lib.trimSuffix; rw [HB.out, if_pos rfl, len_data]; rfl)
      have hTs : T.size ≤ 1048576 := by
        rw [← len_data, ← HT.out]
        show (Lib.trimSuffix s.data.toList [10]).toArray.toList.length ≤ _
        unfold Lib.trimSuffix; rw [HB.out, if_pos rfl]; simp; omega
      have HTS := Lib.hid hTs; clear hTs
      go_enter Tryd.func52, Tryd.ntmps52
      go_wp2_with (first
        | (go_at_call 74; refine (HCS.out _).mono ?_; rintro e w1 ⟨rfl, rfl⟩)
        | (go_at_call 75; refine (HCN.out _).mono ?_; rintro e w1 ⟨rfl, rfl⟩)
        | (go_at_call 76; refine (split_nl T _ HTS.out HM.out).mono ?_; rintro e w2 ⟨v, rfl, hv, hb⟩; have HV := Lib.hid hv; have HBW := Lib.hid hb; clear hv hb))
      go_ret2
      exact ⟨v, by rw [HN.out]; rfl, by rw [HN.out]; exact HV.out, HBW.out⟩

theorem scells_snoc (P : List (List UInt8)) (p : List UInt8) : scells (P ++ [p]) = scells P ++ [.string ⟨p.toArray⟩] := by simp [scells]
theorem extract_mid (s : ByteArray) (f k : Nat) : (s.extract f k).data.toList = (s.data.toList.drop f).take (k - f) := Lib.extract_data s f k

set_option maxRecDepth 20000 in
set_option maxHeartbeats 2000000 in
theorem rlines_any (s : ByteArray) (w : World) (hs : s.size ≤ maxLen) :
    Calls Tryd.prog 53 #[.string s] w (LinesPost s.data.toList w) := by
  unfold maxLen at hs
  obtain ⟨i0, hi, hz0, hz1, hz2⟩ := info_parts info_str
  by_cases h1 : 1048576 < s.size
  · have HN := Lib.hid (lines_long h1)
    go_enter Tryd.func53, Tryd.ntmps53
    go_wp2_with fail
    go_ret2
    exact ⟨.slice none 0 0, by rw [HN.out]; rfl, by rw [HN.out]; exact .inl ⟨rfl, rfl⟩, Below.refl _ _⟩
  by_cases h0 : 0 < s.size
  case neg =>
    have hem : s.toList.isEmpty = true := by rw [isEmpty_size]; exact decide_eq_true (by omega)
    have HN := Lib.hid (lines_none h0)
    go_enter Tryd.func53, Tryd.ntmps53
    go_wp2_with fail
    go_ret2
    exact ⟨.slice none 0 0, by rw [HN.out]; rfl, by rw [HN.out]; exact .inl ⟨rfl, rfl⟩, Below.refl _ _⟩
  have hem := nonempty_of s h0
  have HL := Lib.hid (lines_six h1 h0)
  obtain ⟨q, hq⟩ : ∃ q : Nat, s.size - 1 = q := ⟨_, rfl⟩
  have hqs : q < s.size := by omega
  have w1 : IntKind.i64.wrap ((s.size : Int) - 1) = (q : Int) := by rw [IntWalk.i64_in _ (by omega)]; omega
  have hsuf : Lib.hasSuffix s.data.toList [10] = (s[q] == 10) := by
    rw [suffix_ten (by rw [len_data]; exact h0)]
    simp only [len_data, hq]; rfl
  have HQ := Lib.hid hq; have HSUF := Lib.hid hsuf; clear hq hsuf
  by_cases hlast : s[q] = 10
  case neg =>
    have HN : Hid (linesL s.data.toList = ([], 6)) := Lib.hid (by rw [HL.out, HSUF.out, beq_eq_false_iff_ne.2 hlast]; rfl)
    have j1 : ((s[q].toNat : Int) != 10) = true := by rw [bne_iff_ne]; intro e; apply hlast; apply UInt8.toNat_inj.1; show _ = 10; omega
    clear hlast
    go_enter Tryd.func53, Tryd.ntmps53
    go_wp2_with fail
    go_ret2
    exact ⟨.slice none 0 0, by rw [HN.out]; rfl, by rw [HN.out]; exact .inl ⟨rfl, rfl⟩, Below.refl _ _⟩
  case pos =>
    have HL2 : Hid (linesL s.data.toList = if 5000 < s.data.toList.count 10 then ([], 3) else (cutAt 10 (s.data.toList.take (s.size - 1)), 0)) := Lib.hid (by rw [HL.out, HSUF.out, hlast]; rfl)
    have HLAST := Lib.hid hlast
    have j1 : ((s[q].toNat : Int) != 10) = false := by rw [hlast]; rfl
    clear hlast
    go_enter Tryd.func53, Tryd.ntmps53
    go_wp2_with fail
    go_loopw [4, 5, 6] (fun v fr i wr => ∃ (k f : Nat) (P : List (List UInt8)), k ≤ s.size ∧ f ≤ k ∧ P.length ≤ k ∧ i = .int .i64 k ∧ fr = .int .i64 f ∧ Hid (Below w.heap.size w wr) ∧ Hid (wr.ownsRow w.heap.size 9 1 v P.length (scells P)) ∧ Hid (CutInv 10 s.data.toList f k P)) (fun _ _ i _ => s.size - (intOf i).toNat)
    case atStart => exact ⟨0, 0, [], by omega, by omega, by simp, rfl, rfl, Lib.hid (Below.refl _ _), Lib.hid (World.ownsRow_nil _ _ _ _), Lib.hid (cutinv_start _ _)⟩
    case round =>
      obtain ⟨k, f, P, hk, hfk, hPk, rfl, rfl, HB, HR, HI⟩ := hrel
      by_cases hlt : k < s.size
      case neg =>
        have hfin := cutinv_lines HI.out (by rw [len_data]; exact hlt) (by rw [len_data]; exact h0) (by simp only [len_data, HQ.out]; exact HLAST.out)
        rw [len_data] at hfin
        obtain ⟨hP, hPl⟩ := hfin
        have HP := Lib.hid hP
        by_cases hbig : 5000 < P.length
        case' pos => have HN : Hid (linesL s.data.toList = ([], 3)) := Lib.hid (by rw [HL2.out, if_pos (by omega)])
        case' neg => have HN : Hid (linesL s.data.toList = (P, 0)) := Lib.hid (by rw [HL2.out, if_neg (by omega), ← hP])
        all_goals clear hP hPl
        all_goals
          obtain ⟨va, vc, hvv⟩ : ∃ a c, u4 = .slice a P.length c := by
            rcases HR.out with ⟨_, ⟨rfl, hn⟩ | ⟨g, cap, cur, rfl, _⟩⟩
            · exact ⟨none, 0, by rw [hn]⟩
            · exact ⟨_, _, rfl⟩
          subst hvv
          go_wp2_with fail
          go_ret2
        all_goals first
          | exact ⟨.slice none 0 0, by rw [HN.out]; rfl, by rw [HN.out]; exact .inl ⟨rfl, rfl⟩, HB.out⟩
          | exact ⟨_, by rw [HN.out]; rfl, by rw [HN.out]; exact SSl_of_row HR.out, HB.out⟩
      case pos =>
        by_cases h10 : s[k] = 10
        · have HI2 := Lib.hid (cutinv_cut HI.out (by rw [len_data]; exact hlt) h10)
          have j2 : ((s[k].toNat : Int) == 10) = true := by rw [h10]; rfl
          clear h10
          obtain ⟨TB, hTB⟩ : ∃ TB : ByteArray, s.extract f k = TB := ⟨_, rfl⟩
          have HTB : Hid ((⟨((s.data.toList.drop f).take (k - f)).toArray⟩ : ByteArray) = TB) := Lib.hid (by rw [← hTB]; apply WideShapes.bytes_inj; rw [extract_mid])
          go_wp2_with (at_builtin; refine wpList_append_own _ rfl _ _ 64 rfl w.heap.size 9 i0 (.string ⟨#[]⟩) 1 16 Tryd.underlying64 hi hz0 hz1 hz2 rfl (by decide) _ _ _ rfl (HR.out.alloc _) ⟨_, 0, none⟩ 1 1 [.string TB] rfl rfl (cells_new _ _ [_]) (by simp [Value.oneCell']) (by unfold maxLen; omega) (by omega) (by have := HB.out.size; simp; omega) ?_; intro v' w2 hown hgrow _; have hbw : Below w.heap.size w w2 := (HB.out.alloc HB.out.size _).grown hgrow (by have := HB.out.size; simp; omega) (fun k e => (HR.out.lt k e).1); have HBW := Lib.hid hbw; have HOWN := Lib.hid hown; clear hbw hown hgrow)
          go_roundw
          case rel =>
            refine ⟨k + 1, k + 1, P ++ [(s.data.toList.drop f).take (k - f)], by omega, by omega, by simp; omega, by go_num, by go_num, HBW, Lib.hid ?_, HI2⟩
            rw [scells_snoc, List.length_append, HTB.out]; exact HOWN.out
          case measure => simp [intOf]; omega
        · have HI2 := Lib.hid (cutinv_skip HI.out (by rw [len_data]; exact hlt) h10)
          have j2 : ((s[k].toNat : Int) == 10) = false := by rw [beq_eq_false_iff_ne]; intro e; apply h10; apply UInt8.toNat_inj.1; show _ = 10; omega
          clear h10
          go_wp2_with fail
          go_roundw
          case rel => exact ⟨k + 1, f, P, by omega, by omega, by omega, by go_num, rfl, HB, HR, HI2⟩
          case measure => simp [intOf]; omega
end Go.Proofs.YtdcjnklagklckaaDoor
