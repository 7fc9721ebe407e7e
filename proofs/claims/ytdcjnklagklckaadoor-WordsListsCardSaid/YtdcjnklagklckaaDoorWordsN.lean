/- words.readQuoted and Unquote, walked. -/
import Derived.Test.YtdcjnklagklckaaDoorWordsM
namespace Go.Proofs.YtdcjnklagklckaaDoor
open Go.RowKit
set_option linter.unusedVariables false

theorem extract_drop (s : ByteArray) (k : Nat) : (s.extract k s.size).data.toList = s.data.toList.drop k := Lib.extract_to_end s k

theorem Row.later {B : Nat} {W W' : World} {v : Value} {l : List UInt8} (h : Row B W v l) (hb : Below W.heap.size W W') : Row B W' v l := by
  rcases h with ⟨h1, h2 | ⟨g, cap, cur, h2, h3, h4, h5⟩⟩
  · exact ⟨h1, .inl h2⟩
  · exact ⟨h1, .inr ⟨g, cap, cur, h2, h3, (hb.block g (Array.getElem?_eq_some_iff.1 h4).1).trans h4, h5⟩⟩

def QPost (l : List UInt8) (w : World) (e : Ending) (w' : World) : Prop :=
  e = .returned (.tuple #[.string ⟨(qT l).1.toArray⟩, .int .i64 (qT l).2]) ∧ Below w.heap.size w w'

theorem qpost_of {l : List UInt8} {w w' : World} {T : List UInt8} {n : Nat} (h : qT l = (T, n)) (hb : Below w.heap.size w w') : QPost l w (.returned (.tuple #[.string ⟨T.toArray⟩, .int .i64 n])) w' :=
  ⟨by rw [h], hb⟩

set_option maxRecDepth 20000 in
set_option maxHeartbeats 1000000 in
theorem readQuoted_any (s : ByteArray) (w : World) (hs : s.size ≤ 35184372088000) (hE : EscAt w) (hg : 0 < w.heap.size) :
    Calls Tryd.prog 43 #[.string s] w (QPost s.data.toList w) := by
  have HE := Lib.hid hE; clear hE
  by_cases h0 : 0 < s.size
  case neg =>
    have hem : s.toList.isEmpty = true := by rw [isEmpty_size]; exact decide_eq_true (by omega)
    have HN := Lib.hid (qT_no (s := s) (fun h => absurd h h0))
    go_enter Tryd.func43, Tryd.ntmps43
    go_wp2
    go_ret2
    exact qpost_of HN.out (Below.refl _ _)
  case pos =>
  have hem := nonempty_of s h0
  cases hq : ((s[0].toNat : Int) != 34)
  case true =>
    have HN := Lib.hid (qT_no (s := s) (fun h e => by rw [e] at hq; simp at hq))
    go_enter Tryd.func43, Tryd.ntmps43
    go_wp2
    go_ret2
    exact qpost_of HN.out (Below.refl _ _)
  case false =>
  have hs0 : s[0] = 34 := by apply UInt8.toNat_inj.1; simp at hq; show _ = 34; omega
  have HQ := Lib.hid (qinv_start s h0 hs0); clear hs0
  obtain ⟨i0, hi, hz0, hz1, hz2⟩ := info_parts info_u8
  go_enter Tryd.func43, Tryd.ntmps43
  go_wp2_with fail
  go_loopw [3, 4] (fun n b wr => ∃ (k : Nat) (T : List UInt8), 1 ≤ k ∧ k ≤ s.size ∧ n = .int .i64 k ∧ T.length ≤ k ∧ Hid (Below w.heap.size w wr) ∧ Hid (Row w.heap.size wr b T) ∧ Hid (QInv s k T)) (fun n _ _ => s.size - (intOf n).toNat)
  case atStart => exact ⟨1, [], by omega, by omega, rfl, by simp, Lib.hid (Below.refl _ _), Lib.hid (World.ownsRow_nil _ _ _ _), HQ⟩
  case round =>
    obtain ⟨k, T, hk1, hk, rfl, hT, HB, HR, HI⟩ := hrel
    by_cases hlt : k < s.size
    case neg =>
      have HN := Lib.hid (qinv_out HI.out hlt)
      have hke : ((k : Int) == (s.size : Int)) = true := beq_iff_eq.2 (by omega)
      go_wp2_with fail
      go_ret2
      exact qpost_of HN.out HB.out
    case pos =>
    have hke : ((k : Int) == (s.size : Int)) = false := beq_eq_false_iff_ne.2 (by omega)
    cases h34 : ((s[k].toNat : Int) != 34)
    case false =>
      have hsk : s[k] = 34 := by apply UInt8.toNat_inj.1; simp at h34; show _ = 34; omega
      have HN := Lib.hid (qinv_end HI.out hlt hsk); clear hsk
      have hcv := conv_row HR.out
      go_wp2_with fail
      go_ret2
      exact qpost_of HN.out HB.out
    case true =>
      have hsk : s[k] ≠ 34 := by intro e; rw [e] at h34; simp at h34
      have HSK := Lib.hid hsk; clear hsk
      have hxs : (s.extract k s.size).size = s.size - k := by simp
      have hx1 : (s.extract k s.size).size ≤ maxLen := by unfold maxLen; omega
      have hx2 : 0 < (s.extract k s.size).size := by omega
      have HX1 := Lib.hid hx1; have HX2 := Lib.hid hx2; clear hx1 hx2 hxs
      go_wp2_with fail
      refine (readByte_any _ _ HX1.out HX2.out (HE.out.below HB.out hg) (Nat.lt_of_lt_of_le hg HB.out.size)).mono ?_
      rintro e w' ⟨c, m, rfl, hrb, hb'⟩
      unfold RB at hrb
      rw [extract_drop] at hrb
      have HB' := Lib.hid hb'; clear hb'
      rcases hrb with ⟨hm, hpre⟩ | ⟨rfl, rfl, hno⟩
      · have hm1 := esc_ne_nil c
        have hml := hpre.length_le
        rw [List.length_drop, len_data, ← hm] at hml
        rw [← hm] at hm1
        have HI2 := Lib.hid (qinv_step HI.out hlt HSK.out hm hpre)
        clear hm hpre
        have hm0 : ((m : Int) == 0) = false := beq_eq_false_iff_ne.2 (by omega)
        have HR' := Lib.hid (HR.out.later HB'.out)
        have hr' : World.ownsRow _ _ _ _ _ _ _ := HR'.out
        go_wp2_with (at_builtin; refine wpList_append_own _ rfl _ _ 38 rfl w.heap.size 5 i0 (.int .u8 0) 1 1 Tryd.underlying38 hi hz0 hz1 hz2 rfl (by decide) _ _ _ rfl (hr'.alloc _) ⟨_, 0, none⟩ 1 1 [bv c] rfl rfl ?c1 ?c2 ?c3 ?c4 ?c5 ?_)
        case c1 => exact cells_new _ _ [bv c]
        case c2 => simp [Value.oneCell', bv]
        case c3 => unfold maxLen; omega
        case c4 => omega
        case c5 => have := HB.out.size; have := HB'.out.size; simp; omega
        intro v' w1 hown hgrow _
        go_wp2
        go_roundw
        case rel =>
          refine ⟨k + m, T ++ [c], by omega, by omega, by go_num, by simp; omega, Lib.hid (((bl_call HB.out HB'.out).alloc (by have := HB.out.size; have := HB'.out.size; omega) _).grown hgrow (by have := HB.out.size; have := HB'.out.size; simp; omega) (fun k e => (HR'.out.lt k e).1)), Lib.hid ?_, HI2⟩
          unfold Row; rw [List.length_append, List.map_append]; exact hown
        case measure => simp [intOf]; omega
      · have HN := Lib.hid (qinv_bad HI.out hlt HSK.out hno); clear hno
        go_wp2_with fail
        go_ret2
        exact qpost_of HN.out (bl_call HB.out HB'.out)
end Go.Proofs.YtdcjnklagklckaaDoor
