/- Parse of the program. -/
import Derived.Test.YtnmgcfpemmejlaaDoorTimesY
namespace Go.Proofs.YtnmgcfpemmejlaaDoor
open Go.RowKit Go.Lib
set_option linter.unusedVariables false

def ParseR (w : World) (l : List UInt8) (e : Ending) (w' : World) : Prop := e = .returned (.tuple #[.int .i64 (parseT l).1, .int .i64 (parseT l).2]) ∧ Below w.heap.size w w'
theorem read_is {r : Int} {t : Nat} {l : List UInt8} (h : (r - ((l.foldl exR (0, 0)).1 + (l.foldl exR (0, 0)).2)) % 18446744073709551616 = 0) (hr : N64 r) (ht : t ≤ 9223372036854775807) (hl : l = textT t) : r = t := by
  subst hl
  rw [read_text] at h
  obtain ⟨r1, r2⟩ := hr
  omega
theorem ret_pt {l : List UInt8} {a b : Int} (h : parseT l = (a, b)) : Ending.returned (.tuple #[.int .i64 a, .int .i64 b]) = .returned (.tuple #[.int .i64 (parseT l).1, .int .i64 (parseT l).2]) := by rw [h]
theorem list_ba (s : ByteArray) : s.toList = s.data.toList := ByteArray.toList_eq s
theorem ba_of (s : ByteArray) : (⟨s.data.toList.toArray⟩ : ByteArray) = s := bytes_ext (by simp)
set_option maxRecDepth 20000 in
set_option maxHeartbeats 4000000 in
theorem parse_any (s : ByteArray) (w : World) (hs : s.size ≤ 1000) (hT : TV w) : Calls Tryd.prog 33 #[.string s] w (ParseR w s.data.toList) := by
  have HT := Lib.hid hT; clear hT
  rcases parseT_cases s.data.toList with ⟨t, ht, hl, hp⟩ | ⟨hno, hp⟩
  · have HP := Lib.hid hp; have HL := Lib.hid hl
    have HPR := Lib.hid (pr_pos (t := (t : Int)) (by omega))
    have HS : Hid ((⟨(prS (t : Int)).toArray⟩ : ByteArray) = s) := Lib.hid (by
      rw [HPR.out.1, show ((t : Int)).toNat = t by omega, ← hl])
    clear hp hl
    go_enter Tryd.func33, Tryd.ntmps33
    go_wp2_with (first
      | (go_at_call 49; (with_reducible refine (read_any s _ hs).mono ?_); rintro e w1 ⟨r, rfl, hr, hx, hb⟩; obtain rfl := read_is hx hr ht HL.out; have B1 := Lib.hid hb; have HN := Lib.hid hr; clear hr hx hb)
      | (go_at_call 31; (with_reducible refine (print_any (t : Int) _ HN.out (HT.out.below B1.out)).mono ?_); rintro e w2 ⟨rfl, hb⟩; rw [HS.out, HPR.out.2]; have B2 := Lib.hid (bl_cl B1.out hb); clear hb))
    go_ret2
    exact ⟨ret_pt HP.out, B2.out⟩
  · have HP := Lib.hid hp; have HNO := Lib.hid hno
    clear hp hno
    go_enter Tryd.func33, Tryd.ntmps33
    go_upto_region 2 with (go_at_call 49; (with_reducible refine (read_any s _ hs).mono ?_); rintro e w1 ⟨r, rfl, hr, hx, hb⟩; have B1 := Lib.hid hb; have HN := Lib.hid hr; clear hr hx hb)
    by_cases hr0 : r < 0
    · have HPR := Lib.hid (pr_neg hr0)
      obtain ⟨Y, hY⟩ : ∃ Y, (⟨(prS r).toArray⟩ : ByteArray) = Y := ⟨_, rfl⟩
      have HY := Lib.hid hY
      clear hr0 hY
      go_wp2_with (go_at_call 31; (with_reducible refine (print_any r _ HN.out (HT.out.below B1.out)).mono ?_); rintro e w2 ⟨rfl, hb⟩; rw [HY.out, HPR.out.2]; have B2 := Lib.hid (bl_cl B1.out hb); clear hb)
      go_ret2
      exact ⟨ret_pt HP.out, B2.out⟩
    · have HPR := Lib.hid (pr_pos hr0)
      obtain ⟨Y, hY⟩ : ∃ Y, (⟨(prS r).toArray⟩ : ByteArray) = Y := ⟨_, rfl⟩
      have hne : (Y.toList == s.toList) = false := by
        apply beq_false_of_ne
        rw [list_ba, list_ba, ← hY, HPR.out.1]
        intro e
        simp only at e
        exact HNO.out r.toNat (by have := HN.out.2; omega) (by rw [← e])
      have HY := Lib.hid hY
      clear hr0 hY
      go_wp2_with (go_at_call 31; (with_reducible refine (print_any r _ HN.out (HT.out.below B1.out)).mono ?_); rintro e w2 ⟨rfl, hb⟩; rw [HY.out, HPR.out.2]; have B2 := Lib.hid (bl_cl B1.out hb); clear hb)
      go_ret2
      exact ⟨ret_pt HP.out, B2.out⟩
end Go.Proofs.YtnmgcfpemmejlaaDoor
