/- words.less, successor, readRun; the reference's less, next, parts. -/
import Derived.Test.YtdcjnklagklckaaDoorParseA
import Derived.Test.YtdcjnklagklckaaDoorWordsJ
import Derived.Test.YtdcjnklagklckaaDoorDecM
import Derived.Laws.IdiomStrings
namespace Go.Proofs.YtdcjnklagklckaaDoor
open Go.RowKit Go.Shelf
set_option linter.unusedVariables false

theorem lex_bytes : ∀ (l m : List UInt8), Op.bytesLess l m = decide (l < m)
  | [], [] => by simp [Op.bytesLess]
  | _ :: _, [] => by simp [Op.bytesLess]
  | [], _ :: _ => by simp [Op.bytesLess]
  | x :: l, y :: m => by
    have ih := lex_bytes l m
    unfold Op.bytesLess
    rw [ih, Bool.eq_iff_iff, decide_eq_true_eq, List.cons_lt_cons_iff]
    simp
theorem less_bytes (a b : ByteArray) : Op.bytesLess a.toList b.toList = decide (a.data.toList < b.data.toList) := by
  rw [ByteArray.toList_eq, ByteArray.toList_eq, lex_bytes]
theorem less_any (a b : ByteArray) (w : World) (ha : a.size ≤ maxLen) (hb : b.size ≤ maxLen) :
    Calls Tryd.prog 78 #[.string a, .string b] w fun e w' => e = .returned (.bool (lessL a.data.toList b.data.toList)) ∧ w = w' := by
  unfold maxLen at ha hb
  have HL := Lib.hid (less_bytes a b)
  have HS : Hid (lessL a.data.toList b.data.toList = if a.size ≠ b.size then decide (a.size < b.size) else decide (a.data.toList < b.data.toList)) := Lib.hid (by unfold lessL; rw [len_data, len_data])
  cases hne : ((a.size : Int) != (b.size : Int))
  · have HN := Lib.hid (HS.out.trans (if_neg (by simp at hne; omega)))
    go_enter Tryd.func78, Tryd.ntmps78
    go_wp2
    go_ret
    exact ⟨ret_bool (by rw [HL.out, HN.out]), rfl⟩
  · have HN := Lib.hid (HS.out.trans (if_pos (by simp at hne; omega)))
    go_enter Tryd.func78, Tryd.ntmps78
    go_wp2
    go_ret
    exact ⟨ret_bool (by rw [HN.out]), rfl⟩
theorem rless_any (a b : ByteArray) (w : World) (ha : a.size ≤ maxLen) (hb : b.size ≤ maxLen) :
    Calls Tryd.prog 58 #[.string a, .string b] w fun e w' => e = .returned (.bool (lessL a.data.toList b.data.toList)) ∧ w = w' := by
  unfold maxLen at ha hb
  have HL := Lib.hid (less_bytes a b)
  have HS : Hid (lessL a.data.toList b.data.toList = if a.size ≠ b.size then decide (a.size < b.size) else decide (a.data.toList < b.data.toList)) := Lib.hid (by unfold lessL; rw [len_data, len_data])
  cases hne : ((a.size : Int) != (b.size : Int))
  · have HN := Lib.hid (HS.out.trans (if_neg (by simp at hne; omega)))
    go_enter Tryd.func58, Tryd.ntmps58
    go_wp2
    go_ret
    exact ⟨ret_bool (by rw [HL.out, HN.out]), rfl⟩
  · have HN := Lib.hid (HS.out.trans (if_pos (by simp at hne; omega)))
    go_enter Tryd.func58, Tryd.ntmps58
    go_wp2
    go_ret
    exact ⟨ret_bool (by rw [HN.out]), rfl⟩

/-! ### The next number -/
theorem conv_bytes (W : World) (s : ByteArray) : (convert 9 38 (.string s)).run Tryd.prog W = .ok (.slice (some ⟨W.heap.size, 0, none⟩) s.size (grownCap W s.size 0 5))
      (W.drew.alloc (.cells (bytesRow s (grownCap W s.size 0 5)) 5 ((bytesRow s (grownCap W s.size 0 5)).size, (bytesRow s (grownCap W s.size 0 5)).size + 1))) :=
  run_bytes_of_string W 9 38 5 s Tryd.underlying9 Tryd.underlying38 Tryd.underlying5
/-- The block g holds the bytes l, and may be written. -/
def BAt (W : World) (g : Nat) (l : List UInt8) : Prop := ∀ j (h : j < l.length), W.cell? ⟨g, j, none⟩ = some (.int .u8 (l[j].toNat : Int)) ∧ W.frozen? ⟨g, j, none⟩ = false
theorem BAt.below {W W' : World} {g : Nat} {l : List UInt8} (h : BAt W g l) (hb : Below W.heap.size W W') (hg : g < W.heap.size) : BAt W' g l :=
  fun j hj => ⟨(hb.cell (p := ⟨g, j, none⟩) hg).trans (h j hj).1, (hb.frozen (p := ⟨g, j, none⟩) hg).trans (h j hj).2⟩
theorem conv_bat {W : World} {g : Nat} {l : List UInt8} (h : BAt W g l) (n cap : Nat) (hn : n = l.length) : (convert 38 9 (.slice (some ⟨g, 0, none⟩) n cap)).run Tryd.prog W = .ok (.string ⟨l.toArray⟩) W := by
  subst hn
  refine run_convert_bytes_back W 38 9 5 ⟨g, 0, none⟩ cap l Tryd.underlying38 Tryd.underlying5 Tryd.underlying9 (fun j hj => ?_)
  have hp : (⟨g, 0, none⟩ : Addr).add j = ⟨g, j, none⟩ := by unfold Addr.add; split <;> simp_all
  rw [hp]; exact (h j hj).1
theorem bat_set {W : World} {g : Nat} {l : List UInt8} (h : BAt W g l) {j : Nat} (hj : j < l.length) (z : Int) (C : UInt8) (hz : z = (C.toNat : Int)) : BAt (W.setCell ⟨g, j, none⟩ (.int .u8 z)) g (l.set j C) := by
  subst hz
  intro i hi
  rw [List.length_set] at hi
  refine ⟨?_, by rw [World.frozen?_setCell]; exact (h i hi).2⟩
  by_cases e : j = i
  · subst e; rw [World.cell?_setCell_same _ _ _ (h j hj).1]; simp
  · rw [World.cell?_setCell_other _ _ _ _ (by simp), (h i hi).1]; simp [List.getElem_set_ne e]
def succCur (s : ByteArray) (k : Nat) : List UInt8 := s.data.toList.take k ++ List.replicate (s.size - k) 48
theorem succCur_len (s : ByteArray) (k : Nat) (h : k ≤ s.size) : (succCur s k).length = s.size := by simp [succCur]; omega
theorem succCur_at (s : ByteArray) (q : Nat) (h : q < s.size) (h2 : q < (succCur s (q + 1)).length) : (succCur s (q + 1))[q] = s[q] := by
  have h3 : (succCur s (q + 1))[q]? = some s[q] := by
    unfold succCur
    rw [List.getElem?_append_left (by simp; omega), List.getElem?_take_of_lt (by omega), List.getElem?_eq_getElem (by rw [len_data]; exact h)]; rfl
  rw [List.getElem?_eq_getElem h2] at h3
  exact Option.some.inj h3
theorem succCur_set (s : ByteArray) (q : Nat) (h : q < s.size) (C : UInt8) : (succCur s (q + 1)).set q C = s.data.toList.take q ++ C :: List.replicate (s.size - (q + 1)) 48 := by
  unfold succCur
  rw [take_snoc' s q h, List.append_assoc, List.set_append_right _ _ (by simp; omega), List.length_take, len_data, Nat.min_eq_left (by omega), Nat.sub_self]; rfl
theorem succCur_step (s : ByteArray) (q : Nat) (h : q < s.size) : (succCur s (q + 1)).set q 48 = succCur s q := by
  rw [succCur_set s q h]; unfold succCur
  rw [show s.size - q = (s.size - (q + 1)) + 1 by omega, List.replicate_succ]
theorem nines_app : ∀ (m l : List UInt8), m.all (· == 57) = true → ninesN (l ++ m) = ninesN l + m.length
  | [], l, _ => by simp
  | c :: m, l, h => by
    rw [List.all_cons, Bool.and_eq_true] at h
    have hc : c = 57 := by simpa using h.1
    subst hc
    rw [show l ++ 57 :: m = (l ++ [57]) ++ m by simp, nines_app m _ h.2, nines_snoc, List.length_cons]; omega
theorem succL_all (s : ByteArray) (h : (s.data.toList.drop 0).all (· == 57) = true) : succL s.data.toList = 49 :: List.replicate s.size 48 := by
  rw [List.drop_zero] at h
  have := nines_app s.data.toList [] h
  rw [List.nil_append] at this
  unfold succL
  rw [this, if_pos (by simp [ninesN]), len_data]
theorem succL_at (s : ByteArray) (q : Nat) (hq : q < s.size) (h : (s.data.toList.drop (q + 1)).all (· == 57) = true) (h57 : s[q] ≠ 57) : succL s.data.toList = s.data.toList.take q ++ (s[q] + 1) :: List.replicate (s.size - (q + 1)) 48 := by
  have e : s.data.toList = (s.data.toList.take q ++ [s[q]]) ++ s.data.toList.drop (q + 1) := by rw [← take_snoc' s q hq, List.take_append_drop]
  have hn : ninesN s.data.toList = s.size - (q + 1) := by
    conv => lhs; rw [e]
    rw [nines_app _ _ h, nines_other _ _ h57, List.length_drop, len_data, Nat.zero_add]
  unfold succL
  rw [hn, len_data, if_neg (by omega), show s.size - (s.size - (q + 1)) - 1 = q by omega]
  congr 2
  rw [List.getD_eq_getElem?_getD, List.getElem?_eq_getElem (by rw [len_data]; exact hq)]; rfl
theorem all57_step (s : ByteArray) (q : Nat) (hq : q < s.size) (h : (s.data.toList.drop (q + 1)).all (· == 57) = true) (h57 : s[q] = 57) : (s.data.toList.drop q).all (· == 57) = true := by
  have e0 : s.data.toList.drop q = s[q] :: s.data.toList.drop (q + 1) := by rw [List.drop_eq_getElem_cons (by rw [len_data]; exact hq)]; rfl
  rw [e0, List.all_cons, h57, h]; rfl
theorem u8_succ (c : UInt8) : ((c.toNat : Int) + 1) % 256 = ((c + 1).toNat : Int) := by simp
set_option maxRecDepth 20000 in
set_option maxHeartbeats 400000 in
theorem succ_any (s : ByteArray) (w : World) (hs : s.size ≤ 281474976710656) :
    Calls Tryd.prog 79 #[.string s] w fun e w' => e = .returned (.string ⟨(succL s.data.toList).toArray⟩) ∧ Below w.heap.size w w' := by
  have hcv := conv_bytes
  go_enter Tryd.func79, Tryd.ntmps79
  go_wp2_with fail
  clear hcv
  go_loopw [4] (fun i wr => ∃ (k : Nat) (z : Int), k ≤ s.size ∧ i = .int .i64 z ∧ -1 ≤ z ∧ z < s.size ∧ Hid (z = k - 1) ∧ Hid (Below w.heap.size w wr) ∧ Hid (BAt wr w.heap.size (succCur s k)) ∧ Hid (w.heap.size < wr.heap.size) ∧ Hid ((s.data.toList.drop k).all (· == 57) = true)) (fun i _ => (intOf i + 1).toNat)
  case atStart =>
    refine ⟨s.size, s.size - 1, Nat.le_refl _, rfl, by omega, by omega, Lib.hid rfl, Lib.hid (((Below.refl _ _).alloc (Nat.le_refl _) _).drew), Lib.hid ?_, Lib.hid (by simp), Lib.hid (by rw [List.drop_eq_nil_of_le (by rw [len_data]; exact Nat.le_refl _)]; rfl)⟩
    intro j hj
    have hjs : j < s.size := by rw [succCur_len s _ (Nat.le_refl _)] at hj; exact hj
    have hget : (succCur s s.size)[j] = s[j] := by
      have h3 : (succCur s s.size)[j]? = some s[j] := by
        unfold succCur
        rw [List.getElem?_append_left (by simp; omega), List.getElem?_take_of_lt (by omega), List.getElem?_eq_getElem (by rw [len_data]; exact hjs)]; rfl
      rw [List.getElem?_eq_getElem hj] at h3
      exact Option.some.inj h3
    have hgc := grownCap_ge w s.size 0 5
    have hbs : (bytesRow s (grownCap w s.size 0 5)).size = grownCap w s.size 0 5 := by
      unfold bytesRow; rw [Array.size_append, Array.size_map, Array.size_replicate]; show s.size + _ = _; omega
    refine ⟨?_, ?_⟩
    · show ((w.alloc _)).cell? _ = _
      rw [cell_of_row _ _ _ _ _ _ (heap_alloc_new w _), hget]
      unfold bytesRow
      rw [Array.getElem?_append_left (by simpa using hjs), Array.getElem?_map, Array.getElem?_eq_getElem hjs]; rfl
    · show ((w.alloc _)).frozen? _ = _
      rw [World.frozen?_alloc_mark, hbs, decide_eq_false (by omega)]; rfl
  case round =>
    obtain ⟨k, z, hk, rfl, hz1, hz2, HZ, HB, HC, HS, HX⟩ := hrel
    by_cases h0 : z = -1
    · subst h0
      have hk0 : k = 0 := by have := HZ.out; omega
      subst hk0
      have HN := Lib.hid (succL_all s HX.out)
      have hcv := conv_bat HC.out s.size (grownCap w s.size 0 5) (by simp [succCur])
      have hcl := succCur_len s 0 (by omega)
      have hne : ¬ 9223372036854775807 < 1 + (succCur s 0).length := by omega
      clear hcl
      clear hz1 hz2
      go_wp2_with fail
      go_ret
      refine ⟨ret_str ?_, HB.out⟩
      rw [HN.out, show succCur s 0 = List.replicate s.size 48 by simp [succCur]]; exact ByteArray.mk_append_mk [49] _
    · obtain ⟨q, rfl⟩ : ∃ q : Nat, z = q := ⟨z.toNat, by omega⟩
      clear h0 hz1
      have hqn : q < s.size := by omega
      have hkq : k = q + 1 := by have := HZ.out; omega
      subst hkq
      have hl : q < (succCur s (q + 1)).length := by rw [succCur_len s _ hk]; exact hqn
      have c0 : wr.cell? ⟨w.heap.size, q, none⟩ = some (.int .u8 (s[q].toNat : Int)) := by
        rw [(HC.out q hl).1, succCur_at s q hqn hl]
      have f0 := (HC.out q hl).2
      have HS' := HS.out
      have hzz : ∀ (W : World) (v : Value), (W.setCell ⟨w.heap.size, q, none⟩ v).heap.size = W.heap.size := fun W v => by simp
      have HZZ := Lib.hid hzz; clear hzz
      cases h57 : ((s[q].toNat : Int) != 57)
      · have e57 : s[q] = 57 := by apply UInt8.toNat_inj.1; simp at h57; show _ = 57; omega
        have HX2 := Lib.hid (all57_step s q hqn HX.out e57)
        have HC2 := Lib.hid (bat_set HC.out hl 48 48 rfl)
        rw [succCur_step s q hqn] at HC2
        clear hl e57
        go_wp2_with fail
        go_roundw
        case rel => exact ⟨q, q - 1, by omega, rfl, by omega, by omega, Lib.hid rfl, Lib.hid (HB.out.setCell (p := ⟨w.heap.size, q, none⟩) (Nat.le_refl _) _), HC2, Lib.hid (by rw [HZZ.out]; exact HS'), HX2⟩
        case measure => simp [intOf]
      · have hne57 : s[q] ≠ 57 := by intro e; rw [e] at h57; cases h57
        have HN := Lib.hid (succL_at s q hqn HX.out hne57)
        have HC2 := Lib.hid (bat_set HC.out hl _ _ (u8_succ s[q]))
        rw [succCur_set s q hqn] at HC2
        have hcv := conv_bat HC2.out s.size (grownCap w s.size 0 5) (by rw [← succCur_set s q hqn, List.length_set, succCur_len s _ hk])
        clear hl hne57
        go_wp2_with fail
        go_ret
        exact ⟨ret_str (by rw [HN.out]), HB.out.setCell (p := ⟨w.heap.size, q, none⟩) (Nat.le_refl _) _⟩
end Go.Proofs.YtdcjnklagklckaaDoor
