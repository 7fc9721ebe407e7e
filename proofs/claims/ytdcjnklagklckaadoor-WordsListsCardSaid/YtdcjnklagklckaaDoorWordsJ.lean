/- words.Quote returns the quoted form. -/
import Derived.Test.YtdcjnklagklckaaDoorWordsI
namespace Go.Proofs.YtdcjnklagklckaaDoor
open Go.RowKit
set_option linter.unusedVariables false

def quoteL (l : List UInt8) : List UInt8 := 34 :: l.flatMap esc ++ [34]
theorem flat_len (l : List UInt8) : (l.flatMap esc).length ≤ 4 * l.length := by
  induction l with
  | nil => simp
  | cons c r ih => have := esc_len c; simp only [List.flatMap_cons, List.length_append, List.length_cons]; omega
theorem flat_snoc (l : List UInt8) (c : UInt8) : (l ++ [c]).flatMap esc = l.flatMap esc ++ esc c := by simp

theorem EscAt.below {B : Nat} {w w' : World} (h : EscAt w) (hb : Below B w w') (hB : 0 < B) : EscAt w' := by
  obtain ⟨t, fr, hg⟩ := h; exact ⟨t, fr, (hb.block _ hB).trans hg⟩

/-- 'string(b)' where b is a row of the call's own. -/
theorem conv_row {B : Nat} {W : World} {v : Value} {l : List UInt8} (h : Row B W v l) :
    (convert 38 9 v).run Tryd.prog W = .ok (.string ⟨l.toArray⟩) W := by
  rcases h with ⟨hl, ⟨rfl, hn⟩ | ⟨g, cap, cur, rfl, hg, hc, hm, h3, h4, h5⟩⟩
  · have : l = [] := List.eq_nil_of_length_eq_zero hn
    subst this
    exact run_convert_bytes_nil W 38 5 Tryd.underlying38 Tryd.underlying5 0 0 _ Tryd.underlying9
  · refine run_convert_bytes_back W 38 9 5 ⟨g, 0, none⟩ cap l Tryd.underlying38 Tryd.underlying5 Tryd.underlying9 (fun j hj => ?_)
    have hp : (⟨g, 0, none⟩ : Addr).add j = ⟨g, j, none⟩ := by unfold Addr.add; split <;> simp_all
    rw [hp, cell_of_row W g j cur _ _ hc]
    have h6 : (cur.toList.take (l.length * 1))[j]? = (l.map bv)[j]? := by rw [h5]
    rw [List.getElem?_take_of_lt (by omega)] at h6
    rw [← Array.getElem?_toList, h6]; simp [hj, bv]

theorem Row_new (B : Nat) (w : World) (l : List UInt8) (n : Nat) (hB : B ≤ w.heap.size) (hn : n = l.length) (hl : l.length ≤ maxLen) : Row B (w.alloc (.cells (l.map bv).toArray 5)) (.slice (some ⟨w.heap.size, 0, none⟩) n n) l := by
  subst hn
  refine ⟨by simp, .inr ⟨w.heap.size, l.length, (l.map bv).toArray, rfl, hB, heap_alloc_new w _, Nat.le_refl _, hl, by simp, ?_⟩⟩
  rw [List.take_of_length_le (by simp)]

set_option maxRecDepth 20000 in
set_option maxHeartbeats 400000 in
theorem quote_any (s : ByteArray) (w : World) (hs : s.size ≤ 35184372088000) (hE : EscAt w) (h0 : 0 < w.heap.size) :
    Calls Tryd.prog 21 #[.string s] w fun e w' => e = .returned (.string ⟨(quoteL s.data.toList).toArray⟩) ∧ Below w.heap.size w w' := by
  obtain ⟨i0, hi, hz0, hz1, hz2⟩ := info_parts info_u8
  have HE := Lib.hid hE; clear hE
  go_enter Tryd.func21, Tryd.ntmps21
  go_wp2_with fail
  go_loopw [3, 4] (fun v i wr => ∃ k : Nat, k ≤ s.size ∧ i = .int .i64 k ∧ Hid (Below w.heap.size w wr) ∧ ∃ L : List UInt8, Hid (L = 34 :: (s.data.toList.take k).flatMap esc) ∧ Hid (Row w.heap.size wr v L)) (fun _ i _ => s.size - (intOf i).toNat)
  case atStart =>
    exact ⟨0, by omega, rfl, Lib.hid ((Below.refl _ _).alloc (Nat.le_refl _) _), [34], Lib.hid rfl, Lib.hid (Row_new _ _ [34] _ (Nat.le_refl _) rfl (by decide))⟩
  case round =>
    obtain ⟨k, hk, rfl, HB, L, HL, HR⟩ := hrel
    have hlen : L.length ≤ 140737488355000 := by
      have := flat_len (s.data.toList.take k)
      rw [List.length_take, len_data] at this; rw [HL.out, List.length_cons]; omega
    by_cases hlt : k < s.size
    · go_wp2_with (go_at_call 45; refine (appendByte_any w.heap.size _ _ s[k] _ HB.out.size HR.out hlen (HE.out.below HB.out h0)).mono ?_; rintro e w' ⟨v', rfl, hr', hb'⟩; have HB' := Lib.hid hb'; have HR' := Lib.hid hr'; clear hb' hr')
      go_roundw
      case rel => exact ⟨k + 1, by omega, by go_num, Lib.hid (HB.out.trans HB'.out), L ++ esc s[k], Lib.hid (by rw [HL.out, take_snoc' s k hlt, flat_snoc]; rfl), HR'⟩
      case measure => simp [intOf]; omega
    · have hr : World.ownsRow _ _ _ _ _ _ _ := HR.out
      have hq : L ++ [34] = quoteL s.data.toList := by
        rw [HL.out, List.take_of_length_le (by rw [len_data]; omega)]; rfl
      have HQ := Lib.hid hq; clear hq
      go_wp2_with (at_builtin; refine wpList_append_own _ rfl _ _ 38 rfl w.heap.size 5 i0 (.int .u8 0) 1 1 Tryd.underlying38 hi hz0 hz1 hz2 rfl (by decide) _ _ _ rfl (hr.alloc _) ⟨_, 0, none⟩ 1 1 [bv 34] rfl rfl ?c1 ?c2 ?c3 ?c4 ?c5 ?_)
      case c1 => exact cells_new _ _ [bv 34]
      case c2 => simp [Value.oneCell', bv]
      case c3 => unfold maxLen; omega
      case c4 => omega
      case c5 => have := HB.out.size; simp; omega
      intro v' w1 hown hgrow _
      have hcv := conv_row (B := w.heap.size) (l := L ++ [34]) (v := v') (W := w1) (by
        unfold Row; rw [List.length_append, List.map_append]; exact hown)
      go_wp2
      go_ret
      exact ⟨ret_str (by rw [← HQ.out]), (HB.out.alloc HB.out.size _).grown hgrow (by have := HB.out.size; simp; omega) (fun k e => (HR.out.lt k e).1)⟩
end Go.Proofs.YtdcjnklagklckaaDoor
