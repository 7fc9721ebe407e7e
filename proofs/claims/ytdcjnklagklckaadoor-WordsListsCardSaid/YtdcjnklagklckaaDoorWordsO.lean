/- words.Unquote; the reference's escaped, Quote. -/
import Derived.Test.YtdcjnklagklckaaDoorWordsN
import Derived.Lib.AppendStr
namespace Go.Proofs.YtdcjnklagklckaaDoor
open Go.RowKit
set_option linter.unusedVariables false

/-- What Unquote returns. -/
def unqL (l : List UInt8) : List UInt8 × Int := if (qT l).2 = l.length ∧ (qT l).2 ≠ 0 then ((qT l).1, 0) else ([], 6)
theorem qT_le_aux : ∀ (F : Nat) (l : List UInt8) (p : List UInt8 × Nat), rdQ F l = some p → p.2 ≤ l.length
  | 0, l, p, h => by simp [rdQ] at h
  | F + 1, l, p, h => by
    rw [rdQ] at h
    split at h
    · cases h
    · rename_i he
      have : 1 ≤ l.length := by cases l with
        | nil => simp at he
        | cons a b => simp
      split at h
      · cases h; simpa using this
      · split at h
        · cases h
        · rename_i d hd
          simp only [Option.map_eq_some_iff] at h
          obtain ⟨q, hq, rfl⟩ := h
          have h1 := qT_le_aux F _ q hq
          have h2 : esc d <+: l := by
            unfold findE at hd; exact List.isPrefixOf_iff_prefix.1 (List.find?_some (p := fun c => (esc c).isPrefixOf l) hd)
          have := h2.length_le
          rw [List.length_drop] at h1; simp only; omega
theorem qT_le (l : List UInt8) : (qT l).2 ≤ l.length := by
  unfold qT quotedL
  split
  · rename_i h34
    cases h : rdQ l.length (l.drop 1) with
    | none => simp
    | some p =>
      have := qT_le_aux _ _ _ h
      have h1 : 1 ≤ l.length := by cases l with
        | nil => simp at h34
        | cons a b => simp
      rw [List.length_drop] at this; simp; omega
  · simp

theorem ret_str2 {a : ByteArray} {b : Int} {l : List UInt8} {r : List UInt8 × Int} (h1 : a = ⟨l.toArray⟩) (h2 : r = (l, b)) : Ending.returned (.tuple #[.string a, .int .i64 b]) = .returned (.tuple #[.string ⟨r.1.toArray⟩, .int .i64 r.2]) := by rw [h1, h2]

set_option maxRecDepth 20000 in
set_option maxHeartbeats 400000 in
theorem unquote_any (s : ByteArray) (w : World) (hs : s.size ≤ 35184372088000) (hE : EscAt w) (hg : 0 < w.heap.size) :
    Calls Tryd.prog 19 #[.string s] w fun e w' => e = .returned (.tuple #[.string ⟨(unqL s.data.toList).1.toArray⟩, .int .i64 (unqL s.data.toList).2]) ∧ Below w.heap.size w w' := by
  have hle := qT_le s.data.toList
  rw [len_data] at hle
  have HU : Hid (unqL s.data.toList = if (qT s.data.toList).2 = s.size ∧ (qT s.data.toList).2 ≠ 0 then ((qT s.data.toList).1, 0) else ([], 6)) := Lib.hid (by unfold unqL; rw [len_data])
  have HC := Lib.hid (readQuoted_any s w hs hE hg); clear hE
  unfold QPost at HC
  generalize qT s.data.toList = r at *
  obtain ⟨T, n⟩ := r
  simp only at hle HU HC
  by_cases h0 : n = 0
  · have HE := Lib.hid (HU.out.trans (if_neg (by simp [h0])))
    have hz : ((n : Int) == 0) = true := beq_iff_eq.2 (by omega)
    have hn : (n : Int) ≤ 0 := by omega
    clear h0
    go_enter Tryd.func19, Tryd.ntmps19
    go_wp2_with (go_at_call 43; refine HC.out.mono ?_; rintro e w' ⟨rfl, hb⟩)
    go_ret2
    exact ⟨ret_str2 (l := []) rfl HE.out, hb⟩
  · have hz : ((n : Int) == 0) = false := beq_eq_false_iff_ne.2 (by omega)
    by_cases h1 : n < s.size
    · have HE := Lib.hid (HU.out.trans (if_neg (by rintro ⟨h, _⟩; omega)))
      clear h0
      go_enter Tryd.func19, Tryd.ntmps19
      go_wp2_with (go_at_call 43; refine HC.out.mono ?_; rintro e w' ⟨rfl, hb⟩)
      go_ret2
      exact ⟨ret_str2 (l := []) rfl HE.out, hb⟩
    · have HE := Lib.hid (HU.out.trans (if_pos ⟨by omega, h0⟩))
      clear h0
      go_enter Tryd.func19, Tryd.ntmps19
      go_wp2_with (go_at_call 43; refine HC.out.mono ?_; rintro e w' ⟨rfl, hb⟩)
      go_ret2
      exact ⟨ret_str2 rfl HE.out, hb⟩

theorem rhex_any (z : Int) (h0 : 0 ≤ z) (h : z < 16) (w : World) : Calls Tryd.prog 68 #[.int .u8 z] w fun e w' => e = .returned (.int .u8 (hexd z.toNat).toNat) ∧ w = w' := by
  have m0 : z.toNat < hexLit.size := by show _ < 16; omega
  have HH := Lib.hid (hexLit_at z.toNat (by omega))
  go_enter Tryd.func68, Tryd.ntmps68
  go_wp2
  go_ret
  refine ⟨?_, rfl⟩
  rw [← HH.out]; rfl

theorem conv_two (W : World) (b cap : Nat) (c d : Int) (hc : W.cell? ⟨b, 0, none⟩ = some (.int .u8 c)) (hd : W.cell? ⟨b, 1, none⟩ = some (.int .u8 d)) :
    (convert 38 9 (.slice (some ⟨b, 0, none⟩) 2 cap)).run Tryd.prog W = .ok (.string ⟨#[UInt8.ofNat c.toNat, UInt8.ofNat d.toNat]⟩) W := by
  rw [run_convert_bytes_arg W 38 5 Tryd.underlying38 Tryd.underlying5 b 0 2 cap [c, d] rfl (fun i hi => by
    rcases (show i = 0 ∨ i = 1 by omega) with rfl | rfl
    · simpa using hc
    · simpa using hd) _ Tryd.underlying9]
  rfl

set_option maxRecDepth 20000 in
set_option maxHeartbeats 400000 in
theorem rescaped_any (c : UInt8) (w : World) : Calls Tryd.prog 46 #[.int .u8 c.toNat] w fun e w' => e = .returned (.string ⟨(esc c).toArray⟩) ∧ Below w.heap.size w w' := by
  have hcv := conv_one
  have hcv2 := conv_two
  rcases esc_cases c with ⟨hp, he⟩ | ⟨hp, hidx, _⟩ | ⟨hp, hidx, he⟩
  · have HP := Lib.hid hp; have HE := Lib.hid he; clear hp he
    go_enter Tryd.func46, Tryd.ntmps46
    go_wp2_with (go_at_call 67; refine (rplain_any _ _).mono ?_; rintro e w' ⟨rfl, rfl⟩; rw [HP.out])
    go_ret
    exact ⟨ret_str (by rw [HE.out]), (by repeat (first | exact Below.refl _ _ | assumption | apply bl_drew | apply bl_drewN | apply bl_alloc | (refine bl_call ?_ (by assumption))))⟩
  · have HP := Lib.hid hp; clear hp
    rcases (show escIdx c = 0 ∨ escIdx c = 1 ∨ escIdx c = 2 ∨ escIdx c = 3 ∨ escIdx c = 4 by omega) with h | h | h | h | h
    · obtain ⟨ht, he⟩ := idx_eq0 h
      have HE := Lib.hid he
      have k0 : (c.toNat : Int) = 34 := by simp at ht; omega
      rw [k0] at HP ⊢
      clear hidx h he ht k0
      go_enter Tryd.func46, Tryd.ntmps46
      go_wp2_with (go_at_call 67; refine (rplain_any _ _).mono ?_; rintro e w' ⟨rfl, rfl⟩; rw [HP.out])
      go_ret
      exact ⟨ret_str (by rw [HE.out]), Below.refl _ _⟩
    · obtain ⟨ht, he⟩ := idx_eq1 h
      have HE := Lib.hid he
      have k0 : (c.toNat : Int) = 92 := by simp at ht; omega
      rw [k0] at HP ⊢
      clear hidx h he ht k0
      go_enter Tryd.func46, Tryd.ntmps46
      go_wp2_with (go_at_call 67; refine (rplain_any _ _).mono ?_; rintro e w' ⟨rfl, rfl⟩; rw [HP.out])
      go_ret
      exact ⟨ret_str (by rw [HE.out]), Below.refl _ _⟩
    · obtain ⟨ht, he⟩ := idx_eq2 h
      have HE := Lib.hid he
      have k0 : (c.toNat : Int) = 10 := by simp at ht; omega
      rw [k0] at HP ⊢
      clear hidx h he ht k0
      go_enter Tryd.func46, Tryd.ntmps46
      go_wp2_with (go_at_call 67; refine (rplain_any _ _).mono ?_; rintro e w' ⟨rfl, rfl⟩; rw [HP.out])
      go_ret
      exact ⟨ret_str (by rw [HE.out]), Below.refl _ _⟩
    · obtain ⟨ht, he⟩ := idx_eq3 h
      have HE := Lib.hid he
      have k0 : (c.toNat : Int) = 13 := by simp at ht; omega
      rw [k0] at HP ⊢
      clear hidx h he ht k0
      go_enter Tryd.func46, Tryd.ntmps46
      go_wp2_with (go_at_call 67; refine (rplain_any _ _).mono ?_; rintro e w' ⟨rfl, rfl⟩; rw [HP.out])
      go_ret
      exact ⟨ret_str (by rw [HE.out]), Below.refl _ _⟩
    · obtain ⟨ht, he⟩ := idx_eq4 h
      have HE := Lib.hid he
      have k0 : (c.toNat : Int) = 9 := by simp at ht; omega
      rw [k0] at HP ⊢
      clear hidx h he ht k0
      go_enter Tryd.func46, Tryd.ntmps46
      go_wp2_with (go_at_call 67; refine (rplain_any _ _).mono ?_; rintro e w' ⟨rfl, rfl⟩; rw [HP.out])
      go_ret
      exact ⟨ret_str (by rw [HE.out]), Below.refl _ _⟩
  · have HP := Lib.hid hp; have HE := Lib.hid he; clear hp he
    have t34 : ((c.toNat : Int) == 34) = false := by rw [beq_eq_false_iff_ne]; intro e; unfold escIdx at hidx; (repeat' split at hidx) <;> omega
    have t92 : ((c.toNat : Int) == 92) = false := by rw [beq_eq_false_iff_ne]; intro e; unfold escIdx at hidx; (repeat' split at hidx) <;> omega
    have t10 : ((c.toNat : Int) == 10) = false := by rw [beq_eq_false_iff_ne]; intro e; unfold escIdx at hidx; (repeat' split at hidx) <;> omega
    have t13 : ((c.toNat : Int) == 13) = false := by rw [beq_eq_false_iff_ne]; intro e; unfold escIdx at hidx; (repeat' split at hidx) <;> omega
    have t9 : ((c.toNat : Int) == 9) = false := by rw [beq_eq_false_iff_ne]; intro e; unfold escIdx at hidx; (repeat' split at hidx) <;> omega
    clear hidx
    have q0 : 0 ≤ (c.toNat : Int) := by omega
    have q1 : c.toNat < 256 := c.toNat_lt
    go_enter Tryd.func46, Tryd.ntmps46
    go_wp2_with fail
    refine (rplain_any _ _).mono ?_
    rintro e w' ⟨rfl, rfl⟩
    rw [HP.out]
    go_wp2_with fail
    refine (rhex_any _ (by omega) (by omega) _).mono ?_
    rintro e w' ⟨rfl, rfl⟩
    go_wp2_with fail
    refine (rhex_any _ (by omega) (by omega) _).mono ?_
    rintro e w' ⟨rfl, rfl⟩
    go_wp2_with fail
    go_ret
    refine ⟨ret_str ?_, (by repeat (first | exact Below.refl _ _ | assumption | apply bl_drew | apply bl_drewN | apply bl_alloc | (refine bl_call ?_ (by assumption))))⟩
    rw [HE.out]; exact ByteArray.mk_append_mk [92, 120] [_, _]
end Go.Proofs.YtdcjnklagklckaaDoor
