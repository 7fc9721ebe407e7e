/- words.readByte reads the byte whose form stands at the beginning of a string. -/
import Derived.Test.YtdcjnklagklckaaDoorWordsK
namespace Go.Proofs.YtdcjnklagklckaaDoor
open Go.RowKit
set_option linter.unusedVariables false

/-- The place of x among the letters of escapes; 5 if it isn't there. -/
def letIdx (x : UInt8) : Nat := if x.toNat = 34 then 0 else if x.toNat = 92 then 1 else if x.toNat = 110 then 2 else if x.toNat = 114 then 3 else if x.toNat = 116 then 4 else 5
theorem letIdx_le (x : UInt8) : letIdx x ≤ 5 := by unfold letIdx; (repeat' split) <;> omega
theorem let_lt0 {x : UInt8} (h : 0 < letIdx x) : ((34 : Int) == (x.toNat : Int)) = false := by
  rw [beq_eq_false_iff_ne]; intro e; have e' : x.toNat = 34 := by omega
  have : x = 34 := UInt8.toNat_inj.1 e'
  subst this; simp [letIdx] at h
theorem let_eq0 {x : UInt8} (h : letIdx x = 0) : ((34 : Int) == (x.toNat : Int)) = true ∧ x = 34 := by
  have e' : x.toNat = 34 := by unfold letIdx at h; (repeat' split at h) <;> omega
  have : x = 34 := UInt8.toNat_inj.1 e'
  subst this; exact ⟨rfl, rfl⟩
theorem let_lt1 {x : UInt8} (h : 1 < letIdx x) : ((92 : Int) == (x.toNat : Int)) = false := by
  rw [beq_eq_false_iff_ne]; intro e; have e' : x.toNat = 92 := by omega
  have : x = 92 := UInt8.toNat_inj.1 e'
  subst this; simp [letIdx] at h
theorem let_eq1 {x : UInt8} (h : letIdx x = 1) : ((92 : Int) == (x.toNat : Int)) = true ∧ x = 92 := by
  have e' : x.toNat = 92 := by unfold letIdx at h; (repeat' split at h) <;> omega
  have : x = 92 := UInt8.toNat_inj.1 e'
  subst this; exact ⟨rfl, rfl⟩
theorem let_lt2 {x : UInt8} (h : 2 < letIdx x) : ((110 : Int) == (x.toNat : Int)) = false := by
  rw [beq_eq_false_iff_ne]; intro e; have e' : x.toNat = 110 := by omega
  have : x = 110 := UInt8.toNat_inj.1 e'
  subst this; simp [letIdx] at h
theorem let_eq2 {x : UInt8} (h : letIdx x = 2) : ((110 : Int) == (x.toNat : Int)) = true ∧ x = 110 := by
  have e' : x.toNat = 110 := by unfold letIdx at h; (repeat' split at h) <;> omega
  have : x = 110 := UInt8.toNat_inj.1 e'
  subst this; exact ⟨rfl, rfl⟩
theorem let_lt3 {x : UInt8} (h : 3 < letIdx x) : ((114 : Int) == (x.toNat : Int)) = false := by
  rw [beq_eq_false_iff_ne]; intro e; have e' : x.toNat = 114 := by omega
  have : x = 114 := UInt8.toNat_inj.1 e'
  subst this; simp [letIdx] at h
theorem let_eq3 {x : UInt8} (h : letIdx x = 3) : ((114 : Int) == (x.toNat : Int)) = true ∧ x = 114 := by
  have e' : x.toNat = 114 := by unfold letIdx at h; (repeat' split at h) <;> omega
  have : x = 114 := UInt8.toNat_inj.1 e'
  subst this; exact ⟨rfl, rfl⟩
theorem let_lt4 {x : UInt8} (h : 4 < letIdx x) : ((116 : Int) == (x.toNat : Int)) = false := by
  rw [beq_eq_false_iff_ne]; intro e; have e' : x.toNat = 116 := by omega
  have : x = 116 := UInt8.toNat_inj.1 e'
  subst this; simp [letIdx] at h
theorem let_eq4 {x : UInt8} (h : letIdx x = 4) : ((116 : Int) == (x.toNat : Int)) = true ∧ x = 116 := by
  have e' : x.toNat = 116 := by unfold letIdx at h; (repeat' split at h) <;> omega
  have : x = 116 := UInt8.toNat_inj.1 e'
  subst this; exact ⟨rfl, rfl⟩
theorem let_eq5 {x : UInt8} (h : letIdx x = 5) : x ≠ 34 ∧ x ≠ 92 ∧ x ≠ 110 ∧ x ≠ 114 ∧ x ≠ 116 := by
  refine ⟨?_, ?_, ?_, ?_, ?_⟩ <;> (rintro rfl; revert h; decide)

theorem rb_plain (s : ByteArray) (h0 : 0 < s.size) (hp : isPlain s[0].toNat = true) : RB s.data.toList s[0] 1 := by
  have he : esc s[0] = [s[0]] := by unfold esc; rw [if_pos hp]
  refine .inl ⟨by rw [he]; rfl, ?_⟩
  rw [he, ← take_one s h0]; exact List.take_prefix _ _
theorem rb_no (s : ByteArray) (h0 : 0 < s.size) (hp : isPlain s[0].toNat = false) (h : s[0] = 92 → ¬ 2 ≤ s.size) : RB s.data.toList 0 0 := by
  refine .inr ⟨rfl, rfl, fun d hd => ?_⟩
  have hl := hd.length_le
  rw [len_data] at hl
  have hq := List.prefix_iff_eq_take.1 hd
  have h92 : ∀ r, esc d = 92 :: r → r ≠ [] → False := by
    intro r he hr
    obtain ⟨t, ht⟩ := hd
    rw [he, data_cons s h0] at ht
    have h1 : s[0] = 92 := by simpa using (congrArg List.head? ht).symm
    have : 2 ≤ s.size := by
      rw [he] at hl; cases r with
      | nil => exact absurd rfl hr
      | cons a b => simp only [List.length_cons] at hl; omega
    exact h h1 this
  rcases esc_cases d with ⟨hpl, he⟩ | ⟨_, _, x, he, hx⟩ | ⟨_, _, he⟩
  · rw [he] at hq; simp only [List.length_cons, List.length_nil, Nat.zero_add] at hq
    rw [take_one s h0] at hq
    simp only [List.cons.injEq, and_true] at hq; rw [hq] at hpl; rw [hpl] at hp; cases hp
  · exact h92 _ he (by simp)
  · exact h92 _ he (by simp)
theorem rb_two (s : ByteArray) (h2 : 2 ≤ s.size) (h0 : s[0] = 92) (c x : UInt8) (h1 : s[1] = x) (he : esc c = [92, x]) : RB s.data.toList c 2 := by
  refine .inl ⟨by rw [he]; rfl, ?_⟩
  rw [he, ← h0, ← h1, ← take_two s h2]; exact List.take_prefix _ _

theorem RBPost.trans {s : ByteArray} {w W : World} {e : Ending} {w' : World} (h : RBPost s W e w') (hb : Below w.heap.size w W) : RBPost s w e w' := by
  obtain ⟨c, n, h1, h2, h3⟩ := h; exact ⟨c, n, h1, h2, bl_call hb h3⟩

set_option maxRecDepth 20000 in
set_option maxHeartbeats 1000000 in
theorem readByte_any (s : ByteArray) (w : World) (hs : s.size ≤ maxLen) (h0 : 0 < s.size) (hE : EscAt w) (hg : 0 < w.heap.size) :
    Calls Tryd.prog 65 #[.string s] w (RBPost s w) := by
  have hs' := hs
  unfold maxLen at hs
  cases hp : isPlain s[0].toNat
  case true =>
    have HP := Lib.hid hp
    have HN := Lib.hid (rb_plain s h0 hp); clear hp
    go_enter Tryd.func65, Tryd.ntmps65
    go_wp2_with (go_at_call 66; refine (itself_any _ _).mono ?_; rintro e w' ⟨rfl, rfl⟩; rw [HP.out])
    go_ret2
    exact ⟨_, 1, rfl, HN.out, Below.refl _ _⟩
  case false =>
  have HP := Lib.hid hp; clear hp
  cases h92 : ((s[0].toNat : Int) != 92)
  case true =>
    have HN := Lib.hid (rb_no s h0 HP.out (fun e => by rw [e] at h92; simp at h92))
    go_enter Tryd.func65, Tryd.ntmps65
    go_wp2_with (go_at_call 66; refine (itself_any _ _).mono ?_; rintro e w' ⟨rfl, rfl⟩; rw [HP.out])
    go_ret2
    exact ⟨0, 0, rfl, HN.out, Below.refl _ _⟩
  case false =>
  by_cases h2 : 2 ≤ s.size
  case neg =>
    have HN := Lib.hid (rb_no s h0 HP.out (fun _ => h2))
    go_enter Tryd.func65, Tryd.ntmps65
    go_wp2_with (go_at_call 66; refine (itself_any _ _).mono ?_; rintro e w' ⟨rfl, rfl⟩; rw [HP.out])
    go_ret2
    exact ⟨0, 0, rfl, HN.out, Below.refl _ _⟩
  case pos =>
  have hc92 : s[0] = 92 := by apply UInt8.toNat_inj.1; simp at h92; show _ = 92; omega
  have H92 := Lib.hid hc92; clear hc92
  have HE := Lib.hid hE
  obtain ⟨t, fr, hgl⟩ := hE
  have k1 : (1 : Int) < s.size := by omega
  have x0 : ∀ w, (Instr.index 80 (.agg escCells) (.int .i64 0)).run Tryd.prog w = .ok (.agg #[.int .u8 34, .int .u8 34]) w := fun _ => by kernel_rfl
  have x1 : ∀ w, (Instr.index 80 (.agg escCells) (.int .i64 1)).run Tryd.prog w = .ok (.agg #[.int .u8 92, .int .u8 92]) w := fun _ => by kernel_rfl
  have x2 : ∀ w, (Instr.index 80 (.agg escCells) (.int .i64 2)).run Tryd.prog w = .ok (.agg #[.int .u8 10, .int .u8 110]) w := fun _ => by kernel_rfl
  have x3 : ∀ w, (Instr.index 80 (.agg escCells) (.int .i64 3)).run Tryd.prog w = .ok (.agg #[.int .u8 13, .int .u8 114]) w := fun _ => by kernel_rfl
  have x4 : ∀ w, (Instr.index 80 (.agg escCells) (.int .i64 4)).run Tryd.prog w = .ok (.agg #[.int .u8 9, .int .u8 116]) w := fun _ => by kernel_rfl
  go_enter Tryd.func65, Tryd.ntmps65
  go_wp2_with (first
    | (go_at_call 66; refine (itself_any _ _).mono ?_; rintro e w' ⟨rfl, rfl⟩; rw [HP.out])
    | (refine wpList_load_row rfl 80 _ rfl 0 rfl t _ fr _ hgl Tryd.underlying80 rfl (by kernel_rfl) ?_))
  go_loopw [5, 20] (fun _ i wr => ∃ k : Nat, k ≤ letIdx s[1] ∧ i = .int .i64 k ∧ Hid (Below w.heap.size w wr)) (fun _ i _ => 5 - (intOf i).toNat)
  case atStart => exact ⟨0, by omega, rfl, Lib.hid (Below.refl _ _)⟩
  case round =>
    obtain ⟨k, hk, rfl, HB⟩ := hrel
    have hk5 := letIdx_le s[1]
    rcases (show k = 0 ∨ k = 1 ∨ k = 2 ∨ k = 3 ∨ k = 4 ∨ k = 5 by omega) with rfl | rfl | rfl | rfl | rfl | rfl
    · by_cases hlt : 0 < letIdx s[1]
      · have ht := let_lt0 hlt
        go_wp2
        go_quiet (fail)
        go_wp2
        go_roundw
        case rel => exact ⟨0 + 1, by omega, rfl, Lib.hid (by have hb := HB.out; exact (by repeat (first | exact Below.refl _ _ | assumption | apply bl_drew | apply bl_drewN | apply bl_alloc | (refine bl_call ?_ (by assumption)))))⟩
        case measure => simp [intOf]
      · obtain ⟨ht, hes⟩ := let_eq0 (show letIdx s[1] = 0 by omega)
        have HN := Lib.hid (rb_two s h2 H92.out 34 34 hes (by decide)); clear hes
        go_wp2
        go_quiet (fail)
        go_wp2
        go_ret2
        exact ⟨34, 2, rfl, HN.out, by have hb := HB.out; exact (by repeat (first | exact Below.refl _ _ | assumption | apply bl_drew | apply bl_drewN | apply bl_alloc | (refine bl_call ?_ (by assumption))))⟩
    · by_cases hlt : 1 < letIdx s[1]
      · have ht := let_lt1 hlt
        go_wp2
        go_quiet (fail)
        go_wp2
        go_roundw
        case rel => exact ⟨1 + 1, by omega, rfl, Lib.hid (by have hb := HB.out; exact (by repeat (first | exact Below.refl _ _ | assumption | apply bl_drew | apply bl_drewN | apply bl_alloc | (refine bl_call ?_ (by assumption)))))⟩
        case measure => simp [intOf]
      · obtain ⟨ht, hes⟩ := let_eq1 (show letIdx s[1] = 1 by omega)
        have HN := Lib.hid (rb_two s h2 H92.out 92 92 hes (by decide)); clear hes
        go_wp2
        go_quiet (fail)
        go_wp2
        go_ret2
        exact ⟨92, 2, rfl, HN.out, by have hb := HB.out; exact (by repeat (first | exact Below.refl _ _ | assumption | apply bl_drew | apply bl_drewN | apply bl_alloc | (refine bl_call ?_ (by assumption))))⟩
    · by_cases hlt : 2 < letIdx s[1]
      · have ht := let_lt2 hlt
        go_wp2
        go_quiet (fail)
        go_wp2
        go_roundw
        case rel => exact ⟨2 + 1, by omega, rfl, Lib.hid (by have hb := HB.out; exact (by repeat (first | exact Below.refl _ _ | assumption | apply bl_drew | apply bl_drewN | apply bl_alloc | (refine bl_call ?_ (by assumption)))))⟩
        case measure => simp [intOf]
      · obtain ⟨ht, hes⟩ := let_eq2 (show letIdx s[1] = 2 by omega)
        have HN := Lib.hid (rb_two s h2 H92.out 10 110 hes (by decide)); clear hes
        go_wp2
        go_quiet (fail)
        go_wp2
        go_ret2
        exact ⟨10, 2, rfl, HN.out, by have hb := HB.out; exact (by repeat (first | exact Below.refl _ _ | assumption | apply bl_drew | apply bl_drewN | apply bl_alloc | (refine bl_call ?_ (by assumption))))⟩
    · by_cases hlt : 3 < letIdx s[1]
      · have ht := let_lt3 hlt
        go_wp2
        go_quiet (fail)
        go_wp2
        go_roundw
        case rel => exact ⟨3 + 1, by omega, rfl, Lib.hid (by have hb := HB.out; exact (by repeat (first | exact Below.refl _ _ | assumption | apply bl_drew | apply bl_drewN | apply bl_alloc | (refine bl_call ?_ (by assumption)))))⟩
        case measure => simp [intOf]
      · obtain ⟨ht, hes⟩ := let_eq3 (show letIdx s[1] = 3 by omega)
        have HN := Lib.hid (rb_two s h2 H92.out 13 114 hes (by decide)); clear hes
        go_wp2
        go_quiet (fail)
        go_wp2
        go_ret2
        exact ⟨13, 2, rfl, HN.out, by have hb := HB.out; exact (by repeat (first | exact Below.refl _ _ | assumption | apply bl_drew | apply bl_drewN | apply bl_alloc | (refine bl_call ?_ (by assumption))))⟩
    · by_cases hlt : 4 < letIdx s[1]
      · have ht := let_lt4 hlt
        go_wp2
        go_quiet (fail)
        go_wp2
        go_roundw
        case rel => exact ⟨4 + 1, by omega, rfl, Lib.hid (by have hb := HB.out; exact (by repeat (first | exact Below.refl _ _ | assumption | apply bl_drew | apply bl_drewN | apply bl_alloc | (refine bl_call ?_ (by assumption)))))⟩
        case measure => simp [intOf]
      · obtain ⟨ht, hes⟩ := let_eq4 (show letIdx s[1] = 4 by omega)
        have HN := Lib.hid (rb_two s h2 H92.out 9 116 hes (by decide)); clear hes
        go_wp2
        go_quiet (fail)
        go_wp2
        go_ret2
        exact ⟨9, 2, rfl, HN.out, by have hb := HB.out; exact (by repeat (first | exact Below.refl _ _ | assumption | apply bl_drew | apply bl_drewN | apply bl_alloc | (refine bl_call ?_ (by assumption))))⟩
    · have HH := Lib.hid (let_eq5 (show letIdx s[1] = 5 by omega))
      go_wp2_with (go_at_call 90; refine (readHex_any s _ hs' ⟨h2, H92.out, HH.out⟩ (by exact HE.out.below HB.out hg)).mono ?_; rintro e w' ⟨c, n, rfl, hrb, hb'⟩; have HRB := Lib.hid hrb; clear hrb)
      go_ret2
      exact ⟨c, n, rfl, HRB.out, bl_call HB.out hb'⟩
end Go.Proofs.YtdcjnklagklckaaDoor
