/- words.readHex, readByte, readQuoted, Unquote: they read what Quote writes. -/
import Derived.Test.YtdcjnklagklckaaDoorWordsJ
import Derived.Deep.QuietTactic
import Derived.BigQuiet
namespace Go.Proofs.YtdcjnklagklckaaDoor
open Go.RowKit
set_option linter.unusedVariables false

/-- The value of a hexadecimal digit; -1 if it is none. -/
def hexv (c : UInt8) : Int := Lib.indexByte [48, 49, 50, 51, 52, 53, 54, 55, 56, 57, 97, 98, 99, 100, 101, 102] c
theorem hexv_facts : ∀ n : Fin 256, -1 ≤ hexv (UInt8.ofNat n.val) ∧ hexv (UInt8.ofNat n.val) < 16 ∧ (0 ≤ hexv (UInt8.ofNat n.val) → hexd (hexv (UInt8.ofNat n.val)).toNat = UInt8.ofNat n.val) := by decide +kernel
theorem hexv_hexd : ∀ n : Fin 16, hexv (hexd n.val) = n.val := by decide +kernel
theorem hexv_at (c : UInt8) : -1 ≤ hexv c ∧ hexv c < 16 ∧ (0 ≤ hexv c → hexd (hexv c).toNat = c) := by
  have := hexv_facts ⟨c.toNat, c.toNat_lt⟩; simpa using this

theorem idx_any (c : UInt8) (w : World) : Calls Tryd.prog 112 #[.string { data := #[48, 49, 50, 51, 52, 53, 54, 55, 56, 57, 97, 98, 99, 100, 101, 102] }, .int .u8 c.toNat] w fun e w' => e = .returned (.int .i64 (hexv c)) ∧ w = w' :=
  (Tryd.strings_IndexByte _ _ w).mono fun e w' ⟨h1, h2⟩ => ⟨by rw [h1]; unfold hexv; simp, h2.symm⟩

/-- What is read at the beginning of l: the byte c by its n bytes; none, and 0, if no byte's form stands there. -/
def RB (l : List UInt8) (c : UInt8) (n : Nat) : Prop := (n = (esc c).length ∧ esc c <+: l) ∨ (n = 0 ∧ c = 0 ∧ ∀ d, ¬ esc d <+: l)

theorem esc_cases (d : UInt8) : (isPlain d.toNat = true ∧ esc d = [d]) ∨ (isPlain d.toNat = false ∧ escIdx d < 5 ∧ ∃ x, esc d = [92, x] ∧ (x = 34 ∨ x = 92 ∨ x = 110 ∨ x = 114 ∨ x = 116)) ∨
    (isPlain d.toNat = false ∧ escIdx d = 5 ∧ esc d = [92, 120, hexd (d.toNat / 16), hexd (d.toNat % 16)]) := by
  cases hp : isPlain d.toNat
  · refine .inr ?_
    have h5 := escIdx_le d
    rcases (show escIdx d = 0 ∨ escIdx d = 1 ∨ escIdx d = 2 ∨ escIdx d = 3 ∨ escIdx d = 4 ∨ escIdx d = 5 by omega) with h | h | h | h | h | h
    · exact .inl ⟨rfl, by omega, _, (idx_eq0 h).2, by decide⟩
    · exact .inl ⟨rfl, by omega, _, (idx_eq1 h).2, by decide⟩
    · exact .inl ⟨rfl, by omega, _, (idx_eq2 h).2, by decide⟩
    · exact .inl ⟨rfl, by omega, _, (idx_eq3 h).2, by decide⟩
    · exact .inl ⟨rfl, by omega, _, (idx_eq4 h).2, by decide⟩
    · exact .inr ⟨rfl, h, idx_eq5 h hp⟩
  · exact .inl ⟨rfl, by unfold esc; rw [if_pos hp]⟩

theorem or_byte : ∀ h l : Fin 16, bits BinOp.or IntKind.i64 ((h.val : Int) * 16) (l.val : Int) % 256 = ((UInt8.ofNat (16 * h.val + l.val)).toNat : Int) := by decide +kernel
theorem or_byte_at (h l : Int) (a0 : 0 ≤ h) (a1 : h < 16) (b0 : 0 ≤ l) (b1 : l < 16) : bits BinOp.or IntKind.i64 (h * 16) l % 256 = ((UInt8.ofNat (16 * h.toNat + l.toNat)).toNat : Int) := by
  have := or_byte ⟨h.toNat, by omega⟩ ⟨l.toNat, by omega⟩
  simp only [Int.toNat_of_nonneg a0, Int.toNat_of_nonneg b0] at this; exact this

/-- A string that begins with a backslash, behind which no letter of an escape stands. -/
structure HexStart (s : ByteArray) : Prop where
  two : 2 ≤ s.size
  h0 : s[0] = 92
  h1 : s[1] ≠ 34 ∧ s[1] ≠ 92 ∧ s[1] ≠ 110 ∧ s[1] ≠ 114 ∧ s[1] ≠ 116

theorem take_two (s : ByteArray) (h : 2 ≤ s.size) : s.data.toList.take 2 = [s[0], s[1]] := by
  rw [take_snoc' s 1 (by omega), take_one s (by omega)]; rfl
theorem take_four (s : ByteArray) (h : 4 ≤ s.size) : s.data.toList.take 4 = [s[0], s[1], s[2], s[3]] := by
  rw [take_snoc' s 3 (by omega), take_snoc' s 2 (by omega), take_two s (by omega)]; rfl

theorem hex_prefix {s : ByteArray} (H : HexStart s) {d : UInt8} (hd : esc d <+: s.data.toList) :
    ∃ h4 : 4 ≤ s.size, s[1] = 120 ∧ s[2] = hexd (d.toNat / 16) ∧ s[3] = hexd (d.toNat % 16) := by
  have hl := hd.length_le
  rw [len_data] at hl
  have hp := List.prefix_iff_eq_take.1 hd
  rcases esc_cases d with ⟨hpl, he⟩ | ⟨_, _, x, he, hx⟩ | ⟨_, _, he⟩
  · rw [he] at hp; simp only [List.length_cons, List.length_nil, Nat.zero_add] at hp
    rw [take_one s (by have := H.two; omega), H.h0] at hp
    simp only [List.cons.injEq, and_true] at hp; rw [hp] at hpl; exact absurd hpl (by decide)
  · rw [he] at hp; simp only [List.length_cons, List.length_nil, Nat.zero_add, Nat.reduceAdd] at hp
    rw [take_two s H.two] at hp
    simp only [List.cons.injEq, and_true] at hp
    have := H.h1; rw [← hp.2] at this; rcases hx with h | h | h | h | h <;> simp [h] at this
  · rw [he] at hp hl; simp only [List.length_cons, List.length_nil, Nat.zero_add, Nat.reduceAdd] at hp hl
    rw [take_four s hl] at hp
    simp only [List.cons.injEq, and_true] at hp
    exact ⟨hl, hp.2.1.symm, hp.2.2.1.symm, hp.2.2.2.symm⟩

theorem hex_none {s : ByteArray} (H : HexStart s) (h : ∀ h4 : 4 ≤ s.size, s[1] = 120 → hexv s[2] < 0 ∨ hexv s[3] < 0) : RB s.data.toList 0 0 := by
  refine .inr ⟨rfl, rfl, fun d hd => ?_⟩
  obtain ⟨h4, h1, h2, h3⟩ := hex_prefix H hd
  have a := hexv_hexd ⟨d.toNat / 16, by have := d.toNat_lt; omega⟩
  have b := hexv_hexd ⟨d.toNat % 16, by omega⟩
  rcases h h4 h1 with h | h
  · rw [h2] at h; simp only at a; omega
  · rw [h3] at h; simp only at b; omega

theorem hex_end {s : ByteArray} (H : HexStart s) (h4 : 4 ≤ s.size) {C : UInt8} (hC : C = UInt8.ofNat (16 * (hexv s[2]).toNat + (hexv s[3]).toNat)) :
    (esc C = s.data.toList.take 4 → RB s.data.toList C 4) ∧ (esc C ≠ s.data.toList.take 4 → RB s.data.toList 0 0) := by
  constructor
  · intro he; refine .inl ⟨?_, ?_⟩
    · rw [he, take_four s h4]; rfl
    · rw [he]; exact List.take_prefix 4 _
  · intro he; refine .inr ⟨rfl, rfl, fun d hd => ?_⟩
    obtain ⟨_, h1, h2, h3⟩ := hex_prefix H hd
    have a := hexv_hexd ⟨d.toNat / 16, by have := d.toNat_lt; omega⟩
    have b := hexv_hexd ⟨d.toNat % 16, by omega⟩
    simp only at a b
    rw [h2, h3, a, b] at hC
    have : C = d := by rw [hC]; apply UInt8.toNat_inj.1; have := d.toNat_lt; simp; omega
    apply he
    rw [this]
    rcases esc_cases d with ⟨hpl, hee⟩ | ⟨_, _, x, hee, hx⟩ | ⟨_, _, hee⟩
    · have := List.prefix_iff_eq_take.1 hd
      rw [hee] at this; simp only [List.length_cons, List.length_nil, Nat.zero_add] at this
      rw [take_one s (by omega), H.h0] at this
      simp only [List.cons.injEq, and_true] at this; rw [this] at hpl; exact absurd hpl (by decide)
    · have := List.prefix_iff_eq_take.1 hd
      rw [hee] at this; simp only [List.length_cons, List.length_nil, Nat.zero_add, Nat.reduceAdd] at this
      rw [take_two s H.two] at this
      simp only [List.cons.injEq, and_true] at this
      have h' := H.h1; rw [← this.2] at h'; rcases hx with h | h | h | h | h <;> simp [h] at h'
    · rw [hee, take_four s h4, H.h0, h1, h2, h3]

theorem extract4 (s : ByteArray) : (s.extract 0 4).toList = s.data.toList.take 4 := by rw [ByteArray.toList_eq, Lib.extract_data]; rfl
theorem hex_ret {c : UInt8} {n : Nat} {a b : Value} (h1 : a = .int .u8 c.toNat) (h2 : b = .int .i64 n) : Ending.returned (.tuple #[a, b]) = .returned (.tuple #[.int .u8 c.toNat, .int .i64 n]) := by rw [h1, h2]
/-- What readByte and readHex come to. -/
def RBPost (s : ByteArray) (w : World) (e : Ending) (w' : World) : Prop := ∃ (c : UInt8) (n : Nat), e = .returned (.tuple #[.int .u8 c.toNat, .int .i64 n]) ∧ RB s.data.toList c n ∧ Below w.heap.size w w'

set_option maxRecDepth 20000 in
set_option maxHeartbeats 400000 in
theorem readHex_full (s : ByteArray) (w : World) (hs : s.size ≤ maxLen) (H : HexStart s) (h4 : 4 ≤ s.size) (hx : ((s[1].toNat : Int) != 120) = false) (ha : 0 ≤ hexv s[2]) (hb : 0 ≤ hexv s[3]) (hE : EscAt w) :
    Calls Tryd.prog 90 #[.string s] w (RBPost s w) := by
  unfold maxLen at hs
  obtain ⟨_, ha1, _⟩ := hexv_at s[2]
  obtain ⟨_, hb1, _⟩ := hexv_at s[3]
  have k2 : (2 : Int) < s.size := by omega
  have k3 : (3 : Int) < s.size := by omega
  have ho := or_byte_at (hexv s[2]) (hexv s[3]) ha ha1 hb hb1
  obtain ⟨C, hC⟩ : ∃ C, C = UInt8.ofNat (16 * (hexv s[2]).toNat + (hexv s[3]).toNat) := ⟨_, rfl⟩
  rw [← hC] at ho
  have HEND := Lib.hid (hex_end H h4 hC)
  have HE := Lib.hid hE
  clear hC hE H
  cases hq : (esc C == (s.extract 0 4).toList)
  all_goals
    have HQ := Lib.hid hq
    go_enter Tryd.func90, Tryd.ntmps90
    go_wp2
    go_quiet ((go_at_call 112; exact Calls.quiet_of_same ((idx_any _ _).mono fun _ _ h => ⟨h.1, h.2.symm⟩)))
    go_wp2_with fail
    go_region_with (go_at_call 45; refine (appendByte_any _ (.slice none 0 0) [] C _ (by exact Nat.le_refl _) (by exact World.ownsRow_nil _ _ _ _) (by decide) (by exact HE.out)).mono ?_; rintro e w' ⟨v', rfl, hr', hb'⟩; have hcv := conv_row hr'; have HB' := Lib.hid hb'; clear hb' hr')
    go_wp2_with fail
    go_ret2
    have hb' := HB'.out
  · exact ⟨0, 0, rfl, HEND.out.2 (by rw [← extract4]; exact fun e => by have := HQ.out; rw [e] at this; simp at this), (by repeat (first | exact Below.refl _ _ | assumption | apply bl_drew | apply bl_drewN | apply bl_alloc | (refine bl_call ?_ (by assumption))))⟩
  · exact ⟨C, 4, rfl, HEND.out.1 (by rw [← extract4]; exact eq_of_beq HQ.out), (by repeat (first | exact Below.refl _ _ | assumption | apply bl_drew | apply bl_drewN | apply bl_alloc | (refine bl_call ?_ (by assumption))))⟩

set_option maxRecDepth 20000 in
set_option maxHeartbeats 400000 in
theorem readHex_any (s : ByteArray) (w : World) (hs : s.size ≤ maxLen) (H : HexStart s) (hE : EscAt w) : Calls Tryd.prog 90 #[.string s] w (RBPost s w) := by
  by_cases h4 : 4 ≤ s.size
  case neg =>
    have HN := Lib.hid (hex_none H (fun h => absurd h h4))
    unfold maxLen at hs
    clear H
    go_enter Tryd.func90, Tryd.ntmps90
    go_wp2
    go_ret2
    exact ⟨0, 0, rfl, HN.out, Below.refl _ _⟩
  case pos =>
  cases hx : ((s[1].toNat : Int) != 120)
  case true =>
    have HN := Lib.hid (hex_none H (fun _ h => by rw [h] at hx; simp at hx))
    unfold maxLen at hs
    clear H
    go_enter Tryd.func90, Tryd.ntmps90
    go_wp2
    go_ret2
    exact ⟨0, 0, rfl, HN.out, Below.refl _ _⟩
  case false =>
  by_cases hab : 0 ≤ hexv s[2] ∧ 0 ≤ hexv s[3]
  · exact readHex_full s w hs H h4 hx hab.1 hab.2 hE
  · have HN := Lib.hid (hex_none H (fun h4 _ => by omega))
    unfold maxLen at hs
    obtain ⟨_, ha1, _⟩ := hexv_at s[2]
    obtain ⟨_, hb1, _⟩ := hexv_at s[3]
    have k2 : (2 : Int) < s.size := by omega
    have k3 : (3 : Int) < s.size := by omega
    clear H
    by_cases ha : hexv s[2] < 0
    all_goals
      have hb : ¬ hexv s[2] < 0 → hexv s[3] < 0 := by omega
      replace hb := Lib.hid hb
      clear hab
      go_enter Tryd.func90, Tryd.ntmps90
      go_wp2
      go_quiet ((go_at_call 112; exact Calls.quiet_of_same ((idx_any _ _).mono fun _ _ h => ⟨h.1, h.2.symm⟩)))
      have hb' := hb.out
    · clear hb'
      go_wp2_with fail
      go_ret2
      exact ⟨0, 0, rfl, HN.out, (by repeat (first | exact Below.refl _ _ | assumption | apply bl_drew | apply bl_drewN | apply bl_alloc | (refine bl_call ?_ (by assumption))))⟩
    · have hb2 := hb' ha
      clear hb'
      go_wp2_with fail
      go_ret2
      exact ⟨0, 0, rfl, HN.out, (by repeat (first | exact Below.refl _ _ | assumption | apply bl_drew | apply bl_drewN | apply bl_alloc | (refine bl_call ?_ (by assumption))))⟩
end Go.Proofs.YtdcjnklagklckaaDoor
