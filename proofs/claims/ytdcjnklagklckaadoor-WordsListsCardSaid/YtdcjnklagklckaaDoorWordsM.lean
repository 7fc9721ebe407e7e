/- words.readQuoted and Unquote: the string whose quoted form stands there, and how many bytes it has. -/
import Derived.Test.YtdcjnklagklckaaDoorWordsL
namespace Go.Proofs.YtdcjnklagklckaaDoor
open Go.RowKit
set_option linter.unusedVariables false

theorem esc_ne_nil (c : UInt8) : 1 ≤ (esc c).length := by
  rcases esc_cases c with ⟨_, h⟩ | ⟨_, _, x, h, _⟩ | ⟨_, _, h⟩ <;> rw [h] <;> simp
theorem esc_inj {c d : UInt8} {l : List UInt8} (hc : esc c <+: l) (hd : esc d <+: l) : c = d := by
  have plain92 : isPlain (92 : UInt8).toNat = false := by decide
  have let120 : ∀ x : UInt8, (x = 34 ∨ x = 92 ∨ x = 110 ∨ x = 114 ∨ x = 116) → x ≠ 120 := by rintro x (rfl | rfl | rfl | rfl | rfl) <;> decide
  have idx : ∀ (a : UInt8) (x : UInt8), escIdx a < 5 → esc a = [92, x] → letIdx x = escIdx a := by
    intro a x h he
    rcases (show escIdx a = 0 ∨ escIdx a = 1 ∨ escIdx a = 2 ∨ escIdx a = 3 ∨ escIdx a = 4 by omega) with h | h | h | h | h
    · rw [h]; have := (idx_eq0 h).2; rw [he] at this; simp at this; rw [this]; rfl
    · rw [h]; have := (idx_eq1 h).2; rw [he] at this; simp at this; rw [this]; rfl
    · rw [h]; have := (idx_eq2 h).2; rw [he] at this; simp at this; rw [this]; rfl
    · rw [h]; have := (idx_eq3 h).2; rw [he] at this; simp at this; rw [this]; rfl
    · rw [h]; have := (idx_eq4 h).2; rw [he] at this; simp at this; rw [this]; rfl
  have idxinj : ∀ a b : UInt8, escIdx a < 5 → escIdx a = escIdx b → a = b := by
    intro a b h e; apply UInt8.toNat_inj.1
    rcases (show escIdx a = 0 ∨ escIdx a = 1 ∨ escIdx a = 2 ∨ escIdx a = 3 ∨ escIdx a = 4 by omega) with h | h | h | h | h
    · have h1 := (idx_eq0 h).1; have h2 := (idx_eq0 (show escIdx b = 0 by omega)).1; simp at h1 h2; omega
    · have h1 := (idx_eq1 h).1; have h2 := (idx_eq1 (show escIdx b = 1 by omega)).1; simp at h1 h2; omega
    · have h1 := (idx_eq2 h).1; have h2 := (idx_eq2 (show escIdx b = 2 by omega)).1; simp at h1 h2; omega
    · have h1 := (idx_eq3 h).1; have h2 := (idx_eq3 (show escIdx b = 3 by omega)).1; simp at h1 h2; omega
    · have h1 := (idx_eq4 h).1; have h2 := (idx_eq4 (show escIdx b = 4 by omega)).1; simp at h1 h2; omega
  have hexn : ∀ a b : UInt8, hexd (a.toNat / 16) = hexd (b.toNat / 16) → hexd (a.toNat % 16) = hexd (b.toNat % 16) → a = b := by
    intro a b h1 h2
    have a1 := hexv_hexd ⟨a.toNat / 16, by have := a.toNat_lt; omega⟩
    have a2 := hexv_hexd ⟨a.toNat % 16, by omega⟩
    have b1 := hexv_hexd ⟨b.toNat / 16, by have := b.toNat_lt; omega⟩
    have b2 := hexv_hexd ⟨b.toNat % 16, by omega⟩
    simp only at a1 a2 b1 b2
    rw [h1] at a1; rw [h2] at a2
    apply UInt8.toNat_inj.1; omega
  obtain ⟨t, rfl⟩ := hc
  obtain ⟨u, hu⟩ := hd
  rcases esc_cases c with ⟨pc, ec⟩ | ⟨_, ic, x, ec, hx⟩ | ⟨_, ic, ec⟩ <;> rcases esc_cases d with ⟨pd, ed⟩ | ⟨_, id, y, ed, hy⟩ | ⟨_, id, ed⟩ <;> rw [ec, ed] at hu
  · simp at hu; exact hu.1.symm
  · simp at hu; rw [← hu.1] at pc; rw [pc] at plain92; cases plain92
  · simp at hu; rw [← hu.1] at pc; rw [pc] at plain92; cases plain92
  · simp at hu; rw [hu.1] at pd; rw [pd] at plain92; cases plain92
  · simp at hu; refine idxinj c d ic ?_; rw [← idx c x ic ec, ← idx d y id ed, hu.1]
  · simp at hu; exact absurd hu.1.symm (let120 x hx)
  · simp at hu; rw [hu.1] at pd; rw [pd] at plain92; cases plain92
  · simp at hu; exact absurd hu.1 (let120 y hy)
  · simp at hu; exact (hexn d c hu.1 hu.2.1).symm

def allBytes : List UInt8 := (List.range 256).map UInt8.ofNat
theorem mem_allBytes (c : UInt8) : c ∈ allBytes := by
  unfold allBytes; rw [List.mem_map]; exact ⟨c.toNat, by rw [List.mem_range]; exact c.toNat_lt, by simp⟩
/-- The byte whose form l begins with. -/
def findE (l : List UInt8) : Option UInt8 := allBytes.find? fun c => (esc c).isPrefixOf l
theorem findE_some {l : List UInt8} {c : UInt8} (h : esc c <+: l) : findE l = some c := by
  unfold findE
  cases hf : allBytes.find? fun c => (esc c).isPrefixOf l with
  | none =>
    rw [List.find?_eq_none] at hf
    exact absurd (List.isPrefixOf_iff_prefix.2 h) (hf c (mem_allBytes c))
  | some d => have := List.find?_some hf; rw [esc_inj h (List.isPrefixOf_iff_prefix.1 this)]
theorem findE_none {l : List UInt8} (h : ∀ d, ¬ esc d <+: l) : findE l = none := by
  unfold findE; rw [List.find?_eq_none]; intro c _ hc; exact h c (List.isPrefixOf_iff_prefix.1 hc)

/-- Behind the quote that begins a quoted form: the string, and how many bytes of l it takes, the last quote with them. -/
def rdQ : Nat → List UInt8 → Option (List UInt8 × Nat)
  | 0, _ => none
  | f + 1, l => if l.isEmpty then none else if l.headD 0 = 34 then some ([], 1) else
    match findE l with
    | none => none
    | some d => (rdQ f (l.drop (esc d).length)).map fun p => (d :: p.1, (esc d).length + p.2)
/-- The string whose quoted form l begins with, and how many bytes this has. -/
def quotedL (l : List UInt8) : Option (List UInt8 × Nat) := if l.headD 0 = 34 then (rdQ l.length (l.drop 1)).map fun p => (p.1, 1 + p.2) else none
def qT (l : List UInt8) : List UInt8 × Nat := (quotedL l).getD ([], 0)

theorem drop_head (s : ByteArray) (k : Nat) (h : k < s.size) : (s.data.toList.drop k).headD 0 = s[k] ∧ (s.data.toList.drop k).isEmpty = false := by
  have : s.data.toList.drop k = s[k] :: s.data.toList.drop (k + 1) := by
    rw [List.drop_eq_getElem_cons (by rw [len_data]; exact h)]; rfl
  rw [this]; exact ⟨rfl, rfl⟩

/-- What has been read when k bytes are gone, and what is to come. -/
def QInv (s : ByteArray) (k : Nat) (T : List UInt8) : Prop := ∃ F, s.size - k < F ∧ quotedL s.data.toList = (rdQ F (s.data.toList.drop k)).map fun p => (T ++ p.1, k + p.2)

theorem qinv_start (s : ByteArray) (h0 : 0 < s.size) (h : s[0] = 34) : QInv s 1 [] := by
  refine ⟨s.size, by omega, ?_⟩
  unfold quotedL; rw [cons_head s h0, if_pos h, len_data]; rfl
theorem qinv_step {s : ByteArray} {k : Nat} {T : List UInt8} (h : QInv s k T) (hk : k < s.size) (hq : s[k] ≠ 34) {c : UInt8} {m : Nat} (hm : m = (esc c).length) (hc : esc c <+: s.data.toList.drop k) : QInv s (k + m) (T ++ [c]) := by
  obtain ⟨F, hF, h⟩ := h
  cases F with
  | zero => omega
  | succ F =>
    have := esc_ne_nil c
    refine ⟨F, by omega, ?_⟩
    obtain ⟨h1, h2⟩ := drop_head s k hk
    rw [h, rdQ, if_neg (by rw [h2]; simp), if_neg (by rw [h1]; exact hq), findE_some hc]
    simp only [List.drop_drop, Option.map_map, ← hm]
    congr 1; funext p; simp [Nat.add_assoc]
theorem qinv_bad {s : ByteArray} {k : Nat} {T : List UInt8} (h : QInv s k T) (hk : k < s.size) (hq : s[k] ≠ 34) (hc : ∀ d, ¬ esc d <+: s.data.toList.drop k) : qT s.data.toList = ([], 0) := by
  obtain ⟨F, hF, h⟩ := h
  cases F with
  | zero => omega
  | succ F =>
    obtain ⟨h1, h2⟩ := drop_head s k hk
    unfold qT; rw [h, rdQ, if_neg (by rw [h2]; simp), if_neg (by rw [h1]; exact hq), findE_none hc]; rfl
theorem qinv_out {s : ByteArray} {k : Nat} {T : List UInt8} (h : QInv s k T) (hk : ¬ k < s.size) : qT s.data.toList = ([], 0) := by
  obtain ⟨F, hF, h⟩ := h
  have : s.data.toList.drop k = [] := List.drop_eq_nil_of_le (by rw [len_data]; omega)
  unfold qT; rw [h, this]; cases F <;> rfl
theorem qinv_end {s : ByteArray} {k : Nat} {T : List UInt8} (h : QInv s k T) (hk : k < s.size) (hq : s[k] = 34) : qT s.data.toList = (T, k + 1) := by
  obtain ⟨F, hF, h⟩ := h
  cases F with
  | zero => omega
  | succ F =>
    obtain ⟨h1, h2⟩ := drop_head s k hk
    unfold qT; rw [h, rdQ, if_neg (by rw [h2]; simp), if_pos (by rw [h1]; exact hq)]; simp
theorem qT_no {s : ByteArray} (h : ∀ h0 : 0 < s.size, s[0] ≠ 34) : qT s.data.toList = ([], 0) := by
  unfold qT quotedL
  by_cases h0 : 0 < s.size
  · rw [cons_head s h0, if_neg (h h0)]; rfl
  · have : s.data.toList = [] := List.eq_nil_of_length_eq_zero (by rw [len_data]; omega)
    rw [this]; rfl
end Go.Proofs.YtdcjnklagklckaaDoor
