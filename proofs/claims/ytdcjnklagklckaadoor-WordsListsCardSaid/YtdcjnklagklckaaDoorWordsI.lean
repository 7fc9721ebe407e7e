/- words.appendByte appends to a row of the call's own the bytes by which a quoted form has a byte. -/
import Derived.Test.YtdcjnklagklckaaDoorWordsG
import Derived.Maps.AppendAt
import Derived.Laws.Rows
import Derived.Deep.AppendLies
import Derived.Deep.RegionLaw
namespace Go.Proofs.YtdcjnklagklckaaDoor
open Go.RowKit
set_option linter.unusedVariables false

def hexd (n : Nat) : UInt8 := if n < 10 then UInt8.ofNat (48 + n) else UInt8.ofNat (87 + n)
/-- The bytes by which a quoted form has the byte c. -/
def esc (c : UInt8) : List UInt8 :=
  if isPlain c.toNat then [c] else if c.toNat = 34 then [92, 34] else if c.toNat = 92 then [92, 92] else if c.toNat = 10 then [92, 110] else if c.toNat = 13 then [92, 114] else if c.toNat = 9 then [92, 116]
  else [92, 120, hexd (c.toNat / 16), hexd (c.toNat % 16)]
theorem esc_len (c : UInt8) : (esc c).length ≤ 4 := by unfold esc; (repeat' split) <;> simp

/-- A byte as the model has it. -/
def bv (c : UInt8) : Value := .int .u8 c.toNat
def escCells : Array Value := #[.int .u8 34, .int .u8 34, .int .u8 92, .int .u8 92, .int .u8 10, .int .u8 110, .int .u8 13, .int .u8 114, .int .u8 9, .int .u8 116]
/-- The table of escapes lies as its initialiser lays it. -/
def EscAt (w : World) : Prop := ∃ t fr, w.heap[0]? = some (.cells escCells t fr)

theorem info_u8 : (Tryd.prog.info? 5).map (fun i => (i.zero, i.size, i.bytes)) = some (some (.int .u8 0), 1, 1) := by kernel_rfl
theorem size_escs : (Tryd.prog.info? 80).map (·.size) = some 10 := by kernel_rfl

theorem cells_new (w : World) (t : TypeId) (l : List Value) : ∀ j u, l[j]? = some u → (w.alloc (.cells l.toArray t)).cell? ((⟨w.heap.size, 0, none⟩ : Addr).add j) = some u := by
  intro j u hj
  have hp : (⟨w.heap.size, 0, none⟩ : Addr).add j = ⟨w.heap.size, j, none⟩ := by unfold Addr.add; split <;> simp_all
  rw [hp, World.cell?_alloc_at _ _ _ _ rfl]
  simpa using hj

theorem cells_new' (w : World) (t : TypeId) (l : List Value) (g : Nat) (hg : w.heap.size = g) : ∀ j u, l[j]? = some u → (w.alloc (.cells l.toArray t)).cell? ((⟨g, 0, none⟩ : Addr).add j) = some u := by
  subst hg; exact cells_new w t l

theorem and_15 (c : UInt8) : bits BinOp.and IntKind.u8 (c.toNat : Int) 15 = (c.toNat : Int) % 16 := by
  have h : ∀ n : Fin 256, bits BinOp.and IntKind.u8 ((n.val : Nat) : Int) 15 = ((n.val : Nat) : Int) % 16 := by decide +kernel
  exact h ⟨c.toNat, c.toNat_lt⟩
def hexLit : ByteArray := ⟨#[48, 49, 50, 51, 52, 53, 54, 55, 56, 57, 97, 98, 99, 100, 101, 102]⟩
theorem hexLit_at (n : Nat) (h : n < 16) : hexLit[n]'(show n < 16 from h) = hexd n := by
  have h' : ∀ n : Fin 16, hexLit[n.val]'(show n.val < 16 from n.isLt) = hexd n.val := by decide +kernel
  exact h' ⟨n, h⟩

theorem hexLit_int (z : Int) (n : Nat) (h : z.toNat < hexLit.size) (e : z.toNat = n) : hexLit[z.toNat] = hexd n := by subst e; exact hexLit_at _ h

/-- The row v holds the bytes l, in memory that this call made. -/
def Row (B : Nat) (w : World) (v : Value) (l : List UInt8) : Prop := w.ownsRow B 5 1 v l.length (l.map bv)

set_option maxRecDepth 20000 in
set_option maxHeartbeats 400000 in
theorem append_plain (B : Nat) (v : Value) (l : List UInt8) (c : UInt8) (w : World) (hB : B ≤ w.heap.size) (hr : Row B w v l) (hl : l.length ≤ 140737488355000) (hp : isPlain c.toNat = true) :
    Calls Tryd.prog 45 #[v, .int .u8 c.toNat] w fun e w' => ∃ v', e = .returned v' ∧ Row B w' v' (l ++ esc c) ∧ Below B w w' := by
  have HP := Lib.hid hp; clear hp
  have he : esc c = [c] := by unfold esc; rw [if_pos HP.out]
  have HEE := Lib.hid he; clear he
  obtain ⟨i0, hi, hz0, hz1, hz2⟩ := info_parts info_u8
  unfold Row at hr
  go_enter Tryd.func45, Tryd.ntmps45
  go_wp2_with (first
    | (go_at_call 66; refine (itself_any _ _).mono ?_; rintro e w' ⟨rfl, rfl⟩; rw [HP.out])
    | (at_builtin; refine wpList_append_own _ rfl _ _ 38 rfl B 5 i0 (.int .u8 0) 1 1 Tryd.underlying38 hi hz0 hz1 hz2 rfl (by decide) _ _ _ rfl (hr.alloc _) ⟨_, 0, none⟩ 1 1 [bv c] rfl rfl ?c1 ?c2 ?c3 ?c4 ?c5 ?_))
  case c1 => exact cells_new _ _ [bv c]
  case c2 => simp [Value.oneCell', bv]
  case c3 => unfold maxLen; omega
  case c4 => omega
  case c5 => simp; omega
  intro v' w1 hown hgrow _
  go_wp2
  go_ret
  refine ⟨v', rfl, ?_, ((Below.refl B w).alloc hB _).grown hgrow (by simp; omega) (fun k e => (hr.lt k e).1)⟩
  unfold Row; rw [HEE.out, List.length_append, List.map_append]; exact hown

/-- The place of c in the table of escapes; 5 if it isn't there. -/
def escIdx (c : UInt8) : Nat := if c.toNat = 34 then 0 else if c.toNat = 92 then 1 else if c.toNat = 10 then 2 else if c.toNat = 13 then 3 else if c.toNat = 9 then 4 else 5

theorem idx_lt0 {c : UInt8} (h : 0 < escIdx c) : ((34 : Int) == (c.toNat : Int)) = false := by
  rw [beq_eq_false_iff_ne]; intro e; have e' : c.toNat = 34 := by omega
  have : c = 34 := UInt8.toNat_inj.1 e'
  subst this; simp [escIdx] at h
theorem idx_eq0 {c : UInt8} (h : escIdx c = 0) : ((34 : Int) == (c.toNat : Int)) = true ∧ esc c = [92, 34] := by
  have e' : c.toNat = 34 := by unfold escIdx at h; (repeat' split at h) <;> omega
  have : c = 34 := UInt8.toNat_inj.1 e'
  subst this; exact ⟨rfl, rfl⟩
theorem idx_lt1 {c : UInt8} (h : 1 < escIdx c) : ((92 : Int) == (c.toNat : Int)) = false := by
  rw [beq_eq_false_iff_ne]; intro e; have e' : c.toNat = 92 := by omega
  have : c = 92 := UInt8.toNat_inj.1 e'
  subst this; simp [escIdx] at h
theorem idx_eq1 {c : UInt8} (h : escIdx c = 1) : ((92 : Int) == (c.toNat : Int)) = true ∧ esc c = [92, 92] := by
  have e' : c.toNat = 92 := by unfold escIdx at h; (repeat' split at h) <;> omega
  have : c = 92 := UInt8.toNat_inj.1 e'
  subst this; exact ⟨rfl, rfl⟩
theorem idx_lt2 {c : UInt8} (h : 2 < escIdx c) : ((10 : Int) == (c.toNat : Int)) = false := by
  rw [beq_eq_false_iff_ne]; intro e; have e' : c.toNat = 10 := by omega
  have : c = 10 := UInt8.toNat_inj.1 e'
  subst this; simp [escIdx] at h
theorem idx_eq2 {c : UInt8} (h : escIdx c = 2) : ((10 : Int) == (c.toNat : Int)) = true ∧ esc c = [92, 110] := by
  have e' : c.toNat = 10 := by unfold escIdx at h; (repeat' split at h) <;> omega
  have : c = 10 := UInt8.toNat_inj.1 e'
  subst this; exact ⟨rfl, rfl⟩
theorem idx_lt3 {c : UInt8} (h : 3 < escIdx c) : ((13 : Int) == (c.toNat : Int)) = false := by
  rw [beq_eq_false_iff_ne]; intro e; have e' : c.toNat = 13 := by omega
  have : c = 13 := UInt8.toNat_inj.1 e'
  subst this; simp [escIdx] at h
theorem idx_eq3 {c : UInt8} (h : escIdx c = 3) : ((13 : Int) == (c.toNat : Int)) = true ∧ esc c = [92, 114] := by
  have e' : c.toNat = 13 := by unfold escIdx at h; (repeat' split at h) <;> omega
  have : c = 13 := UInt8.toNat_inj.1 e'
  subst this; exact ⟨rfl, rfl⟩
theorem idx_lt4 {c : UInt8} (h : 4 < escIdx c) : ((9 : Int) == (c.toNat : Int)) = false := by
  rw [beq_eq_false_iff_ne]; intro e; have e' : c.toNat = 9 := by omega
  have : c = 9 := UInt8.toNat_inj.1 e'
  subst this; simp [escIdx] at h
theorem idx_eq4 {c : UInt8} (h : escIdx c = 4) : ((9 : Int) == (c.toNat : Int)) = true ∧ esc c = [92, 116] := by
  have e' : c.toNat = 9 := by unfold escIdx at h; (repeat' split at h) <;> omega
  have : c = 9 := UInt8.toNat_inj.1 e'
  subst this; exact ⟨rfl, rfl⟩
theorem escIdx_le (c : UInt8) : escIdx c ≤ 5 := by unfold escIdx; (repeat' split) <;> omega
theorem idx_eq5 {c : UInt8} (h : escIdx c = 5) (hp : isPlain c.toNat = false) : esc c = [92, 120, hexd (c.toNat / 16), hexd (c.toNat % 16)] := by
  unfold escIdx at h; unfold esc; rw [hp]
  repeat' split at h
  all_goals first | omega | simp_all

set_option maxRecDepth 20000 in
set_option maxHeartbeats 1000000 in
theorem append_esc (B : Nat) (v : Value) (l : List UInt8) (c : UInt8) (w : World) (hB : B ≤ w.heap.size) (hr : Row B w v l) (hl : l.length ≤ 140737488355000) (hp : isPlain c.toNat = false) (hE : EscAt w) :
    Calls Tryd.prog 45 #[v, .int .u8 c.toNat] w fun e w' => ∃ v', e = .returned v' ∧ Row B w' v' (l ++ esc c) ∧ Below B w w' := by
  have HP := Lib.hid hp; clear hp
  obtain ⟨t, fr, hg⟩ := hE
  obtain ⟨i0, hi, hz0, hz1, hz2⟩ := info_parts info_u8
  unfold Row at hr
  have x0 : ∀ w, (Instr.index 80 (.agg escCells) (.int .i64 0)).run Tryd.prog w = .ok (.agg #[.int .u8 34, .int .u8 34]) w := fun _ => by kernel_rfl
  have x1 : ∀ w, (Instr.index 80 (.agg escCells) (.int .i64 1)).run Tryd.prog w = .ok (.agg #[.int .u8 92, .int .u8 92]) w := fun _ => by kernel_rfl
  have x2 : ∀ w, (Instr.index 80 (.agg escCells) (.int .i64 2)).run Tryd.prog w = .ok (.agg #[.int .u8 10, .int .u8 110]) w := fun _ => by kernel_rfl
  have x3 : ∀ w, (Instr.index 80 (.agg escCells) (.int .i64 3)).run Tryd.prog w = .ok (.agg #[.int .u8 13, .int .u8 114]) w := fun _ => by kernel_rfl
  have x4 : ∀ w, (Instr.index 80 (.agg escCells) (.int .i64 4)).run Tryd.prog w = .ok (.agg #[.int .u8 9, .int .u8 116]) w := fun _ => by kernel_rfl
  go_enter Tryd.func45, Tryd.ntmps45
  go_wp2_with (first
    | (go_at_call 66; refine (itself_any _ _).mono ?_; rintro e w' ⟨rfl, rfl⟩; rw [HP.out])
    | (refine wpList_load_row rfl 80 _ rfl 0 rfl t _ fr _ hg Tryd.underlying80 rfl (by kernel_rfl) ?_))
  go_loopw [6, 14] (fun _ i wr => ∃ k : Nat, k ≤ escIdx c ∧ i = .int .i64 k ∧ Hid (Below B w wr) ∧ Hid (Row B wr v l)) (fun _ i _ => 5 - (intOf i).toNat)
  case atStart => exact ⟨0, by omega, rfl, Lib.hid (Below.refl _ _), Lib.hid hr⟩
  case round =>
    obtain ⟨k, hk, rfl, HB, HR⟩ := hrel
    have hk5 := escIdx_le c
    have hb1 : B ≤ wr.heap.size := Nat.le_trans hB HB.out.size
    have hr : wr.ownsRow B 5 1 v l.length (l.map bv) := HR.out
    rcases (show k = 0 ∨ k = 1 ∨ k = 2 ∨ k = 3 ∨ k = 4 ∨ k = 5 by omega) with rfl | rfl | rfl | rfl | rfl | rfl
    · by_cases hlt : 0 < escIdx c
      · have ht := idx_lt0 hlt
        go_wp2
        go_roundw
        case rel => exact ⟨0 + 1, by omega, rfl, Lib.hid (HB.out.alloc hb1 _), Lib.hid (HR.out.alloc _)⟩
        case measure => simp [intOf]
      · obtain ⟨ht, hes⟩ := idx_eq0 (show escIdx c = 0 by omega)
        have HEE := Lib.hid hes; clear hes
        go_wp2_with (first | (at_builtin; refine wpList_append_own _ rfl _ _ 38 rfl B 5 i0 (.int .u8 0) 1 1 Tryd.underlying38 hi hz0 hz1 hz2 rfl (by decide) _ _ _ rfl ((hr.alloc _).alloc _) ⟨_, 0, none⟩ 2 2 [bv 92, bv 34] rfl rfl ?c1 ?c2 ?c3 ?c4 ?c5 ?_))
        case c1 => exact cells_new' _ _ [bv 92, bv 34] _ (by simp)
        case c2 => simp [Value.oneCell', bv]
        case c3 => unfold maxLen; omega
        case c4 => omega
        case c5 => simp; omega
        intro v' w1 hown hgrow _
        go_wp2
        go_ret
        refine ⟨v', rfl, ?_, (((HB.out.alloc hb1 _).alloc (by simp; omega) _).grown hgrow (by simp; omega) (fun k e => (HR.out.lt k e).1))⟩
        unfold Row; rw [HEE.out, List.length_append, List.map_append]; exact hown
    · by_cases hlt : 1 < escIdx c
      · have ht := idx_lt1 hlt
        go_wp2
        go_roundw
        case rel => exact ⟨1 + 1, by omega, rfl, Lib.hid (HB.out.alloc hb1 _), Lib.hid (HR.out.alloc _)⟩
        case measure => simp [intOf]
      · obtain ⟨ht, hes⟩ := idx_eq1 (show escIdx c = 1 by omega)
        have HEE := Lib.hid hes; clear hes
        go_wp2_with (first | (at_builtin; refine wpList_append_own _ rfl _ _ 38 rfl B 5 i0 (.int .u8 0) 1 1 Tryd.underlying38 hi hz0 hz1 hz2 rfl (by decide) _ _ _ rfl ((hr.alloc _).alloc _) ⟨_, 0, none⟩ 2 2 [bv 92, bv 92] rfl rfl ?c1 ?c2 ?c3 ?c4 ?c5 ?_))
        case c1 => exact cells_new' _ _ [bv 92, bv 92] _ (by simp)
        case c2 => simp [Value.oneCell', bv]
        case c3 => unfold maxLen; omega
        case c4 => omega
        case c5 => simp; omega
        intro v' w1 hown hgrow _
        go_wp2
        go_ret
        refine ⟨v', rfl, ?_, (((HB.out.alloc hb1 _).alloc (by simp; omega) _).grown hgrow (by simp; omega) (fun k e => (HR.out.lt k e).1))⟩
        unfold Row; rw [HEE.out, List.length_append, List.map_append]; exact hown
    · by_cases hlt : 2 < escIdx c
      · have ht := idx_lt2 hlt
        go_wp2
        go_roundw
        case rel => exact ⟨2 + 1, by omega, rfl, Lib.hid (HB.out.alloc hb1 _), Lib.hid (HR.out.alloc _)⟩
        case measure => simp [intOf]
      · obtain ⟨ht, hes⟩ := idx_eq2 (show escIdx c = 2 by omega)
        have HEE := Lib.hid hes; clear hes
        go_wp2_with (first | (at_builtin; refine wpList_append_own _ rfl _ _ 38 rfl B 5 i0 (.int .u8 0) 1 1 Tryd.underlying38 hi hz0 hz1 hz2 rfl (by decide) _ _ _ rfl ((hr.alloc _).alloc _) ⟨_, 0, none⟩ 2 2 [bv 92, bv 110] rfl rfl ?c1 ?c2 ?c3 ?c4 ?c5 ?_))
        case c1 => exact cells_new' _ _ [bv 92, bv 110] _ (by simp)
        case c2 => simp [Value.oneCell', bv]
        case c3 => unfold maxLen; omega
        case c4 => omega
        case c5 => simp; omega
        intro v' w1 hown hgrow _
        go_wp2
        go_ret
        refine ⟨v', rfl, ?_, (((HB.out.alloc hb1 _).alloc (by simp; omega) _).grown hgrow (by simp; omega) (fun k e => (HR.out.lt k e).1))⟩
        unfold Row; rw [HEE.out, List.length_append, List.map_append]; exact hown
    · by_cases hlt : 3 < escIdx c
      · have ht := idx_lt3 hlt
        go_wp2
        go_roundw
        case rel => exact ⟨3 + 1, by omega, rfl, Lib.hid (HB.out.alloc hb1 _), Lib.hid (HR.out.alloc _)⟩
        case measure => simp [intOf]
      · obtain ⟨ht, hes⟩ := idx_eq3 (show escIdx c = 3 by omega)
        have HEE := Lib.hid hes; clear hes
        go_wp2_with (first | (at_builtin; refine wpList_append_own _ rfl _ _ 38 rfl B 5 i0 (.int .u8 0) 1 1 Tryd.underlying38 hi hz0 hz1 hz2 rfl (by decide) _ _ _ rfl ((hr.alloc _).alloc _) ⟨_, 0, none⟩ 2 2 [bv 92, bv 114] rfl rfl ?c1 ?c2 ?c3 ?c4 ?c5 ?_))
        case c1 => exact cells_new' _ _ [bv 92, bv 114] _ (by simp)
        case c2 => simp [Value.oneCell', bv]
        case c3 => unfold maxLen; omega
        case c4 => omega
        case c5 => simp; omega
        intro v' w1 hown hgrow _
        go_wp2
        go_ret
        refine ⟨v', rfl, ?_, (((HB.out.alloc hb1 _).alloc (by simp; omega) _).grown hgrow (by simp; omega) (fun k e => (HR.out.lt k e).1))⟩
        unfold Row; rw [HEE.out, List.length_append, List.map_append]; exact hown
    · by_cases hlt : 4 < escIdx c
      · have ht := idx_lt4 hlt
        go_wp2
        go_roundw
        case rel => exact ⟨4 + 1, by omega, rfl, Lib.hid (HB.out.alloc hb1 _), Lib.hid (HR.out.alloc _)⟩
        case measure => simp [intOf]
      · obtain ⟨ht, hes⟩ := idx_eq4 (show escIdx c = 4 by omega)
        have HEE := Lib.hid hes; clear hes
        go_wp2_with (first | (at_builtin; refine wpList_append_own _ rfl _ _ 38 rfl B 5 i0 (.int .u8 0) 1 1 Tryd.underlying38 hi hz0 hz1 hz2 rfl (by decide) _ _ _ rfl ((hr.alloc _).alloc _) ⟨_, 0, none⟩ 2 2 [bv 92, bv 116] rfl rfl ?c1 ?c2 ?c3 ?c4 ?c5 ?_))
        case c1 => exact cells_new' _ _ [bv 92, bv 116] _ (by simp)
        case c2 => simp [Value.oneCell', bv]
        case c3 => unfold maxLen; omega
        case c4 => omega
        case c5 => simp; omega
        intro v' w1 hown hgrow _
        go_wp2
        go_ret
        refine ⟨v', rfl, ?_, (((HB.out.alloc hb1 _).alloc (by simp; omega) _).grown hgrow (by simp; omega) (fun k e => (HR.out.lt k e).1))⟩
        unfold Row; rw [HEE.out, List.length_append, List.map_append]; exact hown
    · have HEE := Lib.hid (idx_eq5 (show escIdx c = 5 by omega) HP.out)
      go_wp2
      have q0 : 0 ≤ (c.toNat : Int) / 16 := by omega
      have q1 : (c.toNat : Int) / 16 < 16 := by have := c.toNat_lt; omega
      have ea := and_15 c
      have r0 : 0 ≤ (c.toNat : Int) % 16 := by omega
      have r1 : (c.toNat : Int) % 16 < 16 := by omega
      have m0 : ((c.toNat : Int) / 16).toNat < hexLit.size := by show _ < 16; omega
      have m1 : ((c.toNat : Int) % 16).toNat < hexLit.size := by show _ < 16; omega
      go_region_law ((refine step_append_lies _ (by rfl) (.tmp 27) (.tmp 34) 38 (by rfl) B 5 i0 (.int .u8 0) 1 1 Tryd.underlying38 hi hz0 hz1 hz2 rfl (by omega) v l.length (l.map bv) (by rfl) ((hr.alloc _).drew) ⟨wr.heap.size, 0, none⟩ 4 4 [bv 92, bv 120, bv (hexLit[((c.toNat : Int) / 16).toNat]'m0), bv (hexLit[((c.toNat : Int) % 16).toNat]'m1)] (by rfl) (by rfl) (cells_new' _ _ _ _ (by rfl)) (by simp [Value.oneCell', bv]) (by omega) (by unfold maxLen; omega) (by omega) (by first | (simp; omega) | simp | omega) (wr.heap.size + 1) (by simp) ?_; intro g cap w1 hown hgrow hg hlt))
      all_goals
        go_wp2
        go_ret
        refine ⟨_, rfl, ?_, (((HB.out.alloc hb1 _).drew).grown hgrow (by simp; omega) (fun k e => (HR.out.lt k e).1))⟩
        unfold Row; rw [HEE.out, List.length_append, List.map_append, ← hexLit_int _ (c.toNat / 16) m0 (by omega), ← hexLit_int _ (c.toNat % 16) m1 (by omega)]; exact hown

theorem appendByte_any (B : Nat) (v : Value) (l : List UInt8) (c : UInt8) (w : World) (hB : B ≤ w.heap.size) (hr : Row B w v l) (hl : l.length ≤ 140737488355000) (hE : EscAt w) :
    Calls Tryd.prog 45 #[v, .int .u8 c.toNat] w fun e w' => ∃ v', e = .returned v' ∧ Row B w' v' (l ++ esc c) ∧ Below B w w' := by
  cases hp : isPlain c.toNat
  · exact append_esc B v l c w hB hr hl hp hE
  · exact append_plain B v l c w hB hr hl hp
end Go.Proofs.YtdcjnklagklckaaDoor
