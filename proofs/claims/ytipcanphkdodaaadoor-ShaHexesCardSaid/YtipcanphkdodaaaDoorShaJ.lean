/- Hexadecimal digits: the contracts of Hex, of both sides, and what they share. -/
import Derived.Test.YtipcanphkdodaaaDoorShaI
namespace Go.Proofs.YtipcanphkdodaaaDoor
open Go.RowKit
set_option linter.unusedVariables false

def hxd (n : Nat) : Nat := if n < 10 then 48 + n else 87 + n
def hexL (l : List Nat) : List Nat := l.flatMap fun x => [hxd (x / 16), hxd (x % 16)]
def strN (l : List Nat) : ByteArray := ⟨(l.map UInt8.ofNat).toArray⟩
theorem byteCells_of {l : List Nat} (h : BB l) : Lib.byteCells (l.map UInt8.ofNat) = yL l := by
  unfold Lib.byteCells yL
  rw [List.map_map]
  apply List.map_congr_left
  intro x hx
  have := h x hx
  simp [Nat.mod_eq_of_lt this]
theorem hx_lt {n : Nat} (h : n < 16) : hxd n < 256 := by unfold hxd; split <;> omega
theorem hexL_bb {l : List Nat} (h : BB l) : BB (hexL l) := fun y hy => by
  simp only [hexL, List.mem_flatMap] at hy
  obtain ⟨x, hx', hy⟩ := hy
  have := h x hx'
  simp only [List.mem_cons, List.not_mem_nil, or_false] at hy
  rcases hy with rfl | rfl <;> exact hx_lt (by omega)
theorem hexL_len (l : List Nat) : (hexL l).length = 2 * l.length := by
  induction l with
  | nil => rfl
  | cons a l ih => rw [show hexL (a :: l) = [hxd (a / 16), hxd (a % 16)] ++ hexL l from rfl, List.length_append, ih]; simp; omega
theorem hexL_snoc (l : List Nat) (x : Nat) : hexL (l ++ [x]) = hexL l ++ [hxd (x / 16)] ++ [hxd (x % 16)] := by simp [hexL]
theorem take_snoc {l : List Nat} {k x : Nat} (h : k < l.length) (hx : l.getD k 0 = x) : l.take (k + 1) = l.take k ++ [x] := by
  rw [List.take_succ_eq_append_getElem h, ← hx, List.getD_eq_getElem?_getD, List.getElem?_eq_getElem h]; rfl
theorem hexGet {n : Nat} (h : n < 16) (h2 : n < (ByteArray.mk #[48, 49, 50, 51, 52, 53, 54, 55, 56, 57, 97, 98, 99, 100, 101, 102]).size) : ((ByteArray.mk #[48, 49, 50, 51, 52, 53, 54, 55, 56, 57, 97, 98, 99, 100, 101, 102])[n]'h2).toNat = hxd n := by
  have hn : n = 0 ∨ n = 1 ∨ n = 2 ∨ n = 3 ∨ n = 4 ∨ n = 5 ∨ n = 6 ∨ n = 7 ∨ n = 8 ∨ n = 9 ∨ n = 10 ∨ n = 11 ∨ n = 12 ∨ n = 13 ∨ n = 14 ∨ n = 15 := by omega
  rcases hn with rfl | rfl | rfl | rfl | rfl | rfl | rfl | rfl | rfl | rfl | rfl | rfl | rfl | rfl | rfl | rfl <;> rfl
theorem and15 {x : Nat} (h : x < 256) : bits .and .u8 (x : Int) 15 = ((x % 16 : Nat) : Int) := by
  rw [show (15 : Int) = ((15 : Nat) : Int) from rfl, u8_and_nat x 15 h (by decide)]
  congr 1
  exact Nat.and_two_pow_sub_one_eq_mod x 4
theorem index32 (l : List Nat) (h : l.length = 32) (i : Nat) (hi : i < 32) (w : World) : (Instr.index 32 (.agg (yV l)) (.int .i64 i)).run Tryd.prog w = .ok (.int .u8 (l.getD i 0 : Nat)) w :=
  run_index_one Tryd.underlying32 Tryd.underlying5 rfl (by kernel_rfl) hi (yV_get (by rw [List.getD_eq_getElem?_getD, List.getElem?_eq_getElem (by omega)]; rfl))

structure HxW (w : World) (bs : List Value) (W : World) : Prop where
  bld : Lib.IsBuilder 88 5 w.heap.size (w.heap.size + 1) bs W
  bel : Below w.heap.size w W
theorem HxW.start (w : World) (cs : Array Value) (t : TypeId) : HxW w [] ((w.alloc (.cells cs t)).alloc (.cells #[.pointer none, .slice none 0 0] 88)) := by
  have h := AR.made (w.alloc (.cells cs t)) 88 #[.pointer none, .slice none 0 0]
  rw [size_more] at h
  exact ⟨.inl ⟨by omega, .slice none 0 0, h, World.ownsRow_nil _ _ _ _, by simp [Value.ownBlock]⟩, bl_alloc _ (bl_alloc _ (Below.refl _ _))⟩
set_option maxRecDepth 20000 in
set_option maxHeartbeats 4000000 in
theorem hex_any (d : List Nat) (w : World) (hd : d.length = 32) (hb : BB d) : Calls Tryd.prog 25 #[.agg (yV d)] w (Gives w (.string (strN (hexL d)))) := by
  have HD := Lib.hid hd; have HBB := Lib.hid hb; clear hd hb
  go_enter Tryd.func25, Tryd.ntmps25
  go_wp2_with ((with_reducible refine atOp ⟨some 6, _, _, _, _, _⟩ ?_); refine wpList_load_row rfl 32 _ rfl w.heap.size rfl 32 (yV d) (0, 0) _ ((AR.made w _ _).more _) Tryd.underlying32 rfl (info32 d HD.out) ?_)
  go_loopw [7] (fun t wr => ∃ i : Nat, i ≤ 32 ∧ t = .int .i64 i ∧ Hid (HxW w (yL (hexL (d.take i))) wr)) (fun t _ => 32 - (intOf t).toNat)
  case atStart => exact ⟨0, by omega, rfl, Lib.hid (HxW.start w _ _)⟩
  case round =>
    obtain ⟨i, hi, rfl, HW⟩ := hrel
    by_cases hlt : i < 32
    · obtain ⟨x, hx⟩ : ∃ x, d.getD i 0 = x := ⟨_, rfl⟩
      have ix := index32 d HD.out i hlt
      rw [hx] at ix
      have hx8 : x < 256 := by rw [← hx]; exact HBB.out.get i
      obtain ⟨a, ha⟩ : ∃ a, x / 16 = a := ⟨_, rfl⟩
      obtain ⟨b, hb⟩ : ∃ b, x % 16 = b := ⟨_, rfl⟩
      have e1 : (x : Int) / 16 = (a : Int) := by omega
      have e2 : bits .and .u8 (x : Int) 15 = (b : Int) := by rw [and15 hx8, hb]
      have ra : (a : Int) < 16 := by omega
      have rb : (b : Int) < 16 := by omega
      have h1 := fun h2 => hexGet (n := a) (by omega) h2
      have h2 := fun h2 => hexGet (n := b) (by omega) h2
      have HN : Hid (hexL (d.take (i + 1)) = hexL (d.take i) ++ [hxd a] ++ [hxd b]) := Lib.hid (by rw [take_snoc (by rw [HD.out]; exact hlt) hx, hexL_snoc, ha, hb])
      have HLN : Hid ((yL (hexL (d.take i))).length = 2 * i) := Lib.hid (by rw [yL_len, hexL_len, List.length_take, HD.out]; omega)
      clear hx ha hb
      have t1 : True := trivial
      go_wp2_with (first
        | (go_at_call 46; have _t := t1; (with_reducible refine (writeByte_any w.heap.size (w.heap.size + 1) (yL (hexL (d.take i))) (hxd a : Nat) _ HW.out.bld (by rw [HLN.out]; omega) HW.out.bel.size).mono ?_); rintro e w1 ⟨rfl, hb1, hl1⟩; have HB1 := Lib.hid hb1; have HL1 := Lib.hid (HW.out.bel.trans hl1); clear hb1 hl1 t1 _t)
        | (go_at_call 46; (with_reducible refine (writeByte_any w.heap.size (w.heap.size + 1) (yL (hexL (d.take i)) ++ [.int .u8 (hxd a : Nat)]) (hxd b : Nat) _ HB1.out (by rw [List.length_append, HLN.out]; simp; omega) HL1.out.size).mono ?_); rintro e w2 ⟨rfl, hb1, hl1⟩; have HB2 := Lib.hid hb1; have HL2 := Lib.hid (HL1.out.trans hl1); clear hb1 hl1))
      go_roundw
      case rel => exact ⟨i + 1, by omega, by go_num, Lib.hid ⟨by rw [HN.out, yL_app, yL_app]; exact HB2.out, HL2.out⟩⟩
      case measure => simp [intOf]; omega
    · have HI : Hid (i = 32) := Lib.hid (by omega)
      have HF : Hid (HxW w (Lib.byteCells ((hexL d).map UInt8.ofNat)) wr) := Lib.hid (by have := HW.out; rw [HI.out, List.take_of_length_le (by rw [HD.out]; omega), ← byteCells_of (hexL_bb HBB.out)] at this; exact this)
      clear HW
      go_wp2_with (go_at_call 47; refine (Tryd.Builder_String_any w.heap.size (w.heap.size + 1) ((hexL d).map UInt8.ofNat) _ HF.out.bld HF.out.bel.size).mono ?_; rintro e w1 ⟨rfl, hs⟩; have HS := Lib.hid hs; clear hs)
      go_ret
      exact ⟨rfl, HF.out.bel.trans HS.out⟩
end Go.Proofs.YtipcanphkdodaaaDoor
