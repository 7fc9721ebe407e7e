/- The digests of abc and of nothing. What each law asks first: the examples of the document. -/
import Derived.Test.YtaeicjgkoofmpaaDoorShaN
import Derived.Test.YtaeicjgkoofmpaaDoorShaK
import Derived.Lib.SlBytesConst
namespace Go.Proofs.YtaeicjgkoofmpaaDoor
set_option maxRecDepth 100000 in
theorem sha_abc : shaL [97, 98, 99] = [186, 120, 22, 191, 143, 1, 207, 234, 65, 65, 64, 222, 93, 174, 34, 35, 176, 3, 97, 163, 150, 23, 122, 156, 180, 16, 255, 97, 242, 0, 21, 173] := by decide +kernel
set_option maxRecDepth 100000 in
theorem sha_nil : shaL [] = [227, 176, 196, 66, 152, 252, 28, 20, 154, 251, 244, 200, 153, 111, 185, 36, 39, 174, 65, 228, 100, 155, 147, 76, 164, 149, 153, 27, 120, 82, 184, 85] := by decide +kernel
end Go.Proofs.YtaeicjgkoofmpaaDoor
namespace Go.Proofs.YtaeicjgkoofmpaaDoor
open Go.RowKit
set_option linter.unusedVariables false

def sAbc : ByteArray := ⟨#[98, 97, 55, 56, 49, 54, 98, 102, 56, 102, 48, 49, 99, 102, 101, 97, 52, 49, 52, 49, 52, 48, 100, 101, 53, 100, 97, 101, 50, 50, 50, 51, 98, 48, 48, 51, 54, 49, 97, 51, 57, 54, 49, 55, 55, 97, 57, 99, 98, 52, 49, 48, 102, 102, 54, 49, 102, 50, 48, 48, 49, 53, 97, 100]⟩
def sNil : ByteArray := ⟨#[101, 51, 98, 48, 99, 52, 52, 50, 57, 56, 102, 99, 49, 99, 49, 52, 57, 97, 102, 98, 102, 52, 99, 56, 57, 57, 54, 102, 98, 57, 50, 52, 50, 55, 97, 101, 52, 49, 101, 52, 54, 52, 57, 98, 57, 51, 52, 99, 97, 52, 57, 53, 57, 57, 49, 98, 55, 56, 53, 50, 98, 56, 53, 53]⟩
theorem bytes_list (s : ByteArray) : s.toList = s.data.toList := ByteArray.toList_eq s
theorem sAbc_list : sAbc.toList = [98, 97, 55, 56, 49, 54, 98, 102, 56, 102, 48, 49, 99, 102, 101, 97, 52, 49, 52, 49, 52, 48, 100, 101, 53, 100, 97, 101, 50, 50, 50, 51, 98, 48, 48, 51, 54, 49, 97, 51, 57, 54, 49, 55, 55, 97, 57, 99, 98, 52, 49, 48, 102, 102, 54, 49, 102, 50, 48, 48, 49, 53, 97, 100] := by rw [bytes_list]; rfl
theorem sNil_list : sNil.toList = [101, 51, 98, 48, 99, 52, 52, 50, 57, 56, 102, 99, 49, 99, 49, 52, 57, 97, 102, 98, 102, 52, 99, 56, 57, 57, 54, 102, 98, 57, 50, 52, 50, 55, 97, 101, 52, 49, 101, 52, 54, 52, 57, 98, 57, 51, 52, 99, 97, 52, 57, 53, 57, 57, 49, 98, 55, 56, 53, 50, 98, 56, 53, 53] := by rw [bytes_list]; rfl
set_option maxRecDepth 100000 in
theorem hex_abc : strN (hexL (shaL [97, 98, 99])) = sAbc := by rw [sha_abc]; unfold strN sAbc; congr 1
set_option maxRecDepth 100000 in
theorem hex_nil : strN (hexL (shaL [])) = sNil := by rw [sha_nil]; unfold strN sNil; congr 1

def PadLen (w : World) (n : Nat) (e : Ending) (w' : World) : Prop := ∃ A c, e = .returned (.tuple #[.slice A n c, .int .i64 0]) ∧ Below w.heap.size w w'
theorem pad_len (n m : Nat) (k : Int) (w : World) (hk : k = n) (hn : n ≤ 1152921504606846976) (hm : (padL n).length = m) : Calls Tryd.prog 35 #[.int .i64 k] w (PadLen w m) := by
  refine (pad_yes n k w hk hn).mono ?_
  rintro e w' ⟨v, rfl, hr, hb⟩
  obtain ⟨A, c, rfl⟩ := hr.len
  rw [hm]
  exact ⟨A, c, rfl, hb⟩
theorem pad0 (w : World) : Calls Tryd.prog 35 #[.int .i64 0] w (PadLen w 64) := pad_len 0 64 0 w rfl (by omega) (by decide)
theorem pad55 (w : World) : Calls Tryd.prog 35 #[.int .i64 55] w (PadLen w 9) := pad_len 55 9 55 w rfl (by omega) (by decide)
theorem pad56 (w : World) : Calls Tryd.prog 35 #[.int .i64 56] w (PadLen w 72) := pad_len 56 72 56 w rfl (by omega) (by decide)
theorem rn_const (W : World) (xs : List Nat) (n : Nat) (fr : Nat × Nat) (hn : xs.length = n) (h0 : 0 < n) (h : n ≤ 1000) : RN (W.alloc (.cells (yL xs).toArray 5 fr)) (.slice (some ⟨W.heap.size, 0, none⟩) n n) xs := by
  subst hn
  refine .inr ⟨W.heap.size, 0, xs.length, rfl, by simp, h0, Nat.le_refl _, by unfold maxLen; omega, fun i hi => ?_⟩
  rw [Nat.zero_add, cell_of_row _ _ i _ _ fr (heap_alloc_new W _), List.getElem?_toArray, yL, List.getElem?_map, List.getElem?_eq_getElem hi, List.getD_eq_getElem?_getD, List.getElem?_eq_getElem hi]
  rfl
theorem sum_abc (W : World) (hV : VK (W.alloc (.cells #[.int .u8 97, .int .u8 98, .int .u8 99] 5 (3, 4)))) : Calls Tryd.prog 34 #[.slice (some ⟨W.heap.size, 0, none⟩) 3 3] (W.alloc (.cells #[.int .u8 97, .int .u8 98, .int .u8 99] 5 (3, 4))) (Gives (W.alloc (.cells #[.int .u8 97, .int .u8 98, .int .u8 99] 5 (3, 4))) (.agg (yV (shaL [97, 98, 99])))) :=
  sum_any [97, 98, 99] _ _ (rn_const W [97, 98, 99] 3 (3, 4) rfl (by omega) (by omega)) (by unfold BB; decide) (by simp) hV
theorem sum_nil (W : World) (hV : VK W) : Calls Tryd.prog 34 #[.slice none 0 0] W (Gives W (.agg (yV (shaL [])))) :=
  sum_any [] _ _ (RN.nil W) BB.nil (by simp) hV

set_option maxRecDepth 100000 in
set_option maxHeartbeats 4000000 in
theorem shown_any (w : World) (hV : VK w) : Calls Tryd.prog 12 #[] w (Gives w (.bool true)) := by
  have HV := Lib.hid hV; clear hV
  have HB := Lib.hid (Below.refl w.heap.size w)
  have i0 : ∀ w : World, (Instr.index 68 (.agg (uV kL)) (.int .i64 0)).run Tryd.prog w = .ok (.int .u32 1116352408) w := fun _ => by kernel_rfl
  have i1 : ∀ w : World, (Instr.index 70 (.agg (uV hL)) (.int .i64 0)).run Tryd.prog w = .ok (.int .u32 1779033703) w := fun _ => by kernel_rfl
  have kc := fun (w : World) (C : Array Value) (n c : Nat) => Lib.run_convert_bytes_const (P := Tryd.prog) w 27 5 C n c Tryd.underlying27 Tryd.underlying5
  have qa := sAbc_list
  have qn := sNil_list
  have tk0 : True := trivial; have tk1 : True := trivial; have tk2 : True := trivial; have tk3 : True := trivial; have tk4 : True := trivial
  go_enter Tryd.func12, Tryd.ntmps12
  go_wp2_with (first
    | (go_at_call 35; have _t := tk0; (with_reducible refine (pad0 _).mono ?_); rintro e w1 ⟨A0, c0, rfl, hb⟩; replace HV := Lib.hid (HV.out.below hb); replace HB := Lib.hid (bl_call HB.out hb); clear hb; clear tk0 _t)
    | (go_at_call 35; have _t := tk1; (with_reducible refine (pad55 _).mono ?_); rintro e w1 ⟨A1, c1, rfl, hb⟩; replace HV := Lib.hid (HV.out.below hb); replace HB := Lib.hid (bl_call HB.out hb); clear hb; clear tk1 _t)
    | (go_at_call 35; have _t := tk2; (with_reducible refine (pad56 _).mono ?_); rintro e w1 ⟨A2, c2, rfl, hb⟩; replace HV := Lib.hid (HV.out.below hb); replace HB := Lib.hid (bl_call HB.out hb); clear hb; clear tk2 _t)
    | (go_at_call 34; have _t := tk3; (with_reducible refine (sum_abc _ (HV.out.below (bl_self _ _))).mono ?_); rintro e w1 ⟨rfl, hb⟩; replace HV := Lib.hid ((HV.out.below (bl_self _ _)).below hb); replace HB := Lib.hid (bl_call (bl_alloc _ HB.out) hb); clear hb; clear tk3 _t)
    | (go_at_call 34; (with_reducible refine (sum_nil _ HV.out).mono ?_); rintro e w1 ⟨rfl, hb⟩; replace HV := Lib.hid (HV.out.below hb); replace HB := Lib.hid (bl_call HB.out hb); clear hb)
    | (go_at_call 36; have _t := tk4; (with_reducible refine (hex_any (shaL [97, 98, 99]) _ (shaL_len _) (shaL_bb _)).mono ?_); rintro e w1 ⟨rfl, hb⟩; replace HV := Lib.hid (HV.out.below hb); replace HB := Lib.hid (bl_call HB.out hb); clear hb; rw [hex_abc]; clear tk4 _t)
    | (go_at_call 36; (with_reducible refine (hex_any (shaL []) _ (shaL_len _) (shaL_bb _)).mono ?_); rintro e w1 ⟨rfl, hb⟩; replace HV := Lib.hid (HV.out.below hb); replace HB := Lib.hid (bl_call HB.out hb); clear hb; rw [hex_nil])
    | (go_at_call 37; (with_reducible refine (constants_any _ HV.out).mono ?_); rintro e w1 ⟨rfl, hb⟩; replace HV := Lib.hid (HV.out.below hb); replace HB := Lib.hid (bl_call HB.out hb); clear hb)
    | (go_at_call 38; (with_reducible refine (start_any _ HV.out).mono ?_); rintro e w1 ⟨rfl, hb⟩; replace HV := Lib.hid (HV.out.below hb); replace HB := Lib.hid (bl_call HB.out hb); clear hb))
  go_ret
  exact ⟨rfl, HB.out⟩
end Go.Proofs.YtaeicjgkoofmpaaDoor
