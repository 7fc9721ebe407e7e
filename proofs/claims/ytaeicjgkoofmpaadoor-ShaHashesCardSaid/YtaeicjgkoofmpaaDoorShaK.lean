/- The contracts of the builder that writes one byte. Hexadecimal digits: the contracts of Hex, of both sides, and what they share. The contracts of Pad, Constants and Start. -/
import Derived.Test.YtaeicjgkoofmpaaDoorShaH
import Derived.Test.YtaeicjgkoofmpaaDoorShelf
import Derived.Lib.Builder
namespace Go.Proofs.YtaeicjgkoofmpaaDoor
open Go.RowKit
set_option linter.unusedVariables false

theorem infoB : (Tryd.prog.info? 93).map (·.size) = some 2 := by kernel_rfl
theorem liesB : liesAt Tryd.prog Tryd.prog.depth 93 (2 / Tryd.prog.cellsOf 93) 0 93 1 = true := by kernel_rfl
set_option maxRecDepth 100000 in
set_option maxHeartbeats 1000000 in
theorem copyCheck_none (b : Nat) (w : World) (h0 : w.cell? ⟨b, 0, none⟩ = some (.pointer none)) (hf : w.frozen? ⟨b, 0, none⟩ = false) (hs : w.shape? b = some (93, 2)) :
    Calls Tryd.prog 67 #[.pointer (some ⟨b, 0, none⟩)] w fun e w' => e = .returned (.tuple #[]) ∧ w.setCell ⟨b, 0, none⟩ (.pointer (some ⟨b, 0, none⟩)) = w' := by
  obtain ⟨j, hj, hjs⟩ := Option.map_eq_some_iff.1 infoB
  go_enter Tryd.func67, Tryd.ntmps67
  go_wp2_with fail
  rw [Lib.run_to_unsafe w ⟨b, 0, none⟩ Tryd.underlying91 Tryd.underlying114 hj (by rw [hjs]; decide) hs (Nat.zero_lt_succ 1)]
  simp only [Result.andThen]
  rw [Oper.upon_value]
  go_wp2_with fail
  rw [run_callFunc_extern Tryd.func72 (by kernel_rfl) (by kernel_rfl) (by kernel_rfl) (e := Extern.AbiNoEscape.same) (by kernel_rfl)]
  rw [Lib.run_noEscape]
  simp only [Result.andThen]
  rw [Oper.upon_value]
  go_wp2_with fail
  rw [Lib.run_from_unsafe w ⟨b, 0, none⟩ Tryd.underlying114 Tryd.underlying91 hj hs liesB]
  simp only [Result.andThen]
  rw [Oper.upon_value]
  go_wp2_with fail
  go_end0
  exact ⟨rfl, rfl⟩
set_option maxRecDepth 100000 in
set_option maxHeartbeats 1000000 in
theorem copyCheck_same (b : Nat) (w : World) (h0 : w.cell? ⟨b, 0, none⟩ = some (.pointer (some ⟨b, 0, none⟩))) :
    Calls Tryd.prog 67 #[.pointer (some ⟨b, 0, none⟩)] w fun e w' => e = .returned (.tuple #[]) ∧ w = w' := by
  obtain ⟨j, hj, hjs⟩ := Option.map_eq_some_iff.1 infoB
  go_enter Tryd.func67, Tryd.ntmps67
  go_wp2_with fail
  rw [Lib.run_neq_ptr_same w _ Tryd.underlying91 hj]
  go_wp2_with fail
  go_end0
  exact ⟨rfl, rfl⟩

/-- What writing a byte leaves. -/
def Wrote (B b : Nat) (bs : List Value) (w : World) (e : Ending) (w' : World) : Prop := e = .returned .nilIface ∧ Lib.IsBuilder 93 5 B b bs w' ∧ Below B w w'
def Checked (B b : Nat) (bs : List Value) (w : World) (e : Ending) (w' : World) : Prop := e = .returned (.tuple #[]) ∧ Lib.BuilderAt 93 5 B b (.pointer (some ⟨b, 0, none⟩)) bs w' ∧ Below B w w'
theorem copyCheck_any (B b : Nat) (bs : List Value) (w : World) (h : Lib.IsBuilder 93 5 B b bs w) : Calls Tryd.prog 67 #[.pointer (some ⟨b, 0, none⟩)] w (Checked B b bs w) := by
  rcases h with h | h
  · refine (copyCheck_none b w h.cell0 h.frozen0 h.shape).mono ?_
    rintro e w' ⟨rfl, rfl⟩
    exact ⟨rfl, h.used _, (Below.refl B w).setCell (p := ⟨b, 0, none⟩) h.1 _⟩
  · refine (copyCheck_same b w h.cell0).mono ?_
    rintro e w' ⟨rfl, rfl⟩
    exact ⟨rfl, h, Below.refl B _⟩

set_option maxRecDepth 100000 in
set_option maxHeartbeats 2000000 in
theorem writeByte_any (B b : Nat) (bs : List Value) (c : Int) (w : World) (h : Lib.IsBuilder 93 5 B b bs w) (hlen : bs.length ≤ 1000000) (hBw : B ≤ w.heap.size) :
    Calls Tryd.prog 60 #[.pointer (some ⟨b, 0, none⟩), .int .u8 c] w (Wrote B b (bs ++ [.int .u8 c]) w) := by
  obtain ⟨i0, hi, hz0, hz1, hz2⟩ := info_parts info_u8
  have H0 := Lib.hid h; clear h
  go_enter Tryd.func60, Tryd.ntmps60
  go_wp2_with (go_at_call 67; refine (copyCheck_any B b bs _ H0.out).mono ?_)
  rintro e w1 ⟨rfl, h1, hb1⟩
  have hlt := Lib.BuilderAt.lt h1
  obtain ⟨hB, v, hbk, hown, hne⟩ := h1
  have c1 : w1.cell? ⟨b, 1, none⟩ = some v := by rw [Lib.cell_of_heap hbk]; rfl
  have HBK := Lib.hid hbk; have HOWN := Lib.hid hown; have HNE := Lib.hid hne; have HB1 := Lib.hid hb1
  clear hbk hown hne hb1
  go_wp2_with (at_builtin; refine wpList_append_own _ rfl _ _ 27 rfl B 5 i0 (.int .u8 0) 1 1 Tryd.underlying27 hi hz0 hz1 hz2 rfl (by decide) _ bs.length bs rfl (HOWN.out.alloc _) ⟨w1.heap.size, 0, none⟩ 1 1 [.int .u8 c] rfl rfl (cells_new _ _ [_]) (by simp [Value.oneCell']) (by unfold maxLen; omega) (by omega) (by have := HB1.out.size; simp; omega) ?_)
  intro v2 w2 hown2 hgrow _
  have hb2 : w2.heap[b]? = some (.cells #[.pointer (some ⟨b, 0, none⟩), v] 93 (0, 0)) := by
    rw [hgrow.block b (by simp; omega) (fun e => HNE.out e.symm), Lib.alloc_old w1 _ b hlt]
    exact HBK.out
  have d1 : w2.cell? ⟨b, 1, none⟩ = some v := by rw [Lib.cell_of_heap hb2]; rfl
  have f1 : w2.frozen? ⟨b, 1, none⟩ = false := Lib.frozen_of_heap hb2 1
  have HB2 := Lib.hid hb2
  have HO2 := Lib.hid hown2
  have HL2 : Hid (Below B w w2) := Lib.hid ((HB1.out.alloc (by have := HB1.out.size; omega) _).grown hgrow (by have := HB1.out.size; simp; omega) (fun k hk => (HOWN.out.lt k hk).1))
  obtain ⟨A, c2, rfl⟩ : ∃ A c2, v2 = .slice A (bs.length + 1) c2 := by
    rcases hown2.2 with ⟨_, h0⟩ | ⟨g, cap, cur, hv, _⟩
    · omega
    · exact ⟨_, cap, hv⟩
  clear hb2 hown2 hgrow
  go_wp2_with fail
  go_ret
  exact ⟨rfl, .inr (Lib.BuilderAt.put (T := 93) (e := 5) hB HB2.out (bs' := bs ++ [.int .u8 c]) (by have := HO2.out; simpa using this) (by decide)), HL2.out.setCell (p := ⟨b, 1, none⟩) hB _⟩
end Go.Proofs.YtaeicjgkoofmpaaDoor
namespace Go.Proofs.YtaeicjgkoofmpaaDoor
open Go.RowKit
set_option linter.unusedVariables false

def hxd (n : Nat) : Nat := if n < 10 then 48 + n else 87 + n
def hexL (l : List Nat) : List Nat := l.flatMap fun x => [hxd (x / 16), hxd (x % 16)]
def strN (l : List Nat) : ByteArray := ⟨(l.map UInt8.ofNat).toArray⟩
theorem byteCells_of {l : List Nat} (h : BB l) : Lib.byteCells (l.map UInt8.ofNat) = yL l := by
  unfold Lib.byteCells yL
  rw [List.map_map]
  apply List.map_congr_left
  intro x hx
  have := h x hx
  simp [Nat.mod_eq_of_lt this]
theorem hx_lt {n : Nat} (h : n < 16) : hxd n < 256 := by unfold hxd; split <;> omega
theorem hexL_bb {l : List Nat} (h : BB l) : BB (hexL l) := fun y hy => by
  simp only [hexL, List.mem_flatMap] at hy
  obtain ⟨x, hx', hy⟩ := hy
  have := h x hx'
  simp only [List.mem_cons, List.not_mem_nil, or_false] at hy
  rcases hy with rfl | rfl <;> exact hx_lt (by omega)
theorem hexL_len (l : List Nat) : (hexL l).length = 2 * l.length := by
  induction l with
  | nil => rfl
  | cons a l ih => rw [show hexL (a :: l) = [hxd (a / 16), hxd (a % 16)] ++ hexL l from rfl, List.length_append, ih]; simp; omega
theorem hexL_snoc (l : List Nat) (x : Nat) : hexL (l ++ [x]) = hexL l ++ [hxd (x / 16)] ++ [hxd (x % 16)] := by simp [hexL]
theorem take_snoc {l : List Nat} {k x : Nat} (h : k < l.length) (hx : l.getD k 0 = x) : l.take (k + 1) = l.take k ++ [x] := by
  rw [List.take_succ_eq_append_getElem h, ← hx, List.getD_eq_getElem?_getD, List.getElem?_eq_getElem h]; rfl
theorem hexGet {n : Nat} (h : n < 16) (h2 : n < (ByteArray.mk #[48, 49, 50, 51, 52, 53, 54, 55, 56, 57, 97, 98, 99, 100, 101, 102]).size) : ((ByteArray.mk #[48, 49, 50, 51, 52, 53, 54, 55, 56, 57, 97, 98, 99, 100, 101, 102])[n]'h2).toNat = hxd n := by
  have hn : n = 0 ∨ n = 1 ∨ n = 2 ∨ n = 3 ∨ n = 4 ∨ n = 5 ∨ n = 6 ∨ n = 7 ∨ n = 8 ∨ n = 9 ∨ n = 10 ∨ n = 11 ∨ n = 12 ∨ n = 13 ∨ n = 14 ∨ n = 15 := by omega
  rcases hn with rfl | rfl | rfl | rfl | rfl | rfl | rfl | rfl | rfl | rfl | rfl | rfl | rfl | rfl | rfl | rfl <;> rfl
theorem and15 {x : Nat} (h : x < 256) : bits .and .u8 (x : Int) 15 = ((x % 16 : Nat) : Int) := by
  rw [show (15 : Int) = ((15 : Nat) : Int) from rfl, u8_and_nat x 15 h (by decide)]
  congr 1
  exact Nat.and_two_pow_sub_one_eq_mod x 4
theorem index32 (l : List Nat) (h : l.length = 32) (i : Nat) (hi : i < 32) (w : World) : (Instr.index 36 (.agg (yV l)) (.int .i64 i)).run Tryd.prog w = .ok (.int .u8 (l.getD i 0 : Nat)) w :=
  run_index_one Tryd.underlying36 Tryd.underlying5 rfl (by kernel_rfl) hi (yV_get (by rw [List.getD_eq_getElem?_getD, List.getElem?_eq_getElem (by omega)]; rfl))

structure HxW (w : World) (bs : List Value) (W : World) : Prop where
  bld : Lib.IsBuilder 93 5 w.heap.size (w.heap.size + 1) bs W
  bel : Below w.heap.size w W
theorem HxW.start (w : World) (cs : Array Value) (t : TypeId) : HxW w [] ((w.alloc (.cells cs t)).alloc (.cells #[.pointer none, .slice none 0 0] 93)) := by
  have h := AR.made (w.alloc (.cells cs t)) 93 #[.pointer none, .slice none 0 0]
  rw [size_more] at h
  exact ⟨.inl ⟨by omega, .slice none 0 0, h, World.ownsRow_nil _ _ _ _, by simp [Value.ownBlock]⟩, bl_alloc _ (bl_alloc _ (Below.refl _ _))⟩
set_option maxRecDepth 20000 in
set_option maxHeartbeats 4000000 in
theorem hex_any (d : List Nat) (w : World) (hd : d.length = 32) (hb : BB d) : Calls Tryd.prog 36 #[.agg (yV d)] w (Gives w (.string (strN (hexL d)))) := by
  have HD := Lib.hid hd; have HBB := Lib.hid hb; clear hd hb
  go_enter Tryd.func36, Tryd.ntmps36
  go_wp2_with ((with_reducible refine atOp ⟨some 6, _, _, _, _, _⟩ ?_); refine wpList_load_row rfl 36 _ rfl w.heap.size rfl 36 (yV d) (0, 0) _ ((AR.made w _ _).more _) Tryd.underlying36 rfl (info32 d HD.out) ?_)
  go_loopw [7] (fun t wr => ∃ i : Nat, i ≤ 32 ∧ t = .int .i64 i ∧ Hid (HxW w (yL (hexL (d.take i))) wr)) (fun t _ => 32 - (intOf t).toNat)
  case atStart => exact ⟨0, by omega, rfl, Lib.hid (HxW.start w _ _)⟩
  case round =>
    obtain ⟨i, hi, rfl, HW⟩ := hrel
    by_cases hlt : i < 32
    · obtain ⟨x, hx⟩ : ∃ x, d.getD i 0 = x := ⟨_, rfl⟩
      have ix := index32 d HD.out i hlt
      rw [hx] at ix
      have hx8 : x < 256 := by rw [← hx]; exact HBB.out.get i
      obtain ⟨a, ha⟩ : ∃ a, x / 16 = a := ⟨_, rfl⟩
      obtain ⟨b, hb⟩ : ∃ b, x % 16 = b := ⟨_, rfl⟩
      have e1 : (x : Int) / 16 = (a : Int) := by omega
      have e2 : bits .and .u8 (x : Int) 15 = (b : Int) := by rw [and15 hx8, hb]
      have ra : (a : Int) < 16 := by omega
      have rb : (b : Int) < 16 := by omega
      have h1 := fun h2 => hexGet (n := a) (by omega) h2
      have h2 := fun h2 => hexGet (n := b) (by omega) h2
      have HN : Hid (hexL (d.take (i + 1)) = hexL (d.take i) ++ [hxd a] ++ [hxd b]) := Lib.hid (by rw [take_snoc (by rw [HD.out]; exact hlt) hx, hexL_snoc, ha, hb])
      have HLN : Hid ((yL (hexL (d.take i))).length = 2 * i) := Lib.hid (by rw [yL_len, hexL_len, List.length_take, HD.out]; omega)
      clear hx ha hb
      have t1 : True := trivial
      go_wp2_with (first
        | (go_at_call 60; have _t := t1; (with_reducible refine (writeByte_any w.heap.size (w.heap.size + 1) (yL (hexL (d.take i))) (hxd a : Nat) _ HW.out.bld (by rw [HLN.out]; omega) HW.out.bel.size).mono ?_); rintro e w1 ⟨rfl, hb1, hl1⟩; have HB1 := Lib.hid hb1; have HL1 := Lib.hid (HW.out.bel.trans hl1); clear hb1 hl1 t1 _t)
        | (go_at_call 60; (with_reducible refine (writeByte_any w.heap.size (w.heap.size + 1) (yL (hexL (d.take i)) ++ [.int .u8 (hxd a : Nat)]) (hxd b : Nat) _ HB1.out (by rw [List.length_append, HLN.out]; simp; omega) HL1.out.size).mono ?_); rintro e w2 ⟨rfl, hb1, hl1⟩; have HB2 := Lib.hid hb1; have HL2 := Lib.hid (HL1.out.trans hl1); clear hb1 hl1))
      go_roundw
      case rel => exact ⟨i + 1, by omega, by go_num, Lib.hid ⟨by rw [HN.out, yL_app, yL_app]; exact HB2.out, HL2.out⟩⟩
      case measure => simp [intOf]; omega
    · have HI : Hid (i = 32) := Lib.hid (by omega)
      have HF : Hid (HxW w (Lib.byteCells ((hexL d).map UInt8.ofNat)) wr) := Lib.hid (by have := HW.out; rw [HI.out, List.take_of_length_le (by rw [HD.out]; omega), ← byteCells_of (hexL_bb HBB.out)] at this; exact this)
      clear HW
      go_wp2_with (go_at_call 61; refine (Tryd.Builder_String_any w.heap.size (w.heap.size + 1) ((hexL d).map UInt8.ofNat) _ HF.out.bld HF.out.bel.size).mono ?_; rintro e w1 ⟨rfl, hs⟩; have HS := Lib.hid hs; clear hs)
      go_ret
      exact ⟨rfl, HF.out.bel.trans HS.out⟩
end Go.Proofs.YtaeicjgkoofmpaaDoor
namespace Go.Proofs.YtaeicjgkoofmpaaDoor
open Go.RowKit
set_option linter.unusedVariables false

theorem ret_two {a : Value} {b c : Int} {k : IntKind} (h : b = c) : Ending.returned (.tuple #[a, .int k b]) = .returned (.tuple #[a, .int k c]) := by rw [h]
def PadYes (w : World) (xs : List Nat) (e : Ending) (w' : World) : Prop := ∃ v, e = .returned (.tuple #[v, .int .i64 0]) ∧ RN w' v xs ∧ Below w.heap.size w w'
def PadNo (w : World) (e : Ending) (w' : World) : Prop := e = .returned (.tuple #[.slice none 0 0, .int .i64 7]) ∧ w = w'
theorem pad_yes (n : Nat) (k : Int) (w : World) (hk : k = n) (hn : n ≤ 1152921504606846976) : Calls Tryd.prog 35 #[.int .i64 k] w (PadYes w (padL n)) := by
  subst hk
  have h1 : ((n : Int) < 0) = False := by simp
  have e1 : IntKind.u64.wrap (n : Int) = (n : Int) := by rw [IntKind.wrap_u64]; omega
  have hn2 : decide (1152921504606846976 < (n : Int)) = false := by simp; omega
  go_enter Tryd.func35, Tryd.ntmps35
  go_wp2_with (go_at_call 59; refine (padding_any n _ hn).mono ?_; rintro e w1 ⟨v, rfl, hon, hb⟩; have HON := Lib.hid hon.rn; have HB := Lib.hid hb; clear hon hb)
  go_ret2
  exact ⟨v, rfl, HON.out, HB.out⟩
theorem pad_no (n : Int) (w : World) (hn : n < 0 ∨ 1152921504606846976 < n) : Calls Tryd.prog 35 #[.int .i64 n] w (PadNo w) := by
  by_cases h0 : n < 0
  · go_enter Tryd.func35, Tryd.ntmps35
    go_wp2_with fail
    go_ret2
    exact ⟨rfl, rfl⟩
  · have h1 : 1152921504606846976 < n := by omega
    go_enter Tryd.func35, Tryd.ntmps35
    go_wp2_with fail
    go_ret2
    exact ⟨rfl, rfl⟩

theorem info64c (l : List Nat) (h : l.length = 64) : (Tryd.prog.info? 68).map (·.size) = some (uV l).size := by rw [uV_size, h]; kernel_rfl
set_option maxRecDepth 20000 in
set_option maxHeartbeats 1000000 in
theorem constants_any (w : World) (hV : VK w) : Calls Tryd.prog 37 #[] w (Gives w (.agg (uV kL))) := by
  obtain ⟨t, fr, hk⟩ := hV.k
  have hlt : 0 < w.heap.size := (Array.getElem?_eq_some_iff.1 hk).1
  have HK : Hid ((w.alloc (.cells (uV (List.replicate 64 0)) 68)).heap[0]? = some (.cells (uV kL) t fr)) := Lib.hid (((bl_self w (.cells (uV (List.replicate 64 0)) 68)).block _ hlt).trans hk)
  have HI := Lib.hid (info64c kL rfl)
  clear hV hk
  go_enter Tryd.func37, Tryd.ntmps37
  go_wp2_with (first
    | ((with_reducible refine atOp ⟨some 1, _, _, _, _, _⟩ ?_); refine wpList_load_row rfl 68 _ rfl 0 rfl t (uV kL) fr _ HK.out Tryd.underlying68 rfl HI.out ?_)
    | ((with_reducible refine atOp ⟨none, .store 68 _ _, _, _, _, _⟩ ?_); refine wpList_store_row rfl 68 (.tmp 0) (.tmp 1) rfl w.heap.size (uV kL) rfl rfl 68 (uV (List.replicate 64 0)) (AR.made w _ _) HI.out rfl (uV_one _) ?_))
  refine bodyPost_ret (v := .agg (uV kL)) (results_cell_row Tryd.results37 _ _ w.heap.size 68 _ (0, 0) _ rfl ((AR.made w _ _).row _) Tryd.underlying68 rfl HI.out) rfl ⟨rfl, bl_row _ (bl_self _ _) (by omega)⟩
set_option maxRecDepth 20000 in
set_option maxHeartbeats 1000000 in
theorem start_any (w : World) (hV : VK w) : Calls Tryd.prog 38 #[] w (Gives w (.agg (uV hL))) := by
  obtain ⟨t, fr, hk⟩ := hV.h
  have hlt : 1 < w.heap.size := (Array.getElem?_eq_some_iff.1 hk).1
  have HK : Hid ((w.alloc (.cells (uV (List.replicate 8 0)) 70)).heap[1]? = some (.cells (uV hL) t fr)) := Lib.hid (((bl_self w (.cells (uV (List.replicate 8 0)) 70)).block _ hlt).trans hk)
  have HI := Lib.hid (info8 hL rfl)
  clear hV hk
  go_enter Tryd.func38, Tryd.ntmps38
  go_wp2_with (first
    | ((with_reducible refine atOp ⟨some 1, _, _, _, _, _⟩ ?_); refine wpList_load_row rfl 70 _ rfl 1 rfl t (uV hL) fr _ HK.out Tryd.underlying70 rfl HI.out ?_)
    | ((with_reducible refine atOp ⟨none, .store 70 _ _, _, _, _, _⟩ ?_); refine wpList_store_row rfl 70 (.tmp 0) (.tmp 1) rfl w.heap.size (uV hL) rfl rfl 70 (uV (List.replicate 8 0)) (AR.made w _ _) HI.out rfl (uV_one _) ?_))
  refine bodyPost_ret (v := .agg (uV hL)) (results_cell_row Tryd.results38 _ _ w.heap.size 70 _ (0, 0) _ rfl ((AR.made w _ _).row _) Tryd.underlying70 rfl HI.out) rfl ⟨rfl, bl_row _ (bl_self _ _) (by omega)⟩
end Go.Proofs.YtaeicjgkoofmpaaDoor
