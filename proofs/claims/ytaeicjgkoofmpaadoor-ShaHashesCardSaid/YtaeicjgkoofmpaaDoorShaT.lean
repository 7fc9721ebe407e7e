/- The contracts of a hash's methods. A hash by value: what building one gives. The contracts of a hash's methods. A hash that is nil, or was not returned by New: its methods; loads and builds behind a guard. -/
import Derived.Test.YtaeicjgkoofmpaaDoorShaO
import Derived.Laws.ResultCell
import Derived.Laws.StructEq
import Derived.LaidEqlPtr
namespace Go.Proofs.YtaeicjgkoofmpaaDoor
open Go.RowKit
set_option linter.unusedVariables false

/-- An array of integers is equal to itself. -/
theorem run_equalIn_same {P : Program} (w : World) (d : Nat) (t e : TypeId) (n : Nat) (k : IntKind) (ht : P.underlying t = some (.array n e)) (he : P.underlying e = some (.int k)) (hsz : (P.info? e).map (·.size) = some 1)
    (xs : List Nat) (hx : xs.length = n) : (Op.equalIn (d + 2) t (.agg (xs.map fun (x : Nat) => Value.int k x).toArray) (.agg (xs.map fun (x : Nat) => Value.int k x).toArray)).run P w = .ok true w := by
  have hs : ∀ w, (sizeOf e).run P w = .ok 1 w := fun w => by
    cases hq : P.info? e with
    | none => simp [hq] at hsz
    | some i => simp [hq] at hsz; simp [sizeOf, typeInfo, hq, hsz]
  rw [Op.equalIn]
  simp only [Sem.run_bind, run_underlying ht, Result.andThen_ok, hs, Std.Legacy.Range.forIn_eq_forIn_range', Std.Legacy.Range.size, Nat.sub_zero, Nat.add_sub_cancel, Nat.div_one]
  have hl : ∀ i ∈ List.range' 0 n 1, i < n := fun i hi => by simpa using (List.mem_range'_1.1 hi).2
  revert hl
  generalize List.range' 0 n 1 = l
  intro hl
  induction l with
  | nil => simp
  | cons i l ih =>
    have hi : i < n := hl i (by simp)
    have px : (part e (xs.map fun (x : Nat) => Value.int k x).toArray (i * 1)).run P w = .ok (.int k (xs.getD i 0 : Nat)) w := by
      simp [part, isAgg, run_underlying he, List.getD, List.getElem?_eq_getElem (show i < xs.length by omega)]
    simp only [List.forIn_cons, Sem.run_bind, px, Result.andThen_ok, run_equalIn_int w d e k k _ _ he, beq_self_eq_true, Bool.not_true, Bool.false_eq_true, if_false, Sem.run_pure]
    exact ih fun j hj => hl j (by simp [hj])
theorem eq32 (T : List Nat) (h : T.length = 32) (w : World) : (Op.equalIn 10000 36 (.agg (yV T)) (.agg (yV T))).run Tryd.prog w = .ok true w :=
  run_equalIn_same w 9998 36 5 32 .u8 Tryd.underlying36 Tryd.underlying5 (by kernel_rfl) T h

theorem results_row_tmp {P : Program} {fn : Func} {p u : Tmp} {ty : TypeId} (h : fn.results = #[.cell p ty, .tmp u]) (tmps : Array Value) (w : World) (g : Nat) (t : TypeId) (cs : Array Value) (fr : Nat × Nat) (d : TypeDesc) (x : Value)
    (hp : tmps.getD p undef = .pointer (some ⟨g, 0, none⟩)) (hx : tmps.getD u undef = x) (hg : w.heap[g]? = some (.cells cs t fr))
    (hu : P.underlying ty = some d) (hd : (match d with | .struct _ | .array _ _ => true | _ => false) = true) (hi : (P.info? ty).map (·.size) = some cs.size) :
    (results fn tmps).run P w = .ok (.tuple #[.agg cs, x]) w := by
  rw [results_cell_tmp h, hp, hx]
  have ha : (asAddr (.pointer (some ⟨g, 0, none⟩))).run P w = .ok ⟨g, 0, none⟩ w := by simp [asAddr]
  rw [ha]
  simp only [Result.andThen_ok, run_loadVar_row w g t ty cs fr d hg hu hd hi]

def hashL (p : Option Addr) (n : Nat) (st last : List Nat) : List Value := .pointer p :: tL n st last
theorem hashL_len {st last : List Nat} (p : Option Addr) (n : Nat) (h : st.length = 8) (h2 : last.length = 64) : (hashL p n st last).length = 74 := by simp [hashL, tL_len n h h2]
theorem hashL_t {st last : List Nat} (p : Option Addr) (n : Nat) (h : st.length = 8) (h2 : last.length = 64) : ((hashL p n st last).drop 1).take 73 = tL n st last := by
  show (tL n st last).take 73 = _
  exact List.take_of_length_le (by rw [tL_len n h h2]; omega)
theorem hashL_set {st last st' last' : List Nat} (p : Option Addr) (n n' : Nat) (h : st.length = 8) (h2 : last.length = 64) (h3 : st'.length = 8) (h4 : last'.length = 64) : splice (hashL p n st last) 1 (tL n' st' last') = hashL p n' st' last' := by
  unfold splice hashL
  rw [tL_len n' h3 h4, List.take_succ_cons, List.take_zero, show 1 + 73 = 73 + 1 from rfl, List.drop_succ_cons, List.drop_of_length_le (by rw [tL_len n h h2]; omega), List.append_nil]
  rfl
theorem tL_one (n : Nat) (st last : List Nat) : ∀ v ∈ tL n st last, v.oneCell' = true := fun v hv => by
  simp only [tL, List.mem_cons, List.mem_append] at hv
  rcases hv with rfl | hv | hv
  · rfl
  · exact uL_one _ v hv
  · exact yL_one _ v hv
/-- Block g is a hash that New or Copy returned, of the bytes m. -/
def HA (W : World) (g : Nat) (m : List Nat) : Prop := ∃ n st last, AR W g 78 (hashL (some ⟨g, 0, none⟩) n st last).toArray ∧ Rep m n st last
theorem HA.inside {W : World} {g : Nat} {m : List Nat} (h : HA W g m) : g < W.heap.size := by obtain ⟨n, st, last, h1, _⟩ := h; exact h1.inside
theorem HA.step {W W' : World} {g : Nat} {m : List Nat} (h : HA W g m) (hb : Below W.heap.size W W') : HA W' g m := by obtain ⟨n, st, last, h1, h2⟩ := h; exact ⟨n, st, last, h1.step hb, h2⟩

theorem infoHash : (Tryd.prog.info? 78).map (·.size) = some 74 := by kernel_rfl
theorem eql_same (g : Nat) (w : World) : (binOp .eql 24 (.pointer (some ⟨g, 0, none⟩)) (.pointer (some ⟨g, 0, none⟩))).run Tryd.prog w = .ok (.bool true) w := by
  obtain ⟨j, hj, hjs⟩ := Option.map_eq_some_iff.1 infoHash
  have h : ∀ d : Nat, (Op.equalIn (d + 1) 24 (.pointer (some ⟨g, 0, none⟩)) (.pointer (some ⟨g, 0, none⟩))).run Tryd.prog w = .ok true w := fun d => by
    simp [Op.equalIn, run_underlying Tryd.underlying24, sizeOf, typeInfo, hj, run_sameAddr_same]
  simp only [binOp]
  simp [Op.equal, Op.maxDepth, h 9999]
theorem eql_none (g : Nat) (w : World) : (binOp .eql 24 (.pointer none) (.pointer (some ⟨g, 0, none⟩))).run Tryd.prog w = .ok (.bool false) w := by
  have h : ∀ d : Nat, (Op.equalIn (d + 1) 24 (.pointer none) (.pointer (some ⟨g, 0, none⟩))).run Tryd.prog w = .ok false w := fun d => by
    simp [Op.equalIn, run_underlying Tryd.underlying24]
  simp only [binOp]
  simp [Op.equal, Op.maxDepth, h 9999]
set_option maxHeartbeats 1000000 in
theorem isMade_yes (g : Nat) (w : World) (h : w.cell? ⟨g, 0, none⟩ = some (.pointer (some ⟨g, 0, none⟩))) : Calls Tryd.prog 41 #[.pointer (some ⟨g, 0, none⟩)] w fun e w' => e = .returned (.bool true) ∧ w = w' := by
  have he := eql_same g
  go_enter Tryd.func41, Tryd.ntmps41
  go_wp2_with fail
  go_ret
  exact ⟨rfl, rfl⟩
theorem isMade_nil (w : World) : Calls Tryd.prog 41 #[.pointer none] w fun e w' => e = .returned (.bool false) ∧ w = w' := by
  go_enter Tryd.func41, Tryd.ntmps41
  go_wp2_with fail
  go_ret
  exact ⟨rfl, rfl⟩
theorem isMade_zero (g : Nat) (w : World) (h : w.cell? ⟨g, 0, none⟩ = some (.pointer none)) : Calls Tryd.prog 41 #[.pointer (some ⟨g, 0, none⟩)] w fun e w' => e = .returned (.bool false) ∧ w = w' := by
  have he := eql_none g
  go_enter Tryd.func41, Tryd.ntmps41
  go_wp2_with fail
  go_ret
  exact ⟨rfl, rfl⟩
end Go.Proofs.YtaeicjgkoofmpaaDoor
namespace Go.Proofs.YtaeicjgkoofmpaaDoor
open Go.RowKit
set_option linter.unusedVariables false

theorem fold_set (off : Nat) : ∀ (vs : List Value) (k : Nat) (cs : Array Value), off + k + vs.length ≤ cs.size →
    (vs.zipIdx k).foldl (fun (cs : Array Value) (p : Value × Nat) => cs.setIfInBounds (off + p.2) p.1) cs = (cs.toList.take (off + k) ++ vs ++ cs.toList.drop (off + k + vs.length)).toArray
  | [], k, cs, _ => by simp
  | v :: vs, k, cs, h => by
    have hl : off + k + (vs.length + 1) ≤ cs.size := by simpa using h
    rw [List.zipIdx_cons, List.foldl_cons, fold_set off vs (k + 1) (cs.setIfInBounds (off + k) v) (by simp; omega)]
    have e := list_seg_step cs.toList (off + k) v vs (by simpa using hl)
    simp only [Array.toList_setIfInBounds]
    rw [show off + (k + 1) = off + k + 1 by omega, e]
    rfl
theorem built_hash {l : List Value} (h : l.length = 73) : Tryd.prog.built 78 [(1, .agg l.toArray)] = some (Value.pointer none :: l).toArray := by
  have hp : ∀ c : Array Value, Tryd.prog.built 78 [(1, .agg c)] = Instr.fill (fun i => if i = 1 then some (1, 73) else if i = 0 then some (0, 1) else none) (.pointer none :: tL 0 (List.replicate 8 0) (List.replicate 64 0)).toArray [(1, .agg c)] := fun c => by kernel_rfl
  have hs : (Value.agg l.toArray).cells = l.toArray := rfl
  have hz : (Value.pointer none :: tL 0 (List.replicate 8 0) (List.replicate 64 0)).toArray.size = 74 := by rw [List.size_toArray, List.length_cons, tL_len 0 (by simp) (by simp)]
  have hf := fold_set 1 l 0 (Value.pointer none :: tL 0 (List.replicate 8 0) (List.replicate 64 0)).toArray (by rw [hz]; omega)
  rw [hp]
  simp only [Instr.fill, hs, if_true, List.size_toArray, h, hz]
  rw [← Array.foldl_toList, Array.toList_zipIdx, hf]
  rw [List.take_succ_cons, List.take_zero, h, List.drop_of_length_le (by rw [List.length_cons, tL_len 0 (by simp) (by simp)]; omega), List.append_nil]
  rfl
end Go.Proofs.YtaeicjgkoofmpaaDoor
namespace Go.Proofs.YtaeicjgkoofmpaaDoor
open Go.RowKit
set_option linter.unusedVariables false

theorem HA.self {W : World} {g : Nat} {m : List Nat} (h : HA W g m) : W.cell? ⟨g, 0, none⟩ = some (.pointer (some ⟨g, 0, none⟩)) := by
  obtain ⟨n, st, last, h1, _⟩ := h; exact h1.at rfl
theorem built_at {n : Nat} {st last : List Nat} (h : st.length = 8) (h2 : last.length = 64) (a : Act) (ha : a.eval (.tmp 4) = .agg (tV n st last)) :
    Tryd.prog.built 78 ((#[(1, Operand.tmp 4)] : Array (Nat × Operand)).map fun (i, x) => (i, a.eval x)).toList = some (Value.pointer none :: tL n st last).toArray := by
  have e : ((#[(1, Operand.tmp 4)] : Array (Nat × Operand)).map fun (i, x) => (i, a.eval x)).toList = [(1, .agg (tL n st last).toArray)] := by simp [ha, tV]
  rw [e]
  exact built_hash (tL_len n h h2)
/-- What New and Copy return. -/
def Fresh (w : World) (m : List Nat) (e : Ending) (w' : World) : Prop := ∃ g, e = .returned (.pointer (some ⟨g, 0, none⟩)) ∧ HA w' g m ∧ w.heap.size ≤ g ∧ Below w.heap.size w w'
set_option maxRecDepth 20000 in
set_option maxHeartbeats 2000000 in
theorem made_any (m : List Nat) (n : Nat) (st last : List Nat) (w : World) (hR : Rep m n st last) : Calls Tryd.prog 39 #[.agg (tV n st last)] w (Fresh w m) := by
  have HR := Lib.hid hR; clear hR
  have h8 := Lib.hid HR.out.st8; have h64 := Lib.hid HR.out.len
  have A2 := AR.made (w.alloc (.cells (tV n st last) 75)) 78 (Value.pointer none :: tL n st last).toArray
  rw [size_more] at A2
  have c0 := A2.at (i := 0) (v := .pointer none) rfl
  have f0 := A2.free 0
  have HA2 := Lib.hid A2; clear A2
  go_enter Tryd.func39, Tryd.ntmps39
  go_wp2_with (first
    | ((with_reducible refine atOp ⟨some 4, _, _, _, _, _⟩ ?_); refine wpList_load_row rfl 75 _ rfl w.heap.size rfl 75 (tV n st last) (0, 0) _ (AR.made w _ _) Tryd.underlying75 rfl (info73 h8.out h64.out) ?_)
    | ((with_reducible refine atOp ⟨some 5, _, _, _, _, _⟩ ?_); refine wpList_buildTo rfl 78 #[(1, .tmp 4)] rfl (some 5) rfl (Value.pointer none :: tL n st last).toArray (built_at h8.out h64.out _ rfl) ?_))
  go_ret
  have A3 := AR.made (w.alloc (.cells (tV n st last) 75)) 78 (Value.pointer (some ⟨w.heap.size + 1, 0, none⟩) :: tL n st last).toArray
  rw [size_more] at A3
  exact ⟨w.heap.size + 1, rfl, ⟨n, st, last, A3, HR.out⟩, by omega, bl_alloc _ (bl_alloc _ (Below.refl _ _))⟩
theorem new_any (w : World) (hV : VK w) : Calls Tryd.prog 13 #[] w (Fresh w []) := by
  have HV := Lib.hid hV; clear hV
  go_enter Tryd.func13, Tryd.ntmps13
  go_wp2_with (first
    | (go_at_call 40; refine (nothing_any _ HV.out).mono ?_; rintro e w1 ⟨rfl, hb⟩; have HB := Lib.hid hb; clear hb)
    | (go_at_call 39; refine (made_any [] 0 hL (List.replicate 64 0) _ Rep.nil).mono ?_; rintro e w2 ⟨g, rfl, hh, hg, hb⟩; have HH := Lib.hid hh; have HG := Lib.hid hg; have HB2 := Lib.hid hb; clear hh hg hb))
  go_ret
  exact ⟨g, rfl, HH.out, Nat.le_trans HB.out.size HG.out, bl_call HB.out HB2.out⟩

theorem grow_self (w : World) (g : Nat) (cs : Array Value) : w.grownBy (w.setRow g cs) (some g) := ⟨rfl, rfl, rfl, by simp, fun k _ hk => setRow_other w g k cs (fun e => hk (by rw [e]))⟩
theorem grow_call {w w1 : World} (g : Nat) (cs : Array Value) (h : Below w.heap.size w w1) : w.grownBy (w1.setRow g cs) (some g) :=
  ⟨h.os, h.tape, h.output, by simp; exact h.size, fun k hk hne => (setRow_other w1 g k cs (fun e => hne (by rw [e]))).trans (h.block k hk)⟩
/-- What Write and Reset leave: only the hash has changed. -/
def Turned (w : World) (g : Nat) (m : List Nat) (e : Ending) (w' : World) : Prop := e = .returned (.int .i64 0) ∧ HA w' g m ∧ w.grownBy w' (some g)
set_option maxRecDepth 20000 in
set_option maxHeartbeats 2000000 in
theorem write_any (g : Nat) (m xs : List Nat) (v : Value) (w : World) (hh : HA w g m) (hv : RN w v xs) (hb : BB xs) (hsz : m.length + xs.length < 9223372036854775808) (hV : VK w) :
    Calls Tryd.prog 14 #[.pointer (some ⟨g, 0, none⟩), v] w (Turned w g (m ++ xs)) := by
  have c0 := hh.self
  obtain ⟨n, st, last, har, hR⟩ := hh
  have h8 := Lib.hid hR.st8; have h64 := Lib.hid hR.len
  have HA0 := Lib.hid har; have HR := Lib.hid hR; have HVV := Lib.hid hv; have HBB := Lib.hid hb; have HV := Lib.hid hV
  clear har hR hv hb hV
  go_enter Tryd.func14, Tryd.ntmps14
  go_wp2_with (first
    | (go_at_call 41; refine (isMade_yes g _ c0).mono ?_; rintro e w1 ⟨rfl, rfl⟩)
    | ((with_reducible refine atOp ⟨some 12, _, _, _, _, _⟩ ?_); refine wpList_load_at rfl 75 (.tmp 11) rfl g 1 73 rfl 78 (hashL (some ⟨g, 0, none⟩) n st last) (tL n st last) _ HA0.out (hashL_t _ n h8.out h64.out) (tL_len n h8.out h64.out) Tryd.underlying75 rfl (by kernel_rfl) ?_)
    | (go_at_call 42; refine (with_any m xs n st last v _ HR.out HVV.out HBB.out hsz HV.out).mono ?_; rintro e w2 ⟨n2, st2, last2, rfl, hr, hb⟩; have HR2 := Lib.hid hr; have HB2 := Lib.hid hb; have HA2 := Lib.hid (HA0.out.step hb); have h82 := Lib.hid hr.st8; have h642 := Lib.hid hr.len; clear hr hb)
    | ((with_reducible refine atOp ⟨none, .store 75 _ _, _, _, _, _⟩ ?_); refine wpList_store_at rfl 75 (.tmp 16) (.tmp 14) rfl g 1 (tL n2 st2 last2) rfl rfl 78 (hashL (some ⟨g, 0, none⟩) n st last) HA2.out (by rw [tL_len n2 h82.out h642.out]; kernel_rfl) (by rw [tL_len n2 h82.out h642.out, hashL_len _ n h8.out h64.out]; omega) (tL_one _ _ _) ?_; rw [hashL_set _ n n2 h8.out h64.out h82.out h642.out]))
  go_ret
  exact ⟨rfl, ⟨n2, st2, last2, HA2.out.row _, HR2.out⟩, grow_call g _ HB2.out⟩
set_option maxRecDepth 20000 in
set_option maxHeartbeats 2000000 in
theorem reset_any (g : Nat) (m : List Nat) (w : World) (hh : HA w g m) (hV : VK w) : Calls Tryd.prog 15 #[.pointer (some ⟨g, 0, none⟩)] w (Turned w g []) := by
  have c0 := hh.self
  obtain ⟨n, st, last, har, hR⟩ := hh
  have h8 := Lib.hid hR.st8; have h64 := Lib.hid hR.len
  have HA0 := Lib.hid har; have HV := Lib.hid hV
  clear har hR hV
  go_enter Tryd.func15, Tryd.ntmps15
  go_wp2_with (first
    | (go_at_call 41; refine (isMade_yes g _ c0).mono ?_; rintro e w1 ⟨rfl, rfl⟩)
    | (go_at_call 40; refine (nothing_any _ HV.out).mono ?_; rintro e w2 ⟨rfl, hb⟩; have HB2 := Lib.hid hb; have HA2 := Lib.hid (HA0.out.step hb); clear hb)
    | ((with_reducible refine atOp ⟨none, .store 75 _ _, _, _, _, _⟩ ?_); refine wpList_store_at rfl 75 (.tmp 9) (.tmp 7) rfl g 1 (tL 0 hL (List.replicate 64 0)) rfl rfl 78 (hashL (some ⟨g, 0, none⟩) n st last) HA2.out (by kernel_rfl) (by rw [tL_len 0 rfl rfl, hashL_len _ n h8.out h64.out]; omega) (tL_one _ _ _) ?_; rw [hashL_set _ n 0 h8.out h64.out rfl rfl]))
  go_ret
  exact ⟨rfl, ⟨0, hL, List.replicate 64 0, HA2.out.row _, Rep.nil⟩, grow_call g _ HB2.out⟩
set_option maxRecDepth 20000 in
set_option maxHeartbeats 2000000 in
theorem hsum_any (g : Nat) (m : List Nat) (w : World) (hh : HA w g m) (hsz : m.length ≤ 1000000) (hV : VK w) : Calls Tryd.prog 17 #[.pointer (some ⟨g, 0, none⟩)] w (Gives w (.tuple #[.agg (yV (shaL m)), .int .i64 0])) := by
  have hlt := hh.inside
  have c0 : (w.alloc (.cells (yV (List.replicate 32 0)) 36)).cell? ⟨g, 0, none⟩ = some (.pointer (some ⟨g, 0, none⟩)) := (hh.step (bl_self w _)).self
  have hh1 := hh.step (bl_self w (.cells (yV (List.replicate 32 0)) 36))
  obtain ⟨n, st, last, har, hR⟩ := hh1
  have h8 := Lib.hid hR.st8; have h64 := Lib.hid hR.len
  have HA0 := Lib.hid har; have HR := Lib.hid hR; have HV := Lib.hid (hV.below (bl_self w (.cells (yV (List.replicate 32 0)) 36)))
  have HRES : Hid (AR (w.alloc (.cells (yV (List.replicate 32 0)) 36)) w.heap.size 36 (yV (List.replicate 32 0))) := Lib.hid (AR.made _ _ _)
  clear har hR hV hh
  go_enter Tryd.func17, Tryd.ntmps17
  go_wp2_with (first
    | (go_at_call 41; refine (isMade_yes g _ c0).mono ?_; rintro e w1 ⟨rfl, rfl⟩)
    | ((with_reducible refine atOp ⟨some 11, _, _, _, _, _⟩ ?_); refine wpList_load_at rfl 75 (.tmp 10) rfl g 1 73 rfl 78 (hashL (some ⟨g, 0, none⟩) n st last) (tL n st last) _ HA0.out (hashL_t _ n h8.out h64.out) (tL_len n h8.out h64.out) Tryd.underlying75 rfl (by kernel_rfl) ?_)
    | (go_at_call 43; refine (digest_any m n st last _ HR.out hsz HV.out).mono ?_; rintro e w2 ⟨rfl, hb⟩; have HB2 := Lib.hid hb; have HRES2 := Lib.hid (HRES.out.step hb); clear hb)
    | ((with_reducible refine atOp ⟨none, .store 36 _ _, _, _, _, _⟩ ?_); refine wpList_store_row rfl 36 (.tmp 2) (.tmp 12) rfl w.heap.size (yV (shaL m)) rfl rfl 36 (yV (List.replicate 32 0)) HRES2.out (info32 _ (shaL_len _)) (by rw [yV_size, yV_size, shaL_len]; rfl) (yV_one _) ?_))
  refine bodyPost_ret (v := .tuple #[.agg (yV (shaL m)), .int .i64 0]) (results_row_tmp Tryd.results17 _ _ w.heap.size 36 _ (0, 0) _ _ rfl rfl (HRES2.out.row _) Tryd.underlying36 rfl (info32 _ (shaL_len _))) rfl ⟨rfl, bl_row _ (bl_call (bl_self w _) HB2.out) (by omega)⟩
theorem hlen_any (g : Nat) (m : List Nat) (w : World) (hh : HA w g m) (hsz : m.length ≤ 1000000) : Calls Tryd.prog 18 #[.pointer (some ⟨g, 0, none⟩)] w fun e w' => e = .returned (.tuple #[.int .i64 m.length, .int .i64 0]) ∧ w = w' := by
  have c0 := hh.self
  obtain ⟨n, st, last, har, hR⟩ := hh
  obtain ⟨k, hk⟩ : ∃ k, m.length = k := ⟨_, rfl⟩
  have c1 := har.at (i := 1) (v := .int .u64 n) rfl
  have hn := hR.size
  rw [hk] at hn hsz ⊢
  subst hn
  have HK := Lib.hid hk; clear hk har hR
  have e1 : IntKind.i64.wrap (n : Int) = (n : Int) := by rw [IntKind.wrap_i64]; omega
  go_enter Tryd.func18, Tryd.ntmps18
  go_wp2_with (go_at_call 41; refine (isMade_yes g _ c0).mono ?_; rintro e w1 ⟨rfl, rfl⟩)
  go_ret2
  exact ⟨rfl, rfl⟩
/-- What Copy returns. -/
def Copied (w : World) (m : List Nat) (e : Ending) (w' : World) : Prop := ∃ g, e = .returned (.tuple #[.pointer (some ⟨g, 0, none⟩), .int .i64 0]) ∧ HA w' g m ∧ w.heap.size ≤ g ∧ Below w.heap.size w w'
set_option maxRecDepth 20000 in
set_option maxHeartbeats 2000000 in
theorem copy_any (g : Nat) (m : List Nat) (w : World) (hh : HA w g m) : Calls Tryd.prog 16 #[.pointer (some ⟨g, 0, none⟩)] w (Copied w m) := by
  have c0 := hh.self
  obtain ⟨n, st, last, har, hR⟩ := hh
  have h8 := Lib.hid hR.st8; have h64 := Lib.hid hR.len
  have HA0 := Lib.hid har; have HR := Lib.hid hR
  clear har hR
  go_enter Tryd.func16, Tryd.ntmps16
  go_wp2_with (first
    | (go_at_call 41; refine (isMade_yes g _ c0).mono ?_; rintro e w1 ⟨rfl, rfl⟩)
    | ((with_reducible refine atOp ⟨some 10, _, _, _, _, _⟩ ?_); refine wpList_load_at rfl 75 (.tmp 9) rfl g 1 73 rfl 78 (hashL (some ⟨g, 0, none⟩) n st last) (tL n st last) _ HA0.out (hashL_t _ n h8.out h64.out) (tL_len n h8.out h64.out) Tryd.underlying75 rfl (by kernel_rfl) ?_)
    | (go_at_call 39; refine (made_any m n st last _ HR.out).mono ?_; rintro e w2 ⟨g2, rfl, hh, hg, hb⟩; have HH := Lib.hid hh; have HG := Lib.hid hg; have HB2 := Lib.hid hb; clear hh hg hb))
  go_ret2
  exact ⟨g2, rfl, HH.out, HG.out, HB2.out⟩
end Go.Proofs.YtaeicjgkoofmpaaDoor
namespace Go.Proofs.YtaeicjgkoofmpaaDoor
open Go.RowKit
set_option linter.unusedVariables false

section
variable {P : Program} {w : World} {ops : Array Oper} {rest : List Oper} {o : Oper} {a : Act} {Q : Exit → Act → World → Prop}
theorem guard_load_row (hgd : Region.wanted o (yielded ops a.tmps) = true) (ty : TypeId) (x : Operand) (ho : o.op = .load ty x) (g : Nat) (hx : a.eval x = .pointer (some ⟨g, 0, none⟩)) (t : TypeId) (cs : Array Value) (fr : Nat × Nat) (d : TypeDesc) (hg : w.heap[g]? = some (.cells cs t fr))
    (hu : P.underlying ty = some d) (hd : (match d with | .struct _ | .array _ _ => true | _ => false) = true) (hi : (P.info? ty).map (·.size) = some cs.size)
    (h : wpList P ops Q rest (a.put o.dst (.agg cs)) w) : wpList P ops Q (o :: rest) a w :=
  wpList_step fun K hK => by rw [if_pos hgd]; exact wp_load_row ty x ho g hx t cs fr d hg hu hd hi (hK _ _ h)
theorem guard_build (hgd : Region.wanted o (yielded ops a.tmps) = true) (t : TypeId) (parts : Array (Nat × Operand)) (ho : o.op = .build t parts) (d : Option Tmp) (hd : o.dst = d) (cells : Array Value) (hf : P.built t (parts.map fun (i, x) => (i, a.eval x)).toList = some cells)
    (h : wpList P ops Q rest (a.put d (.agg cells)) w) : wpList P ops Q (o :: rest) a w :=
  wpList_step fun K hK => by
    rw [if_pos hgd]
    refine wp_build t parts ho (by rw [hf]; rfl) ?_
    rw [hf, hd]
    exact hK _ _ h
end

/-- The pointer leads to no hash that New or Copy returned. -/
def Bad (W : World) (p : Option Addr) : Prop := p = none ∨ ∃ g, p = some ⟨g, 0, none⟩ ∧ W.cell? ⟨g, 0, none⟩ = some (.pointer none)
theorem Bad.step {W W' : World} {p : Option Addr} (h : Bad W p) (hb : Below W.heap.size W W') : Bad W' p := by
  rcases h with rfl | ⟨g, rfl, hc⟩
  · exact .inl rfl
  · exact .inr ⟨g, rfl, (hb.cell (p := ⟨g, 0, none⟩) (World.block_lt_of_cell? W _ hc)).trans hc⟩
theorem isMade_no (p : Option Addr) (w : World) (h : Bad w p) : Calls Tryd.prog 41 #[.pointer p] w fun e w' => e = .returned (.bool false) ∧ w = w' := by
  rcases h with rfl | ⟨g, rfl, hc⟩
  · exact isMade_nil w
  · exact isMade_zero g w hc
theorem write_no (p : Option Addr) (v : Value) (w : World) (h : Bad w p) : Calls Tryd.prog 14 #[.pointer p, v] w fun e w' => e = .returned (.int .i64 1) ∧ w = w' := by
  have H := Lib.hid h; clear h
  go_enter Tryd.func14, Tryd.ntmps14
  go_wp2_with (go_at_call 41; refine (isMade_no p _ H.out).mono ?_; rintro e w1 ⟨rfl, rfl⟩)
  go_ret
  exact ⟨rfl, rfl⟩
theorem reset_no (p : Option Addr) (w : World) (h : Bad w p) : Calls Tryd.prog 15 #[.pointer p] w fun e w' => e = .returned (.int .i64 1) ∧ w = w' := by
  have H := Lib.hid h; clear h
  go_enter Tryd.func15, Tryd.ntmps15
  go_wp2_with (go_at_call 41; refine (isMade_no p _ H.out).mono ?_; rintro e w1 ⟨rfl, rfl⟩)
  go_ret
  exact ⟨rfl, rfl⟩
theorem hlen_no (p : Option Addr) (w : World) (h : Bad w p) : Calls Tryd.prog 18 #[.pointer p] w fun e w' => e = .returned (.tuple #[.int .i64 0, .int .i64 1]) ∧ w = w' := by
  have H := Lib.hid h; clear h
  go_enter Tryd.func18, Tryd.ntmps18
  go_wp2_with (go_at_call 41; refine (isMade_no p _ H.out).mono ?_; rintro e w1 ⟨rfl, rfl⟩)
  go_ret2
  exact ⟨rfl, rfl⟩
theorem copy_no (p : Option Addr) (w : World) (h : Bad w p) : Calls Tryd.prog 16 #[.pointer p] w fun e w' => e = .returned (.tuple #[.pointer none, .int .i64 1]) ∧ w = w' := by
  have H := Lib.hid h; clear h
  go_enter Tryd.func16, Tryd.ntmps16
  go_wp2_with (go_at_call 41; refine (isMade_no p _ H.out).mono ?_; rintro e w1 ⟨rfl, rfl⟩)
  go_ret2
  exact ⟨rfl, rfl⟩
set_option maxRecDepth 20000 in
set_option maxHeartbeats 1000000 in
theorem hsum_no (p : Option Addr) (w : World) (h : Bad w p) : Calls Tryd.prog 17 #[.pointer p] w (Gives w (.tuple #[.agg (yV (List.replicate 32 0)), .int .i64 1])) := by
  have H : Hid (Bad (w.alloc (.cells (yV (List.replicate 32 0)) 36)) p) := Lib.hid (h.step (bl_self w _)); clear h
  have HRES : Hid (AR (w.alloc (.cells (yV (List.replicate 32 0)) 36)) w.heap.size 36 (yV (List.replicate 32 0))) := Lib.hid (AR.made _ _ _)
  go_enter Tryd.func17, Tryd.ntmps17
  go_wp2_with (first
    | (go_at_call 41; refine (isMade_no p _ H.out).mono ?_; rintro e w1 ⟨rfl, rfl⟩)
    | ((with_reducible refine atOp ⟨some 7, _, _, _, _, _⟩ ?_); refine wpList_buildTo rfl 36 #[] rfl (some 7) rfl (yV (List.replicate 32 0)) (by kernel_rfl) ?_)
    | ((with_reducible refine atOp ⟨none, .store 36 _ _, _, _, _, _⟩ ?_); refine wpList_store_row rfl 36 (.tmp 2) (.tmp 7) rfl w.heap.size (yV (List.replicate 32 0)) rfl rfl 36 (yV (List.replicate 32 0)) HRES.out (info32 _ rfl) rfl (yV_one _) ?_))
  refine bodyPost_ret (v := .tuple #[.agg (yV (List.replicate 32 0)), .int .i64 1]) (results_row_tmp Tryd.results17 _ _ w.heap.size 36 _ (0, 0) _ _ rfl rfl (HRES.out.row _) Tryd.underlying36 rfl (info32 _ rfl)) rfl ⟨rfl, bl_row _ (bl_self w _) (by omega)⟩
theorem bad_none (W : World) : Bad W none := Or.inl rfl
/-- The digest of nothing but zeros. -/
def z32 : List Nat := List.replicate 32 0
theorem z32_len : z32.length = 32 := rfl
theorem hsum_z (p : Option Addr) (w : World) (h : Bad w p) : Calls Tryd.prog 17 #[.pointer p] w (Gives w (.tuple #[.agg (yV z32), .int .i64 1])) := hsum_no p w h
theorem built_hash0 : Tryd.prog.built 78 [] = some (hashL none 0 (List.replicate 8 0) (List.replicate 64 0)).toArray := by kernel_rfl
theorem built_dig0 : Tryd.prog.built 36 [] = some (yV z32) := by kernel_rfl
end Go.Proofs.YtaeicjgkoofmpaaDoor
