/- The contracts of a hash's methods. -/
import Derived.Test.YtipcanphkdodaaaDoorShaO
import Derived.Laws.ResultCell
import Derived.Laws.StructEq
import Derived.LaidEqlPtr
namespace Go.Proofs.YtipcanphkdodaaaDoor
open Go.RowKit
set_option linter.unusedVariables false

/-- An array of integers is equal to itself. -/
theorem run_equalIn_same {P : Program} (w : World) (d : Nat) (t e : TypeId) (n : Nat) (k : IntKind) (ht : P.underlying t = some (.array n e)) (he : P.underlying e = some (.int k)) (hsz : (P.info? e).map (·.size) = some 1)
    (xs : List Nat) (hx : xs.length = n) : (Op.equalIn (d + 2) t (.agg (xs.map fun (x : Nat) => Value.int k x).toArray) (.agg (xs.map fun (x : Nat) => Value.int k x).toArray)).run P w = .ok true w := by
  have hs : ∀ w, (sizeOf e).run P w = .ok 1 w := fun w => by
    cases hq : P.info? e with
    | none => simp [hq] at hsz
    | some i => simp [hq] at hsz; simp [sizeOf, typeInfo, hq, hsz]
  rw [Op.equalIn]
  simp only [Sem.run_bind, run_underlying ht, Result.andThen_ok, hs, Std.Legacy.Range.forIn_eq_forIn_range', Std.Legacy.Range.size, Nat.sub_zero, Nat.add_sub_cancel, Nat.div_one]
  have hl : ∀ i ∈ List.range' 0 n 1, i < n := fun i hi => by simpa using (List.mem_range'_1.1 hi).2
  revert hl
  generalize List.range' 0 n 1 = l
  intro hl
  induction l with
  | nil => simp
  | cons i l ih =>
    have hi : i < n := hl i (by simp)
    have px : (part e (xs.map fun (x : Nat) => Value.int k x).toArray (i * 1)).run P w = .ok (.int k (xs.getD i 0 : Nat)) w := by
      simp [part, isAgg, run_underlying he, List.getD, List.getElem?_eq_getElem (show i < xs.length by omega)]
    simp only [List.forIn_cons, Sem.run_bind, px, Result.andThen_ok, run_equalIn_int w d e k k _ _ he, beq_self_eq_true, Bool.not_true, Bool.false_eq_true, if_false, Sem.run_pure]
    exact ih fun j hj => hl j (by simp [hj])
theorem eq32 (T : List Nat) (h : T.length = 32) (w : World) : (Op.equalIn 10000 32 (.agg (yV T)) (.agg (yV T))).run Tryd.prog w = .ok true w :=
  run_equalIn_same w 9998 32 5 32 .u8 Tryd.underlying32 Tryd.underlying5 (by kernel_rfl) T h

theorem results_row_tmp {P : Program} {fn : Func} {p u : Tmp} {ty : TypeId} (h : fn.results = #[.cell p ty, .tmp u]) (tmps : Array Value) (w : World) (g : Nat) (t : TypeId) (cs : Array Value) (fr : Nat × Nat) (d : TypeDesc) (x : Value)
    (hp : tmps.getD p undef = .pointer (some ⟨g, 0, none⟩)) (hx : tmps.getD u undef = x) (hg : w.heap[g]? = some (.cells cs t fr))
    (hu : P.underlying ty = some d) (hd : (match d with | .struct _ | .array _ _ => true | _ => false) = true) (hi : (P.info? ty).map (·.size) = some cs.size) :
    (results fn tmps).run P w = .ok (.tuple #[.agg cs, x]) w := by
  rw [results_cell_tmp h, hp, hx]
  have ha : (asAddr (.pointer (some ⟨g, 0, none⟩))).run P w = .ok ⟨g, 0, none⟩ w := by simp [asAddr]
  rw [ha]
  simp only [Result.andThen_ok, run_loadVar_row w g t ty cs fr d hg hu hd hi]

def hashL (p : Option Addr) (n : Nat) (st last : List Nat) : List Value := .pointer p :: tL n st last
theorem hashL_len {st last : List Nat} (p : Option Addr) (n : Nat) (h : st.length = 8) (h2 : last.length = 64) : (hashL p n st last).length = 74 := by simp [hashL, tL_len n h h2]
theorem hashL_t {st last : List Nat} (p : Option Addr) (n : Nat) (h : st.length = 8) (h2 : last.length = 64) : ((hashL p n st last).drop 1).take 73 = tL n st last := by
  show (tL n st last).take 73 = _
  exact List.take_of_length_le (by rw [tL_len n h h2]; omega)
theorem hashL_set {st last st' last' : List Nat} (p : Option Addr) (n n' : Nat) (h : st.length = 8) (h2 : last.length = 64) (h3 : st'.length = 8) (h4 : last'.length = 64) : splice (hashL p n st last) 1 (tL n' st' last') = hashL p n' st' last' := by
  unfold splice hashL
  rw [tL_len n' h3 h4, List.take_succ_cons, List.take_zero, show 1 + 73 = 73 + 1 from rfl, List.drop_succ_cons, List.drop_of_length_le (by rw [tL_len n h h2]; omega), List.append_nil]
  rfl
theorem tL_one (n : Nat) (st last : List Nat) : ∀ v ∈ tL n st last, v.oneCell' = true := fun v hv => by
  simp only [tL, List.mem_cons, List.mem_append] at hv
  rcases hv with rfl | hv | hv
  · rfl
  · exact uL_one _ v hv
  · exact yL_one _ v hv
/-- Block g is a hash that New or Copy returned, of the bytes m. -/
def HA (W : World) (g : Nat) (m : List Nat) : Prop := ∃ n st last, AR W g 72 (hashL (some ⟨g, 0, none⟩) n st last).toArray ∧ Rep m n st last
theorem HA.inside {W : World} {g : Nat} {m : List Nat} (h : HA W g m) : g < W.heap.size := by obtain ⟨n, st, last, h1, _⟩ := h; exact h1.inside
theorem HA.step {W W' : World} {g : Nat} {m : List Nat} (h : HA W g m) (hb : Below W.heap.size W W') : HA W' g m := by obtain ⟨n, st, last, h1, h2⟩ := h; exact ⟨n, st, last, h1.step hb, h2⟩

theorem infoHash : (Tryd.prog.info? 72).map (·.size) = some 74 := by kernel_rfl
theorem eql_same (g : Nat) (w : World) : (binOp .eql 44 (.pointer (some ⟨g, 0, none⟩)) (.pointer (some ⟨g, 0, none⟩))).run Tryd.prog w = .ok (.bool true) w := by
  obtain ⟨j, hj, hjs⟩ := Option.map_eq_some_iff.1 infoHash
  have h : ∀ d : Nat, (Op.equalIn (d + 1) 44 (.pointer (some ⟨g, 0, none⟩)) (.pointer (some ⟨g, 0, none⟩))).run Tryd.prog w = .ok true w := fun d => by
    simp [Op.equalIn, run_underlying Tryd.underlying44, sizeOf, typeInfo, hj, run_sameAddr_same]
  simp only [binOp]
  simp [Op.equal, Op.maxDepth, h 9999]
theorem eql_none (g : Nat) (w : World) : (binOp .eql 44 (.pointer none) (.pointer (some ⟨g, 0, none⟩))).run Tryd.prog w = .ok (.bool false) w := by
  have h : ∀ d : Nat, (Op.equalIn (d + 1) 44 (.pointer none) (.pointer (some ⟨g, 0, none⟩))).run Tryd.prog w = .ok false w := fun d => by
    simp [Op.equalIn, run_underlying Tryd.underlying44]
  simp only [binOp]
  simp [Op.equal, Op.maxDepth, h 9999]
set_option maxHeartbeats 1000000 in
theorem isMade_yes (g : Nat) (w : World) (h : w.cell? ⟨g, 0, none⟩ = some (.pointer (some ⟨g, 0, none⟩))) : Calls Tryd.prog 49 #[.pointer (some ⟨g, 0, none⟩)] w fun e w' => e = .returned (.bool true) ∧ w = w' := by
  have he := eql_same g
  go_enter Tryd.func49, Tryd.ntmps49
  go_wp2_with fail
  go_ret
  exact ⟨rfl, rfl⟩
theorem isMade_nil (w : World) : Calls Tryd.prog 49 #[.pointer none] w fun e w' => e = .returned (.bool false) ∧ w = w' := by
  go_enter Tryd.func49, Tryd.ntmps49
  go_wp2_with fail
  go_ret
  exact ⟨rfl, rfl⟩
theorem isMade_zero (g : Nat) (w : World) (h : w.cell? ⟨g, 0, none⟩ = some (.pointer none)) : Calls Tryd.prog 49 #[.pointer (some ⟨g, 0, none⟩)] w fun e w' => e = .returned (.bool false) ∧ w = w' := by
  have he := eql_none g
  go_enter Tryd.func49, Tryd.ntmps49
  go_wp2_with fail
  go_ret
  exact ⟨rfl, rfl⟩
end Go.Proofs.YtipcanphkdodaaaDoor
