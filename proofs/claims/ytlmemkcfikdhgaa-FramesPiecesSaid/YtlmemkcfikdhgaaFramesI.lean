/- Frames of both sides; comparisons. -/
import Derived.Test.YtlmemkcfikdhgaaFramesH
namespace Go.Proofs.Ytlmemkcfikdhgaa
open Go.RowKit Go.Lib
set_option linter.unusedVariables false

theorem toList_inj {s t : ByteArray} : s.toList = t.toList ↔ s = t := by
  constructor
  · intro h; rw [ByteArray.toList_eq, ByteArray.toList_eq] at h; exact WideShapes.bytes_inj h
  · rintro rfl; rfl
theorem toList_beq (s t : ByteArray) : (s.toList == t.toList) = decide (s = t) := by
  apply out_of
  simp only [beq_iff_eq, decide_eq_true_eq, toList_inj]
theorem neq_str (s t : ByteArray) (w : World) : (binOp .neq 9 (.string s) (.string t)).run Try.prog w = .ok (.bool (!decide (s = t))) w := by
  have u4 := Try.underlying9
  go_simp
  exact toList_beq s t
theorem eql_str (s t : ByteArray) (w : World) : (binOp .eql 9 (.string s) (.string t)).run Try.prog w = .ok (.bool (decide (s = t))) w := by
  have u4 := Try.underlying9
  go_simp
  exact toList_beq s t
theorem eql_st (s t : ByteArray) (a b : Bool) (w : World) : (binOp .eql 32 (.agg #[.string s, .bool a]) (.agg #[.string t, .bool b])).run Try.prog w = .ok (.bool (decide (s = t) && decide (a = b))) w := by
  have u3 := Try.underlying4
  have u4 := Try.underlying9
  have hS : Try.prog.underlying 32 = some (.struct (Try.prog.fieldsOf 32)) := by kernel_rfl
  have hp : Try.prog.stoodInHeld 32 = false := by kernel_rfl
  rw [run_eql_struct, show (10000 : Nat) = 9999 + 1 from rfl, run_equalIn_agg w 9999 32 _ _ hS hp]
  simp only [Program.fieldsOf, Try.underlying32]
  go_simp
  by_cases h1 : s = t <;> by_cases h2 : a = b <;> simp [h1, h2, toList_inj]
theorem neq_st (s t : ByteArray) (a b : Bool) (w : World) : (binOp .neq 32 (.agg #[.string s, .bool a]) (.agg #[.string t, .bool b])).run Try.prog w = .ok (.bool (!(decide (s = t) && decide (a = b)))) w := by
  have u3 := Try.underlying4
  have u4 := Try.underlying9
  have hS : Try.prog.underlying 32 = some (.struct (Try.prog.fieldsOf 32)) := by kernel_rfl
  have hp : Try.prog.stoodInHeld 32 = false := by kernel_rfl
  rw [run_neq_struct, show (10000 : Nat) = 9999 + 1 from rfl, run_equalIn_agg w 9999 32 _ _ hS hp]
  simp only [Program.fieldsOf, Try.underlying32]
  go_simp
  by_cases h1 : s = t <;> by_cases h2 : a = b <;> simp [h1, h2, toList_inj]
theorem str_dec {a b : List Nat} (ha : BB a) (hb : BB b) : decide (strB a = strB b) = decide (a = b) := by
  apply out_of
  simp only [decide_eq_true_eq]
  exact ⟨str_inj ha hb, fun h => by rw [h]⟩

/-! ### checkPayload, appendFrame, Frame -/
set_option maxHeartbeats 1000000 in
theorem checkPayload_any (v : Value) (p : List Nat) (w : World) (hv : RN w v p) : Calls Try.prog 18 #[v] w fun e w' => e = .returned (.int .i64 (errP p)) ∧ w = w' := by
  obtain ⟨A, c, rfl⟩ := hv.len
  have hm := hv.max
  unfold maxLen at hm
  by_cases h0 : p.length = 0
  · have HN : Hid (errP p = 6) := Lib.hid (by unfold errP; rw [if_pos h0])
    rw [h0]
    go_enter Try.func18, Try.ntmps18
    go_wp2_with fail
    go_ret
    exact ⟨by rw [HN.out]; rfl, rfl⟩
  · have e0 : ((p.length : Int) == 0) = false := by rw [beq_eq_false_iff_ne]; omega
    by_cases h1 : 1024 < p.length
    · have HN : Hid (errP p = 3) := Lib.hid (by unfold errP; rw [if_neg h0, if_pos h1])
      go_enter Try.func18, Try.ntmps18
      go_wp2_with fail
      go_ret
      exact ⟨by rw [HN.out]; rfl, rfl⟩
    · have HN : Hid (errP p = 0) := Lib.hid (by unfold errP; rw [if_neg h0, if_neg h1])
      go_enter Try.func18, Try.ntmps18
      go_wp2_with fail
      go_ret
      exact ⟨by rw [HN.out]; rfl, rfl⟩
theorem rn_four (w1 : World) {T : TypeId} {cs : Array Value} (x2 x3 : Nat) : RN ((w1.alloc (.cells cs T)).alloc (.cells #[.int .u8 71, .int .u8 1, .int .u8 x2, .int .u8 x3] 5)) (.slice (some ⟨w1.heap.size + 1, 0, none⟩) 4 4) [71, 1, x2, x3] := by
  have h := (on_new (w1.alloc (.cells cs T)) [71, 1, x2, x3] 4 rfl (by omega)).rn
  simpa [yL] using h
theorem atOp {P : Program} {ops : Array Oper} {rest : List Oper} (o : Oper) {a : Act} {w : World} {Q : Exit → Act → World → Prop} (h : wpList P ops Q (o :: rest) a w) : wpList P ops Q (o :: rest) a w := h
theorem bl_grow2 {B : Nat} {w w1 w2 : World} {o1 o2 : Obj} {v : Value} {zs : List Nat} (hB : B ≤ w.heap.size) (h1 : Below w.heap.size w w1) (hv : ON w B v zs) (hg : ((w1.alloc o1).alloc o2).grownBy w2 v.ownBlock) : Below B w w2 :=
  ((h1.mono hB).trans ((bl_alloc o2 (bl_alloc o1 (Below.refl _ _))).mono (Nat.le_trans hB h1.size))).grown hg (by have := h1.size; simp; omega) (fun k e => (World.ownsRow.lt hv k e).1)
theorem on_four (w : World) (x2 x3 : Nat) : ON (w.alloc (.cells #[.int .u8 71, .int .u8 1, .int .u8 x2, .int .u8 x3] 5)) w.heap.size (.slice (some ⟨w.heap.size, 0, none⟩) 4 4) [71, 1, x2, x3] := by
  have h := on_new w [71, 1, x2, x3] 4 rfl (by omega)
  simpa [yL] using h
/-- What a function appends to bytes of one's own. -/
def Onto (w : World) (B : Nat) (xs : List Nat) (e : Ending) (w' : World) : Prop := ∃ v, e = .returned v ∧ ON w' B v xs ∧ Below B w w'
set_option maxRecDepth 20000 in
set_option maxHeartbeats 2000000 in
theorem appendFrame_any (B : Nat) (v pv : Value) (zs p : List Nat) (w : World) (hv : ON w B v zs) (hp : ∀ W, Below B w W → RN W pv p) (hB : B ≤ w.heap.size) (hl : p.length ≤ 1024) (hz : zs.length ≤ 2000000) : Calls Try.prog 19 #[v, pv] w (Onto w B (zs ++ frameL p)) := by
  obtain ⟨A, c, rfl⟩ := (hp w (Below.refl _ _)).len
  obtain ⟨A0, c0, rfl⟩ := hv.len
  have HV := Lib.hid hv; have HP := Lib.hid hp
  clear hv hp
  have hA : zs ++ frameL p = (zs ++ headL p.length) ++ p := by unfold frameL; rw [List.append_assoc]
  have HA := Lib.hid hA
  clear hA
  obtain ⟨x2, h2⟩ : ∃ x, p.length / 256 % 256 = x := ⟨_, rfl⟩
  obtain ⟨x3, h3⟩ : ∃ x, p.length % 256 = x := ⟨_, rfl⟩
  have HH : Hid (headL p.length = [71, 1, x2, x3]) := Lib.hid (by unfold headL; rw [h2, h3])
  have H2 := Lib.hid h2; have H3 := Lib.hid h3
  clear h2 h3
  go_enter Try.func19, Try.ntmps19
  go_wp2_with (first
    | (go_at_call 26; (with_reducible refine (lengthOf_any p.length _ (by omega)).mono ?_); rintro e w1 ⟨rfl, hb1⟩; rw [H2.out, H3.out]; have HB1 := Lib.hid hb1; clear hb1)
    | ((with_reducible refine atOp ⟨some 15, _, _, _, _, _⟩ ?_); ( refine wpList_append_on _ rfl _ _ rfl B _ _ zs [71, 1, x2, x3] rfl ((HV.out.later HB1.out).later (bl_alloc _ (bl_alloc _ (Below.refl _ _)))) rfl (rn_four w1 x2 x3) (by have := HB1.out.size; simp; omega) (by simp; omega) ?_; intro v2 w2 hown hgrow; have hbw : Below B w w2 := bl_grow2 hB HB1.out HV.out hgrow; have HRP := Lib.hid (HP.out w2 hbw); have HB2 := Lib.hid hbw; have HO2 := Lib.hid hown; clear hbw hown hgrow))
    | ((with_reducible refine atOp ⟨some 18, _, _, _, _, _⟩ ?_); refine wpList_append_on _ rfl _ _ rfl B _ _ (zs ++ [71, 1, x2, x3]) p rfl HO2.out rfl HRP.out (Nat.le_trans hB HB2.out.size) (by simp; omega) ?_; intro v3 w3 hown hgrow; have hbw := HB2.out.grown hgrow (Nat.le_trans hB HB2.out.size) (fun q e => (World.ownsRow.lt HO2.out q e).1); have HB3 := Lib.hid hbw; have HO3 := Lib.hid hown; clear hbw hown hgrow))
  go_ret
  exact ⟨_, rfl, by rw [HA.out, HH.out]; exact HO3.out, HB3.out⟩
end Go.Proofs.Ytlmemkcfikdhgaa
