/- Arguments that are structs of numbers. -/
import Derived.Test.YtkidgijoopdidaaIntsW
import Derived.Deep.Fields
namespace Go.Proofs.Ytkidgijoopdidaa
open Go.ChangeShapes Go.WideShapes Go.ChangeAt Go.RowKit Go.Deep
set_option linter.unusedVariables false

/-- A struct by value whose fields have one cell each, however many. -/
theorem open_flat {H : Type} {enc : TypeId × Value → H} {W : World} {base : Nat} {t : TypeId} {fs : Array Field} {v : Value} {d : DataW H} {p : List MemPlace} (hs : Try.prog.underlying t = some (.struct fs)) (hone : oneCellFields Try.prog fs = true) (hC : Try.prog.cellsOf t = fs.size)
    (hv : Value.okWide Try.prog W .any base t v) (h : DataW.Trod enc Try.prog W 0 (fun _ => true) true t v d p) :
    ∃ (cs : Array Value) (n : Nat), v = .agg cs ∧ cs.size = fs.size ∧ ∀ (i : Nat) (f : Field) (c : Value), fs[i]? = some f → cs[i]? = some c → ∃ y, DataW.trod enc Try.prog W 0 (fun _ => true) true n f.type [c] = some y := by
  obtain ⟨cs, rfl, hsz⟩ := okWide_struct hs hv
  rw [hC] at hsz
  obtain ⟨fuel, hf⟩ := h
  obtain ⟨xs, n, _, _, _, hlen, hg⟩ := DataW.trod_struct hs hf
  refine ⟨cs, n, rfl, hsz, fun i f c hi hc => ?_⟩
  obtain ⟨ho, hk⟩ := hone_of hone i f hi
  have h1 := hg i f hi
  rw [ho, hk] at h1
  have hil : i < cs.size := (Array.getElem?_eq_some_iff.1 hc).1
  have hone' : ((Value.agg cs).cells.toList.drop i).take 1 = [c] := by
    have e : (Value.agg cs).cells = cs := rfl
    rw [e, List.drop_eq_getElem_cons (by simpa using hil)]
    have := (Array.getElem?_eq_some_iff.1 hc).2
    simp [this]
  rw [hone'] at h1
  have hx : i < xs.length := by omega
  rw [List.getElem?_eq_getElem hx] at h1
  exact ⟨_, h1⟩
theorem field_i64 {H : Type} {enc : TypeId × Value → H} {W : World} {t : TypeId} {n : Nat} {c : Value} {y : DataW H × List MemPlace} (ht : Try.prog.underlying t = some (.int .i64)) (h : DataW.trod enc Try.prog W 0 (fun _ => true) true n t [c] = some y) :
    ∃ z : Int, c = .int .i64 z ∧ -9223372036854775808 ≤ z ∧ z ≤ 9223372036854775807 := by
  obtain ⟨z, e, _, hw⟩ := DataW.trod_int ht h
  simp at e
  exact ⟨z, e, i64_wf hw⟩
theorem field_u64 {H : Type} {enc : TypeId × Value → H} {W : World} {t : TypeId} {n : Nat} {c : Value} {y : DataW H × List MemPlace} (ht : Try.prog.underlying t = some (.int .u64)) (h : DataW.trod enc Try.prog W 0 (fun _ => true) true n t [c] = some y) :
    ∃ z : Nat, c = .int .u64 z ∧ z < 18446744073709551616 := by
  obtain ⟨z, e, _, hw⟩ := DataW.trod_int ht h
  simp at e
  obtain ⟨m, rfl, hm⟩ := u64_wf hw
  exact ⟨m, e, hm⟩
theorem field_bool {H : Type} {enc : TypeId × Value → H} {W : World} {t : TypeId} {n : Nat} {c : Value} {y : DataW H × List MemPlace} (ht : Try.prog.underlying t = some .bool) (h : DataW.trod enc Try.prog W 0 (fun _ => true) true n t [c] = some y) :
    ∃ z : Bool, c = .bool z := by
  obtain ⟨z, e, _⟩ := DataW.trod_bool ht h
  simp at e
  exact ⟨z, e⟩
theorem open_number {H : Type} {enc : TypeId × Value → H} {W : World} {base : Nat} {v : Value} {d : DataW H} {p : List MemPlace}
    (hv : Value.okWide Try.prog W .any base 37 v) (h : DataW.Trod enc Try.prog W 0 (fun _ => true) true 37 v d p) :
    ∃ (n : Int) (u : Nat) (b : Int) (s : Bool), v = .agg #[.int .i64 n, .int .u64 u, .int .i64 b, .bool s] ∧ (-9223372036854775808 ≤ n ∧ n ≤ 9223372036854775807) ∧ u < 18446744073709551616 ∧ (-9223372036854775808 ≤ b ∧ b ≤ 9223372036854775807) := by
  obtain ⟨cs, k, rfl, hsz, hf⟩ := open_flat Try.underlying37 (by kernel_rfl) (by kernel_rfl) hv h
  obtain ⟨l⟩ := cs
  match l, hsz with
  | [c0, c1, c2, c3], _ =>
    obtain ⟨y0, h0⟩ := hf 0 _ c0 rfl rfl
    obtain ⟨y1, h1⟩ := hf 1 _ c1 rfl rfl
    obtain ⟨y2, h2⟩ := hf 2 _ c2 rfl rfl
    obtain ⟨y3, h3⟩ := hf 3 _ c3 rfl rfl
    obtain ⟨z0, rfl, b0⟩ := field_i64 Try.underlying2 h0
    obtain ⟨z1, rfl, b1⟩ := field_u64 Try.underlying23 h1
    obtain ⟨z2, rfl, b2⟩ := field_i64 Try.underlying3 h2
    obtain ⟨z3, rfl⟩ := field_bool Try.underlying4 h3
    exact ⟨z0, z1, z2, z3, rfl, b0, b1, b2⟩
theorem open_bits {H : Type} {enc : TypeId × Value → H} {W : World} {base : Nat} {v : Value} {d : DataW H} {p : List MemPlace}
    (hv : Value.okWide Try.prog W .any base 44 v) (h : DataW.Trod enc Try.prog W 0 (fun _ => true) true 44 v d p) :
    ∃ (n x : Nat) (a m k : Int), v = .agg #[.int .u64 n, .int .u64 x, .int .i64 a, .int .i64 m, .int .i64 k] ∧ n < 18446744073709551616 ∧ x < 18446744073709551616 ∧ (-9223372036854775808 ≤ a ∧ a ≤ 9223372036854775807) ∧ (-9223372036854775808 ≤ m ∧ m ≤ 9223372036854775807) ∧ (-9223372036854775808 ≤ k ∧ k ≤ 9223372036854775807) := by
  obtain ⟨cs, q, rfl, hsz, hf⟩ := open_flat Try.underlying44 (by kernel_rfl) (by kernel_rfl) hv h
  obtain ⟨l⟩ := cs
  match l, hsz with
  | [c0, c1, c2, c3, c4], _ =>
    obtain ⟨y0, h0⟩ := hf 0 _ c0 rfl rfl
    obtain ⟨y1, h1⟩ := hf 1 _ c1 rfl rfl
    obtain ⟨y2, h2⟩ := hf 2 _ c2 rfl rfl
    obtain ⟨y3, h3⟩ := hf 3 _ c3 rfl rfl
    obtain ⟨y4, h4⟩ := hf 4 _ c4 rfl rfl
    obtain ⟨z0, rfl, b0⟩ := field_u64 Try.underlying23 h0
    obtain ⟨z1, rfl, b1⟩ := field_u64 Try.underlying23 h1
    obtain ⟨z2, rfl, b2⟩ := field_i64 Try.underlying3 h2
    obtain ⟨z3, rfl, b3⟩ := field_i64 Try.underlying3 h3
    obtain ⟨z4, rfl, b4⟩ := field_i64 Try.underlying3 h4
    exact ⟨z0, z1, z2, z3, z4, rfl, b0, b1, b2, b3, b4⟩
end Go.Proofs.Ytkidgijoopdidaa
