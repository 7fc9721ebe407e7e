/- What the rows' list of variables gives the walks; what arguments read as; a law's end. -/
import Derived.Test.YtnmgcfpemmejlaaDoorCards
import Derived.Test.YtnmgcfpemmejlaaDoorTie
import Derived.WalkKit
import Derived.ProofKit
import Derived.OpenShut
import Derived.Deep.DeepHandedRow
import Derived.Deep.DeepWitnessRowRef
import Derived.Deep.SlicePairs
import Derived.Lib.LaidTab
import Derived.Stop.LaidErr
import Derived.Lay
import Derived.Carry
import Derived.ChangeMaps5
import Derived.Test.YtnmgcfpemmejlaaDoorTimesW
import Derived.Test.YtnmgcfpemmejlaaDoorTimesV
namespace Go.Proofs.YtnmgcfpemmejlaaDoor
open Go.ChangeShapes Go.WideShapes Go.ChangeAt Go.RowKit Go.Deep
set_option linter.unusedVariables false

theorem own : ownKnob Tryd.prog.godebug = none := by kernel_rfl
theorem gPow : Tryd.prog.globalNamed "internal/strconv.uint64pow10" = some 0 := by kernel_rfl
theorem gPowT : (Tryd.prog.globals[0]?).map (·.type) = some 92 := by kernel_rfl
theorem pow_of_laid {rest : List (String × DataW Unit)} {W : World} (h : laidMet Tryd.prog (("internal/strconv.uint64pow10", Rows.laid_internal_strconv_uint64pow10) :: rest) W) :
    Lib.TabIs Tryd.prog W "internal/strconv.uint64pow10" .u64 Lib.pow10Tab :=
  Lib.tabIs_of_head (rest := rest) gPow gPowT Tryd.underlying92 Tryd.underlying75 (by kernel_rfl) (by kernel_rfl) (show laidMet Tryd.prog (("internal/strconv.uint64pow10", Lib.tabData .u64 Lib.pow10Tab) :: rest) W from h)
theorem tv_of_laid {W : World} (h : laidMetH Tryd.prog Rows.timesSumsRow.laid W) : TV W :=
  have h0 : laidMet Tryd.prog Rows.timesSumsRow.laid W := h
  pow_of_laid h0.tail.tail

theorem i64_wf {n : Int} (h : (Lit.int .i64 n).wf = true) : -9223372036854775808 ≤ n ∧ n ≤ 9223372036854775807 := by
  simp only [Lit.wf, Bool.and_eq_true, decide_eq_true_eq] at h
  exact h
theorem laidOut : laidOutB Tryd.prog = true := by kernel_rfl
def goodT (P : Program) (t : TypeId) : Bool := P.readableRec t && decide (t < P.types.size)
theorem trodAll_below {P : Program} (hl : laidOutB P = true) {H : Type} {enc : TypeId × Value → H} {W W' : World} (hb : Below W.heap.size W W') : ∀ {ts : List TypeId} {vs : List Value} {ds : List (DataW H)} {ps : List MemPlace},
    ts.all (goodT P) = true → DataW.TrodAll enc P W 0 (fun _ => true) true ts vs ds ps → (∀ x ∈ ps, x.block < W.heap.size) →
    DataW.TrodAll enc P W' 0 (fun b => decide (b < W.heap.size)) true ts vs ds ps
  | [], _, _, _, _, h, _ => by obtain ⟨rfl, rfl, rfl⟩ := trodAll_nil h; exact trodAll_mk0
  | t :: ts, _, _, _, hg, h, hlt => by
    obtain ⟨v, vs, d, ds, p, q, rfl, rfl, rfl, h0, h1⟩ := trodAll_cons h
    rw [List.all_cons, Bool.and_eq_true] at hg
    obtain ⟨g1, g2⟩ := hg
    unfold goodT at g1
    rw [Bool.and_eq_true, decide_eq_true_eq] at g1
    exact trodAll_cons_mk (Below.trod hl g1.1 g1.2 h0 hb (fun x hx => hlt x (List.mem_append_left _ hx))) (trodAll_below hl hb g2 h1 (fun x hx => hlt x (List.mem_append_right _ hx)))

/-- A law's end: true, and every argument reads as it read. -/
theorem post_law {H : Type} {enc : TypeId × Value → H} {fn : Func} {s : ChangeSpec} {W W' : World} {args : Array Value} {ds gs : List (DataW H)} {before : List MemPlace}
    (hW : DataW.Whole enc Tryd.prog fn.params.toList s.vars false W args.toList ds gs before) (hg : fn.params.toList.all (goodT Tryd.prog) = true) (hrt : fn.resultTypes = #[4]) (hsv : s.vars = [])
    (hfn : s.fn H (ds ++ gs) = { results := [.lit (.bool true)], args := ds }) (hb : Below W.heap.size W W') :
    s.post enc Tryd.prog fn false true false false W args (.bool true) W' := by
  have hlt := hW.lt
  have hW' := hW
  obtain ⟨p, q, hA, hV, rfl, hfz, hnd⟩ := hW
  have hV' := hV
  rw [hsv] at hV'
  obtain ⟨rfl, rfl⟩ := trodVars_none hV'
  refine ⟨ds, [], p ++ [], [], p, [], hW', ?_, ?_, ?_, hb.frame _, fun h => by cases h⟩
  · rw [hrt, hfn]; exact trodAll_mk1 (shut_bool Tryd.underlying4 _)
  · rw [hfn]; exact trodAll_below laidOut hb hg hA (fun x hx => hlt x (List.mem_append_left _ hx))
  · rw [hsv, hfn]; rfl

/-! ### What an argument reads as -/
theorem span_shape : ∃ f0 f1 : Field, Tryd.prog.underlying 32 = some (.struct #[f0, f1]) ∧ f0.offset = 0 ∧ f1.offset = 1 ∧ f0.type = 2 ∧ f1.type = 2 :=
  ⟨_, _, Tryd.underlying32, rfl, rfl, rfl, rfl⟩
theorem spot_none {W : World} {a : Addr} {v : Value} (h : W.cell? a = some v) : a = ⟨a.block, a.off, none⟩ ∧ a.block < W.heap.size := by
  unfold World.cell? at h
  cases hb : W.heap[a.block]? with
  | none => rw [hb] at h; cases h
  | some o =>
    have hlt := (Array.getElem?_eq_some_iff.1 hb).1
    rw [hb] at h
    cases o <;> try (cases h; done)
    simp only at h
    cases hs : a.spot with
    | none => exact ⟨by rw [← hs], hlt⟩
    | some n => rw [hs] at h; simp at h
set_option maxRecDepth 100000 in
theorem open_spans {H : Type} {enc : TypeId × Value → H} {W : World} {v : Value} {d : DataW H} {p : List MemPlace} {r : Reach} {b0 : Nat}
    (hv : Value.okWide Tryd.prog W r b0 29 v) (h : DataW.Trod enc Tryd.prog W 0 (fun _ => true) true 29 v d p) : ∃ fs, RS W v fs ∧ ∀ s ∈ fs, S64 s := by
  obtain ⟨a0, len, cap, rfl⟩ := okWide_slice Tryd.underlying29 hv
  obtain ⟨fuel, hf⟩ := h
  obtain ⟨f0, f1, hs, o0, o1, t0, t1⟩ := span_shape
  have c0 : Tryd.prog.cellsOf f0.type = 1 := by rw [t0]; kernel_rfl
  have c1 : Tryd.prog.cellsOf f1.type = 1 := by rw [t1]; kernel_rfl
  rcases open_slice_pairs Tryd.underlying29 hs (by kernel_rfl) o0 o1 c0 c1 hf with ⟨hcs, hx⟩ | ⟨a, len', cap', m, n, V0, V1, D0, D1, P0, P1, hcs, _, hl, hm, hmm, hx, hcell⟩
  · simp [Value.cells] at hcs
    obtain ⟨rfl, rfl, rfl⟩ := hcs
    exact ⟨[], RS.nil W, by simp⟩
  · simp [Value.cells] at hcs
    obtain ⟨rfl, rfl, rfl⟩ := hcs
    simp only [if_true] at hmm
    by_cases h0 : len = 0
    · subst h0; exact ⟨[], .inl ⟨_, _, rfl, rfl⟩, by simp⟩
    · have hs0 := (hcell 0 (by omega)).1
      rw [Nat.zero_mul] at hs0
      have ha : a.add 0 = a := rfl
      rw [ha] at hs0
      obtain ⟨he, hlt⟩ := spot_none hs0
      have hone : ∀ i, i < len → ∃ f : Span, (V0 i = .int .i64 f.1 ∧ V1 i = .int .i64 f.2) ∧ S64 f := fun i hi => by
        obtain ⟨_, _, g0, g1⟩ := hcell i (by omega)
        rw [t0] at g0; rw [t1] at g1
        obtain ⟨x, e0, _, w0⟩ := DataW.trod_int Tryd.underlying2 g0
        obtain ⟨y, e1, _, w1⟩ := DataW.trod_int Tryd.underlying2 g1
        exact ⟨(x, y), ⟨by simpa using e0, by simpa using e1⟩, i64_wf w0, i64_wf w1⟩
      obtain ⟨F, hF⟩ : ∃ F : Nat → Span, ∀ i, i < len → (V0 i = .int .i64 (F i).1 ∧ V1 i = .int .i64 (F i).2) ∧ S64 (F i) :=
        ⟨fun i => if h : i < len then Classical.choose (hone i h) else (0, 0), fun i hi => by simp only [dif_pos hi]; exact Classical.choose_spec (hone i hi)⟩
      refine ⟨(List.range len).map F, .inr ⟨a.block, a.off, cap, ?_, hlt, by simp; omega, fun i s hi => ?_⟩, fun s hs => ?_⟩
      · rw [← he]; simp
      · have hil : i < len := by
          have := (List.getElem?_eq_some_iff.1 hi).1
          simpa using this
        obtain ⟨g0, g1, _, _⟩ := hcell i (by omega)
        rw [he, add_plain] at g0 g1
        obtain ⟨⟨e0, e1⟩, _⟩ := hF i hil
        rw [e0] at g0; rw [e1] at g1
        have es : s = F i := by
          rw [List.getElem?_map, List.getElem?_range hil] at hi
          simpa using hi.symm
        rw [es]
        exact ⟨g0, by rw [Nat.add_assoc]; exact g1⟩
      · obtain ⟨i, hi, rfl⟩ := List.mem_map.1 hs
        exact (hF i (List.mem_range.1 hi)).2
set_option maxRecDepth 100000 in
theorem open_nums {H : Type} {enc : TypeId × Value → H} {W : World} {base : Nat} {v : Value} {d : DataW H} {p : List MemPlace} (hval : Value.okWide Tryd.prog W .any base 46 v)
    (h : DataW.Trod enc Tryd.prog W 0 (fun _ => true) true 46 v d p) : ∃ xs, RI W v xs ∧ (∀ x ∈ xs, N64 x) ∧ xs.length ≤ maxLen := by
  obtain ⟨a1, len, cap, rfl⟩ := okWide_slice Tryd.underlying46 hval
  obtain ⟨fuel, hf⟩ := h
  rcases open_ints Tryd.underlying46 Tryd.underlying2 (by kernel_rfl) hf with ⟨hcs, hx⟩ | ⟨a, len', cap', zs, hcs, _, hl, hm, hz, hx, hcell, hwz⟩
  · simp [Value.cells] at hcs
    obtain ⟨rfl, rfl, rfl⟩ := hcs
    exact ⟨[], RI.nil W, (fun x hx => by cases hx), Nat.zero_le _⟩
  · simp [Value.cells] at hcs
    obtain ⟨rfl, rfl, rfl⟩ := hcs
    simp only [if_true] at hz
    have hby : ∀ x ∈ zs, N64 x := fun x hx => i64_wf (hwz x hx)
    refine ⟨zs.take len, ?_, fun x hx => hby x (List.mem_of_mem_take hx), by rw [List.length_take]; omega⟩
    have hlen : (zs.take len).length = len := by rw [List.length_take]; omega
    by_cases h0 : len = 0
    · subst h0
      exact .inl ⟨_, _, rfl, by simp, fun h => by cases h⟩
    · obtain ⟨ab, ao, spot⟩ := a
      have hc0 := hcell 0 (by omega)
      have hspot : spot = none := by simpa [Addr.add] using World.cell?_spot hc0
      subst hspot
      refine .inr ⟨ab, ao, cap, by rw [hlen], ?_, by omega, by omega, hm, fun i hi => ?_⟩
      · rw [add_plain] at hc0
        rcases Nat.lt_or_ge ab W.heap.size with hlt | hge
        · exact hlt
        · simp [World.cell?, Array.getElem?_eq_none hge] at hc0
      · rw [hlen] at hi
        have := hcell i (by omega)
        rw [add_plain] at this
        rw [this, List.getD_eq_getElem?_getD, List.getD_eq_getElem?_getD, List.getElem?_take, if_pos hi]
end Go.Proofs.YtnmgcfpemmejlaaDoor
