/- What the rows' lists of variables give the walks. -/
import Derived.Test.YtdcjnklagklckaaDoorCards
import Derived.Test.YtdcjnklagklckaaDoorTie
import Derived.WalkKit
import Derived.ProofKit
import Derived.OpenShut
import Derived.Deep.DeepHandedRow
import Derived.Deep.DeepWitnessRowRef
import Derived.Lib.LaidTab
import Derived.Stop.LaidErr
import Derived.Lay
import Derived.Carry
import Derived.ChangeMaps5
import Derived.Test.YtdcjnklagklckaaDoorWordsY
namespace Go.Proofs.YtdcjnklagklckaaDoor
open Go.ChangeShapes Go.WideShapes Go.ChangeAt Go.RowKit

theorem own : ownKnob Tryd.prog.godebug = none := by kernel_rfl
theorem gEsc : Tryd.prog.globalNamed "groundling/words.escapes" = some 0 := by kernel_rfl
theorem gEscT : (Tryd.prog.globals[0]?).map (·.type) = some 80 := by kernel_rfl
theorem gPow : Tryd.prog.globalNamed "internal/strconv.uint64pow10" = some 3 := by kernel_rfl
theorem gPowT : (Tryd.prog.globals[3]?).map (·.type) = some 124 := by kernel_rfl
theorem gErr : Tryd.prog.globalNamed "strconv.ErrRange" = some 2 := by kernel_rfl
theorem gErrT : (Tryd.prog.globals[2]?).map (·.type) = some 52 := by kernel_rfl

theorem cells_pair {H : Type} {enc : TypeId × Value → H} {w : World} {base : Nat} {sp : Nat → Bool} {held : Bool} {fuel : Nat} {cs : List Value} {a b : Int} {p : List MemPlace}
    (h : DataW.trod enc Tryd.prog w base sp held fuel 79 cs = some (.agg [.lit (.int .u8 a), .lit (.int .u8 b)], p)) : cs = [.int .u8 a, .int .u8 b] := by
  obtain ⟨y0, y1, n, hx, hl, h0, h1⟩ := trod_struct2 Tryd.underlying79 h
  have hc : Tryd.prog.cellsOf 79 = 2 := by kernel_rfl
  have hc1 : Tryd.prog.cellsOf 5 = 1 := by kernel_rfl
  dsimp only at h0 h1
  rw [hc1] at h0 h1
  rw [hc] at hl
  obtain ⟨z0, e0, rfl, _⟩ := DataW.trod_int Tryd.underlying5 h0
  obtain ⟨z1, e1, rfl, _⟩ := DataW.trod_int Tryd.underlying5 h1
  simp at hx
  obtain ⟨⟨rfl, rfl⟩, _⟩ := hx
  match cs, hl with
  | [x, y], _ =>
    simp at e0 e1
    rw [e0, e1]

set_option maxRecDepth 100000 in
theorem esc_of_laid {rest : List (String × DataW Unit)} {W : World} (h : laidMet Tryd.prog (("groundling/words.escapes", Rows.laid_groundling_words_escapes) :: rest) W) : EscAt W := by
  obtain ⟨ps, ⟨g', t', cs, fuel, p, q, hg', ht', hvar, hd, _, _⟩, _⟩ := h
  obtain rfl := Option.some.inj (gEsc.symm.trans hg')
  obtain rfl := Option.some.inj (gEscT.symm.trans ht')
  obtain ⟨xs, m, rfl, hx, hl, hn, hel⟩ := DataW.trod_array Tryd.underlying80 hd
  have hc : Tryd.prog.cellsOf 79 = 2 := by kernel_rfl
  have hc5 : Tryd.prog.cellsOf 80 = 10 := by kernel_rfl
  rw [hc] at hel
  rw [hc5] at hl
  match xs, hn with
  | [x0, x1, x2, x3, x4], _ =>
    simp only [Rows.laid_groundling_words_escapes, List.map_cons, List.map_nil, Prod.mk.injEq, DataW.agg.injEq, List.cons.injEq] at hx
    obtain ⟨⟨q0, q1, q2, q3, q4, _⟩, _⟩ := hx
    have k0 := hel 0 (by omega); have k1 := hel 1 (by omega); have k2 := hel 2 (by omega); have k3 := hel 3 (by omega); have k4 := hel 4 (by omega)
    obtain ⟨d0, p0⟩ := x0; obtain ⟨d1, p1⟩ := x1; obtain ⟨d2, p2⟩ := x2; obtain ⟨d3, p3⟩ := x3; obtain ⟨d4, p4⟩ := x4
    dsimp only at q0 q1 q2 q3 q4
    subst q0; subst q1; subst q2; subst q3; subst q4
    have c0 := cells_pair k0; have c1 := cells_pair k1; have c2 := cells_pair k2; have c3 := cells_pair k3; have c4 := cells_pair k4
    have hcs : cs = escCells := by
      obtain ⟨l⟩ := cs
      match l, hl with
      | [a0, a1, a2, a3, a4, a5, a6, a7, a8, a9], _ =>
        simp at c0 c1 c2 c3 c4
        unfold escCells
        simp [c0, c1, c2, c3, c4]
    subst hcs
    unfold World.var? at hvar
    rw [gEsc] at hvar
    simp only [Option.bind_some] at hvar
    cases ho : W.heap[0]? with
    | none => rw [ho] at hvar; cases hvar
    | some o =>
      rw [ho] at hvar
      cases o with
      | cells c t fr => simp at hvar; subst hvar; exact ⟨t, fr, ho⟩
      | _ => simp at hvar

theorem pow_of_laid {rest : List (String × DataW Unit)} {W : World} (h : laidMet Tryd.prog (("internal/strconv.uint64pow10", Rows.laid_internal_strconv_uint64pow10) :: rest) W) :
    Lib.TabIs Tryd.prog W "internal/strconv.uint64pow10" .u64 Lib.pow10Tab :=
  Lib.tabIs_of_head (rest := rest) gPow gPowT Tryd.underlying124 Tryd.underlying99 (by kernel_rfl) (by kernel_rfl) (show laidMet Tryd.prog (("internal/strconv.uint64pow10", Lib.tabData .u64 Lib.pow10Tab) :: rest) W from h)

theorem row_err (u : TypeId) (h : Tryd.prog.typeName? 3 u = some "*errors.errorString") : u = 133 :=
  typeName_ptr_named (nm := "errors.errorString") (by rw [show "*" ++ "errors.errorString" = "*errors.errorString" by decide]; kernel_rfl) (by kernel_rfl) (by decide) u (by rw [show "*" ++ "errors.errorString" = "*errors.errorString" by decide]; exact h)
theorem err_of_laid {rest : List (String × DataW Unit)} {W : World} (h : laidMet Tryd.prog (("strconv.ErrRange", Rows.laid_strconv_ErrRange) :: rest) W) :
    ∃ tp p, W.var? Tryd.prog "strconv.ErrRange" = some #[.iface tp p] := by
  obtain ⟨a, s, hv, _⟩ := laid_sentinel h gErr gErrT Tryd.underlying52 row_err Tryd.underlying133 Tryd.underlying135 rfl rfl Tryd.underlying9 (by kernel_rfl) (by kernel_rfl)
  exact ⟨_, _, hv⟩

theorem g1_of_laid {W : World} (h : laidMetH Tryd.prog Rows.wordsNamesRow.laid W) : G1 W :=
  have h0 : laidMet Tryd.prog Rows.wordsNamesRow.laid W := h
  ⟨esc_of_laid h0.tail.tail.tail.tail.tail, pow_of_laid h0.tail.tail, err_of_laid h0.tail.tail.tail⟩

theorem i64_wf {n : Int} (h : (Lit.int .i64 n).wf = true) : -9223372036854775808 ≤ n ∧ n ≤ 9223372036854775807 := by
  simp only [Lit.wf, Bool.and_eq_true, decide_eq_true_eq] at h
  exact h
theorem laidOut : laidOutB Tryd.prog = true := by kernel_rfl
def goodT (P : Program) (t : TypeId) : Bool := P.readableRec t && decide (t < P.types.size)
theorem trodAll_below {P : Program} (hl : laidOutB P = true) {H : Type} {enc : TypeId × Value → H} {W W' : World} (hb : Below W.heap.size W W') : ∀ {ts : List TypeId} {vs : List Value} {ds : List (DataW H)} {ps : List MemPlace},
    ts.all (goodT P) = true → DataW.TrodAll enc P W 0 (fun _ => true) true ts vs ds ps → (∀ x ∈ ps, x.block < W.heap.size) →
    DataW.TrodAll enc P W' 0 (fun b => decide (b < W.heap.size)) true ts vs ds ps
  | [], _, _, _, _, h, _ => by obtain ⟨rfl, rfl, rfl⟩ := trodAll_nil h; exact trodAll_mk0
  | t :: ts, _, _, _, hg, h, hlt => by
    obtain ⟨v, vs, d, ds, p, q, rfl, rfl, rfl, h0, h1⟩ := trodAll_cons h
    rw [List.all_cons, Bool.and_eq_true] at hg
    obtain ⟨g1, g2⟩ := hg
    unfold goodT at g1
    rw [Bool.and_eq_true, decide_eq_true_eq] at g1
    exact trodAll_cons_mk (Below.trod hl g1.1 g1.2 h0 hb (fun x hx => hlt x (List.mem_append_left _ hx))) (trodAll_below hl hb g2 h1 (fun x hx => hlt x (List.mem_append_right _ hx)))

/-- A law's end: true, and every argument reads as it read. -/
theorem post_law {H : Type} {enc : TypeId × Value → H} {fn : Func} {s : ChangeSpec} {W W' : World} {args : Array Value} {ds gs : List (DataW H)} {before : List MemPlace}
    (hW : DataW.Whole enc Tryd.prog fn.params.toList s.vars false W args.toList ds gs before) (hg : fn.params.toList.all (goodT Tryd.prog) = true) (hrt : fn.resultTypes = #[4]) (hsv : s.vars = [])
    (hfn : s.fn H (ds ++ gs) = { results := [.lit (.bool true)], args := ds }) (hb : Below W.heap.size W W') :
    s.post enc Tryd.prog fn false true false false W args (.bool true) W' := by
  have hlt := hW.lt
  have hW' := hW
  obtain ⟨p, q, hA, hV, rfl, hfz, hnd⟩ := hW
  have hV' := hV
  rw [hsv] at hV'
  obtain ⟨rfl, rfl⟩ := trodVars_none hV'
  refine ⟨ds, [], p ++ [], [], p, [], hW', ?_, ?_, ?_, hb.frame _, fun h => by cases h⟩
  · rw [hrt, hfn]; exact trodAll_mk1 (shut_bool Tryd.underlying4 _)
  · rw [hfn]; exact trodAll_below laidOut hb hg hA (fun x hx => hlt x (List.mem_append_left _ hx))
  · rw [hsv, hfn]; rfl
end Go.Proofs.YtdcjnklagklckaaDoor
