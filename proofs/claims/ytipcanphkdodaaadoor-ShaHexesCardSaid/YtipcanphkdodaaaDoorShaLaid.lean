/- What the rows' list of variables gives the walks. -/
import Derived.Test.YtipcanphkdodaaaDoorCards
import Derived.Test.YtipcanphkdodaaaDoorTie
import Derived.WalkKit
import Derived.ProofKit
import Derived.OpenShut
import Derived.Deep.DeepHandedRow
import Derived.Deep.DeepWitnessRowRef
import Derived.Lib.LaidTab
import Derived.Stop.LaidErr
import Derived.Lay
import Derived.Carry
import Derived.ChangeMaps5
import Derived.Test.YtipcanphkdodaaaDoorShaO
namespace Go.Proofs.YtipcanphkdodaaaDoor
open Go.ChangeShapes Go.WideShapes Go.ChangeAt Go.RowKit
set_option linter.unusedVariables false

theorem own : ownKnob Tryd.prog.godebug = none := by kernel_rfl
theorem gK : Tryd.prog.globalNamed "groundling/sha.constants" = some 0 := by kernel_rfl
theorem gKT : (Tryd.prog.globals[0]?).map (·.type) = some 26 := by kernel_rfl
theorem gH : Tryd.prog.globalNamed "groundling/sha.start" = some 1 := by kernel_rfl
theorem gHT : (Tryd.prog.globals[1]?).map (·.type) = some 23 := by kernel_rfl
theorem row_of_var {W : World} {nm : String} {g : Nat} {cs : Array Value} (hg : Tryd.prog.globalNamed nm = some g) (h : W.var? Tryd.prog nm = some cs) : ∃ t fr, W.heap[g]? = some (.cells cs t fr) := by
  unfold World.var? at h
  rw [hg] at h
  simp only [Option.bind_some] at h
  cases ho : W.heap[g]? with
  | none => rw [ho] at h; cases h
  | some o =>
    rw [ho] at h
    cases o with
    | cells c t fr => simp at h; subst h; exact ⟨t, fr, rfl⟩
    | _ => simp at h
set_option maxRecDepth 20000 in
theorem vk_of_laid {W : World} (h : laidMetH Tryd.prog Rows.shaKnownRow.laid W) : VK W := by
  have h0 : laidMet Tryd.prog (("groundling/sha.constants", Rows.laid_groundling_sha_constants) :: [("groundling/sha.start", Rows.laid_groundling_sha_start)]) W := h
  have hk : Lib.TabIs Tryd.prog W "groundling/sha.constants" .u32 (kL.map fun (x : Nat) => (x : Int)) :=
    Lib.tabIs_of_head (rest := [("groundling/sha.start", Rows.laid_groundling_sha_start)]) gK gKT Tryd.underlying26 Tryd.underlying22 (by kernel_rfl) (by kernel_rfl) (show laidMet Tryd.prog (("groundling/sha.constants", Lib.tabData .u32 (kL.map fun (x : Nat) => (x : Int))) :: _) W from h0)
  have hh : Lib.TabIs Tryd.prog W "groundling/sha.start" .u32 (hL.map fun (x : Nat) => (x : Int)) :=
    Lib.tabIs_of_head (rest := []) gH gHT Tryd.underlying23 Tryd.underlying22 (by kernel_rfl) (by kernel_rfl) (show laidMet Tryd.prog (("groundling/sha.start", Lib.tabData .u32 (hL.map fun (x : Nat) => (x : Int))) :: []) W from h0.tail)
  obtain ⟨t, fr, h1⟩ := row_of_var gK hk
  obtain ⟨t2, fr2, h2⟩ := row_of_var gH hh
  exact ⟨⟨t, fr, h1⟩, t2, fr2, h2⟩

theorem i64_wf {n : Int} (h : (Lit.int .i64 n).wf = true) : -9223372036854775808 ≤ n ∧ n ≤ 9223372036854775807 := by
  simp only [Lit.wf, Bool.and_eq_true, decide_eq_true_eq] at h
  exact h
theorem laidOut : laidOutB Tryd.prog = true := by kernel_rfl
def goodT (P : Program) (t : TypeId) : Bool := P.readableRec t && decide (t < P.types.size)
theorem trodAll_below {P : Program} (hl : laidOutB P = true) {H : Type} {enc : TypeId × Value → H} {W W' : World} (hb : Below W.heap.size W W') : ∀ {ts : List TypeId} {vs : List Value} {ds : List (DataW H)} {ps : List MemPlace},
    ts.all (goodT P) = true → DataW.TrodAll enc P W 0 (fun _ => true) true ts vs ds ps → (∀ x ∈ ps, x.block < W.heap.size) →
    DataW.TrodAll enc P W' 0 (fun b => decide (b < W.heap.size)) true ts vs ds ps
  | [], _, _, _, _, h, _ => by obtain ⟨rfl, rfl, rfl⟩ := trodAll_nil h; exact trodAll_mk0
  | t :: ts, _, _, _, hg, h, hlt => by
    obtain ⟨v, vs, d, ds, p, q, rfl, rfl, rfl, h0, h1⟩ := trodAll_cons h
    rw [List.all_cons, Bool.and_eq_true] at hg
    obtain ⟨g1, g2⟩ := hg
    unfold goodT at g1
    rw [Bool.and_eq_true, decide_eq_true_eq] at g1
    exact trodAll_cons_mk (Below.trod hl g1.1 g1.2 h0 hb (fun x hx => hlt x (List.mem_append_left _ hx))) (trodAll_below hl hb g2 h1 (fun x hx => hlt x (List.mem_append_right _ hx)))

/-- A law's end: true, and every argument reads as it read. -/
theorem post_law {H : Type} {enc : TypeId × Value → H} {fn : Func} {s : ChangeSpec} {W W' : World} {args : Array Value} {ds gs : List (DataW H)} {before : List MemPlace}
    (hW : DataW.Whole enc Tryd.prog fn.params.toList s.vars false W args.toList ds gs before) (hg : fn.params.toList.all (goodT Tryd.prog) = true) (hrt : fn.resultTypes = #[4]) (hsv : s.vars = [])
    (hfn : s.fn H (ds ++ gs) = { results := [.lit (.bool true)], args := ds }) (hb : Below W.heap.size W W') :
    s.post enc Tryd.prog fn false true false false W args (.bool true) W' := by
  have hlt := hW.lt
  have hW' := hW
  obtain ⟨p, q, hA, hV, rfl, hfz, hnd⟩ := hW
  have hV' := hV
  rw [hsv] at hV'
  obtain ⟨rfl, rfl⟩ := trodVars_none hV'
  refine ⟨ds, [], p ++ [], [], p, [], hW', ?_, ?_, ?_, hb.frame _, fun h => by cases h⟩
  · rw [hrt, hfn]; exact trodAll_mk1 (shut_bool Tryd.underlying4 _)
  · rw [hfn]; exact trodAll_below laidOut hb hg hA (fun x hx => hlt x (List.mem_append_left _ hx))
  · rw [hsv, hfn]; rfl
end Go.Proofs.YtipcanphkdodaaaDoor
