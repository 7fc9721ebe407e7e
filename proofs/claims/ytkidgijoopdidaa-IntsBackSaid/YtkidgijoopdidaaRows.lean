/-
  No cell of these rows narrows 'for every input' (looked for: loops, veiled, ifaces, maps, wideKeys, modest, calm, conditions, laid).
  DERIVED. THE GIVEN ROWS OF THIS SEAT. 9 by the template 'for every input the law returns true; each argument reads behind the call as it read before'; 0 by the template 'total and deterministic' (their statements: YtkidgijoopdidaaTotals.lean).
  GIVEN WITH THE SEED: the statements are not yours to turn. If you find one false, say at which input.
  Laid BY PROGRAM, IN A SANDBOX (cutbox-rows.mjs): the forced cells as the released guide's own fill.sh prints them over the translation 5c9cc8b5088960b0… (all of the seat's roots in one cut). By AI agents, Wed Nov 11 2026. No macro, syntax, notation, axiom, sorry.
-/
import Derived.Test.YtkidgijoopdidaaChecked
import GoSem.Claim
import GoSem.ClaimJoined
import GoSem.ClaimMapViews
import Derived.JoinedTies
import Derived.KernelRfl
namespace Go.Proofs.Ytkidgijoopdidaa
/- THE CELL 'sum', in the pinned program and in every row, IS THE sha256 OF THE DUMP (.gsa) THAT YtkidgijoopdidaaProg.lean LOADS. Nothing in Lean hashes anything: it is a label: what it is worth is what the hold of that sum in a sandbox is worth. -/
noncomputable def Try.pinned : Pinned := { name := "ytkidgijoopdidaa", sum := "5c9cc8b5088960b03b5cc293e6e4554b716dace3765f6b466da7dd2a5e65b899", checked := Try.checked }
namespace Rows
def none {H : Type} : Left H := { results := [], args := [] }

/-- 'groundlinglaw02.IntsPuts': WHATEVER THE INPUT: true; the input reads as it did. -/
def intsPutsSpec : ChangeSpec := { name := "intsPuts", fn := fun _ => fun
  | [d1, d2, d3] => { results := [.lit (.bool true)], args := [d1, d2, d3] }
  | _ => none }
def intsPutsRow : OpenClaim := { program := "ytkidgijoopdidaa", sum := "5c9cc8b5088960b03b5cc293e6e4554b716dace3765f6b466da7dd2a5e65b899", func := "groundling/groundlinglaw02.IntsPuts", spec := "intsPuts", apart := false }
def IntsPutsSaid : Prop := intsPutsRow.holds Try.pinned (OpenSpec.ofChange intsPutsSpec)

/-- ITS FALSE NEIGHBOUR: 'it returns false'. Refute it at one input. -/
def intsPutsWrong : ChangeSpec := { name := "intsPuts", fn := fun _ => fun
  | [d1, d2, d3] => { results := [.lit (.bool false)], args := [d1, d2, d3] }
  | _ => none }
def IntsPutsWrongFalsely : Prop := intsPutsRow.holds Try.pinned (OpenSpec.ofChange intsPutsWrong)

/-- 'groundlinglaw02.IntsVars': WHATEVER THE INPUT: true; the input reads as it did. -/
def intsVarsSpec : ChangeSpec := { name := "intsVars", fn := fun _ => fun
  | [d1, d2, d3] => { results := [.lit (.bool true)], args := [d1, d2, d3] }
  | _ => none }
def intsVarsRow : OpenClaim := { program := "ytkidgijoopdidaa", sum := "5c9cc8b5088960b03b5cc293e6e4554b716dace3765f6b466da7dd2a5e65b899", func := "groundling/groundlinglaw02.IntsVars", spec := "intsVars", apart := false }
def IntsVarsSaid : Prop := intsVarsRow.holds Try.pinned (OpenSpec.ofChange intsVarsSpec)

/-- ITS FALSE NEIGHBOUR: 'it returns false'. Refute it at one input. -/
def intsVarsWrong : ChangeSpec := { name := "intsVars", fn := fun _ => fun
  | [d1, d2, d3] => { results := [.lit (.bool false)], args := [d1, d2, d3] }
  | _ => none }
def IntsVarsWrongFalsely : Prop := intsVarsRow.holds Try.pinned (OpenSpec.ofChange intsVarsWrong)

/-- 'groundlinglaw02.IntsFits': WHATEVER THE INPUT: true; the input reads as it did. -/
def intsFitsSpec : ChangeSpec := { name := "intsFits", fn := fun _ => fun
  | [d] => { results := [.lit (.bool true)], args := [d] }
  | _ => none }
def intsFitsRow : OpenClaim := { program := "ytkidgijoopdidaa", sum := "5c9cc8b5088960b03b5cc293e6e4554b716dace3765f6b466da7dd2a5e65b899", func := "groundling/groundlinglaw02.IntsFits", spec := "intsFits", apart := false }
def IntsFitsSaid : Prop := intsFitsRow.holds Try.pinned (OpenSpec.ofChange intsFitsSpec)

/-- ITS FALSE NEIGHBOUR: 'it returns false'. Refute it at one input. -/
def intsFitsWrong : ChangeSpec := { name := "intsFits", fn := fun _ => fun
  | [d] => { results := [.lit (.bool false)], args := [d] }
  | _ => none }
def IntsFitsWrongFalsely : Prop := intsFitsRow.holds Try.pinned (OpenSpec.ofChange intsFitsWrong)

/-- 'groundlinglaw02.IntsBits': WHATEVER THE INPUT: true; the input reads as it did. -/
def intsBitsSpec : ChangeSpec := { name := "intsBits", fn := fun _ => fun
  | [d] => { results := [.lit (.bool true)], args := [d] }
  | _ => none }
def intsBitsRow : OpenClaim := { program := "ytkidgijoopdidaa", sum := "5c9cc8b5088960b03b5cc293e6e4554b716dace3765f6b466da7dd2a5e65b899", func := "groundling/groundlinglaw02.IntsBits", spec := "intsBits", apart := false }
def IntsBitsSaid : Prop := intsBitsRow.holds Try.pinned (OpenSpec.ofChange intsBitsSpec)

/-- ITS FALSE NEIGHBOUR: 'it returns false'. Refute it at one input. -/
def intsBitsWrong : ChangeSpec := { name := "intsBits", fn := fun _ => fun
  | [d] => { results := [.lit (.bool false)], args := [d] }
  | _ => none }
def IntsBitsWrongFalsely : Prop := intsBitsRow.holds Try.pinned (OpenSpec.ofChange intsBitsWrong)

/-- 'groundlinglaw02.IntsSums': WHATEVER THE INPUT: true; the input reads as it did. -/
def intsSumsSpec : ChangeSpec := { name := "intsSums", fn := fun _ => fun
  | [d1, d2, d3] => { results := [.lit (.bool true)], args := [d1, d2, d3] }
  | _ => none }
def intsSumsRow : OpenClaim := { program := "ytkidgijoopdidaa", sum := "5c9cc8b5088960b03b5cc293e6e4554b716dace3765f6b466da7dd2a5e65b899", func := "groundling/groundlinglaw02.IntsSums", spec := "intsSums", apart := false }
def IntsSumsSaid : Prop := intsSumsRow.holds Try.pinned (OpenSpec.ofChange intsSumsSpec)

/-- ITS FALSE NEIGHBOUR: 'it returns false'. Refute it at one input. -/
def intsSumsWrong : ChangeSpec := { name := "intsSums", fn := fun _ => fun
  | [d1, d2, d3] => { results := [.lit (.bool false)], args := [d1, d2, d3] }
  | _ => none }
def IntsSumsWrongFalsely : Prop := intsSumsRow.holds Try.pinned (OpenSpec.ofChange intsSumsWrong)

/-- 'groundlinglaw02.IntsBack': WHATEVER THE INPUT: true; the input reads as it did. -/
def intsBackSpec : ChangeSpec := { name := "intsBack", fn := fun _ => fun
  | [d1, d2] => { results := [.lit (.bool true)], args := [d1, d2] }
  | _ => none }
def intsBackRow : OpenClaim := { program := "ytkidgijoopdidaa", sum := "5c9cc8b5088960b03b5cc293e6e4554b716dace3765f6b466da7dd2a5e65b899", func := "groundling/groundlinglaw02.IntsBack", spec := "intsBack", apart := false }
def IntsBackSaid : Prop := intsBackRow.holds Try.pinned (OpenSpec.ofChange intsBackSpec)

/-- ITS FALSE NEIGHBOUR: 'it returns false'. Refute it at one input. -/
def intsBackWrong : ChangeSpec := { name := "intsBack", fn := fun _ => fun
  | [d1, d2] => { results := [.lit (.bool false)], args := [d1, d2] }
  | _ => none }
def IntsBackWrongFalsely : Prop := intsBackRow.holds Try.pinned (OpenSpec.ofChange intsBackWrong)

/-- 'groundlinglaw02.IntsOrder': WHATEVER THE INPUT: true; the input reads as it did. -/
def intsOrderSpec : ChangeSpec := { name := "intsOrder", fn := fun _ => fun
  | [d1, d2, d3] => { results := [.lit (.bool true)], args := [d1, d2, d3] }
  | _ => none }
def intsOrderRow : OpenClaim := { program := "ytkidgijoopdidaa", sum := "5c9cc8b5088960b03b5cc293e6e4554b716dace3765f6b466da7dd2a5e65b899", func := "groundling/groundlinglaw02.IntsOrder", spec := "intsOrder", apart := false }
def IntsOrderSaid : Prop := intsOrderRow.holds Try.pinned (OpenSpec.ofChange intsOrderSpec)

/-- ITS FALSE NEIGHBOUR: 'it returns false'. Refute it at one input. -/
def intsOrderWrong : ChangeSpec := { name := "intsOrder", fn := fun _ => fun
  | [d1, d2, d3] => { results := [.lit (.bool false)], args := [d1, d2, d3] }
  | _ => none }
def IntsOrderWrongFalsely : Prop := intsOrderRow.holds Try.pinned (OpenSpec.ofChange intsOrderWrong)

/-- 'groundlinglaw02.IntsTurns': WHATEVER THE INPUT: true; the input reads as it did. -/
def intsTurnsSpec : ChangeSpec := { name := "intsTurns", fn := fun _ => fun
  | [d1, d2, d3] => { results := [.lit (.bool true)], args := [d1, d2, d3] }
  | _ => none }
def intsTurnsRow : OpenClaim := { program := "ytkidgijoopdidaa", sum := "5c9cc8b5088960b03b5cc293e6e4554b716dace3765f6b466da7dd2a5e65b899", func := "groundling/groundlinglaw02.IntsTurns", spec := "intsTurns", apart := false }
def IntsTurnsSaid : Prop := intsTurnsRow.holds Try.pinned (OpenSpec.ofChange intsTurnsSpec)

/-- ITS FALSE NEIGHBOUR: 'it returns false'. Refute it at one input. -/
def intsTurnsWrong : ChangeSpec := { name := "intsTurns", fn := fun _ => fun
  | [d1, d2, d3] => { results := [.lit (.bool false)], args := [d1, d2, d3] }
  | _ => none }
def IntsTurnsWrongFalsely : Prop := intsTurnsRow.holds Try.pinned (OpenSpec.ofChange intsTurnsWrong)

/-- 'groundlinglaw02.IntsKnown': WHATEVER THE INPUT: true; the input reads as it did. -/
def intsKnownSpec : ChangeSpec := { name := "intsKnown", fn := fun _ => fun
  | [] => { results := [.lit (.bool true)], args := [] }
  | _ => none }
def intsKnownRow : OpenClaim := { program := "ytkidgijoopdidaa", sum := "5c9cc8b5088960b03b5cc293e6e4554b716dace3765f6b466da7dd2a5e65b899", func := "groundling/groundlinglaw02.IntsKnown", spec := "intsKnown", apart := false }
def IntsKnownSaid : Prop := intsKnownRow.holds Try.pinned (OpenSpec.ofChange intsKnownSpec)

/-- ITS FALSE NEIGHBOUR: 'it returns false'. Refute it at one input. -/
def intsKnownWrong : ChangeSpec := { name := "intsKnown", fn := fun _ => fun
  | [] => { results := [.lit (.bool false)], args := [] }
  | _ => none }
def IntsKnownWrongFalsely : Prop := intsKnownRow.holds Try.pinned (OpenSpec.ofChange intsKnownWrong)

/- THE SECOND FORM. 'bulk': how many values and letters a reading holds, each counted each time it is reached (what is shared counts as often as it is met; a slice's spare places count too). A statement '..UptoSaid' is the law's where the arguments, and the package variables that the reading takes, are together of bulk at most 1048576: NARROWER than '..Said'. Prove '..Said' where nothing that the law and all that it calls make is longer than what came in: it says more and counts as full. Else prove '..UptoSaid'. A law counts once. -/
mutual
def uptoBulk {H : Type} : DataW H → Nat
  | .lit (.string bytes) => bytes.length + 1
  | .lit _ => 1
  | .nil => 1
  | .ptr d => uptoBulk d + 1
  | .slice elems spare => uptoBulkAll elems + uptoBulkAll spare + 1
  | .agg parts => uptoBulkAll parts + 1
  | .iface _ d => uptoBulk d + 1
  | .map entries => uptoBulkEntries entries + 1
  | .held _ => 1
def uptoBulkAll {H : Type} : List (DataW H) → Nat
  | [] => 0
  | d :: r => uptoBulk d + uptoBulkAll r
def uptoBulkEntries {H : Type} : List (Lit × DataW H) → Nat
  | [] => 0
  | x :: r => uptoBulkEntry x + uptoBulkEntries r
def uptoBulkEntry {H : Type} : Lit × DataW H → Nat
  | (.string bytes, d) => bytes.length + uptoBulk d + 1
  | (_, d) => uptoBulk d + 1
 end
def uptoSmall : (H : Type) → List (DataW H) → Bool := fun _ ds => decide (uptoBulkAll ds ≤ 1048576)
def OpenSpec.upto (s : _root_.Go.ChangeSpec) : _root_.Go.OpenSpec := { _root_.Go.OpenSpec.ofChange s with cond := some uptoSmall }

/-- 'groundlinglaw02.IntsPuts', WHERE WHAT IT READS IS OF BULK AT MOST 1048576: true; the input reads as it did. -/
def intsPutsUptoRow : OpenClaim := { program := "ytkidgijoopdidaa", sum := "5c9cc8b5088960b03b5cc293e6e4554b716dace3765f6b466da7dd2a5e65b899", func := "groundling/groundlinglaw02.IntsPuts", spec := "intsPuts", apart := false, narrowed := true }
def IntsPutsUptoSaid : Prop := intsPutsUptoRow.holds Try.pinned (OpenSpec.upto intsPutsSpec)

/-- 'groundlinglaw02.IntsVars', WHERE WHAT IT READS IS OF BULK AT MOST 1048576: true; the input reads as it did. -/
def intsVarsUptoRow : OpenClaim := { program := "ytkidgijoopdidaa", sum := "5c9cc8b5088960b03b5cc293e6e4554b716dace3765f6b466da7dd2a5e65b899", func := "groundling/groundlinglaw02.IntsVars", spec := "intsVars", apart := false, narrowed := true }
def IntsVarsUptoSaid : Prop := intsVarsUptoRow.holds Try.pinned (OpenSpec.upto intsVarsSpec)

/-- 'groundlinglaw02.IntsFits', WHERE WHAT IT READS IS OF BULK AT MOST 1048576: true; the input reads as it did. -/
def intsFitsUptoRow : OpenClaim := { program := "ytkidgijoopdidaa", sum := "5c9cc8b5088960b03b5cc293e6e4554b716dace3765f6b466da7dd2a5e65b899", func := "groundling/groundlinglaw02.IntsFits", spec := "intsFits", apart := false, narrowed := true }
def IntsFitsUptoSaid : Prop := intsFitsUptoRow.holds Try.pinned (OpenSpec.upto intsFitsSpec)

/-- 'groundlinglaw02.IntsBits', WHERE WHAT IT READS IS OF BULK AT MOST 1048576: true; the input reads as it did. -/
def intsBitsUptoRow : OpenClaim := { program := "ytkidgijoopdidaa", sum := "5c9cc8b5088960b03b5cc293e6e4554b716dace3765f6b466da7dd2a5e65b899", func := "groundling/groundlinglaw02.IntsBits", spec := "intsBits", apart := false, narrowed := true }
def IntsBitsUptoSaid : Prop := intsBitsUptoRow.holds Try.pinned (OpenSpec.upto intsBitsSpec)

/-- 'groundlinglaw02.IntsSums', WHERE WHAT IT READS IS OF BULK AT MOST 1048576: true; the input reads as it did. -/
def intsSumsUptoRow : OpenClaim := { program := "ytkidgijoopdidaa", sum := "5c9cc8b5088960b03b5cc293e6e4554b716dace3765f6b466da7dd2a5e65b899", func := "groundling/groundlinglaw02.IntsSums", spec := "intsSums", apart := false, narrowed := true }
def IntsSumsUptoSaid : Prop := intsSumsUptoRow.holds Try.pinned (OpenSpec.upto intsSumsSpec)

/-- 'groundlinglaw02.IntsBack', WHERE WHAT IT READS IS OF BULK AT MOST 1048576: true; the input reads as it did. -/
def intsBackUptoRow : OpenClaim := { program := "ytkidgijoopdidaa", sum := "5c9cc8b5088960b03b5cc293e6e4554b716dace3765f6b466da7dd2a5e65b899", func := "groundling/groundlinglaw02.IntsBack", spec := "intsBack", apart := false, narrowed := true }
def IntsBackUptoSaid : Prop := intsBackUptoRow.holds Try.pinned (OpenSpec.upto intsBackSpec)

/-- 'groundlinglaw02.IntsOrder', WHERE WHAT IT READS IS OF BULK AT MOST 1048576: true; the input reads as it did. -/
def intsOrderUptoRow : OpenClaim := { program := "ytkidgijoopdidaa", sum := "5c9cc8b5088960b03b5cc293e6e4554b716dace3765f6b466da7dd2a5e65b899", func := "groundling/groundlinglaw02.IntsOrder", spec := "intsOrder", apart := false, narrowed := true }
def IntsOrderUptoSaid : Prop := intsOrderUptoRow.holds Try.pinned (OpenSpec.upto intsOrderSpec)

/-- 'groundlinglaw02.IntsTurns', WHERE WHAT IT READS IS OF BULK AT MOST 1048576: true; the input reads as it did. -/
def intsTurnsUptoRow : OpenClaim := { program := "ytkidgijoopdidaa", sum := "5c9cc8b5088960b03b5cc293e6e4554b716dace3765f6b466da7dd2a5e65b899", func := "groundling/groundlinglaw02.IntsTurns", spec := "intsTurns", apart := false, narrowed := true }
def IntsTurnsUptoSaid : Prop := intsTurnsUptoRow.holds Try.pinned (OpenSpec.upto intsTurnsSpec)

/-- 'groundlinglaw02.IntsKnown', WHERE WHAT IT READS IS OF BULK AT MOST 1048576: true; the input reads as it did. -/
def intsKnownUptoRow : OpenClaim := { program := "ytkidgijoopdidaa", sum := "5c9cc8b5088960b03b5cc293e6e4554b716dace3765f6b466da7dd2a5e65b899", func := "groundling/groundlinglaw02.IntsKnown", spec := "intsKnown", apart := false, narrowed := true }
def IntsKnownUptoSaid : Prop := intsKnownUptoRow.holds Try.pinned (OpenSpec.upto intsKnownSpec)

end Rows
end Go.Proofs.Ytkidgijoopdidaa
