/-
  No cell of these rows narrows 'for every input' (looked for: loops, veiled, ifaces, maps, wideKeys, modest, calm, conditions, laid).
  DERIVED. THE GIVEN ROWS OF THIS SEAT. 5 by the template 'for every input the law returns true; each argument reads behind the call as it read before'; 0 by the template 'total and deterministic' (their statements: YtlmemkcfikdhgaaTotals.lean).
  GIVEN WITH THE SEED: the statements are not yours to turn. If you find one false, say at which input.
  Laid BY PROGRAM, IN A SANDBOX (cutbox-rows.mjs): the forced cells as the released guide's own fill.sh prints them over the translation 0166c0d64fe9fa49… (all of the seat's roots in one cut). By AI agents, Wed Nov 11 2026. No macro, syntax, notation, axiom, sorry.
-/
import Derived.Test.YtlmemkcfikdhgaaChecked
import GoSem.Claim
import GoSem.ClaimJoined
import GoSem.ClaimMapViews
import Derived.JoinedTies
import Derived.KernelRfl
namespace Go.Proofs.Ytlmemkcfikdhgaa
/- THE CELL 'sum', in the pinned program and in every row, IS THE sha256 OF THE DUMP (.gsa) THAT YtlmemkcfikdhgaaProg.lean LOADS. Nothing in Lean hashes anything: it is a label: what it is worth is what the hold of that sum in a sandbox is worth. -/
noncomputable def Try.pinned : Pinned := { name := "ytlmemkcfikdhgaa", sum := "0166c0d64fe9fa49a07a011df8b37911cbedffe1d592d8644678a69f9c6f0c56", checked := Try.checked }
namespace Rows
def none {H : Type} : Left H := { results := [], args := [] }

/-- 'groundlinglaw07.FramesMakes': WHATEVER THE INPUT: true; the input reads as it did. -/
def framesMakesSpec : ChangeSpec := { name := "framesMakes", fn := fun _ => fun
  | [d1, d2] => { results := [.lit (.bool true)], args := [d1, d2] }
  | _ => none }
def framesMakesRow : OpenClaim := { program := "ytlmemkcfikdhgaa", sum := "0166c0d64fe9fa49a07a011df8b37911cbedffe1d592d8644678a69f9c6f0c56", func := "groundling/groundlinglaw07.FramesMakes", spec := "framesMakes", unfollowed := true, recurses := true, apart := false }
def FramesMakesSaid : Prop := framesMakesRow.holds Try.pinned (OpenSpec.ofChange framesMakesSpec)

/-- ITS FALSE NEIGHBOUR: 'it returns false'. Refute it at one input. -/
def framesMakesWrong : ChangeSpec := { name := "framesMakes", fn := fun _ => fun
  | [d1, d2] => { results := [.lit (.bool false)], args := [d1, d2] }
  | _ => none }
def FramesMakesWrongFalsely : Prop := framesMakesRow.holds Try.pinned (OpenSpec.ofChange framesMakesWrong)

/-- 'groundlinglaw07.FramesPieces': WHATEVER THE INPUT: true; the input reads as it did. -/
def framesPiecesSpec : ChangeSpec := { name := "framesPieces", fn := fun _ => fun
  | [d1, d2] => { results := [.lit (.bool true)], args := [d1, d2] }
  | _ => none }
def framesPiecesRow : OpenClaim := { program := "ytlmemkcfikdhgaa", sum := "0166c0d64fe9fa49a07a011df8b37911cbedffe1d592d8644678a69f9c6f0c56", func := "groundling/groundlinglaw07.FramesPieces", spec := "framesPieces", unfollowed := true, recurses := true, apart := false }
def FramesPiecesSaid : Prop := framesPiecesRow.holds Try.pinned (OpenSpec.ofChange framesPiecesSpec)

/-- ITS FALSE NEIGHBOUR: 'it returns false'. Refute it at one input. -/
def framesPiecesWrong : ChangeSpec := { name := "framesPieces", fn := fun _ => fun
  | [d1, d2] => { results := [.lit (.bool false)], args := [d1, d2] }
  | _ => none }
def FramesPiecesWrongFalsely : Prop := framesPiecesRow.holds Try.pinned (OpenSpec.ofChange framesPiecesWrong)

/-- 'groundlinglaw07.FramesRound': WHATEVER THE INPUT: true; the input reads as it did. -/
def framesRoundSpec : ChangeSpec := { name := "framesRound", fn := fun _ => fun
  | [d1, d2] => { results := [.lit (.bool true)], args := [d1, d2] }
  | _ => none }
def framesRoundRow : OpenClaim := { program := "ytlmemkcfikdhgaa", sum := "0166c0d64fe9fa49a07a011df8b37911cbedffe1d592d8644678a69f9c6f0c56", func := "groundling/groundlinglaw07.FramesRound", spec := "framesRound", unfollowed := true, recurses := true, apart := false }
def FramesRoundSaid : Prop := framesRoundRow.holds Try.pinned (OpenSpec.ofChange framesRoundSpec)

/-- ITS FALSE NEIGHBOUR: 'it returns false'. Refute it at one input. -/
def framesRoundWrong : ChangeSpec := { name := "framesRound", fn := fun _ => fun
  | [d1, d2] => { results := [.lit (.bool false)], args := [d1, d2] }
  | _ => none }
def FramesRoundWrongFalsely : Prop := framesRoundRow.holds Try.pinned (OpenSpec.ofChange framesRoundWrong)

/-- 'groundlinglaw07.FramesBroken': WHATEVER THE INPUT: true; the input reads as it did. -/
def framesBrokenSpec : ChangeSpec := { name := "framesBroken", fn := fun _ => fun
  | [d1, d2, d3] => { results := [.lit (.bool true)], args := [d1, d2, d3] }
  | _ => none }
def framesBrokenRow : OpenClaim := { program := "ytlmemkcfikdhgaa", sum := "0166c0d64fe9fa49a07a011df8b37911cbedffe1d592d8644678a69f9c6f0c56", func := "groundling/groundlinglaw07.FramesBroken", spec := "framesBroken", unfollowed := true, recurses := true, apart := false }
def FramesBrokenSaid : Prop := framesBrokenRow.holds Try.pinned (OpenSpec.ofChange framesBrokenSpec)

/-- ITS FALSE NEIGHBOUR: 'it returns false'. Refute it at one input. -/
def framesBrokenWrong : ChangeSpec := { name := "framesBroken", fn := fun _ => fun
  | [d1, d2, d3] => { results := [.lit (.bool false)], args := [d1, d2, d3] }
  | _ => none }
def FramesBrokenWrongFalsely : Prop := framesBrokenRow.holds Try.pinned (OpenSpec.ofChange framesBrokenWrong)

/-- 'groundlinglaw07.FramesKnown': WHATEVER THE INPUT: true; the input reads as it did. -/
def framesKnownSpec : ChangeSpec := { name := "framesKnown", fn := fun _ => fun
  | [] => { results := [.lit (.bool true)], args := [] }
  | _ => none }
def framesKnownRow : OpenClaim := { program := "ytlmemkcfikdhgaa", sum := "0166c0d64fe9fa49a07a011df8b37911cbedffe1d592d8644678a69f9c6f0c56", func := "groundling/groundlinglaw07.FramesKnown", spec := "framesKnown", unfollowed := true, recurses := true, apart := false }
def FramesKnownSaid : Prop := framesKnownRow.holds Try.pinned (OpenSpec.ofChange framesKnownSpec)

/-- ITS FALSE NEIGHBOUR: 'it returns false'. Refute it at one input. -/
def framesKnownWrong : ChangeSpec := { name := "framesKnown", fn := fun _ => fun
  | [] => { results := [.lit (.bool false)], args := [] }
  | _ => none }
def FramesKnownWrongFalsely : Prop := framesKnownRow.holds Try.pinned (OpenSpec.ofChange framesKnownWrong)

/- THE SECOND FORM. 'bulk': how many values and letters a reading holds, each counted each time it is reached (what is shared counts as often as it is met; a slice's spare places count too). A statement '..UptoSaid' is the law's where the arguments, and the package variables that the reading takes, are together of bulk at most 1048576: NARROWER than '..Said'. Prove '..Said' where nothing that the law and all that it calls make is longer than what came in: it says more and counts as full. Else prove '..UptoSaid'. A law counts once. -/
mutual
def uptoBulk {H : Type} : DataW H → Nat
  | .lit (.string bytes) => bytes.length + 1
  | .lit _ => 1
  | .nil => 1
  | .ptr d => uptoBulk d + 1
  | .slice elems spare => uptoBulkAll elems + uptoBulkAll spare + 1
  | .agg parts => uptoBulkAll parts + 1
  | .iface _ d => uptoBulk d + 1
  | .map entries => uptoBulkEntries entries + 1
  | .held _ => 1
def uptoBulkAll {H : Type} : List (DataW H) → Nat
  | [] => 0
  | d :: r => uptoBulk d + uptoBulkAll r
def uptoBulkEntries {H : Type} : List (Lit × DataW H) → Nat
  | [] => 0
  | x :: r => uptoBulkEntry x + uptoBulkEntries r
def uptoBulkEntry {H : Type} : Lit × DataW H → Nat
  | (.string bytes, d) => bytes.length + uptoBulk d + 1
  | (_, d) => uptoBulk d + 1
 end
def uptoSmall : (H : Type) → List (DataW H) → Bool := fun _ ds => decide (uptoBulkAll ds ≤ 1048576)
def OpenSpec.upto (s : _root_.Go.ChangeSpec) : _root_.Go.OpenSpec := { _root_.Go.OpenSpec.ofChange s with cond := some uptoSmall }

/-- 'groundlinglaw07.FramesMakes', WHERE WHAT IT READS IS OF BULK AT MOST 1048576: true; the input reads as it did. -/
def framesMakesUptoRow : OpenClaim := { program := "ytlmemkcfikdhgaa", sum := "0166c0d64fe9fa49a07a011df8b37911cbedffe1d592d8644678a69f9c6f0c56", func := "groundling/groundlinglaw07.FramesMakes", spec := "framesMakes", unfollowed := true, recurses := true, apart := false, narrowed := true }
def FramesMakesUptoSaid : Prop := framesMakesUptoRow.holds Try.pinned (OpenSpec.upto framesMakesSpec)

/-- 'groundlinglaw07.FramesPieces', WHERE WHAT IT READS IS OF BULK AT MOST 1048576: true; the input reads as it did. -/
def framesPiecesUptoRow : OpenClaim := { program := "ytlmemkcfikdhgaa", sum := "0166c0d64fe9fa49a07a011df8b37911cbedffe1d592d8644678a69f9c6f0c56", func := "groundling/groundlinglaw07.FramesPieces", spec := "framesPieces", unfollowed := true, recurses := true, apart := false, narrowed := true }
def FramesPiecesUptoSaid : Prop := framesPiecesUptoRow.holds Try.pinned (OpenSpec.upto framesPiecesSpec)

/-- 'groundlinglaw07.FramesRound', WHERE WHAT IT READS IS OF BULK AT MOST 1048576: true; the input reads as it did. -/
def framesRoundUptoRow : OpenClaim := { program := "ytlmemkcfikdhgaa", sum := "0166c0d64fe9fa49a07a011df8b37911cbedffe1d592d8644678a69f9c6f0c56", func := "groundling/groundlinglaw07.FramesRound", spec := "framesRound", unfollowed := true, recurses := true, apart := false, narrowed := true }
def FramesRoundUptoSaid : Prop := framesRoundUptoRow.holds Try.pinned (OpenSpec.upto framesRoundSpec)

/-- 'groundlinglaw07.FramesBroken', WHERE WHAT IT READS IS OF BULK AT MOST 1048576: true; the input reads as it did. -/
def framesBrokenUptoRow : OpenClaim := { program := "ytlmemkcfikdhgaa", sum := "0166c0d64fe9fa49a07a011df8b37911cbedffe1d592d8644678a69f9c6f0c56", func := "groundling/groundlinglaw07.FramesBroken", spec := "framesBroken", unfollowed := true, recurses := true, apart := false, narrowed := true }
def FramesBrokenUptoSaid : Prop := framesBrokenUptoRow.holds Try.pinned (OpenSpec.upto framesBrokenSpec)

/-- 'groundlinglaw07.FramesKnown', WHERE WHAT IT READS IS OF BULK AT MOST 1048576: true; the input reads as it did. -/
def framesKnownUptoRow : OpenClaim := { program := "ytlmemkcfikdhgaa", sum := "0166c0d64fe9fa49a07a011df8b37911cbedffe1d592d8644678a69f9c6f0c56", func := "groundling/groundlinglaw07.FramesKnown", spec := "framesKnown", unfollowed := true, recurses := true, apart := false, narrowed := true }
def FramesKnownUptoSaid : Prop := framesKnownUptoRow.holds Try.pinned (OpenSpec.upto framesKnownSpec)

end Rows
end Go.Proofs.Ytlmemkcfikdhgaa
