/-
  No cell of these rows narrows 'for every input' (looked for: loops, veiled, ifaces, maps, wideKeys, modest, calm, conditions, laid).
  DERIVED. THE GIVEN ROWS OF THIS SEAT. 7 by the template 'for every input the law returns true; each argument reads behind the call as it read before'; 0 by the template 'total and deterministic' (their statements: YtcppgefnocjdiaaTotals.lean).
  GIVEN WITH THE SEED: the statements are not yours to turn. If you find one false, say at which input.
  Laid BY PROGRAM, IN A SANDBOX (cutbox-rows.mjs): the forced cells as the released guide's own fill.sh prints them over the translation 03e060764aeb899e… (all of the seat's roots in one cut). By AI agents, Wed Nov 11 2026. No macro, syntax, notation, axiom, sorry.
-/
import Derived.Test.YtcppgefnocjdiaaChecked
import GoSem.Claim
import GoSem.ClaimJoined
import GoSem.ClaimMapViews
import Derived.JoinedTies
import Derived.KernelRfl
namespace Go.Proofs.Ytcppgefnocjdiaa
/- THE CELL 'sum', in the pinned program and in every row, IS THE sha256 OF THE DUMP (.gsa) THAT YtcppgefnocjdiaaProg.lean LOADS. Nothing in Lean hashes anything: it is a label: what it is worth is what the hold of that sum in a sandbox is worth. -/
noncomputable def Try.pinned : Pinned := { name := "ytcppgefnocjdiaa", sum := "03e060764aeb899e0ce0ad702e29ef18477017129e2784200316e63a9c7d7b8f", checked := Try.checked }
namespace Rows
def none {H : Type} : Left H := { results := [], args := [] }

/-- 'groundlinglaw06.HeapsPlays': WHATEVER THE INPUT: true; the input reads as it did. -/
def heapsPlaysSpec : ChangeSpec := { name := "heapsPlays", fn := fun _ => fun
  | [d1, d2, d3] => { results := [.lit (.bool true)], args := [d1, d2, d3] }
  | _ => none }
def heapsPlaysRow : OpenClaim := { program := "ytcppgefnocjdiaa", sum := "03e060764aeb899e0ce0ad702e29ef18477017129e2784200316e63a9c7d7b8f", func := "groundling/groundlinglaw06.HeapsPlays", spec := "heapsPlays", unfollowed := true, recurses := true, apart := false }
def HeapsPlaysSaid : Prop := heapsPlaysRow.holds Try.pinned (OpenSpec.ofChange heapsPlaysSpec)

/-- ITS FALSE NEIGHBOUR: 'it returns false'. Refute it at one input. -/
def heapsPlaysWrong : ChangeSpec := { name := "heapsPlays", fn := fun _ => fun
  | [d1, d2, d3] => { results := [.lit (.bool false)], args := [d1, d2, d3] }
  | _ => none }
def HeapsPlaysWrongFalsely : Prop := heapsPlaysRow.holds Try.pinned (OpenSpec.ofChange heapsPlaysWrong)

/-- 'groundlinglaw06.HeapsNone': WHATEVER THE INPUT: true; the input reads as it did. -/
def heapsNoneSpec : ChangeSpec := { name := "heapsNone", fn := fun _ => fun
  | [d1, d2] => { results := [.lit (.bool true)], args := [d1, d2] }
  | _ => none }
def heapsNoneRow : OpenClaim := { program := "ytcppgefnocjdiaa", sum := "03e060764aeb899e0ce0ad702e29ef18477017129e2784200316e63a9c7d7b8f", func := "groundling/groundlinglaw06.HeapsNone", spec := "heapsNone", unfollowed := true, recurses := true, apart := false }
def HeapsNoneSaid : Prop := heapsNoneRow.holds Try.pinned (OpenSpec.ofChange heapsNoneSpec)

/-- ITS FALSE NEIGHBOUR: 'it returns false'. Refute it at one input. -/
def heapsNoneWrong : ChangeSpec := { name := "heapsNone", fn := fun _ => fun
  | [d1, d2] => { results := [.lit (.bool false)], args := [d1, d2] }
  | _ => none }
def HeapsNoneWrongFalsely : Prop := heapsNoneRow.holds Try.pinned (OpenSpec.ofChange heapsNoneWrong)

/-- 'groundlinglaw06.HeapsSorts': WHATEVER THE INPUT: true; the input reads as it did. -/
def heapsSortsSpec : ChangeSpec := { name := "heapsSorts", fn := fun _ => fun
  | [d1, d2] => { results := [.lit (.bool true)], args := [d1, d2] }
  | _ => none }
def heapsSortsRow : OpenClaim := { program := "ytcppgefnocjdiaa", sum := "03e060764aeb899e0ce0ad702e29ef18477017129e2784200316e63a9c7d7b8f", func := "groundling/groundlinglaw06.HeapsSorts", spec := "heapsSorts", unfollowed := true, recurses := true, apart := false }
def HeapsSortsSaid : Prop := heapsSortsRow.holds Try.pinned (OpenSpec.ofChange heapsSortsSpec)

/-- ITS FALSE NEIGHBOUR: 'it returns false'. Refute it at one input. -/
def heapsSortsWrong : ChangeSpec := { name := "heapsSorts", fn := fun _ => fun
  | [d1, d2] => { results := [.lit (.bool false)], args := [d1, d2] }
  | _ => none }
def HeapsSortsWrongFalsely : Prop := heapsSortsRow.holds Try.pinned (OpenSpec.ofChange heapsSortsWrong)

/-- 'groundlinglaw06.HeapsHandles': WHATEVER THE INPUT: true; the input reads as it did. -/
def heapsHandlesSpec : ChangeSpec := { name := "heapsHandles", fn := fun _ => fun
  | [d1, d2, d3] => { results := [.lit (.bool true)], args := [d1, d2, d3] }
  | _ => none }
def heapsHandlesRow : OpenClaim := { program := "ytcppgefnocjdiaa", sum := "03e060764aeb899e0ce0ad702e29ef18477017129e2784200316e63a9c7d7b8f", func := "groundling/groundlinglaw06.HeapsHandles", spec := "heapsHandles", unfollowed := true, recurses := true, apart := false }
def HeapsHandlesSaid : Prop := heapsHandlesRow.holds Try.pinned (OpenSpec.ofChange heapsHandlesSpec)

/-- ITS FALSE NEIGHBOUR: 'it returns false'. Refute it at one input. -/
def heapsHandlesWrong : ChangeSpec := { name := "heapsHandles", fn := fun _ => fun
  | [d1, d2, d3] => { results := [.lit (.bool false)], args := [d1, d2, d3] }
  | _ => none }
def HeapsHandlesWrongFalsely : Prop := heapsHandlesRow.holds Try.pinned (OpenSpec.ofChange heapsHandlesWrong)

/-- 'groundlinglaw06.HeapsOrders': WHATEVER THE INPUT: true; the input reads as it did. -/
def heapsOrdersSpec : ChangeSpec := { name := "heapsOrders", fn := fun _ => fun
  | [d1, d2] => { results := [.lit (.bool true)], args := [d1, d2] }
  | _ => none }
def heapsOrdersRow : OpenClaim := { program := "ytcppgefnocjdiaa", sum := "03e060764aeb899e0ce0ad702e29ef18477017129e2784200316e63a9c7d7b8f", func := "groundling/groundlinglaw06.HeapsOrders", spec := "heapsOrders", unfollowed := true, recurses := true, apart := false }
def HeapsOrdersSaid : Prop := heapsOrdersRow.holds Try.pinned (OpenSpec.ofChange heapsOrdersSpec)

/-- ITS FALSE NEIGHBOUR: 'it returns false'. Refute it at one input. -/
def heapsOrdersWrong : ChangeSpec := { name := "heapsOrders", fn := fun _ => fun
  | [d1, d2] => { results := [.lit (.bool false)], args := [d1, d2] }
  | _ => none }
def HeapsOrdersWrongFalsely : Prop := heapsOrdersRow.holds Try.pinned (OpenSpec.ofChange heapsOrdersWrong)

/-- 'groundlinglaw06.HeapsWalks': WHATEVER THE INPUT: true; the input reads as it did. -/
def heapsWalksSpec : ChangeSpec := { name := "heapsWalks", fn := fun _ => fun
  | [d1, d2, d3] => { results := [.lit (.bool true)], args := [d1, d2, d3] }
  | _ => none }
def heapsWalksRow : OpenClaim := { program := "ytcppgefnocjdiaa", sum := "03e060764aeb899e0ce0ad702e29ef18477017129e2784200316e63a9c7d7b8f", func := "groundling/groundlinglaw06.HeapsWalks", spec := "heapsWalks", unfollowed := true, recurses := true, apart := false }
def HeapsWalksSaid : Prop := heapsWalksRow.holds Try.pinned (OpenSpec.ofChange heapsWalksSpec)

/-- ITS FALSE NEIGHBOUR: 'it returns false'. Refute it at one input. -/
def heapsWalksWrong : ChangeSpec := { name := "heapsWalks", fn := fun _ => fun
  | [d1, d2, d3] => { results := [.lit (.bool false)], args := [d1, d2, d3] }
  | _ => none }
def HeapsWalksWrongFalsely : Prop := heapsWalksRow.holds Try.pinned (OpenSpec.ofChange heapsWalksWrong)

/-- 'groundlinglaw06.HeapsKnown': WHATEVER THE INPUT: true; the input reads as it did. -/
def heapsKnownSpec : ChangeSpec := { name := "heapsKnown", fn := fun _ => fun
  | [] => { results := [.lit (.bool true)], args := [] }
  | _ => none }
def heapsKnownRow : OpenClaim := { program := "ytcppgefnocjdiaa", sum := "03e060764aeb899e0ce0ad702e29ef18477017129e2784200316e63a9c7d7b8f", func := "groundling/groundlinglaw06.HeapsKnown", spec := "heapsKnown", unfollowed := true, recurses := true, apart := false }
def HeapsKnownSaid : Prop := heapsKnownRow.holds Try.pinned (OpenSpec.ofChange heapsKnownSpec)

/-- ITS FALSE NEIGHBOUR: 'it returns false'. Refute it at one input. -/
def heapsKnownWrong : ChangeSpec := { name := "heapsKnown", fn := fun _ => fun
  | [] => { results := [.lit (.bool false)], args := [] }
  | _ => none }
def HeapsKnownWrongFalsely : Prop := heapsKnownRow.holds Try.pinned (OpenSpec.ofChange heapsKnownWrong)

/- THE SECOND FORM. 'bulk': how many values and letters a reading holds, each counted each time it is reached (what is shared counts as often as it is met; a slice's spare places count too). A statement '..UptoSaid' is the law's where the arguments, and the package variables that the reading takes, are together of bulk at most 1048576: NARROWER than '..Said'. Prove '..Said' where nothing that the law and all that it calls make is longer than what came in: it says more and counts as full. Else prove '..UptoSaid'. A law counts once. -/
mutual
def uptoBulk {H : Type} : DataW H → Nat
  | .lit (.string bytes) => bytes.length + 1
  | .lit _ => 1
  | .nil => 1
  | .ptr d => uptoBulk d + 1
  | .slice elems spare => uptoBulkAll elems + uptoBulkAll spare + 1
  | .agg parts => uptoBulkAll parts + 1
  | .iface _ d => uptoBulk d + 1
  | .map entries => uptoBulkEntries entries + 1
  | .held _ => 1
def uptoBulkAll {H : Type} : List (DataW H) → Nat
  | [] => 0
  | d :: r => uptoBulk d + uptoBulkAll r
def uptoBulkEntries {H : Type} : List (Lit × DataW H) → Nat
  | [] => 0
  | x :: r => uptoBulkEntry x + uptoBulkEntries r
def uptoBulkEntry {H : Type} : Lit × DataW H → Nat
  | (.string bytes, d) => bytes.length + uptoBulk d + 1
  | (_, d) => uptoBulk d + 1
 end
def uptoSmall : (H : Type) → List (DataW H) → Bool := fun _ ds => decide (uptoBulkAll ds ≤ 1048576)
def OpenSpec.upto (s : _root_.Go.ChangeSpec) : _root_.Go.OpenSpec := { _root_.Go.OpenSpec.ofChange s with cond := some uptoSmall }

/-- 'groundlinglaw06.HeapsPlays', WHERE WHAT IT READS IS OF BULK AT MOST 1048576: true; the input reads as it did. -/
def heapsPlaysUptoRow : OpenClaim := { program := "ytcppgefnocjdiaa", sum := "03e060764aeb899e0ce0ad702e29ef18477017129e2784200316e63a9c7d7b8f", func := "groundling/groundlinglaw06.HeapsPlays", spec := "heapsPlays", unfollowed := true, recurses := true, apart := false, narrowed := true }
def HeapsPlaysUptoSaid : Prop := heapsPlaysUptoRow.holds Try.pinned (OpenSpec.upto heapsPlaysSpec)

/-- 'groundlinglaw06.HeapsNone', WHERE WHAT IT READS IS OF BULK AT MOST 1048576: true; the input reads as it did. -/
def heapsNoneUptoRow : OpenClaim := { program := "ytcppgefnocjdiaa", sum := "03e060764aeb899e0ce0ad702e29ef18477017129e2784200316e63a9c7d7b8f", func := "groundling/groundlinglaw06.HeapsNone", spec := "heapsNone", unfollowed := true, recurses := true, apart := false, narrowed := true }
def HeapsNoneUptoSaid : Prop := heapsNoneUptoRow.holds Try.pinned (OpenSpec.upto heapsNoneSpec)

/-- 'groundlinglaw06.HeapsSorts', WHERE WHAT IT READS IS OF BULK AT MOST 1048576: true; the input reads as it did. -/
def heapsSortsUptoRow : OpenClaim := { program := "ytcppgefnocjdiaa", sum := "03e060764aeb899e0ce0ad702e29ef18477017129e2784200316e63a9c7d7b8f", func := "groundling/groundlinglaw06.HeapsSorts", spec := "heapsSorts", unfollowed := true, recurses := true, apart := false, narrowed := true }
def HeapsSortsUptoSaid : Prop := heapsSortsUptoRow.holds Try.pinned (OpenSpec.upto heapsSortsSpec)

/-- 'groundlinglaw06.HeapsHandles', WHERE WHAT IT READS IS OF BULK AT MOST 1048576: true; the input reads as it did. -/
def heapsHandlesUptoRow : OpenClaim := { program := "ytcppgefnocjdiaa", sum := "03e060764aeb899e0ce0ad702e29ef18477017129e2784200316e63a9c7d7b8f", func := "groundling/groundlinglaw06.HeapsHandles", spec := "heapsHandles", unfollowed := true, recurses := true, apart := false, narrowed := true }
def HeapsHandlesUptoSaid : Prop := heapsHandlesUptoRow.holds Try.pinned (OpenSpec.upto heapsHandlesSpec)

/-- 'groundlinglaw06.HeapsOrders', WHERE WHAT IT READS IS OF BULK AT MOST 1048576: true; the input reads as it did. -/
def heapsOrdersUptoRow : OpenClaim := { program := "ytcppgefnocjdiaa", sum := "03e060764aeb899e0ce0ad702e29ef18477017129e2784200316e63a9c7d7b8f", func := "groundling/groundlinglaw06.HeapsOrders", spec := "heapsOrders", unfollowed := true, recurses := true, apart := false, narrowed := true }
def HeapsOrdersUptoSaid : Prop := heapsOrdersUptoRow.holds Try.pinned (OpenSpec.upto heapsOrdersSpec)

/-- 'groundlinglaw06.HeapsWalks', WHERE WHAT IT READS IS OF BULK AT MOST 1048576: true; the input reads as it did. -/
def heapsWalksUptoRow : OpenClaim := { program := "ytcppgefnocjdiaa", sum := "03e060764aeb899e0ce0ad702e29ef18477017129e2784200316e63a9c7d7b8f", func := "groundling/groundlinglaw06.HeapsWalks", spec := "heapsWalks", unfollowed := true, recurses := true, apart := false, narrowed := true }
def HeapsWalksUptoSaid : Prop := heapsWalksUptoRow.holds Try.pinned (OpenSpec.upto heapsWalksSpec)

/-- 'groundlinglaw06.HeapsKnown', WHERE WHAT IT READS IS OF BULK AT MOST 1048576: true; the input reads as it did. -/
def heapsKnownUptoRow : OpenClaim := { program := "ytcppgefnocjdiaa", sum := "03e060764aeb899e0ce0ad702e29ef18477017129e2784200316e63a9c7d7b8f", func := "groundling/groundlinglaw06.HeapsKnown", spec := "heapsKnown", unfollowed := true, recurses := true, apart := false, narrowed := true }
def HeapsKnownUptoSaid : Prop := heapsKnownUptoRow.holds Try.pinned (OpenSpec.upto heapsKnownSpec)

end Rows
end Go.Proofs.Ytcppgefnocjdiaa
