/- A region that draws its order, driven by hand: what is held of the world may be said anew behind a call. -/
import Derived.Test.YtkidgijoopdidaaIntsY
import Derived.Deep.RegionHeld3
namespace Go.Proofs.Ytkidgijoopdidaa
open Go.RowKit
set_option linter.unusedVariables false

theorem held_more {P : Program} {md : Region.Mode} {ops : Array Oper} {Q : Exit → Act → World → Prop} {S S' : World → Prop} (h : ∀ w, S' w → S w) :
    ∀ (fuel : Nat) (listed : Array Bool) (a : Act) (w : World), wpAnyH P md ops Q S' fuel listed a w → wpAnyH P md ops Q S fuel listed a w
  | 0, _, _, _, hh => hh
  | fuel + 1, _, _, _, hh => ⟨hh.1, fun i hi => wpOp_mono (fun a' w' ⟨h1, h2⟩ => ⟨h w' h1, held_more h fuel _ a' w' h2⟩) (hh.2 i hi)⟩
end Go.Proofs.Ytkidgijoopdidaa
