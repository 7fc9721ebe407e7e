/-
  DERIVED. GIVEN WITH THE SEED: THE CARDS: each row of YtnmgcfpemmejlaaDoorRows.lean that lists a variable, with what it lists TIED to the program's text (the seventh form; the later family's looks); each row that meets fmt, with fmt's text TOLD by the authors' own Lean function (tested against real Go, not proved from fmt's source: count such statements apart). THE CARD IS WHAT COUNTS. Prove the row's statement (the work); the ties are given (YtnmgcfpemmejlaaDoorTie.lean); close each card by the builder's one call (the guide's Derived/Test/ToyasCard.lean, 'card_holds'). Laid BY PROGRAM, IN A SANDBOX (cutbox-door.mjs). By AI agents, Wed Nov 11 2026. No macro, syntax, notation, axiom, sorry.
-/
import Derived.Test.YtnmgcfpemmejlaaDoorRows
import GoSem.ClaimSeven
namespace Go.Proofs.YtnmgcfpemmejlaaDoor
namespace Rows

/-- THE TIED CARD OF 'groundlinglaw05.TimesSums'. -/
def timesSumsCard : Claim7 := { stood := { row := timesSumsRow, standIns := [], harness := (true, "bd5cf3885cb17f560d626c4dfd77ae2300250eeb78f727a2151b7be416278086"), looks := false }, kinds := [], alts := [], laidByText := true, laidKinds := [.data, .data, .data], laidTests := true, laidLooks := .later }
def TimesSumsCardSaid : Prop := Claim7.holds Tryd.pinned (.plain (OpenSpec.ofChange timesSumsSpec)) timesSumsCard

/-- THE TIED CARD OF 'groundlinglaw05.TimesSpans'. -/
def timesSpansCard : Claim7 := { stood := { row := timesSpansRow, standIns := [], harness := (true, "bd5cf3885cb17f560d626c4dfd77ae2300250eeb78f727a2151b7be416278086"), looks := false }, kinds := [], alts := [], laidByText := true, laidKinds := [.data, .data, .data], laidTests := true, laidLooks := .later }
def TimesSpansCardSaid : Prop := Claim7.holds Tryd.pinned (.plain (OpenSpec.ofChange timesSpansSpec)) timesSpansCard

/-- THE TIED CARD OF 'groundlinglaw05.TimesTexts'. -/
def timesTextsCard : Claim7 := { stood := { row := timesTextsRow, standIns := [], harness := (true, "bd5cf3885cb17f560d626c4dfd77ae2300250eeb78f727a2151b7be416278086"), looks := false }, kinds := [], alts := [], laidByText := true, laidKinds := [.data, .data, .data], laidTests := true, laidLooks := .later }
def TimesTextsCardSaid : Prop := Claim7.holds Tryd.pinned (.plain (OpenSpec.ofChange timesTextsSpec)) timesTextsCard

/-- THE TIED CARD OF 'groundlinglaw05.TimesDeadlines'. -/
def timesDeadlinesCard : Claim7 := { stood := { row := timesDeadlinesRow, standIns := [], harness := (true, "bd5cf3885cb17f560d626c4dfd77ae2300250eeb78f727a2151b7be416278086"), looks := false }, kinds := [], alts := [], laidByText := true, laidKinds := [.data, .data, .data], laidTests := true, laidLooks := .later }
def TimesDeadlinesCardSaid : Prop := Claim7.holds Tryd.pinned (.plain (OpenSpec.ofChange timesDeadlinesSpec)) timesDeadlinesCard

/-- THE TIED CARD OF 'groundlinglaw05.TimesTicks'. -/
def timesTicksCard : Claim7 := { stood := { row := timesTicksRow, standIns := [], harness := (true, "bd5cf3885cb17f560d626c4dfd77ae2300250eeb78f727a2151b7be416278086"), looks := false }, kinds := [], alts := [], laidByText := true, laidKinds := [.data, .data, .data], laidTests := true, laidLooks := .later }
def TimesTicksCardSaid : Prop := Claim7.holds Tryd.pinned (.plain (OpenSpec.ofChange timesTicksSpec)) timesTicksCard

/-- THE TIED CARD OF 'groundlinglaw05.TimesSets'. -/
def timesSetsCard : Claim7 := { stood := { row := timesSetsRow, standIns := [], harness := (true, "bd5cf3885cb17f560d626c4dfd77ae2300250eeb78f727a2151b7be416278086"), looks := false }, kinds := [], alts := [], laidByText := true, laidKinds := [.data, .data, .data], laidTests := true, laidLooks := .later }
def TimesSetsCardSaid : Prop := Claim7.holds Tryd.pinned (.plain (OpenSpec.ofChange timesSetsSpec)) timesSetsCard

/-- THE TIED CARD OF 'groundlinglaw05.TimesSame'. -/
def timesSameCard : Claim7 := { stood := { row := timesSameRow, standIns := [], harness := (true, "bd5cf3885cb17f560d626c4dfd77ae2300250eeb78f727a2151b7be416278086"), looks := false }, kinds := [], alts := [], laidByText := true, laidKinds := [.data, .data, .data], laidTests := true, laidLooks := .later }
def TimesSameCardSaid : Prop := Claim7.holds Tryd.pinned (.plain (OpenSpec.ofChange timesSameSpec)) timesSameCard

/-- THE SECOND FORM's CARD OF 'groundlinglaw05.TimesSums'. -/
def timesSumsUptoCard : Claim7 := { stood := { row := timesSumsUptoRow, standIns := [], harness := (true, "bd5cf3885cb17f560d626c4dfd77ae2300250eeb78f727a2151b7be416278086"), looks := false }, kinds := [], alts := [], laidByText := true, laidKinds := [.data, .data, .data], laidTests := true, laidLooks := .later }
def TimesSumsUptoCardSaid : Prop := Claim7.holds Tryd.pinned (.plain (OpenSpec.upto timesSumsSpec)) timesSumsUptoCard

/-- THE SECOND FORM's CARD OF 'groundlinglaw05.TimesSpans'. -/
def timesSpansUptoCard : Claim7 := { stood := { row := timesSpansUptoRow, standIns := [], harness := (true, "bd5cf3885cb17f560d626c4dfd77ae2300250eeb78f727a2151b7be416278086"), looks := false }, kinds := [], alts := [], laidByText := true, laidKinds := [.data, .data, .data], laidTests := true, laidLooks := .later }
def TimesSpansUptoCardSaid : Prop := Claim7.holds Tryd.pinned (.plain (OpenSpec.upto timesSpansSpec)) timesSpansUptoCard

/-- THE SECOND FORM's CARD OF 'groundlinglaw05.TimesTexts'. -/
def timesTextsUptoCard : Claim7 := { stood := { row := timesTextsUptoRow, standIns := [], harness := (true, "bd5cf3885cb17f560d626c4dfd77ae2300250eeb78f727a2151b7be416278086"), looks := false }, kinds := [], alts := [], laidByText := true, laidKinds := [.data, .data, .data], laidTests := true, laidLooks := .later }
def TimesTextsUptoCardSaid : Prop := Claim7.holds Tryd.pinned (.plain (OpenSpec.upto timesTextsSpec)) timesTextsUptoCard

/-- THE SECOND FORM's CARD OF 'groundlinglaw05.TimesDeadlines'. -/
def timesDeadlinesUptoCard : Claim7 := { stood := { row := timesDeadlinesUptoRow, standIns := [], harness := (true, "bd5cf3885cb17f560d626c4dfd77ae2300250eeb78f727a2151b7be416278086"), looks := false }, kinds := [], alts := [], laidByText := true, laidKinds := [.data, .data, .data], laidTests := true, laidLooks := .later }
def TimesDeadlinesUptoCardSaid : Prop := Claim7.holds Tryd.pinned (.plain (OpenSpec.upto timesDeadlinesSpec)) timesDeadlinesUptoCard

/-- THE SECOND FORM's CARD OF 'groundlinglaw05.TimesTicks'. -/
def timesTicksUptoCard : Claim7 := { stood := { row := timesTicksUptoRow, standIns := [], harness := (true, "bd5cf3885cb17f560d626c4dfd77ae2300250eeb78f727a2151b7be416278086"), looks := false }, kinds := [], alts := [], laidByText := true, laidKinds := [.data, .data, .data], laidTests := true, laidLooks := .later }
def TimesTicksUptoCardSaid : Prop := Claim7.holds Tryd.pinned (.plain (OpenSpec.upto timesTicksSpec)) timesTicksUptoCard

/-- THE SECOND FORM's CARD OF 'groundlinglaw05.TimesSets'. -/
def timesSetsUptoCard : Claim7 := { stood := { row := timesSetsUptoRow, standIns := [], harness := (true, "bd5cf3885cb17f560d626c4dfd77ae2300250eeb78f727a2151b7be416278086"), looks := false }, kinds := [], alts := [], laidByText := true, laidKinds := [.data, .data, .data], laidTests := true, laidLooks := .later }
def TimesSetsUptoCardSaid : Prop := Claim7.holds Tryd.pinned (.plain (OpenSpec.upto timesSetsSpec)) timesSetsUptoCard

/-- THE SECOND FORM's CARD OF 'groundlinglaw05.TimesSame'. -/
def timesSameUptoCard : Claim7 := { stood := { row := timesSameUptoRow, standIns := [], harness := (true, "bd5cf3885cb17f560d626c4dfd77ae2300250eeb78f727a2151b7be416278086"), looks := false }, kinds := [], alts := [], laidByText := true, laidKinds := [.data, .data, .data], laidTests := true, laidLooks := .later }
def TimesSameUptoCardSaid : Prop := Claim7.holds Tryd.pinned (.plain (OpenSpec.upto timesSameSpec)) timesSameUptoCard
end Rows
end Go.Proofs.YtnmgcfpemmejlaaDoor
