/-
  DERIVED. GIVEN WITH THE SEED: THE CARDS: each row of YtaeicjgkoofmpaaDoorRows.lean that lists a variable, with what it lists TIED to the program's text (the seventh form; the later family's looks); each row that meets fmt, with fmt's text TOLD by the authors' own Lean function (tested against real Go, not proved from fmt's source: count such statements apart). THE CARD IS WHAT COUNTS. Prove the row's statement (the work); the ties are given (YtaeicjgkoofmpaaDoorTie.lean); close each card by the builder's one call (the guide's Derived/Test/ToyasCard.lean, 'card_holds'). Laid BY PROGRAM, IN A SANDBOX (cutbox-door.mjs). By AI agents, Wed Nov 11 2026. No macro, syntax, notation, axiom, sorry.
-/
import Derived.Test.YtaeicjgkoofmpaaDoorRows
import GoSem.ClaimSeven
namespace Go.Proofs.YtaeicjgkoofmpaaDoor
namespace Rows

/-- THE TIED CARD OF 'groundlinglaw03.ShaHashes'. -/
def shaHashesCard : Claim7 := { stood := { row := shaHashesRow, standIns := [], harness := (true, "01bb628cae549235cc3a1890837aacdba544cdcef059c7e6672698cd61d093dc"), looks := false }, kinds := [], alts := [], laidByText := true, laidKinds := [.data, .data], laidTests := true, laidLooks := .later }
def ShaHashesCardSaid : Prop := Claim7.holds Tryd.pinned (.plain (OpenSpec.ofChange shaHashesSpec)) shaHashesCard

/-- THE TIED CARD OF 'groundlinglaw04.HmacTags'. -/
def hmacTagsCard : Claim7 := { stood := { row := hmacTagsRow, standIns := [], harness := (true, "01bb628cae549235cc3a1890837aacdba544cdcef059c7e6672698cd61d093dc"), looks := false }, kinds := [], alts := [], laidByText := true, laidKinds := [.data, .data], laidTests := true, laidLooks := .later }
def HmacTagsCardSaid : Prop := Claim7.holds Tryd.pinned (.plain (OpenSpec.ofChange hmacTagsSpec)) hmacTagsCard

/-- THE TIED CARD OF 'groundlinglaw04.HmacEquals'. -/
def hmacEqualsCard : Claim7 := { stood := { row := hmacEqualsRow, standIns := [], harness := (true, "01bb628cae549235cc3a1890837aacdba544cdcef059c7e6672698cd61d093dc"), looks := false }, kinds := [], alts := [], laidByText := true, laidKinds := [.data, .data], laidTests := true, laidLooks := .later }
def HmacEqualsCardSaid : Prop := Claim7.holds Tryd.pinned (.plain (OpenSpec.ofChange hmacEqualsSpec)) hmacEqualsCard

/-- THE TIED CARD OF 'groundlinglaw04.HmacVerifies'. -/
def hmacVerifiesCard : Claim7 := { stood := { row := hmacVerifiesRow, standIns := [], harness := (true, "01bb628cae549235cc3a1890837aacdba544cdcef059c7e6672698cd61d093dc"), looks := false }, kinds := [], alts := [], laidByText := true, laidKinds := [.data, .data], laidTests := true, laidLooks := .later }
def HmacVerifiesCardSaid : Prop := Claim7.holds Tryd.pinned (.plain (OpenSpec.ofChange hmacVerifiesSpec)) hmacVerifiesCard

/-- THE TIED CARD OF 'groundlinglaw04.HmacAccepts'. -/
def hmacAcceptsCard : Claim7 := { stood := { row := hmacAcceptsRow, standIns := [], harness := (true, "01bb628cae549235cc3a1890837aacdba544cdcef059c7e6672698cd61d093dc"), looks := false }, kinds := [], alts := [], laidByText := true, laidKinds := [.data, .data], laidTests := true, laidLooks := .later }
def HmacAcceptsCardSaid : Prop := Claim7.holds Tryd.pinned (.plain (OpenSpec.ofChange hmacAcceptsSpec)) hmacAcceptsCard

/-- THE TIED CARD OF 'groundlinglaw04.HmacParts'. -/
def hmacPartsCard : Claim7 := { stood := { row := hmacPartsRow, standIns := [], harness := (true, "01bb628cae549235cc3a1890837aacdba544cdcef059c7e6672698cd61d093dc"), looks := false }, kinds := [], alts := [], laidByText := true, laidKinds := [.data, .data], laidTests := true, laidLooks := .later }
def HmacPartsCardSaid : Prop := Claim7.holds Tryd.pinned (.plain (OpenSpec.ofChange hmacPartsSpec)) hmacPartsCard

/-- THE TIED CARD OF 'groundlinglaw04.HmacKeys'. -/
def hmacKeysCard : Claim7 := { stood := { row := hmacKeysRow, standIns := [], harness := (true, "01bb628cae549235cc3a1890837aacdba544cdcef059c7e6672698cd61d093dc"), looks := false }, kinds := [], alts := [], laidByText := true, laidKinds := [.data, .data], laidTests := true, laidLooks := .later }
def HmacKeysCardSaid : Prop := Claim7.holds Tryd.pinned (.plain (OpenSpec.ofChange hmacKeysSpec)) hmacKeysCard

/-- THE TIED CARD OF 'groundlinglaw04.HmacNone'. -/
def hmacNoneCard : Claim7 := { stood := { row := hmacNoneRow, standIns := [], harness := (true, "01bb628cae549235cc3a1890837aacdba544cdcef059c7e6672698cd61d093dc"), looks := false }, kinds := [], alts := [], laidByText := true, laidKinds := [.data, .data], laidTests := true, laidLooks := .later }
def HmacNoneCardSaid : Prop := Claim7.holds Tryd.pinned (.plain (OpenSpec.ofChange hmacNoneSpec)) hmacNoneCard

/-- THE TIED CARD OF 'groundlinglaw04.HmacKnown'. -/
def hmacKnownCard : Claim7 := { stood := { row := hmacKnownRow, standIns := [], harness := (true, "01bb628cae549235cc3a1890837aacdba544cdcef059c7e6672698cd61d093dc"), looks := false }, kinds := [], alts := [], laidByText := true, laidKinds := [.data, .data], laidTests := true, laidLooks := .later }
def HmacKnownCardSaid : Prop := Claim7.holds Tryd.pinned (.plain (OpenSpec.ofChange hmacKnownSpec)) hmacKnownCard

/-- THE SECOND FORM's CARD OF 'groundlinglaw03.ShaHashes'. -/
def shaHashesUptoCard : Claim7 := { stood := { row := shaHashesUptoRow, standIns := [], harness := (true, "01bb628cae549235cc3a1890837aacdba544cdcef059c7e6672698cd61d093dc"), looks := false }, kinds := [], alts := [], laidByText := true, laidKinds := [.data, .data], laidTests := true, laidLooks := .later }
def ShaHashesUptoCardSaid : Prop := Claim7.holds Tryd.pinned (.plain (OpenSpec.upto shaHashesSpec)) shaHashesUptoCard

/-- THE SECOND FORM's CARD OF 'groundlinglaw04.HmacTags'. -/
def hmacTagsUptoCard : Claim7 := { stood := { row := hmacTagsUptoRow, standIns := [], harness := (true, "01bb628cae549235cc3a1890837aacdba544cdcef059c7e6672698cd61d093dc"), looks := false }, kinds := [], alts := [], laidByText := true, laidKinds := [.data, .data], laidTests := true, laidLooks := .later }
def HmacTagsUptoCardSaid : Prop := Claim7.holds Tryd.pinned (.plain (OpenSpec.upto hmacTagsSpec)) hmacTagsUptoCard

/-- THE SECOND FORM's CARD OF 'groundlinglaw04.HmacEquals'. -/
def hmacEqualsUptoCard : Claim7 := { stood := { row := hmacEqualsUptoRow, standIns := [], harness := (true, "01bb628cae549235cc3a1890837aacdba544cdcef059c7e6672698cd61d093dc"), looks := false }, kinds := [], alts := [], laidByText := true, laidKinds := [.data, .data], laidTests := true, laidLooks := .later }
def HmacEqualsUptoCardSaid : Prop := Claim7.holds Tryd.pinned (.plain (OpenSpec.upto hmacEqualsSpec)) hmacEqualsUptoCard

/-- THE SECOND FORM's CARD OF 'groundlinglaw04.HmacVerifies'. -/
def hmacVerifiesUptoCard : Claim7 := { stood := { row := hmacVerifiesUptoRow, standIns := [], harness := (true, "01bb628cae549235cc3a1890837aacdba544cdcef059c7e6672698cd61d093dc"), looks := false }, kinds := [], alts := [], laidByText := true, laidKinds := [.data, .data], laidTests := true, laidLooks := .later }
def HmacVerifiesUptoCardSaid : Prop := Claim7.holds Tryd.pinned (.plain (OpenSpec.upto hmacVerifiesSpec)) hmacVerifiesUptoCard

/-- THE SECOND FORM's CARD OF 'groundlinglaw04.HmacAccepts'. -/
def hmacAcceptsUptoCard : Claim7 := { stood := { row := hmacAcceptsUptoRow, standIns := [], harness := (true, "01bb628cae549235cc3a1890837aacdba544cdcef059c7e6672698cd61d093dc"), looks := false }, kinds := [], alts := [], laidByText := true, laidKinds := [.data, .data], laidTests := true, laidLooks := .later }
def HmacAcceptsUptoCardSaid : Prop := Claim7.holds Tryd.pinned (.plain (OpenSpec.upto hmacAcceptsSpec)) hmacAcceptsUptoCard

/-- THE SECOND FORM's CARD OF 'groundlinglaw04.HmacParts'. -/
def hmacPartsUptoCard : Claim7 := { stood := { row := hmacPartsUptoRow, standIns := [], harness := (true, "01bb628cae549235cc3a1890837aacdba544cdcef059c7e6672698cd61d093dc"), looks := false }, kinds := [], alts := [], laidByText := true, laidKinds := [.data, .data], laidTests := true, laidLooks := .later }
def HmacPartsUptoCardSaid : Prop := Claim7.holds Tryd.pinned (.plain (OpenSpec.upto hmacPartsSpec)) hmacPartsUptoCard

/-- THE SECOND FORM's CARD OF 'groundlinglaw04.HmacKeys'. -/
def hmacKeysUptoCard : Claim7 := { stood := { row := hmacKeysUptoRow, standIns := [], harness := (true, "01bb628cae549235cc3a1890837aacdba544cdcef059c7e6672698cd61d093dc"), looks := false }, kinds := [], alts := [], laidByText := true, laidKinds := [.data, .data], laidTests := true, laidLooks := .later }
def HmacKeysUptoCardSaid : Prop := Claim7.holds Tryd.pinned (.plain (OpenSpec.upto hmacKeysSpec)) hmacKeysUptoCard

/-- THE SECOND FORM's CARD OF 'groundlinglaw04.HmacNone'. -/
def hmacNoneUptoCard : Claim7 := { stood := { row := hmacNoneUptoRow, standIns := [], harness := (true, "01bb628cae549235cc3a1890837aacdba544cdcef059c7e6672698cd61d093dc"), looks := false }, kinds := [], alts := [], laidByText := true, laidKinds := [.data, .data], laidTests := true, laidLooks := .later }
def HmacNoneUptoCardSaid : Prop := Claim7.holds Tryd.pinned (.plain (OpenSpec.upto hmacNoneSpec)) hmacNoneUptoCard

/-- THE SECOND FORM's CARD OF 'groundlinglaw04.HmacKnown'. -/
def hmacKnownUptoCard : Claim7 := { stood := { row := hmacKnownUptoRow, standIns := [], harness := (true, "01bb628cae549235cc3a1890837aacdba544cdcef059c7e6672698cd61d093dc"), looks := false }, kinds := [], alts := [], laidByText := true, laidKinds := [.data, .data], laidTests := true, laidLooks := .later }
def HmacKnownUptoCardSaid : Prop := Claim7.holds Tryd.pinned (.plain (OpenSpec.upto hmacKnownSpec)) hmacKnownUptoCard
end Rows
end Go.Proofs.YtaeicjgkoofmpaaDoor
