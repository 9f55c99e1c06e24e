/-
  DERIVED. GIVEN WITH THE SEED: THE CARDS: each row of YtcpifencjmlhaaaDoorRows.lean that lists a variable, with what it lists TIED to the program's text (the seventh form; the later family's looks); each row that meets fmt, with fmt's text TOLD by the authors' own Lean function (tested against real Go, not proved from fmt's source: count such statements apart). THE CARD IS WHAT COUNTS. Prove the row's statement (the work); the ties are given (YtcpifencjmlhaaaDoorTie.lean); close each card by the builder's one call (the guide's Derived/Test/ToyasCard.lean, 'card_holds'). Laid BY PROGRAM, IN A SANDBOX (cutbox-door.mjs). By AI agents, Wed Nov 11 2026. No macro, syntax, notation, axiom, sorry.
-/
import Derived.Test.YtcpifencjmlhaaaDoorRows
import GoSem.ClaimSeven
namespace Go.Proofs.YtcpifencjmlhaaaDoor
namespace Rows

/-- THE TIED CARD OF 'klaxonlaw04.B64Standard'. -/
def b64StandardCard : Claim7 := { stood := { row := b64StandardRow, standIns := [], harness := (true, "34b1dc8d14a34ba442a87c8a157b45b4396f6fbc9c8591b259f92a0911712c0d"), looks := false }, kinds := [], alts := [], laidByText := true, laidKinds := [.data, .pinned], laidTests := true, laidLooks := .later }
def B64StandardCardSaid : Prop := Claim7.holds Tryd.pinned (.plain (OpenSpec.ofChange b64StandardSpec)) b64StandardCard

/-- THE TIED CARD OF 'klaxonlaw04.B64Commons'. -/
def b64CommonsCard : Claim7 := { stood := { row := b64CommonsRow, standIns := [], harness := (true, "34b1dc8d14a34ba442a87c8a157b45b4396f6fbc9c8591b259f92a0911712c0d"), looks := false }, kinds := [], alts := [], laidByText := true, laidKinds := [.data, .pinned], laidTests := true, laidLooks := .later }
def B64CommonsCardSaid : Prop := Claim7.holds Tryd.pinned (.plain (OpenSpec.ofChange b64CommonsSpec)) b64CommonsCard

/-- THE SECOND FORM's CARD OF 'klaxonlaw04.B64Standard'. -/
def b64StandardUptoCard : Claim7 := { stood := { row := b64StandardUptoRow, standIns := [], harness := (true, "34b1dc8d14a34ba442a87c8a157b45b4396f6fbc9c8591b259f92a0911712c0d"), looks := false }, kinds := [], alts := [], laidByText := true, laidKinds := [.data, .pinned], laidTests := true, laidLooks := .later }
def B64StandardUptoCardSaid : Prop := Claim7.holds Tryd.pinned (.plain (OpenSpec.upto b64StandardSpec)) b64StandardUptoCard

/-- THE SECOND FORM's CARD OF 'klaxonlaw04.B64Commons'. -/
def b64CommonsUptoCard : Claim7 := { stood := { row := b64CommonsUptoRow, standIns := [], harness := (true, "34b1dc8d14a34ba442a87c8a157b45b4396f6fbc9c8591b259f92a0911712c0d"), looks := false }, kinds := [], alts := [], laidByText := true, laidKinds := [.data, .pinned], laidTests := true, laidLooks := .later }
def B64CommonsUptoCardSaid : Prop := Claim7.holds Tryd.pinned (.plain (OpenSpec.upto b64CommonsSpec)) b64CommonsUptoCard
end Rows
end Go.Proofs.YtcpifencjmlhaaaDoor
