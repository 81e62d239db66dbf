/-
  DERIVED. GIVEN WITH THE SEED: THE CARDS: each row of YtodabmkcihafhaaGreatDoorRows.lean that lists a variable, with what it lists TIED to the program's text (the seventh form; the later family's looks); each row that meets fmt, with fmt's text TOLD by the authors' own Lean function (tested against real Go, not proved from fmt's source: count such statements apart). THE CARD IS WHAT COUNTS. Prove the row's statement (the work); the ties are given (YtodabmkcihafhaaGreatDoorTie.lean); close each card by the builder's one call (the guide's Derived/Test/ToyasCard.lean, 'card_holds'). Laid BY PROGRAM, IN A SANDBOX (cutbox-door.mjs). By AI agents, Wed Nov 11 2026. No macro, syntax, notation, axiom, sorry.
-/
import Derived.Test.YtodabmkcihafhaaGreatDoorRows
import GoSem.ClaimSeven
namespace Go.Proofs.YtodabmkcihafhaaGreatDoor
namespace Rows

/-- THE TIED CARD OF 'rilllaw.Formed'. -/
def formedCard : Claim7 := { stood := { row := formedRow, standIns := [], harness := (true, "146e129626b15cd1c13f86f717f95cb7438f5037b36fd129c15c86306cdf974c"), looks := true }, kinds := [], alts := [], laidByText := true, laidKinds := [.sentinel, .sentinel], laidTests := true, laidLooks := .later }
def FormedCardSaid : Prop := Claim7.holds Tryz.pinned (.plain (OpenSpec.ofChange formedSpec)) formedCard

/-- THE TIED CARD OF 'rilllaw.Values'. -/
def valuesCard : Claim7 := { stood := { row := valuesRow, standIns := [], harness := (true, "146e129626b15cd1c13f86f717f95cb7438f5037b36fd129c15c86306cdf974c"), looks := true }, kinds := [], alts := [], laidByText := true, laidKinds := [.sentinel, .sentinel], laidTests := true, laidLooks := .later }
def ValuesCardSaid : Prop := Claim7.holds Tryz.pinned (.plain (OpenSpec.ofChange valuesSpec)) valuesCard

/-- THE TIED CARD OF 'rilllaw.Ring'. -/
def ringCard : Claim7 := { stood := { row := ringRow, standIns := [], harness := (true, "146e129626b15cd1c13f86f717f95cb7438f5037b36fd129c15c86306cdf974c"), looks := true }, kinds := [], alts := [], laidByText := true, laidKinds := [.sentinel, .sentinel], laidTests := true, laidLooks := .later }
def RingCardSaid : Prop := Claim7.holds Tryz.pinned (.plain (OpenSpec.ofChange ringSpec)) ringCard

/-- THE TIED CARD OF 'rilllaw.Mirrored'. -/
def mirroredCard : Claim7 := { stood := { row := mirroredRow, standIns := [], harness := (true, "146e129626b15cd1c13f86f717f95cb7438f5037b36fd129c15c86306cdf974c"), looks := true }, kinds := [], alts := [], laidByText := true, laidKinds := [.sentinel, .sentinel], laidTests := true, laidLooks := .later }
def MirroredCardSaid : Prop := Claim7.holds Tryz.pinned (.plain (OpenSpec.ofChange mirroredSpec)) mirroredCard

/-- THE TIED CARD OF 'rilllaw.Kept'. -/
def keptCard : Claim7 := { stood := { row := keptRow, standIns := [], harness := (true, "146e129626b15cd1c13f86f717f95cb7438f5037b36fd129c15c86306cdf974c"), looks := true }, kinds := [], alts := [], laidByText := true, laidKinds := [.data, .sentinel, .sentinel, .pinned], laidTests := true, laidLooks := .later }
def KeptCardSaid : Prop := Claim7.holds Tryz.pinned (.plain (OpenSpec.ofChange keptSpec)) keptCard

/-- THE TIED CARD OF 'rilllaw.Told'. -/
def toldCard : Claim7 := { stood := { row := toldRow, standIns := [], harness := (true, "146e129626b15cd1c13f86f717f95cb7438f5037b36fd129c15c86306cdf974c"), looks := true }, kinds := [], alts := [], laidByText := true, laidKinds := [.sentinel, .sentinel], laidTests := true, laidLooks := .later }
def ToldCardSaid : Prop := Claim7.holds Tryz.pinned (.plain (OpenSpec.ofChange toldSpec)) toldCard

/-- THE TIED CARD OF 'rilllaw.Sound'. -/
def soundCard : Claim7 := { stood := { row := soundRow, standIns := [], harness := (true, "146e129626b15cd1c13f86f717f95cb7438f5037b36fd129c15c86306cdf974c"), looks := true }, kinds := [], alts := [], laidByText := true, laidKinds := [.sentinel, .sentinel], laidTests := true, laidLooks := .later }
def SoundCardSaid : Prop := Claim7.holds Tryz.pinned (.plain (OpenSpec.ofChange soundSpec)) soundCard

/-- THE TIED CARD OF 'rilllaw.Nears'. -/
def nearsCard : Claim7 := { stood := { row := nearsRow, standIns := [], harness := (true, "146e129626b15cd1c13f86f717f95cb7438f5037b36fd129c15c86306cdf974c"), looks := true }, kinds := [], alts := [], laidByText := true, laidKinds := [.sentinel, .sentinel], laidTests := true, laidLooks := .later }
def NearsCardSaid : Prop := Claim7.holds Tryz.pinned (.plain (OpenSpec.ofChange nearsSpec)) nearsCard

/-- THE TIED CARD OF 'rilllaw.Books'. -/
def booksCard : Claim7 := { stood := { row := booksRow, standIns := [], harness := (true, "146e129626b15cd1c13f86f717f95cb7438f5037b36fd129c15c86306cdf974c"), looks := true }, kinds := [], alts := [], laidByText := true, laidKinds := [.data, .sentinel, .sentinel, .pinned], laidTests := true, laidLooks := .later }
def BooksCardSaid : Prop := Claim7.holds Tryz.pinned (.plain (OpenSpec.ofChange booksSpec)) booksCard

/-- THE SECOND FORM's CARD OF 'rilllaw.Formed'. -/
def formedUptoCard : Claim7 := { stood := { row := formedUptoRow, standIns := [], harness := (true, "146e129626b15cd1c13f86f717f95cb7438f5037b36fd129c15c86306cdf974c"), looks := true }, kinds := [], alts := [], laidByText := true, laidKinds := [.sentinel, .sentinel], laidTests := true, laidLooks := .later }
def FormedUptoCardSaid : Prop := Claim7.holds Tryz.pinned (.plain (OpenSpec.upto formedSpec)) formedUptoCard

/-- THE SECOND FORM's CARD OF 'rilllaw.Values'. -/
def valuesUptoCard : Claim7 := { stood := { row := valuesUptoRow, standIns := [], harness := (true, "146e129626b15cd1c13f86f717f95cb7438f5037b36fd129c15c86306cdf974c"), looks := true }, kinds := [], alts := [], laidByText := true, laidKinds := [.sentinel, .sentinel], laidTests := true, laidLooks := .later }
def ValuesUptoCardSaid : Prop := Claim7.holds Tryz.pinned (.plain (OpenSpec.upto valuesSpec)) valuesUptoCard

/-- THE SECOND FORM's CARD OF 'rilllaw.Ring'. -/
def ringUptoCard : Claim7 := { stood := { row := ringUptoRow, standIns := [], harness := (true, "146e129626b15cd1c13f86f717f95cb7438f5037b36fd129c15c86306cdf974c"), looks := true }, kinds := [], alts := [], laidByText := true, laidKinds := [.sentinel, .sentinel], laidTests := true, laidLooks := .later }
def RingUptoCardSaid : Prop := Claim7.holds Tryz.pinned (.plain (OpenSpec.upto ringSpec)) ringUptoCard

/-- THE SECOND FORM's CARD OF 'rilllaw.Mirrored'. -/
def mirroredUptoCard : Claim7 := { stood := { row := mirroredUptoRow, standIns := [], harness := (true, "146e129626b15cd1c13f86f717f95cb7438f5037b36fd129c15c86306cdf974c"), looks := true }, kinds := [], alts := [], laidByText := true, laidKinds := [.sentinel, .sentinel], laidTests := true, laidLooks := .later }
def MirroredUptoCardSaid : Prop := Claim7.holds Tryz.pinned (.plain (OpenSpec.upto mirroredSpec)) mirroredUptoCard

/-- THE SECOND FORM's CARD OF 'rilllaw.Kept'. -/
def keptUptoCard : Claim7 := { stood := { row := keptUptoRow, standIns := [], harness := (true, "146e129626b15cd1c13f86f717f95cb7438f5037b36fd129c15c86306cdf974c"), looks := true }, kinds := [], alts := [], laidByText := true, laidKinds := [.data, .sentinel, .sentinel, .pinned], laidTests := true, laidLooks := .later }
def KeptUptoCardSaid : Prop := Claim7.holds Tryz.pinned (.plain (OpenSpec.upto keptSpec)) keptUptoCard

/-- THE SECOND FORM's CARD OF 'rilllaw.Told'. -/
def toldUptoCard : Claim7 := { stood := { row := toldUptoRow, standIns := [], harness := (true, "146e129626b15cd1c13f86f717f95cb7438f5037b36fd129c15c86306cdf974c"), looks := true }, kinds := [], alts := [], laidByText := true, laidKinds := [.sentinel, .sentinel], laidTests := true, laidLooks := .later }
def ToldUptoCardSaid : Prop := Claim7.holds Tryz.pinned (.plain (OpenSpec.upto toldSpec)) toldUptoCard

/-- THE SECOND FORM's CARD OF 'rilllaw.Sound'. -/
def soundUptoCard : Claim7 := { stood := { row := soundUptoRow, standIns := [], harness := (true, "146e129626b15cd1c13f86f717f95cb7438f5037b36fd129c15c86306cdf974c"), looks := true }, kinds := [], alts := [], laidByText := true, laidKinds := [.sentinel, .sentinel], laidTests := true, laidLooks := .later }
def SoundUptoCardSaid : Prop := Claim7.holds Tryz.pinned (.plain (OpenSpec.upto soundSpec)) soundUptoCard

/-- THE SECOND FORM's CARD OF 'rilllaw.Nears'. -/
def nearsUptoCard : Claim7 := { stood := { row := nearsUptoRow, standIns := [], harness := (true, "146e129626b15cd1c13f86f717f95cb7438f5037b36fd129c15c86306cdf974c"), looks := true }, kinds := [], alts := [], laidByText := true, laidKinds := [.sentinel, .sentinel], laidTests := true, laidLooks := .later }
def NearsUptoCardSaid : Prop := Claim7.holds Tryz.pinned (.plain (OpenSpec.upto nearsSpec)) nearsUptoCard

/-- THE SECOND FORM's CARD OF 'rilllaw.Books'. -/
def booksUptoCard : Claim7 := { stood := { row := booksUptoRow, standIns := [], harness := (true, "146e129626b15cd1c13f86f717f95cb7438f5037b36fd129c15c86306cdf974c"), looks := true }, kinds := [], alts := [], laidByText := true, laidKinds := [.data, .sentinel, .sentinel, .pinned], laidTests := true, laidLooks := .later }
def BooksUptoCardSaid : Prop := Claim7.holds Tryz.pinned (.plain (OpenSpec.upto booksSpec)) booksUptoCard
end Rows
end Go.Proofs.YtodabmkcihafhaaGreatDoor
