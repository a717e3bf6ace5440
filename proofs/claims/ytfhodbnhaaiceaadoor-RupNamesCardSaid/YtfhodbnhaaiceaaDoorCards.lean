/-
  DERIVED. GIVEN WITH THE SEED: THE CARDS: each row of YtfhodbnhaaiceaaDoorRows.lean that lists a variable, with what it lists TIED to the program's text (the seventh form; the later family's looks); each row that meets fmt, with fmt's text TOLD by the authors' own Lean function (tested against real Go, not proved from fmt's source: count such statements apart). THE CARD IS WHAT COUNTS. Prove the row's statement (the work); the ties are given (YtfhodbnhaaiceaaDoorTie.lean); close each card by the builder's one call (the guide's Derived/Test/ToyasCard.lean, 'card_holds'). Laid BY PROGRAM, IN A SANDBOX (cutbox-door.mjs). By AI agents, Wed Nov 11 2026. No macro, syntax, notation, axiom, sorry.
-/
import Derived.Test.YtfhodbnhaaiceaaDoorRows
import GoSem.ClaimSeven
namespace Go.Proofs.YtfhodbnhaaiceaaDoor
namespace Rows

/-- THE TIED CARD OF 'weepholelaw05.RupImplies'. -/
def rupImpliesCard : Claim7 := { stood := { row := rupImpliesRow, standIns := [], harness := (true, "e50340f90fdbd52b96cbc9fa41e741093d1a32db9571278f113cfe7207adca24"), looks := true }, kinds := [], alts := [], laidByText := true, laidKinds := [.data, .data, .data], laidTests := true, laidLooks := .later }
def RupImpliesCardSaid : Prop := Claim7.holds Tryd.pinned (.plain (OpenSpec.ofChange rupImpliesSpec)) rupImpliesCard

/-- THE TIED CARD OF 'weepholelaw05.RupChecks'. -/
def rupChecksCard : Claim7 := { stood := { row := rupChecksRow, standIns := [], harness := (true, "e50340f90fdbd52b96cbc9fa41e741093d1a32db9571278f113cfe7207adca24"), looks := true }, kinds := [], alts := [], laidByText := true, laidKinds := [.data, .data, .data], laidTests := true, laidLooks := .later }
def RupChecksCardSaid : Prop := Claim7.holds Tryd.pinned (.plain (OpenSpec.ofChange rupChecksSpec)) rupChecksCard

/-- THE TIED CARD OF 'weepholelaw05.RupOdd'. -/
def rupOddCard : Claim7 := { stood := { row := rupOddRow, standIns := [], harness := (true, "e50340f90fdbd52b96cbc9fa41e741093d1a32db9571278f113cfe7207adca24"), looks := true }, kinds := [], alts := [], laidByText := true, laidKinds := [.data, .data, .data], laidTests := true, laidLooks := .later }
def RupOddCardSaid : Prop := Claim7.holds Tryd.pinned (.plain (OpenSpec.ofChange rupOddSpec)) rupOddCard

/-- THE TIED CARD OF 'weepholelaw05.RupNames'. -/
def rupNamesCard : Claim7 := { stood := { row := rupNamesRow, standIns := [], harness := (true, "e50340f90fdbd52b96cbc9fa41e741093d1a32db9571278f113cfe7207adca24"), looks := true }, kinds := [], alts := [], laidByText := true, laidKinds := [.data, .data, .data], laidTests := true, laidLooks := .later }
def RupNamesCardSaid : Prop := Claim7.holds Tryd.pinned (.plain (OpenSpec.ofChange rupNamesSpec)) rupNamesCard

/-- THE TIED CARD OF 'weepholelaw05.RupSound'. -/
def rupSoundCard : Claim7 := { stood := { row := rupSoundRow, standIns := [], harness := (true, "e50340f90fdbd52b96cbc9fa41e741093d1a32db9571278f113cfe7207adca24"), looks := true }, kinds := [], alts := [], laidByText := true, laidKinds := [.data, .data, .data], laidTests := true, laidLooks := .later }
def RupSoundCardSaid : Prop := Claim7.holds Tryd.pinned (.plain (OpenSpec.ofChange rupSoundSpec)) rupSoundCard

/-- THE TIED CARD OF 'weepholelaw05.RupOwn'. -/
def rupOwnCard : Claim7 := { stood := { row := rupOwnRow, standIns := [], harness := (true, "e50340f90fdbd52b96cbc9fa41e741093d1a32db9571278f113cfe7207adca24"), looks := true }, kinds := [], alts := [], laidByText := true, laidKinds := [.data, .data, .data], laidTests := true, laidLooks := .later }
def RupOwnCardSaid : Prop := Claim7.holds Tryd.pinned (.plain (OpenSpec.ofChange rupOwnSpec)) rupOwnCard

/-- THE TIED CARD OF 'weepholelaw05.RupMore'. -/
def rupMoreCard : Claim7 := { stood := { row := rupMoreRow, standIns := [], harness := (true, "e50340f90fdbd52b96cbc9fa41e741093d1a32db9571278f113cfe7207adca24"), looks := true }, kinds := [], alts := [], laidByText := true, laidKinds := [.data, .data, .data], laidTests := true, laidLooks := .later }
def RupMoreCardSaid : Prop := Claim7.holds Tryd.pinned (.plain (OpenSpec.ofChange rupMoreSpec)) rupMoreCard

/-- THE TIED CARD OF 'weepholelaw05.RupPrefix'. -/
def rupPrefixCard : Claim7 := { stood := { row := rupPrefixRow, standIns := [], harness := (true, "e50340f90fdbd52b96cbc9fa41e741093d1a32db9571278f113cfe7207adca24"), looks := true }, kinds := [], alts := [], laidByText := true, laidKinds := [.data, .data, .data], laidTests := true, laidLooks := .later }
def RupPrefixCardSaid : Prop := Claim7.holds Tryd.pinned (.plain (OpenSpec.ofChange rupPrefixSpec)) rupPrefixCard

/-- THE TIED CARD OF 'weepholelaw05.RupEmpty'. -/
def rupEmptyCard : Claim7 := { stood := { row := rupEmptyRow, standIns := [], harness := (true, "e50340f90fdbd52b96cbc9fa41e741093d1a32db9571278f113cfe7207adca24"), looks := true }, kinds := [], alts := [], laidByText := true, laidKinds := [.data, .data, .data], laidTests := true, laidLooks := .later }
def RupEmptyCardSaid : Prop := Claim7.holds Tryd.pinned (.plain (OpenSpec.ofChange rupEmptySpec)) rupEmptyCard

/-- THE SECOND FORM's CARD OF 'weepholelaw05.RupImplies'. -/
def rupImpliesUptoCard : Claim7 := { stood := { row := rupImpliesUptoRow, standIns := [], harness := (true, "e50340f90fdbd52b96cbc9fa41e741093d1a32db9571278f113cfe7207adca24"), looks := true }, kinds := [], alts := [], laidByText := true, laidKinds := [.data, .data, .data], laidTests := true, laidLooks := .later }
def RupImpliesUptoCardSaid : Prop := Claim7.holds Tryd.pinned (.plain (OpenSpec.upto rupImpliesSpec)) rupImpliesUptoCard

/-- THE SECOND FORM's CARD OF 'weepholelaw05.RupChecks'. -/
def rupChecksUptoCard : Claim7 := { stood := { row := rupChecksUptoRow, standIns := [], harness := (true, "e50340f90fdbd52b96cbc9fa41e741093d1a32db9571278f113cfe7207adca24"), looks := true }, kinds := [], alts := [], laidByText := true, laidKinds := [.data, .data, .data], laidTests := true, laidLooks := .later }
def RupChecksUptoCardSaid : Prop := Claim7.holds Tryd.pinned (.plain (OpenSpec.upto rupChecksSpec)) rupChecksUptoCard

/-- THE SECOND FORM's CARD OF 'weepholelaw05.RupOdd'. -/
def rupOddUptoCard : Claim7 := { stood := { row := rupOddUptoRow, standIns := [], harness := (true, "e50340f90fdbd52b96cbc9fa41e741093d1a32db9571278f113cfe7207adca24"), looks := true }, kinds := [], alts := [], laidByText := true, laidKinds := [.data, .data, .data], laidTests := true, laidLooks := .later }
def RupOddUptoCardSaid : Prop := Claim7.holds Tryd.pinned (.plain (OpenSpec.upto rupOddSpec)) rupOddUptoCard

/-- THE SECOND FORM's CARD OF 'weepholelaw05.RupNames'. -/
def rupNamesUptoCard : Claim7 := { stood := { row := rupNamesUptoRow, standIns := [], harness := (true, "e50340f90fdbd52b96cbc9fa41e741093d1a32db9571278f113cfe7207adca24"), looks := true }, kinds := [], alts := [], laidByText := true, laidKinds := [.data, .data, .data], laidTests := true, laidLooks := .later }
def RupNamesUptoCardSaid : Prop := Claim7.holds Tryd.pinned (.plain (OpenSpec.upto rupNamesSpec)) rupNamesUptoCard

/-- THE SECOND FORM's CARD OF 'weepholelaw05.RupSound'. -/
def rupSoundUptoCard : Claim7 := { stood := { row := rupSoundUptoRow, standIns := [], harness := (true, "e50340f90fdbd52b96cbc9fa41e741093d1a32db9571278f113cfe7207adca24"), looks := true }, kinds := [], alts := [], laidByText := true, laidKinds := [.data, .data, .data], laidTests := true, laidLooks := .later }
def RupSoundUptoCardSaid : Prop := Claim7.holds Tryd.pinned (.plain (OpenSpec.upto rupSoundSpec)) rupSoundUptoCard

/-- THE SECOND FORM's CARD OF 'weepholelaw05.RupOwn'. -/
def rupOwnUptoCard : Claim7 := { stood := { row := rupOwnUptoRow, standIns := [], harness := (true, "e50340f90fdbd52b96cbc9fa41e741093d1a32db9571278f113cfe7207adca24"), looks := true }, kinds := [], alts := [], laidByText := true, laidKinds := [.data, .data, .data], laidTests := true, laidLooks := .later }
def RupOwnUptoCardSaid : Prop := Claim7.holds Tryd.pinned (.plain (OpenSpec.upto rupOwnSpec)) rupOwnUptoCard

/-- THE SECOND FORM's CARD OF 'weepholelaw05.RupMore'. -/
def rupMoreUptoCard : Claim7 := { stood := { row := rupMoreUptoRow, standIns := [], harness := (true, "e50340f90fdbd52b96cbc9fa41e741093d1a32db9571278f113cfe7207adca24"), looks := true }, kinds := [], alts := [], laidByText := true, laidKinds := [.data, .data, .data], laidTests := true, laidLooks := .later }
def RupMoreUptoCardSaid : Prop := Claim7.holds Tryd.pinned (.plain (OpenSpec.upto rupMoreSpec)) rupMoreUptoCard

/-- THE SECOND FORM's CARD OF 'weepholelaw05.RupPrefix'. -/
def rupPrefixUptoCard : Claim7 := { stood := { row := rupPrefixUptoRow, standIns := [], harness := (true, "e50340f90fdbd52b96cbc9fa41e741093d1a32db9571278f113cfe7207adca24"), looks := true }, kinds := [], alts := [], laidByText := true, laidKinds := [.data, .data, .data], laidTests := true, laidLooks := .later }
def RupPrefixUptoCardSaid : Prop := Claim7.holds Tryd.pinned (.plain (OpenSpec.upto rupPrefixSpec)) rupPrefixUptoCard

/-- THE SECOND FORM's CARD OF 'weepholelaw05.RupEmpty'. -/
def rupEmptyUptoCard : Claim7 := { stood := { row := rupEmptyUptoRow, standIns := [], harness := (true, "e50340f90fdbd52b96cbc9fa41e741093d1a32db9571278f113cfe7207adca24"), looks := true }, kinds := [], alts := [], laidByText := true, laidKinds := [.data, .data, .data], laidTests := true, laidLooks := .later }
def RupEmptyUptoCardSaid : Prop := Claim7.holds Tryd.pinned (.plain (OpenSpec.upto rupEmptySpec)) rupEmptyUptoCard
end Rows
end Go.Proofs.YtfhodbnhaaiceaaDoor
