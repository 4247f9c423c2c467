/-
  DERIVED. GIVEN WITH THE SEED: THE CARDS: each row of YteefjcllbnmegaaDoorRows.lean that lists a variable, with what it lists TIED to the program's text (the seventh form; the later family's looks); each row that meets fmt, with fmt's text TOLD by the authors' own Lean function (tested against real Go, not proved from fmt's source: count such statements apart). THE CARD IS WHAT COUNTS. Prove the row's statement (the work); the ties are given (YteefjcllbnmegaaDoorTie.lean); close each card by the builder's one call (the guide's Derived/Test/ToyasCard.lean, 'card_holds'). Laid BY PROGRAM, IN A SANDBOX (cutbox-door.mjs). By AI agents, Wed Nov 11 2026. No macro, syntax, notation, axiom, sorry.
-/
import Derived.Test.YteefjcllbnmegaaDoorRows
import GoSem.ClaimSeven
namespace Go.Proofs.YteefjcllbnmegaaDoor
namespace Rows

/-- THE TIED CARD OF 'lockagelaw06.HeadText'. -/
def headTextCard : Claim7 := { stood := { row := headTextRow, standIns := [], harness := (true, "a874ed947539fa5bf2ee78523c89b8ee9bf5c99c9958dc1c03bcb13de0d60fd6"), looks := false }, kinds := [], alts := [], laidByText := true, laidKinds := [.data, .data, .data, .data, .pinned], laidTests := true, laidLooks := .later }
def HeadTextCardSaid : Prop := Claim7.holds Tryd.pinned (.plain (OpenSpec.ofChange headTextSpec)) headTextCard

/-- THE TIED CARD OF 'lockagelaw06.HeadAny'. -/
def headAnyCard : Claim7 := { stood := { row := headAnyRow, standIns := [], harness := (true, "a874ed947539fa5bf2ee78523c89b8ee9bf5c99c9958dc1c03bcb13de0d60fd6"), looks := false }, kinds := [], alts := [], laidByText := true, laidKinds := [.data, .data, .data, .data, .pinned], laidTests := true, laidLooks := .later }
def HeadAnyCardSaid : Prop := Claim7.holds Tryd.pinned (.plain (OpenSpec.ofChange headAnySpec)) headAnyCard

/-- THE TIED CARD OF 'lockagelaw06.HeadBack'. -/
def headBackCard : Claim7 := { stood := { row := headBackRow, standIns := [], harness := (true, "a874ed947539fa5bf2ee78523c89b8ee9bf5c99c9958dc1c03bcb13de0d60fd6"), looks := false }, kinds := [], alts := [], laidByText := true, laidKinds := [.data, .data, .data, .data, .pinned], laidTests := true, laidLooks := .later }
def HeadBackCardSaid : Prop := Claim7.holds Tryd.pinned (.plain (OpenSpec.ofChange headBackSpec)) headBackCard

/-- THE TIED CARD OF 'lockagelaw06.HeadRight'. -/
def headRightCard : Claim7 := { stood := { row := headRightRow, standIns := [], harness := (true, "a874ed947539fa5bf2ee78523c89b8ee9bf5c99c9958dc1c03bcb13de0d60fd6"), looks := false }, kinds := [], alts := [], laidByText := true, laidKinds := [.data, .data, .data, .data, .pinned], laidTests := true, laidLooks := .later }
def HeadRightCardSaid : Prop := Claim7.holds Tryd.pinned (.plain (OpenSpec.ofChange headRightSpec)) headRightCard

/-- THE SECOND FORM's CARD OF 'lockagelaw06.HeadText'. -/
def headTextUptoCard : Claim7 := { stood := { row := headTextUptoRow, standIns := [], harness := (true, "a874ed947539fa5bf2ee78523c89b8ee9bf5c99c9958dc1c03bcb13de0d60fd6"), looks := false }, kinds := [], alts := [], laidByText := true, laidKinds := [.data, .data, .data, .data, .pinned], laidTests := true, laidLooks := .later }
def HeadTextUptoCardSaid : Prop := Claim7.holds Tryd.pinned (.plain (OpenSpec.upto headTextSpec)) headTextUptoCard

/-- THE SECOND FORM's CARD OF 'lockagelaw06.HeadAny'. -/
def headAnyUptoCard : Claim7 := { stood := { row := headAnyUptoRow, standIns := [], harness := (true, "a874ed947539fa5bf2ee78523c89b8ee9bf5c99c9958dc1c03bcb13de0d60fd6"), looks := false }, kinds := [], alts := [], laidByText := true, laidKinds := [.data, .data, .data, .data, .pinned], laidTests := true, laidLooks := .later }
def HeadAnyUptoCardSaid : Prop := Claim7.holds Tryd.pinned (.plain (OpenSpec.upto headAnySpec)) headAnyUptoCard

/-- THE SECOND FORM's CARD OF 'lockagelaw06.HeadBack'. -/
def headBackUptoCard : Claim7 := { stood := { row := headBackUptoRow, standIns := [], harness := (true, "a874ed947539fa5bf2ee78523c89b8ee9bf5c99c9958dc1c03bcb13de0d60fd6"), looks := false }, kinds := [], alts := [], laidByText := true, laidKinds := [.data, .data, .data, .data, .pinned], laidTests := true, laidLooks := .later }
def HeadBackUptoCardSaid : Prop := Claim7.holds Tryd.pinned (.plain (OpenSpec.upto headBackSpec)) headBackUptoCard

/-- THE SECOND FORM's CARD OF 'lockagelaw06.HeadRight'. -/
def headRightUptoCard : Claim7 := { stood := { row := headRightUptoRow, standIns := [], harness := (true, "a874ed947539fa5bf2ee78523c89b8ee9bf5c99c9958dc1c03bcb13de0d60fd6"), looks := false }, kinds := [], alts := [], laidByText := true, laidKinds := [.data, .data, .data, .data, .pinned], laidTests := true, laidLooks := .later }
def HeadRightUptoCardSaid : Prop := Claim7.holds Tryd.pinned (.plain (OpenSpec.upto headRightSpec)) headRightUptoCard
end Rows
end Go.Proofs.YteefjcllbnmegaaDoor
