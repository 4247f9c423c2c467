/-
  DERIVED. GIVEN WITH THE SEED: THE CARDS: each row of YtnkhghjcfhpeiaaGreatDoorRows.lean that lists a variable, with what it lists TIED to the program's text (the seventh form; the later family's looks); each row that meets fmt, with fmt's text TOLD by the authors' own Lean function (tested against real Go, not proved from fmt's source: count such statements apart). THE CARD IS WHAT COUNTS. Prove the row's statement (the work); the ties are given (YtnkhghjcfhpeiaaGreatDoorTie.lean); close each card by the builder's one call (the guide's Derived/Test/ToyasCard.lean, 'card_holds'). Laid BY PROGRAM, IN A SANDBOX (cutbox-door.mjs). By AI agents, Wed Nov 11 2026. No macro, syntax, notation, axiom, sorry.
-/
import Derived.Test.YtnkhghjcfhpeiaaGreatDoorRows
import GoSem.ClaimSeven
namespace Go.Proofs.YtnkhghjcfhpeiaaGreatDoor
namespace Rows

/-- THE TIED CARD OF 'lockagelaw11.JsonAny'. -/
def jsonAnyCard : Claim7 := { stood := { row := jsonAnyRow, standIns := [], harness := (true, "b4765a16cbfffc7caa6f7115382d327629977ae4df1c5132d2f7d99c008be146"), looks := true }, kinds := [], alts := [], laidByText := true, laidKinds := [.data, .data, .data, .data, .pinned], laidTests := true, laidLooks := .later }
def JsonAnyCardSaid : Prop := Claim7.holds Tryz.pinned (.plain (OpenSpec.ofChange jsonAnySpec)) jsonAnyCard

/-- THE TIED CARD OF 'lockagelaw11.JsonDeep'. -/
def jsonDeepCard : Claim7 := { stood := { row := jsonDeepRow, standIns := [], harness := (true, "b4765a16cbfffc7caa6f7115382d327629977ae4df1c5132d2f7d99c008be146"), looks := true }, kinds := [], alts := [], laidByText := true, laidKinds := [.data, .data, .data, .data, .pinned], laidTests := true, laidLooks := .later }
def JsonDeepCardSaid : Prop := Claim7.holds Tryz.pinned (.plain (OpenSpec.ofChange jsonDeepSpec)) jsonDeepCard

/-- THE TIED CARD OF 'lockagelaw11.JsonBack'. -/
def jsonBackCard : Claim7 := { stood := { row := jsonBackRow, standIns := [], harness := (true, "b4765a16cbfffc7caa6f7115382d327629977ae4df1c5132d2f7d99c008be146"), looks := true }, kinds := [], alts := [], laidByText := true, laidKinds := [.data, .data, .data, .data, .pinned], laidTests := true, laidLooks := .later }
def JsonBackCardSaid : Prop := Claim7.holds Tryz.pinned (.plain (OpenSpec.ofChange jsonBackSpec)) jsonBackCard

/-- THE TIED CARD OF 'lockagelaw11.JsonRight'. -/
def jsonRightCard : Claim7 := { stood := { row := jsonRightRow, standIns := [], harness := (true, "b4765a16cbfffc7caa6f7115382d327629977ae4df1c5132d2f7d99c008be146"), looks := true }, kinds := [], alts := [], laidByText := true, laidKinds := [.data, .data, .data, .data, .pinned], laidTests := true, laidLooks := .later }
def JsonRightCardSaid : Prop := Claim7.holds Tryz.pinned (.plain (OpenSpec.ofChange jsonRightSpec)) jsonRightCard

/-- THE SECOND FORM's CARD OF 'lockagelaw11.JsonAny'. -/
def jsonAnyUptoCard : Claim7 := { stood := { row := jsonAnyUptoRow, standIns := [], harness := (true, "b4765a16cbfffc7caa6f7115382d327629977ae4df1c5132d2f7d99c008be146"), looks := true }, kinds := [], alts := [], laidByText := true, laidKinds := [.data, .data, .data, .data, .pinned], laidTests := true, laidLooks := .later }
def JsonAnyUptoCardSaid : Prop := Claim7.holds Tryz.pinned (.plain (OpenSpec.upto jsonAnySpec)) jsonAnyUptoCard

/-- THE SECOND FORM's CARD OF 'lockagelaw11.JsonDeep'. -/
def jsonDeepUptoCard : Claim7 := { stood := { row := jsonDeepUptoRow, standIns := [], harness := (true, "b4765a16cbfffc7caa6f7115382d327629977ae4df1c5132d2f7d99c008be146"), looks := true }, kinds := [], alts := [], laidByText := true, laidKinds := [.data, .data, .data, .data, .pinned], laidTests := true, laidLooks := .later }
def JsonDeepUptoCardSaid : Prop := Claim7.holds Tryz.pinned (.plain (OpenSpec.upto jsonDeepSpec)) jsonDeepUptoCard

/-- THE SECOND FORM's CARD OF 'lockagelaw11.JsonBack'. -/
def jsonBackUptoCard : Claim7 := { stood := { row := jsonBackUptoRow, standIns := [], harness := (true, "b4765a16cbfffc7caa6f7115382d327629977ae4df1c5132d2f7d99c008be146"), looks := true }, kinds := [], alts := [], laidByText := true, laidKinds := [.data, .data, .data, .data, .pinned], laidTests := true, laidLooks := .later }
def JsonBackUptoCardSaid : Prop := Claim7.holds Tryz.pinned (.plain (OpenSpec.upto jsonBackSpec)) jsonBackUptoCard

/-- THE SECOND FORM's CARD OF 'lockagelaw11.JsonRight'. -/
def jsonRightUptoCard : Claim7 := { stood := { row := jsonRightUptoRow, standIns := [], harness := (true, "b4765a16cbfffc7caa6f7115382d327629977ae4df1c5132d2f7d99c008be146"), looks := true }, kinds := [], alts := [], laidByText := true, laidKinds := [.data, .data, .data, .data, .pinned], laidTests := true, laidLooks := .later }
def JsonRightUptoCardSaid : Prop := Claim7.holds Tryz.pinned (.plain (OpenSpec.upto jsonRightSpec)) jsonRightUptoCard
end Rows
end Go.Proofs.YtnkhghjcfhpeiaaGreatDoor
