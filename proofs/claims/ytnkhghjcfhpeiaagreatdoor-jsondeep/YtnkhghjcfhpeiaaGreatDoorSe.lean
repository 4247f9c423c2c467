/-
  The document's own Right and Print, as the laws of json ask.
-/
import Derived.Test.YtnkhghjcfhpeiaaGreatDoorJSc
import Derived.Test.YtnkhghjcfhpeiaaGreatDoorJI
namespace Go.Proofs.YtnkhghjcfhpeiaaGreatDoor
open Go.RowKit
theorem rpr : RPR := fun v _ _ W hw hv _ => rright11_any anyB v _ W (by omega) hv
theorem rpp : RPP := fun v _ _ W hw hv _ => rprint11_any anyB v _ W (by omega) hv
end Go.Proofs.YtnkhghjcfhpeiaaGreatDoor
