/-
  The law WheelAny of the program at this commit: for every input it returns true, and its arguments read as before. No condition.
-/
import Derived.Test.YtncbfkoldllbpaaAnyP
import Derived.Test.YtncbfkoldllbpaaPi
namespace Go.Proofs.Ytncbfkoldllbpaa

theorem wheel_any_proved : Rows.WheelAnySaid := wheel_any_holds p4n.p4

end Go.Proofs.Ytncbfkoldllbpaa
