/-
  The law WheelMade of the program at this commit: for every input it returns true, and its arguments read as before. No condition.
-/
import Derived.Test.YtncbfkoldllbpaaMadeP
import Derived.Test.YtncbfkoldllbpaaPi
namespace Go.Proofs.Ytncbfkoldllbpaa

theorem wheel_made_proved : Rows.WheelMadeSaid := wheel_made_holds p4n.p4

end Go.Proofs.Ytncbfkoldllbpaa
