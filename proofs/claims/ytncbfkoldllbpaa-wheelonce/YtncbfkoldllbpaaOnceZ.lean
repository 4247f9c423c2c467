/-
  The law WheelOnce of the program at this commit: for every input it returns true, and its arguments read as before. No condition.
-/
import Derived.Test.YtncbfkoldllbpaaOnceP
import Derived.Test.YtncbfkoldllbpaaPi
namespace Go.Proofs.Ytncbfkoldllbpaa

theorem wheel_once_proved : Rows.WheelOnceSaid := wheel_once_holds p4n

end Go.Proofs.Ytncbfkoldllbpaa
