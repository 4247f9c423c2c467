/-
  Texts as lists of bytes.
-/
import Derived.Test.YtmogeehhlfjlcaaDoorWords
import Derived.Test.YtmogeehhlfjlcaaDoorQm
namespace Go.Proofs.YtmogeehhlfjlcaaDoor
open Go.RowKit
/-- a text of those bytes -/
def tb (l : Bs) : ByteArray := ⟨l.toArray⟩
theorem dl_tb (l : Bs) : dl (tb l) = l := dl_mk l
theorem tb_dl (s : ByteArray) : tb (dl s) = s := dl_inj (dl_mk _)
theorem tb_of {s : ByteArray} {l : Bs} (h : dl s = l) : s = tb l := by rw [← h, tb_dl]
theorem tb_size (l : Bs) : (tb l).size = l.length := by rw [← dl_len, dl_tb]
theorem tb_app (a b : Bs) : tb a ++ tb b = tb (a ++ b) := dl_inj (by rw [dl_app, dl_tb, dl_tb, dl_tb])
theorem tb_nil : tb [] = ⟨#[]⟩ := rfl
theorem tb_ext (l : Bs) (i j : Nat) : (tb l).extract i j = tb ((l.take j).drop i) := dl_inj (by rw [dl_ext, dl_tb, dl_tb])
end Go.Proofs.YtmogeehhlfjlcaaDoor
