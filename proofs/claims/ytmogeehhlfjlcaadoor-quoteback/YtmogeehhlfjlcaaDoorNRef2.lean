/-
  The walk of the document's own Parse.
-/
import Derived.Test.YtmogeehhlfjlcaaDoorNRef
namespace Go.Proofs.YtmogeehhlfjlcaaDoor.Nm
open Go.RowKit

/-- the byte at a place -/
abbrev by_ (s : ByteArray) (k : Nat) : Nat := (s.data[k]?.getD 0).toNat

theorem digs_iff {s : ByteArray} {base : Int} : digsN base s.data.toList = true ↔ ∀ k, k < s.size → 0 ≤ valN (by_ s k) base := by
  unfold digsN
  rw [List.all_eq_true]
  constructor
  · intro h k hk
    have hk' : k < s.data.toList.length := by simpa using hk
    have := h _ (List.getElem_mem hk')
    simp only [decide_eq_true_eq] at this
    have e : s.data[k]?.getD 0 = s.data.toList[k] := by
      rw [← Array.getElem?_toList, List.getElem?_eq_getElem hk']
      rfl
    rw [by_, e]
    exact this
  · intro h c hc
    obtain ⟨k, hk, rfl⟩ := List.mem_iff_getElem.1 hc
    have := h k (by simpa using hk)
    have e : s.data[k]?.getD 0 = s.data.toList[k] := by
      rw [← Array.getElem?_toList, List.getElem?_eq_getElem hk]
      rfl
    rw [by_, e] at this
    simpa using this

theorem take_succ {s : ByteArray} {k : Nat} (hk : k < s.size) : s.data.toList.take (k + 1) = s.data.toList.take k ++ [s.data[k]?.getD 0] := by
  have hk' : k < s.data.toList.length := by simpa using hk
  rw [List.take_add_one, List.getElem?_eq_getElem hk', ← Array.getElem?_toList, List.getElem?_eq_getElem hk']
  rfl

/-- the number of the first bytes is no more than that of all -/
theorem num_le {s : ByteArray} {base : Int} (hb : 1 ≤ base) (hd : digsN base s.data.toList = true) (k : Nat) : 0 ≤ numN base 0 (s.data.toList.take k) ∧ numN base 0 (s.data.toList.take k) ≤ numN base 0 s.data.toList := by
  have h : digsN base (s.data.toList.take k ++ s.data.toList.drop k) = true := by rw [List.take_append_drop]; exact hd
  rw [digs_app, Bool.and_eq_true] at h
  have h1 := num_ge hb _ 0 (by omega) h.1
  refine ⟨h1, ?_⟩
  have h2 := num_ge hb _ _ h1 h.2
  rw [← num_app, List.take_append_drop] at h2
  exact h2

theorem at_by {s : ByteArray} {k : Nat} (hk : k < s.size) : s[k].toNat = by_ s k := by
  have hk' : k < s.data.size := hk
  rw [by_, Array.getElem?_eq_getElem hk']
  rfl

end Go.Proofs.YtmogeehhlfjlcaaDoor.Nm
