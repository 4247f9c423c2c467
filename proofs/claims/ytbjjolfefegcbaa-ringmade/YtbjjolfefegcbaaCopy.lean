/-
  The builtin copy onto a block that is known whole, from a slice and from a string: how many bytes go over, and what the block then holds.
-/
import Derived.Test.YtbjjolfefegcbaaParts
import Derived.Laws.CopyRow
import Derived.Laws.IdiomCopy
import Derived.Lib.BufferWrite
import Derived.Laws.IdiomStrings
import Derived.Laws.BytesArg
namespace Go.Proofs.Ytbjjolfefegcbaa
open Go.RowKit

theorem spl_map (L : List UInt8) (sp : List Value) (o : Nat) (cs : List UInt8) (h : o + cs.length ≤ L.length) : spl (L.map bv ++ sp) o (cs.map bv) = (spl L o cs).map bv ++ sp := by
  unfold spl
  rw [List.take_append_of_le_length (by simp; omega), List.drop_append_of_le_length (by simp; omega)]
  simp [List.map_take, List.map_drop]

theorem size5 : (Try.prog.info? 5).map (·.size) = some 1 := by kernel_rfl

theorem grown_setRow (W : World) (g : Nat) (cs : Array Value) : W.grownBy (W.setRow g cs) (some g) :=
  ⟨rfl, rfl, rfl, by simp [World.setRow], fun k _ hk => setRow_other W g k cs (fun e => hk (by rw [e]))⟩

/-- the cells of a block: bytes, and whatever lies behind them -/
def cellsOf (L : List UInt8) (sp : List Value) : Array Value := (L.map bv ++ sp).toArray

theorem spl_cells (cur cs : List UInt8) (sp : List Value) (o : Nat) (h : o + cs.length ≤ cur.length) :
    ((cellsOf cur sp).toList.take o ++ cs.map bv ++ (cellsOf cur sp).toList.drop (o + (cs.map bv).length)).toArray = cellsOf (spl cur o cs) sp := by
  unfold cellsOf
  rw [← spl_map cur sp o cs h]
  simp [spl]

theorem copy_slice (W : World) (ty : TypeId) (g o dl dc b so sc : Nat) (dp : Option Addr) (cur src : List UInt8) (sp : List Value) (hg : Box W g 5 (cellsOf cur sp))
    (hd : 0 < dl → dp = some ⟨g, o, none⟩) (hs : ∀ j, j < src.length → W.cell? ⟨b, so + j, none⟩ = some (bv (src[j]?.getD 0))) (hfit : o + (src.take dl).length ≤ cur.length) :
    ∃ W', (Builtin.copy_ #[22, 22] ty #[.slice dp dl dc, .slice (some ⟨b, so, none⟩) src.length sc]).run Try.prog W = .ok (.int .i64 ((src.take dl).length : Int)) W' ∧
      Box W' g 5 (cellsOf (spl cur o (src.take dl)) sp) ∧ W.grownBy W' (some g) := by
  by_cases h0 : (src.take dl).length = 0
  · refine ⟨W, ?_, ?_, World.grownBy.refl W _⟩
    · rw [h0]
      exact run_copy_none (P := Try.prog) W 22 22 ty 5 dp (some ⟨b, so, none⟩) dl dc src.length sc Try.underlying22 size5 (by
        rw [List.length_take] at h0
        show min src.length dl = 0
        omega)
    · rw [List.eq_nil_of_length_eq_zero h0, spl_nil]
      exact hg
  · have hdl : 0 < dl := by
      rcases Nat.eq_zero_or_pos dl with h | h
      · subst h; simp at h0
      · exact h
    rw [hd hdl]
    have hrun := run_copy_row (P := Try.prog) W 22 22 ty 5 g o dl dc ⟨b, so, none⟩ src.length sc (cellsOf cur sp) 5 ((src.take dl).map bv) Try.underlying22 size5 hg
      (by show ((src.take dl).map bv).length = min src.length dl
          rw [List.length_map, List.length_take, Nat.min_comm]) ?_ (by simp [cellsOf] at hfit ⊢; omega) (oneCell_bv _)
    · rw [spl_cells cur (src.take dl) sp o hfit, List.length_map] at hrun
      exact ⟨_, hrun, setRow_heap W g _ _ _ _ hg, grown_setRow _ _ _⟩
    · have hB : Bs W (b + 1) (some ⟨b, so, none⟩) (src.take dl) := fun _ => ⟨b, so, rfl, by omega, fun j hj => by
        have hj' : j < src.length := by simp at hj; omega
        rw [hs j hj', List.getElem?_take, if_pos (by simp at hj; omega)]⟩
      exact hB.add

theorem copy_string (W : World) (ty : TypeId) (g o dl dc : Nat) (cur : List UInt8) (s : ByteArray) (sp : List Value) (hg : Box W g 5 (cellsOf cur sp)) (hfit : o + (s.data.toList.take dl).length ≤ cur.length) :
    ∃ W', (Builtin.copy_ #[22, 9] ty #[.slice (some ⟨g, o, none⟩) dl dc, .string s]).run Try.prog W = .ok (.int .i64 ((s.data.toList.take dl).length : Int)) W' ∧
      Box W' g 5 (cellsOf (spl cur o (s.data.toList.take dl)) sp) ∧ W.grownBy W' (some g) := by
  have hst := run_storeCells_at Try.prog g o 5 ((s.data.toList.take dl).map bv) 0 (cellsOf cur sp) W hg (by simp [cellsOf] at hfit ⊢; omega) (oneCell_bv _)
  have hlen : ((s.data.toList.take dl).map bv).length = min s.size dl := by
    rw [List.length_map, List.length_take, Nat.min_comm, Lib.size_eq]
  have htk : List.take (min s.size dl) (List.map (fun b : UInt8 => Value.int IntKind.u8 (b.toNat : Int)) s.data.toList) = (s.data.toList.take dl).map bv := by
    rw [List.map_take, Nat.min_comm, ← List.take_take, List.take_of_length_le (i := s.size) (by rw [List.length_map, ← Lib.size_eq]; exact Nat.le_refl _)]
    rfl
  simp only [Nat.add_zero] at hst
  rw [spl_cells cur (s.data.toList.take dl) sp o hfit] at hst
  refine ⟨_, ?_, setRow_heap W g _ _ _ _ hg, grown_setRow _ _ (cellsOf (spl cur o (s.data.toList.take dl)) sp)⟩
  have hll : (s.data.toList.take dl).length = min s.size dl := by rw [← hlen, List.length_map]
  cases hq : Try.prog.info? 5 with
  | none => have := size5; simp [hq] at this
  | some i =>
    simp [Builtin.copy_, run_underlying Try.underlying22, Builtin.lenOf, Builtin.firstCells, sizeOf, typeInfo, hq]
    have e1 : s.size.min dl = min s.size dl := rfl
    rw [e1, htk, hst, Nat.min_comm dl]
    rfl

/-- a string, of its bytes -/
def str (l : List UInt8) : Value := .string ⟨l.toArray⟩

theorem conv_any (W : World) (B c : Nat) (A : Option Addr) (l : List UInt8) (hB : Bs W B A l) : (convert 22 9 (.slice A l.length c)).run Try.prog W = .ok (.string ⟨l.toArray⟩) W := by
  cases A with
  | none =>
    have hx : l = [] := by
      rcases Nat.eq_zero_or_pos l.length with h | h
      · exact List.eq_nil_of_length_eq_zero h
      · obtain ⟨b, o, h', _⟩ := hB h
        cases h'
    subst hx
    exact run_convert_bytes_nil (P := Try.prog) W 22 5 Try.underlying22 Try.underlying5 0 c 9 Try.underlying9
  | some a =>
    refine run_convert_bytes_back (P := Try.prog) W 22 9 5 a c l Try.underlying22 Try.underlying5 Try.underlying9 (fun j hj => ?_)
    exact hB.add j _ (by simp [List.getElem?_eq_getElem hj, bv])

end Go.Proofs.Ytbjjolfefegcbaa
