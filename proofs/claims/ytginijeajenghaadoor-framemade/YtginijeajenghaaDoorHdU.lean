/-
  Words for heads in memory, for rows that grow, and for texts.
-/
import Derived.Test.YtginijeajenghaaDoorHdA
namespace Go.Proofs.YtginijeajenghaaDoor
open Go.RowKit


theorem Box.set6 {w : World} {g : Nat} {ty : TypeId} {a b c d e f : Value} (h : Box w g ty #[a, b, c, d, e, f]) (u0 u1 u2 u3 u4 u5 : Value) :
    Box ((((((w.setCell ⟨g, 0, none⟩ u0).setCell ⟨g, 1, none⟩ u1).setCell ⟨g, 2, none⟩ u2).setCell ⟨g, 3, none⟩ u3).setCell ⟨g, 4, none⟩ u4).setCell ⟨g, 5, none⟩ u5) g ty #[u0, u1, u2, u3, u4, u5] := by
  have := (((((h.set 0 u0).set 1 u1).set 2 u2).set 3 u3).set 4 u4).set 5 u5
  simpa using this
theorem below_set6 {B : Nat} {a w : World} (h : Below B a w) {g : Nat} (hg : B ≤ g) (u0 u1 u2 u3 u4 u5 : Value) :
    Below B a ((((((w.setCell ⟨g, 0, none⟩ u0).setCell ⟨g, 1, none⟩ u1).setCell ⟨g, 2, none⟩ u2).setCell ⟨g, 3, none⟩ u3).setCell ⟨g, 4, none⟩ u4).setCell ⟨g, 5, none⟩ u5) :=
  (((((h.setCell (p := ⟨g, 0, none⟩) hg _).setCell (p := ⟨g, 1, none⟩) hg _).setCell (p := ⟨g, 2, none⟩) hg _).setCell (p := ⟨g, 3, none⟩) hg _).setCell (p := ⟨g, 4, none⟩) hg _).setCell (p := ⟨g, 5, none⟩) hg _

/-- a row of the call's own that grows -/
structure Out (e : TypeId) (sz : Nat) (w wr : World) (s : Sli) (cs : List Value) : Prop where
  row : Row wr w.heap.size e sz s cs
  hb : Below w.heap.size w wr
section
variable {e : TypeId} {sz : Nat} {w wr w' : World} {s : Sli} {cs : List Value}
theorem Out.le (h : Out e sz w wr s cs) : w.heap.size ≤ wr.heap.size := h.hb.size
theorem Out.up (h : Out e sz w wr s cs) (hb : Below wr.heap.size wr w') : Out e sz w w' s cs := ⟨h.row.up hb, bon h.hb hb⟩
theorem Out.nil (e : TypeId) (sz : Nat) (w wr : World) (hb : Below w.heap.size w wr) : Out e sz w wr ⟨none, 0, 0⟩ [] := ⟨World.ownsRow_nil _ _ _ _, hb⟩
theorem Out.app (h : Out e sz w wr s cs) {A : Option Addr} {n c : Nat} {cs' : List Value} (h1 : w'.ownsRow w.heap.size e sz (.slice A n c) n cs') (h2 : wr.grownBy w' (Value.slice s.A s.n s.c).ownBlock) : Out e sz w w' ⟨A, n, c⟩ cs' :=
  ⟨h1, grown_base h.row h2 h.hb (Nat.le_refl _) h.le⟩
end
/-- texts are handed back -/
def StrsEnds (ls : List Bs) (w : World) (e : Ending) (w' : World) : Prop := ∃ (s : Sli) (xs : List ByteArray), e = .returned (.slice s.A s.n s.c) ∧ xs.map dl = ls ∧ Ss w' s xs ∧ Below w.heap.size w w'

theorem drop_cons {s : ByteArray} {k : Nat} (hk : k < s.size) : (dl s).drop k = s[k] :: (dl s).drop (k + 1) := by
  have h := dl_at hk
  obtain ⟨h1, h2⟩ := List.getElem?_eq_some_iff.1 h
  rw [List.drop_eq_getElem_cons h1, h2]
theorem ext_succ {s : ByteArray} {f k : Nat} (hf : f ≤ k) (hk : k < s.size) : dl (s.extract f (k + 1)) = dl (s.extract f k) ++ [s[k]] := by
  rw [dl_ext, dl_ext, List.take_add_one, dl_at hk, List.drop_append_of_le_length (by rw [List.length_take, dl_len]; omega)]
  rfl

theorem map_dl_inj {xs ys : List ByteArray} (h : xs.map dl = ys.map dl) : xs = ys := by
  induction xs generalizing ys with
  | nil => cases ys with
    | nil => rfl
    | cons y r => cases h
  | cons x r ih => cases ys with
    | nil => cases h
    | cons y t =>
      simp only [List.map_cons, List.cons.injEq] at h
      rw [dl_inj h.1, ih h.2]

/-- a text, of its bytes -/
abbrev tx (l : Bs) : ByteArray := ⟨l.toArray⟩
theorem Ss.new (w : World) (xs : List ByteArray) (n : Nat) (hn : xs.length = n) (hm : n ≤ 4096) : Ss (w.alloc (.cells (svs xs).toArray 9)) ⟨some ⟨w.heap.size, 0, none⟩, n, n⟩ xs where
  len := hn
  rd _ := ⟨w.heap.size, 0, rfl, by simp, fun j u hu => by rw [Nat.zero_add]; exact (Box.new w 9 (svs xs).toArray).c j (by simpa using hu)⟩
  cap h := by cases h
  le := ⟨Nat.le_refl _, by unfold maxLen; simp only; omega⟩
theorem Fs.new (w : World) (xs : List Fd) (n : Nat) (hn : xs.length = n) (hm : n ≤ 4096) : Fs (w.alloc (.cells (fvs xs).toArray 32)) ⟨some ⟨w.heap.size, 0, none⟩, n, n⟩ xs where
  len := hn
  rd _ := ⟨w.heap.size, 0, rfl, by simp, fun j u hu => by rw [Nat.zero_add]; exact (Box.new w 32 (fvs xs).toArray).c j (by simpa using hu)⟩
  cap h := by cases h
  le := ⟨Nat.le_refl _, by unfold maxLen; simp only; omega⟩
/-- a text told by its bytes -/
theorem tx_of {s : ByteArray} {l : Bs} (h : dl s = l) : s = tx l := dl_inj (h.trans (dl_mk l).symm)
theorem txs_of {xs : List ByteArray} {ls : List Bs} (h : xs.map dl = ls) : xs = ls.map tx := map_dl_inj (by rw [h, List.map_map]; exact (List.map_id' ls).symm.trans (List.map_congr_left fun l _ => (dl_mk l).symm))



theorem info_parts {P : Program} {t : TypeId} {z : Value} {n b : Nat} (h : (P.info? t).map (fun i => (i.zero, i.size, i.bytes)) = some (some z, n, b)) : ∃ i, P.info? t = some i ∧ i.zero = some z ∧ i.size = n ∧ i.bytes = b := by
  cases hi : P.info? t with
  | none => rw [hi] at h; cases h
  | some i =>
    rw [hi] at h
    simp only [Option.map_some, Option.some.injEq, Prod.mk.injEq] at h
    exact ⟨i, rfl, h.1, h.2.1, h.2.2⟩

theorem Box.set5 {w : World} {g : Nat} {ty : TypeId} {a b c d e f : Value} (h : Box w g ty #[a, b, c, d, e, f]) (u : Value) : Box (w.setCell ⟨g, 5, none⟩ u) g ty #[a, b, c, d, e, u] := by
  have := h.set 5 u
  simpa using this

/-- a store elsewhere leaves the fields as they are -/
theorem Fs.set {w : World} {S : Sli} {fs : List Fd} (h : Fs w S fs) {p : Addr} (hn : ∀ ad, S.A = some ad → ad.block ≠ p.block) (v : Value) : Fs (w.setCell p v) S fs := by
  refine ⟨h.len, fun hx => ?_, h.cap, h.le⟩
  obtain ⟨b, o, hA, hl, hc⟩ := h.rd hx
  have hb : b ≠ p.block := hn ⟨b, o, none⟩ hA
  refine ⟨b, o, hA, by simpa using hl, fun j u hu => ?_⟩
  rw [World.cell?_setCell_other (h := fun e => hb (by rw [e]))]
  exact hc j u hu
theorem Fs.set6 {w : World} {S : Sli} {fs : List Fd} (h : Fs w S fs) {g : Nat} (hn : ∀ ad, S.A = some ad → ad.block ≠ g) (u0 u1 u2 u3 u4 u5 : Value) :
    Fs ((((((w.setCell ⟨g, 0, none⟩ u0).setCell ⟨g, 1, none⟩ u1).setCell ⟨g, 2, none⟩ u2).setCell ⟨g, 3, none⟩ u3).setCell ⟨g, 4, none⟩ u4).setCell ⟨g, 5, none⟩ u5) S fs :=
  (((((h.set (p := ⟨g, 0, none⟩) hn u0).set (p := ⟨g, 1, none⟩) hn u1).set (p := ⟨g, 2, none⟩) hn u2).set (p := ⟨g, 3, none⟩) hn u3).set (p := ⟨g, 4, none⟩) hn u4).set (p := ⟨g, 5, none⟩) hn u5

end Go.Proofs.YtginijeajenghaaDoor
