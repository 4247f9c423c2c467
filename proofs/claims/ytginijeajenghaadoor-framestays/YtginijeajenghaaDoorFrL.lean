/-
  Frames as lists alone: what the fields tell, what a request and an answer tell, and whether the connection stays.
-/
import Derived.Test.YtginijeajenghaaDoorRefI
namespace Go.Proofs.YtginijeajenghaaDoor
open Go.RowKit

def teN : ByteArray := ⟨#[116, 114, 97, 110, 115, 102, 101, 114, 45, 101, 110, 99, 111, 100, 105, 110, 103]⟩
def clN : ByteArray := ⟨#[99, 111, 110, 116, 101, 110, 116, 45, 108, 101, 110, 103, 116, 104]⟩
def cnN : ByteArray := ⟨#[99, 111, 110, 110, 101, 99, 116, 105, 111, 110]⟩
def chkB : Bs := [99, 104, 117, 110, 107, 101, 100]
def cloB : Bs := [99, 108, 111, 115, 101]
def kaB : Bs := [107, 101, 101, 112, 45, 97, 108, 105, 118, 101]
/-- what one length tells -/
def lenN (l : Bs) : Int × Int × Int :=
  if (parseN l 10).2 = 1 then (0, 0, 22) else if (parseN l 10).2 ≠ 0 ∨ 4000 < (parseN l 10).1 then (0, 0, 2) else (2, (parseN l 10).1, 0)
def hd1 (t : List ByteArray) : ByteArray := t.headD ⟨#[]⟩
def chunkN (t : List ByteArray) : Int × Int × Int := if t.length = 1 ∧ lowerL (dl (hd1 t)) = chkB then (3, 0, 0) else (0, 0, 22)
def sizN (t : List ByteArray) : Int × Int × Int := if t.length = 1 then lenN (dl (hd1 t)) else (0, 0, 22)
/-- what the fields tell -/
def framedN (t c : List ByteArray) (mi : Int) : Int × Int × Int :=
  if 0 < t.length then (if 0 < c.length ∨ mi = 0 then (0, 0, 22) else chunkN t) else if 0 < c.length then sizN c else (0, 0, 0)
def frH (fs : List Fd) (mi : Int) : Int × Int × Int := framedN (getL fs teN) (getL fs clN) mi
/-- what a request tells -/
def reqF (b : Bool) (f : Int × Int × Int) : Int × Int × Int := if b = false then (0, 0, 1) else if f.2.2 ≠ 0 then (0, 0, f.2.2) else if f.1 = 0 then (1, 0, 0) else f
def bareB (st : Int) (mt : Bs) : Bool := decide (mt = [72, 69, 65, 68]) || decide (st < 200) || decide (st = 204) || decide (st = 304)
/-- what an answer tells -/
def ansF (b : Bool) (q : Bool) (f : Int × Int × Int) : Int × Int × Int := if b = false then (0, 0, 1) else if f.2.2 ≠ 0 then (0, 0, f.2.2) else if q = true then (1, 0, 0) else if f.1 = 0 then (4, 0, 0) else f
/-- the items of all texts -/
def itemsF (xs : List ByteArray) : List Bs := xs.flatMap fun x => itemsL (dl x)
def staysN (its : List Bs) (mi : Int) : Bool := if its.contains cloB = true then false else its.contains kaB || decide (mi = 1)
def staysH (fs : List Fd) (mi : Int) : Bool := staysN (itemsF (getL fs cnN)) mi

/-- frames that fields may tell: an error, nothing, or a frame -/
def OkF (f : Int × Int × Int) : Prop := (f.1 = 0 ∧ f.2.1 = 0) ∨ (f.2.2 = 0 ∧ (f.1 = 3 ∧ f.2.1 = 0 ∨ f.1 = 2 ∧ 0 ≤ f.2.1 ∧ f.2.1 ≤ 4000))
theorem num_pos {base : Int} (hb : 1 ≤ base) (s : List UInt8) (h : digsN base s = true) : 0 ≤ numN base 0 s := num_ge hb s 0 (Int.le_refl _) h
theorem parse_zero (l : Bs) : (parseN l 10).2 = 0 → 0 ≤ (parseN l 10).1 := by
  unfold parseN
  split
  · rename_i h
    split
    · intro _
      exact num_pos (by decide) l (by simp at h; exact h.2)
    · intro h; cases h
  · intro h; cases h
theorem len_ok (l : Bs) : OkF (lenN l) := by
  unfold lenN
  by_cases h1 : (parseN l 10).2 = 1
  · rw [if_pos h1]; exact .inl ⟨rfl, rfl⟩
  · rw [if_neg h1]
    by_cases h2 : (parseN l 10).2 ≠ 0 ∨ 4000 < (parseN l 10).1
    · rw [if_pos h2]; exact .inl ⟨rfl, rfl⟩
    · rw [if_neg h2]
      have h0 : (parseN l 10).2 = 0 := Classical.not_not.1 fun h => h2 (.inl h)
      have hp := parse_zero l h0
      exact .inr ⟨rfl, .inr ⟨rfl, hp, by show (parseN l 10).1 ≤ 4000; omega⟩⟩
theorem framed_ok (t c : List ByteArray) (mi : Int) : OkF (framedN t c mi) := by
  unfold framedN chunkN sizN
  repeat' split
  all_goals first
    | exact .inl ⟨rfl, rfl⟩
    | exact .inr ⟨rfl, .inl ⟨rfl, rfl⟩⟩
    | exact len_ok _
theorem frH_ok (fs : List Fd) (mi : Int) : OkF (frH fs mi) := framed_ok _ _ _
theorem getL_name {fs : List Fd} {a b : ByteArray} (h : lowerL (dl a) = lowerL (dl b)) : getL fs a = getL fs b := by
  unfold getL
  rw [h]
theorem getL_mem {fs : List Fd} {a x : ByteArray} (h : x ∈ getL fs a) : ∃ f ∈ fs, f.2 = x := by
  obtain ⟨f, hf, rfl⟩ := List.mem_map.1 h
  exact ⟨f, (List.mem_filter.1 hf).1, rfl⟩
theorem getL_few {fs : List Fd} {a : ByteArray} (h : Few fs) : ∀ x ∈ getL fs a, x.size ≤ 4096 := by
  intro x hx
  obtain ⟨f, hf, rfl⟩ := getL_mem hx
  exact (h f hf).2
theorem getL_len (fs : List Fd) (a : ByteArray) : (getL fs a).length ≤ fs.length := by
  unfold getL
  rw [List.length_map]
  exact List.length_filter_le _ _
theorem hd1_of {t : List ByteArray} {x : ByteArray} (h : t[0]? = some x) : hd1 t = x := by
  cases t with
  | nil => cases h
  | cons y r => simpa [hd1] using h
theorem itemsF_succ {xs : List ByteArray} {k : Nat} {x : ByteArray} (h : xs[k]? = some x) : itemsF (xs.take (k + 1)) = itemsF (xs.take k) ++ itemsL (dl x) := by
  rw [List.take_add_one, h]
  simp [itemsF]

theorem tl_lit {y : ByteArray} {l : List UInt8} (h : dl y ≠ l) : (y.toList == l) = false := beq_eq_false_iff_ne.2 (fun e => h (by rw [← e, Go.ByteArray.toList_eq]))
/-- a frame and an error are handed back -/
def FrEnds (q : Int × Int × Int) (w : World) (e : Ending) (w' : World) : Prop := e = .returned (.tuple #[.agg #[.int .i64 q.1, .int .i64 q.2.1], .int .i64 q.2.2]) ∧ Below w.heap.size w w'
theorem Fr2 {w : World} {g : Nat} {ty : TypeId} {a b : Value} (h : Box w g ty #[a, b]) : w.cell? ⟨g, 0, none⟩ = some a ∧ w.cell? ⟨g, 1, none⟩ = some b ∧ w.frozen? ⟨g, 0, none⟩ = false ∧ w.frozen? ⟨g, 1, none⟩ = false := ⟨h.c 0 rfl, h.c 1 rfl, h.f 0, h.f 1⟩
theorem ret_fr {a b c : Int} {q : Int × Int × Int} (h : q = (a, b, c)) : Ending.returned (.tuple #[.agg #[.int .i64 a, .int .i64 b], .int .i64 c]) = .returned (.tuple #[.agg #[.int .i64 q.1, .int .i64 q.2.1], .int .i64 q.2.2]) := by rw [h]
end Go.Proofs.YtginijeajenghaaDoor
