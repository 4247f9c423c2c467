/-
  Chunks in a box of the call's own: what a call turns there, and what stays; the walks of chunk's own inBody, Right, passData, endChunk, passTrailer and beginChunk.
-/
import Derived.Test.YtaoajilgilbmmaaDoorCkF
import Derived.Test.YtaoajilgilbmmaaDoorCkE
import Derived.Test.YtaoajilgilbmmaaDoorOwnB
import Derived.Test.YtaoajilgilbmmaaDoorNParse
namespace Go.Proofs.YtaoajilgilbmmaaDoor
open Go.RowKit

/-- all blocks that were there, but one, are as they were -/
structure But (g : Nat) (w w' : World) : Prop where
  os : w'.os = w.os
  tape : w'.tape = w.tape
  output : w'.output = w.output
  size : w.heap.size ≤ w'.heap.size
  block : ∀ k, k < w.heap.size → k ≠ g → w'.heap[k]? = w.heap[k]?
theorem But.refl (g : Nat) (w : World) : But g w w := ⟨rfl, rfl, rfl, Nat.le_refl _, fun _ _ _ => rfl⟩
theorem But.on {g : Nat} {w w1 w2 : World} (h : But g w w1) (k : But g w1 w2) : But g w w2 :=
  ⟨k.os.trans h.os, k.tape.trans h.tape, k.output.trans h.output, Nat.le_trans h.size k.size, fun i hi hn => (k.block i (Nat.lt_of_lt_of_le hi h.size) hn).trans (h.block i hi hn)⟩
theorem But.of {g : Nat} {w w' : World} (h : Below w.heap.size w w') : But g w w' := ⟨h.os, h.tape, h.output, h.size, fun k hk _ => h.block k hk⟩
theorem But.set {g : Nat} {w w1 : World} (h : But g w w1) (i : Nat) (v : Value) : But g w (w1.setCell ⟨g, i, none⟩ v) :=
  h.on ⟨rfl, rfl, rfl, by simp [World.setCell], fun k _ hn => Below.heap_setCell _ _ _ _ hn⟩
theorem Box.but {w w' : World} {g k : Nat} {t : TypeId} {cs : Array Value} (h : Box w k t cs) (hb : But g w w') (hk : k ≠ g) : Box w' k t cs := (hb.block k h.lt hk).trans h
theorem Row.but {w w' : World} {B sz g : Nat} {e t : TypeId} {s : Sli} {cs : List Value} {ps : Array Value} (h : Row w B e sz s cs) (hb : But g w w') (hg : Box w g t ps) (ht : t ≠ e) : Row w' B e sz s cs :=
  h.keep fun k _ hk => hb.block k (Array.getElem?_eq_some_iff.1 hk).1 (box_ne hg hk ht)
theorem But.below {g B : Nat} {a w w' : World} (h : Below B a w) (hb : But g w w') (hB : B ≤ g) (hw : B ≤ w.heap.size) : Below B a w' :=
  h.trans ⟨hb.os, hb.tape, hb.output, hb.size, fun k hk => hb.block k (by omega) (by omega)⟩

/-- the chunks in the box are turned to those, and an error is handed back -/
def ActEnds (g : Nat) (q : Ck × Int) (w : World) (e : Ending) (w' : World) : Prop :=
  ∃ n : ByteArray, e = .returned (.int .i64 q.2) ∧ dl n = q.1.ln ∧ Box w' g 54 #[.int .i64 q.1.s, .int .i64 q.1.l, .string n, .int .i64 q.1.m] ∧ But g w w'

set_option maxHeartbeats 400000 in
theorem inBody_any (n : Int) (w : World) : Calls Tryd.prog 19 #[.int .i64 n] w fun e w' => e = .returned (.bool (decide (0 ≤ n ∧ n ≤ 4000))) ∧ w' = w := by
  have hc : (0 ≤ n ∧ n ≤ 4000) ∨ ¬ 0 ≤ n ∨ (0 ≤ n ∧ ¬ n ≤ 4000) := by omega
  obtain ⟨b, hb⟩ : ∃ b, decide (0 ≤ n ∧ n ≤ 4000) = b := ⟨_, rfl⟩
  rw [hb]
  have HB := Lib.hid hb.symm
  clear hb
  rcases hc with ⟨h1, h2⟩ | h1 | ⟨h1, h2⟩
  all_goals
    go_enter Tryd.func19, Tryd.ntmps19
    go_wp2
    go_ret
    exact ⟨ret_bool (by rw [HB.out]; first | exact (decide_eq_true (by omega)).symm | exact (decide_eq_false (by omega)).symm), rfl⟩

set_option maxHeartbeats 2000000 in
theorem cright_any (s l : Int) (ln : ByteArray) (m : Int) (w : World) : Calls Tryd.prog 16 #[.agg #[.int .i64 s, .int .i64 l, .string ln, .int .i64 m]] w (BoolEnds (decide (okC (ckOf s l ln m))) w) := by
  have hemp := isEmp (s := ln)
  have hb0 := ba1 w (.cells #[.int .i64 s, .int .i64 l, .string ln, .int .i64 m] 23)
  have bc := Box.new w 23 #[.int .i64 s, .int .i64 l, .string ln, .int .i64 m]
  obtain ⟨b, hb⟩ : ∃ b, decide (okC (ckOf s l ln m)) = b := ⟨_, rfl⟩
  rw [hb]
  have HB : Hid (b = decide (0 ≤ s ∧ s ≤ 4 ∧ 0 ≤ l ∧ l ≤ 4000 ∧ ln.size ≤ 200 ∧ 0 ≤ m ∧ m ≤ 4000 ∧ (s = 1 ↔ 0 < l) ∧ (ln.size = 0 ∨ (s ≠ 1 ∧ s ≠ 4)))) := Lib.hid (by
    rw [← hb, decide_eq_decide]
    simp only [okC, ckOf, dl_len]
    have : (dl ln = []) ↔ ln.size = 0 := by rw [← dl_len, List.length_eq_zero_iff]
    rw [this])
  clear hb
  obtain ⟨c0, c1, c2, c3⟩ := bc.four
  have hc1 : (s < 0) ∨ (¬ s < 0 ∧ 4 < s) ∨ (¬ s < 0 ∧ ¬ 4 < s ∧ 200 < ln.size) ∨ (¬ s < 0 ∧ ¬ 4 < s ∧ ¬ 200 < ln.size) := by omega
  go_enter Tryd.func16, Tryd.ntmps16
  rcases hc1 with h1 | ⟨h1, h2⟩ | ⟨h1, h2, h3⟩ | ⟨h1, h2, h3⟩
  · go_wp2
    go_ret
    exact ⟨ret_bool (by rw [HB.out, decide_eq_false (by omega)]), hb0⟩
  · go_wp2
    go_ret
    exact ⟨ret_bool (by rw [HB.out, decide_eq_false (by omega)]), hb0⟩
  · have h3i : (200 : Int) < (ln.size : Int) := by omega
    go_wp2
    go_ret
    exact ⟨ret_bool (by rw [HB.out, decide_eq_false (by omega)]), hb0⟩
  · have h3i : ¬ (200 : Int) < (ln.size : Int) := by omega
    go_wp2_with fail
    refine (inBody_any l _).mono ?_
    rintro e w1 ⟨rfl, rfl⟩
    by_cases hl : 0 ≤ l ∧ l ≤ 4000
    case neg =>
      rw [decide_eq_false hl]
      go_wp2
      go_ret
      exact ⟨ret_bool (by rw [HB.out, decide_eq_false (by omega)]), hb0⟩
    case pos =>
      rw [decide_eq_true hl]
      go_wp2_with fail
      refine (inBody_any m _).mono ?_
      rintro e w1 ⟨rfl, rfl⟩
      by_cases hm : 0 ≤ m ∧ m ≤ 4000
      case neg =>
        rw [decide_eq_false hm]
        go_wp2
        go_ret
        exact ⟨ret_bool (by rw [HB.out, decide_eq_false (by omega)]), hb0⟩
      case pos =>
        rw [decide_eq_true hm]
        by_cases s1 : s = 1
        · subst s1
          by_cases l0 : 0 < l
          · by_cases z : ln.size = 0
            · rw [decide_eq_true z] at hemp
              have HZ := Lib.hid (And.intro l0 z)
              go_wp2
              go_ret
              exact ⟨ret_bool (by rw [HB.out, decide_eq_true ⟨by omega, by omega, hl.1, hl.2, by omega, hm.1, hm.2, ⟨fun _ => HZ.out.1, fun _ => (by first | trivial | rfl)⟩, Or.inl HZ.out.2⟩]), hb0⟩
            · rw [decide_eq_false z] at hemp
              go_wp2
              go_ret
              exact ⟨ret_bool (by rw [HB.out, decide_eq_false (by omega)]), hb0⟩
          · obtain rfl : l = 0 := by omega
            have HF : Hid (b = false) := Lib.hid (by rw [HB.out, decide_eq_false (fun h => absurd (h.2.2.2.2.2.2.2.1.1 rfl) (by decide))])
            go_wp2
            go_ret
            exact ⟨ret_bool (by rw [HF.out]), hb0⟩
        · have s1b : (s == 1) = false := beq_eq_false_iff_ne.2 s1
          have s1c : (s != 1) = true := bne_iff_ne.2 s1
          by_cases l0 : 0 < l
          · go_wp2
            go_ret
            exact ⟨ret_bool (by rw [HB.out, decide_eq_false (by omega)]), hb0⟩
          · by_cases z : ln.size = 0
            · rw [decide_eq_true z] at hemp
              go_wp2
              go_ret
              exact ⟨ret_bool (by rw [HB.out, decide_eq_true (by omega)]), hb0⟩
            · rw [decide_eq_false z] at hemp
              by_cases s4 : s = 4
              · subst s4
                go_wp2
                go_ret
                exact ⟨ret_bool (by rw [HB.out, decide_eq_false (by omega)]), hb0⟩
              · have s4c : (s != 4) = true := bne_iff_ne.2 s4
                go_wp2
                go_ret
                exact ⟨ret_bool (by rw [HB.out, decide_eq_true (by omega)]), hb0⟩
end Go.Proofs.YtaoajilgilbmmaaDoor
