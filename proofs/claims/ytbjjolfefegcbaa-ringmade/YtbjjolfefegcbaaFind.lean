/-
  The walk of ring.Find, and the walk of the laws' own test 'awake': a right program answers as it says.
-/
import Derived.Test.YtbjjolfefegcbaaPop2
import Derived.Test.YtbjjolfefegcbaaShelf
namespace Go.Proofs.Ytbjjolfefegcbaa
open Go.RowKit

/-- the library's own variable holds some number -/
def Mx (w : World) : Prop := ∃ m, w.cell? ⟨0, 0, none⟩ = some (.int .i64 m)
theorem Mx.up {w w' : World} (h : Mx w) (hb : Below w.heap.size w w') : Mx w' := by
  obtain ⟨m, hm⟩ := h
  exact ⟨m, (hb.cell (p := ⟨0, 0, none⟩) (World.block_lt_of_cell? w _ hm)).trans hm⟩

theorem datB_length (xs : List UInt8) (f m : Int) : (datB xs f m).length ≤ 4096 := by
  unfold datB
  split
  · next h => have := okB_true h; rw [dat_length _ _ _ (by omega) (by omega)]; omega
  · simp

def IntEnds (k : Int) (w : World) (e : Ending) (w' : World) : Prop := e = .returned (.int .i64 k) ∧ Below w.heap.size w w'

set_option maxHeartbeats 400000 in
theorem find_any (A : Option Addr) (c : Nat) (f m : Int) (xs : List UInt8) (s : ByteArray) (w : World) (hc : xs.length ≤ c) (hB : Bs w w.heap.size A xs) (hM : Mx w) :
    Calls Try.prog 17 #[rv A xs.length c f m, .string s] w (IntEnds (Lib.index (datB xs f m) s.data.toList) w) := by
  have hdl := datB_length xs f m
  go_enter Try.func17, Try.ntmps17
  go_wp2_with fail
  refine (data_any A c f m xs _ hc (hB.up (ba1 _ _))).mono ?_
  rintro e w2 ⟨rfl, hbl2⟩
  have hb2 := bon (ba1 w _) hbl2
  obtain ⟨mm, hmm⟩ := hM.up hb2
  go_wp2_with fail
  refine (sh_strings_Index ⟨(datB xs f m).toArray⟩ s mm w2 (by rw [Lib.size_eq]; simp; omega) hmm).mono ?_
  rintro e w3 ⟨rfl, rfl⟩
  go_wp2
  go_ret
  exact ⟨rfl, hb2⟩

theorem RingIs.up {w w' : World} {v : Value} {xs : List UInt8} {f m : Int} (h : RingIs w v xs f m) (hb : Below w.heap.size w w') : RingIs w' v xs f m := by
  obtain ⟨A, c, e, h1, h2, h3⟩ := h
  exact ⟨A, c, e, h1, h2, h3.up hb⟩

theorem field_zero (w : World) : (Instr.field 24 (rv none 0 0 0 0) 0).run Try.prog w = .ok (.slice none 0 0) w := by kernel_rfl

set_option maxRecDepth 100000 in
set_option maxHeartbeats 1000000 in
theorem awake_any (w : World) (hM : Mx w) : Calls Try.prog 6 #[] w fun e w' => e = .returned (.bool true) ∧ Below w.heap.size w w' := by
  go_enter Try.func6, Try.ntmps6
  go_wp2_with fail
  refine (new_yes 3 w (by decide) (by decide)).mono ?_
  rintro e w1 ⟨rfl, hb1, hB1⟩
  go_wp2_with fail
  have e1 : pushed [0, 0, 0] 0 0 [97, 98] = ([97, 98, 0], 2, 2) := by decide
  have P1 := push_any (some ⟨w.heap.size + 1, 0, none⟩) 3 0 0 [0, 0, 0] ⟨#[97, 98]⟩ w1 (fun h => by cases h) (by decide) hB1 (by unfold maxLen; decide)
  rw [show (⟨#[97, 98]⟩ : ByteArray).data.toList = [97, 98] from rfl, e1] at P1
  clear e1
  refine P1.mono ?_
  clear P1
  rintro e w2 ⟨v, rfl, ⟨A2, c2, rfl, hA2, hc2, hB2⟩, hb2⟩
  simp only [List.length_cons, List.length_nil, Nat.reduceAdd] at hc2
  rw [show [(97 : UInt8), 98, 0].length = 3 from rfl]
  go_wp2_with fail
  have e1 : popped [97, 98, 0] 0 2 1 = (1, 1, [97]) := by decide
  have P1 := pop_any A2 c2 0 2 1 [97, 98, 0] (w2.alloc (.cells #[.slice A2 3 c2, .int .i64 0, .int .i64 2] 24)) hA2 (by decide) (hB2.up (ba1 _ _))
  rw [e1] at P1
  clear e1
  refine P1.mono ?_
  clear P1
  rintro e w3 ⟨v, rfl, ⟨A3, c3, rfl, hA3, hc3, hB3⟩, hb3⟩
  simp only [List.length_cons, List.length_nil, Nat.reduceAdd] at hc3
  rw [show [(97 : UInt8), 98, 0].length = 3 from rfl]
  go_wp2_with fail
  have e1 : pushed [97, 98, 0] 1 1 [99, 100, 101] = ([100, 98, 99], 3, 2) := by decide
  have P1 := push_any A3 c3 1 1 [97, 98, 0] ⟨#[99, 100, 101]⟩ (w3.alloc (.cells #[.slice A3 3 c3, .int .i64 1, .int .i64 1] 24)) hA3 (by decide) (hB3.up (ba1 _ _)) (by unfold maxLen; decide)
  rw [show (⟨#[99, 100, 101]⟩ : ByteArray).data.toList = [99, 100, 101] from rfl, e1] at P1
  clear e1
  refine P1.mono ?_
  clear P1
  rintro e w4 ⟨v, rfl, ⟨A4, c4, rfl, hA4, hc4, hB4⟩, hb4⟩
  simp only [List.length_cons, List.length_nil, Nat.reduceAdd] at hc4
  rw [show [(100 : UInt8), 98, 99].length = 3 from rfl]
  have hw4 : Below w.heap.size w w4 := bon (bon (bon (bon (bon hb1 hb2) (ba1 _ _)) hb3) (ba1 _ _)) hb4
  go_wp2_with fail
  have hB5 := hB4.up (ba1 w4 (.cells #[.slice A4 3 c4, .int .i64 1, .int .i64 3] 24))
  have hw5 := bon hw4 (ba1 w4 (.cells #[.slice A4 3 c4, .int .i64 1, .int .i64 3] 24))
  have b5 := Box.new w4 24 #[.slice A4 3 c4, .int .i64 1, .int .i64 3]
  clear hb1 hB1 hb2 hA2 hc2 hB2 hb3 hA3 hc3 hB3 hb4 hA4 hB4 hw4
  generalize w4.alloc (.cells #[.slice A4 3 c4, .int .i64 1, .int .i64 3] 24) = w5 at *
  have e1 : datB [100, 98, 99] 1 3 = [98, 99, 100] := by decide
  have P1 := data_any A4 c4 1 3 [100, 98, 99] w5 hc4 hB5
  rw [e1] at P1
  refine P1.mono ?_
  clear P1
  rintro e w6 ⟨rfl, hb6⟩
  have hB6 := hB5.up hb6
  have hw6 := bon hw5 hb6
  have b6 := b5.up hb6
  clear hB5 hw5 b5 hb6
  obtain ⟨⟨c0, c1, c2⟩, _⟩ := b6.three
  go_wp2_with fail
  have P1 := find_any A4 c4 1 3 [100, 98, 99] ⟨#[99, 100]⟩ w6 hc4 hB6 (hM.up hw6)
  rw [e1, show Lib.index [98, 99, 100] (⟨#[99, 100]⟩ : ByteArray).data.toList = 1 by decide] at P1
  refine P1.mono ?_
  clear P1
  rintro e w7 ⟨rfl, hb7⟩
  have hB7 := hB6.up hb7
  have hw7 := bon hw6 hb7
  have b7 := b6.up hb7
  clear hB6 hw6 b6 hb7 c0 c1 c2
  obtain ⟨⟨c0, c1, c2⟩, _⟩ := b7.three
  go_wp2_with fail
  have P1 := find_any A4 c4 1 3 [100, 98, 99] ⟨#[97]⟩ w7 hc4 hB7 (hM.up hw7)
  rw [e1, show Lib.index [98, 99, 100] (⟨#[97]⟩ : ByteArray).data.toList = -1 by decide] at P1
  refine P1.mono ?_
  clear P1
  rintro e w8 ⟨rfl, hb8⟩
  have hw8 := bon hw7 hb8
  have b8 := b7.up hb8
  clear hB7 hw7 b7 hb8 c0 c1 c2 e1
  obtain ⟨⟨c0, c1, c2⟩, _⟩ := b8.three
  go_wp2_with fail
  have P1 := right_any A4 3 c4 1 3 w8
  rw [show okB 3 1 3 = true by decide] at P1
  refine P1.mono ?_
  clear P1
  rintro e w9 ⟨rfl, hb9⟩
  have hw9 := bon hw8 hb9
  clear hw8 b8 hb9 c0 c1 c2
  go_wp2_with fail
  have P1 := right_any none 0 0 0 0 w9
  rw [show okB 0 0 0 = false by decide] at P1
  refine P1.mono ?_
  clear P1
  rintro e w10 ⟨rfl, hb10⟩
  have hw10 := bon hw9 hb10
  clear hw9 hb10
  go_wp2_with fail
  refine (new_no 0 w10 (by decide)).mono ?_
  rintro e w11 ⟨rfl, hb11⟩
  have hfd := field_zero
  go_wp2
  go_ret
  exact ⟨rfl, bon hw10 hb11⟩

end Go.Proofs.Ytbjjolfefegcbaa
