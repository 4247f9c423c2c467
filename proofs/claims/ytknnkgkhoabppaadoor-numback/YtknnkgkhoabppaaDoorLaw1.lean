/-
  The walks of the laws' own 'awake' and of NumAdds, by the contracts of num's calls.
-/
import Derived.Test.YtknnkgkhoabppaaDoorText
namespace Go.Proofs.YtknnkgkhoabppaaDoor
open Go.RowKit

/-- two numbers are handed back -/
def TwoEnds (q : Int × Int) (w : World) (e : Ending) (w' : World) : Prop := e = .returned (.tuple #[.int .i64 q.1, .int .i64 q.2]) ∧ Below w.heap.size w w'
def BoolEnds (b : Bool) (w : World) (e : Ending) (w' : World) : Prop := e = .returned (.bool b) ∧ Below w.heap.size w w'

theorem two_of {f : FuncId} {args : Array Value} {q : Int × Int} {w : World} (h : Calls Tryd.prog f args w fun e w' => e = .returned (.tuple #[.int .i64 q.1, .int .i64 q.2]) ∧ w' = w) : Calls Tryd.prog f args w (TwoEnds q w) :=
  h.mono fun _ _ ⟨h1, h2⟩ => ⟨h1, h2 ▸ Below.refl _ _⟩

theorem parse_at (s : ByteArray) (base : Int) (w : World) (hs : s.size ≤ maxLen) {q : Int × Int} (hq : parseN s.data.toList base = q) : Calls Tryd.prog 14 #[.string s, .int .i64 base] w (TwoEnds q w) := two_of (hq ▸ parse_any s base w hs)
theorem add_at (a b : Int) (w : World) {q : Int × Int} (hq : addN a b = q) : Calls Tryd.prog 7 #[.int .i64 a, .int .i64 b] w (TwoEnds q w) := two_of (hq ▸ add_any a b w)
theorem mul_at (a b : Int) (w : World) {q : Int × Int} (hq : mulN a b = q) : Calls Tryd.prog 9 #[.int .i64 a, .int .i64 b] w (TwoEnds q w) := two_of (hq ▸ mul_any a b w)
theorem fits_at (n : Int) (w : World) {b : Bool} (hq : fitN n = b) : Calls Tryd.prog 12 #[.int .i64 n] w (BoolEnds b w) := (hq ▸ fits_any n w).mono fun _ _ ⟨h1, h2⟩ => ⟨h1, h2 ▸ Below.refl _ _⟩
theorem text_at (n base : Int) (w : World) (ht : Tabs w) {t : ByteArray} (hq : textN n base = t.data.toList) : Calls Tryd.prog 16 #[.int .i64 n, .int .i64 base] w fun e w' => e = .returned (.string t) ∧ Below w.heap.size w w' :=
  (text_any n base w ht).mono fun e w' ⟨s, h1, h2, h3⟩ => ⟨by rw [h1]; congr 2; exact Go.WideShapes.bytes_inj (h2.trans hq), h3⟩

theorem text31 : textN 31 16 = (⟨#[49, 102]⟩ : ByteArray).data.toList := by
  rw [textN, if_pos ⟨by decide, by decide⟩]
  show dgs 16 31 = _
  rw [dgs_big (by decide) (by decide), dgs_small (by decide)]
  decide

set_option maxRecDepth 100000 in
set_option maxHeartbeats 4000000 in
theorem awake_any (w : World) (ht : Tabs w) : Calls Tryd.prog 11 #[] w (BoolEnds true w) := by
  go_enter Tryd.func11, Tryd.ntmps11
  go_wp2_with fail
  refine (parse_at ⟨#[49, 70]⟩ 16 _ (by decide) (q := (31, 0)) (by decide +kernel)).mono ?_
  rintro e w1 ⟨rfl, hb1⟩
  go_wp2_with fail
  refine (parse_at ⟨#[49, 70]⟩ 10 _ (by decide) (q := (0, 1)) (by decide +kernel)).mono ?_
  rintro e w2 ⟨rfl, hb2⟩
  go_wp2_with fail
  refine (parse_at ⟨#[57, 57, 57, 57, 57, 57, 57, 57, 57, 57, 57, 57, 57, 57, 57, 57, 57, 57, 57, 57]⟩ 10 _ (by decide) (q := (0, 3)) (by decide +kernel)).mono ?_
  rintro e w3 ⟨rfl, hb3⟩
  go_wp2_with fail
  refine (add_at 2 3 _ (q := (5, 0)) (by decide +kernel)).mono ?_
  rintro e w4 ⟨rfl, hb4⟩
  go_wp2_with fail
  refine (mul_at 9007199254740992 2 _ (q := (0, 3)) (by decide +kernel)).mono ?_
  rintro e w5 ⟨rfl, hb5⟩
  go_wp2_with fail
  refine (text_at 31 16 _ (ht.up (bon' (bon' (bon' (bon' hb1 hb2) hb3) hb4) hb5)) text31).mono ?_
  rintro e w6 ⟨rfl, hb6⟩
  go_wp2_with fail
  refine (text_at (-1) 10 _ (ht.up (bon' (bon' (bon' (bon' (bon' hb1 hb2) hb3) hb4) hb5) hb6)) (t := ByteArray.empty) (by decide +kernel)).mono ?_
  rintro e w7 ⟨rfl, hb7⟩
  go_wp2_with fail
  refine (fits_at 0 _ (b := true) (by decide +kernel)).mono ?_
  rintro e w8 ⟨rfl, hb8⟩
  go_wp2_with fail
  refine (fits_at (-1) _ (b := false) (by decide +kernel)).mono ?_
  rintro e w9 ⟨rfl, hb9⟩
  go_wp2
  go_ret
  exact ⟨rfl, bon' (bon' (bon' (bon' (bon' (bon' (bon' (bon' hb1 hb2) hb3) hb4) hb5) hb6) hb7) hb8) hb9⟩

set_option maxRecDepth 100000 in
set_option maxHeartbeats 4000000 in
theorem adds_any (a b : Int) (w : World) (ht : Tabs w) : Calls Tryd.prog 3 #[.int .i64 a, .int .i64 b] w (BoolEnds true w) := by
  obtain ⟨⟨x, y⟩, hq⟩ : ∃ q, addN a b = q := ⟨_, rfl⟩
  obtain ⟨⟨u, v⟩, hp⟩ : ∃ q, mulN a b = q := ⟨_, rfl⟩
  have H1 := Lib.hid (fun W => add_at a b W hq)
  have H2 : Hid (∀ W, Calls Tryd.prog 8 #[.int .i64 a, .int .i64 b] W (TwoEnds (x, y) W)) := Lib.hid (fun W => two_of (hq ▸ radd_any a b W))
  have H3 := Lib.hid (fun W => mul_at a b W hp)
  have H4 : Hid (∀ W, Calls Tryd.prog 10 #[.int .i64 a, .int .i64 b] W (TwoEnds (u, v) W)) := Lib.hid (fun W => two_of (hp ▸ rmul_any a b W))
  clear hq hp
  go_enter Tryd.func3, Tryd.ntmps3
  go_wp2_with fail
  refine (H1.out _).mono ?_
  rintro e w1 ⟨rfl, hb1⟩
  go_wp2_with fail
  refine (H2.out _).mono ?_
  rintro e w2 ⟨rfl, hb2⟩
  go_wp2_with fail
  refine (H3.out _).mono ?_
  rintro e w3 ⟨rfl, hb3⟩
  go_wp2_with fail
  refine (H4.out _).mono ?_
  rintro e w4 ⟨rfl, hb4⟩
  go_wp2_with fail
  refine (awake_any _ (ht.up (bon' (bon' (bon' hb1 hb2) hb3) hb4))).mono ?_
  rintro e w5 ⟨rfl, hb5⟩
  go_wp2_with fail
  refine (fits_at a _ rfl).mono ?_
  rintro e w6 ⟨rfl, hb6⟩
  go_wp2_with fail
  refine (rfits_any a _).mono ?_
  rintro e w7 ⟨rfl, rfl⟩
  go_wp2
  go_ret
  exact ⟨rfl, bon' (bon' (bon' (bon' (bon' hb1 hb2) hb3) hb4) hb5) hb6⟩

end Go.Proofs.YtknnkgkhoabppaaDoor
