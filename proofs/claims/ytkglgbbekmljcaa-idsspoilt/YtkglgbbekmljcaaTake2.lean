/-
  The walk of ids.Take.
-/
import Derived.Test.YtkglgbbekmljcaaTake
namespace Go.Proofs.Ytkglgbbekmljcaa
open Go.RowKit

/-- what Take hands back: a table of its own that reads as T', and two numbers -/
def TakeEnds (q : Tb × Int × Int) (w : World) (e : Ending) (w' : World) : Prop :=
  ∃ Ag N cg Ab M cb Af F cf, e = .returned (.tuple #[tv Ag N cg Ab M cb Af F cf, .int .i64 q.2.1, .int .i64 q.2.2]) ∧ RowT w' w.heap.size q.1 Ag N cg Ab M cb Af F cf ∧ Below w.heap.size w w'
def GiveEnds (q : Tb × Int) (w : World) (e : Ending) (w' : World) : Prop :=
  ∃ Ag N cg Ab M cb Af F cf, e = .returned (.tuple #[tv Ag N cg Ab M cb Af F cf, .int .i64 q.2]) ∧ RowT w' w.heap.size q.1 Ag N cg Ab M cb Af F cf ∧ Below w.heap.size w w'

section
variable {Ag Ab Af : Option Addr} {N cg M cb F cf : Nat} {T : Tb} {w : World}

/-- the last stores: the table goes into the result's cell -/
theorem last3 {w W1 : World} {B p : Nat} {cs : Array Value} (hr : RowT W1 B T Ag N cg Ab M cb Af F cf) (hb : Box W1 p 25 cs) (hB : Below B w W1) (hp : B ≤ p) (x y z : Value) :
    RowT (((W1.setCell ⟨p, 0, none⟩ x).setCell ⟨p, 1, none⟩ y).setCell ⟨p, 2, none⟩ z) B T Ag N cg Ab M cb Af F cf ∧ Below B w (((W1.setCell ⟨p, 0, none⟩ x).setCell ⟨p, 1, none⟩ y).setCell ⟨p, 2, none⟩ z) :=
  ⟨hr.far3 hb (by decide) (by decide) x y z, below_set3 hB hp x y z⟩

set_option maxRecDepth 100000 in
set_option maxHeartbeats 2000000 in
theorem take_any (h : At w T Ag N cg Ab M cb Af F cf) :
    Calls Try.prog 13 #[tv Ag N cg Ab M cb Af F cf] w (TakeEnds (takeT T) w) := by
  have hF' := h.hF
  have HH := Lib.hid h
  clear h
  unfold tv
  go_enter Try.func13, Try.ntmps13
  go_wp2_with fail
  refine (change_any (HH.out.up (ba2 _ _ _))).mono ?_
  rintro e w1 ⟨p, AG, cG, AB, cB, AF, cF, rfl, hp, hbp, ho, hb1⟩
  have b0 := ((Box.new w 25 #[.slice Ag N cg, .slice Ab M cb, .slice Af F cf]).alloc (.cells #[.slice none 0 0, .slice none 0 0, .slice none 0 0] 25)).up hb1
  have b1 := (Box.mk' (w.alloc (.cells #[.slice Ag N cg, .slice Ab M cb, .slice Af F cf] 25)) 25 #[.slice none 0 0, .slice none 0 0, .slice none 0 0] (w.heap.size + 1) (by simp)).up hb1
  have hw1 := bon (ba2 w _ _) hb1
  simp only [World.size_alloc] at hp ho
  obtain ⟨⟨c0, c1, c2⟩, _⟩ := b0.three
  go_wp2_with fail
  refine (right_any (HH.out.up hw1)).mono ?_
  rintro e w2 ⟨rfl, hb2⟩
  have a0 := b0.up hb2
  have a1 := b1.up hb2
  have hbp2 := hbp.up hb2
  have ho2 := ho.up hb2
  have hw2 := bon hw1 hb2
  clear c0 c1 c2 b0 b1 hb1 hb2 hbp ho hw1
  obtain ⟨⟨c0, c1, c2⟩, _⟩ := a0.three
  obtain ⟨⟨d0, d1, d2⟩, e0, e1, e2⟩ := a1.three
  obtain ⟨⟨q0, q1, q2⟩, _⟩ := hbp2.three
  have hne : w.heap.size + 1 ≠ p := by omega
  have hne' : p ≠ w.heap.size + 1 := by omega
  cases hok : okT T with
  | false =>
    have HE : Hid (takeT T = (T, 0, 1)) := Lib.hid (by simp [takeT, hok])
    have HL := Lib.hid (last3 (ho2.row.mono (B' := w.heap.size) (by omega)) a1 hw2 (by omega) (.slice AG N cG) (.slice AB M cB) (.slice AF F cF))
    clear hok ho2
    go_wp2
    refine bodyPost_ret (v := .tuple #[tv AG N cG AB M cB AF F cF, .int .i64 0, .int .i64 1]) (by simp [results, Try.results13, go_sem, d0, d1, d2]) rfl ?_
    rw [HE.out]
    exact ⟨AG, N, cG, AB, M, cB, AF, F, cF, rfl, HL.out.1, HL.out.2⟩
  | true =>
    have lf : T.free.length = F := HH.out.lf
    cases hfr : T.free with
    | nil =>
      have hF0 : F = 0 := by rw [← lf, hfr]; rfl
      subst hF0
      have HE : Hid (takeT T = (T, 0, 4)) := Lib.hid (by simp [takeT, hok, hfr])
      have HL := Lib.hid (last3 (ho2.row.mono (B' := w.heap.size) (by omega)) a1 hw2 (by omega) (.slice AG N cG) (.slice AB M cB) (.slice AF 0 cF))
      clear hok ho2 hfr lf
      go_wp2
      refine bodyPost_ret (v := .tuple #[tv AG N cG AB M cB AF 0 cF, .int .i64 0, .int .i64 4]) (by simp [results, Try.results13, go_sem, d0, d1, d2]) rfl ?_
      rw [HE.out]
      exact ⟨AG, N, cG, AB, M, cB, AF, 0, cF, rfl, HL.out.1, HL.out.2⟩
    | cons x r =>
      obtain ⟨hx0, hx1, hx2⟩ := ok_free hok (x := x) (by rw [hfr]; simp)
      obtain ⟨k, rfl⟩ := Int.eq_ofNat_of_zero_le hx0
      have hF0 : 0 < F := by rw [← lf, hfr]; simp
      have hF1 : (F : Int) ≠ 0 := by omega
      have HE : Hid (takeT T = (⟨T.gens, T.busy.set k true, r⟩, gd T.gens k * N + k, 0)) := Lib.hid (by simp [takeT, hok, hfr, HH.out.lg])
      have HT := Lib.hid (tk_any p (w.heap.size + 1 + 1) k r hbp2 ho2 hp hok hfr)
      have HS : Hid (w.heap.size + 1 + 1 ≤ w2.heap.size) := Lib.hid (by have := hbp2.lt; omega)
      clear hok ho2 hfr lf hx0 hx1 hx2
      go_wp2_with fail
      refine HT.out.mono ?_
      rintro e w3 ⟨rfl, AF', cF', hbp3, hr3, hb3⟩
      have x1 := a1.below hb3 (by omega)
      have hw3 : Below w.heap.size w w3 := hw2.trans (hb3.mono (by omega))
      clear c0 c1 c2 d0 d1 d2 e0 e1 e2 q0 q1 q2 a0
      obtain ⟨⟨d0, d1, d2⟩, e0, e1, e2⟩ := x1.three
      obtain ⟨⟨q0, q1, q2⟩, _⟩ := hbp3.three
      have HL := Lib.hid (last3 (hr3.mono (B' := w.heap.size) (by omega)) x1 hw3 (by omega) (.slice AG N cG) (.slice AB M cB) (.slice AF' (F - 1) cF'))
      clear hr3 hb3
      go_wp2
      refine bodyPost_ret (v := .tuple #[tv AG N cG AB M cB AF' (F - 1) cF', .int .i64 (gd T.gens k * N + k), .int .i64 0]) (by simp [results, Try.results13, go_sem, d0, d1, d2]) rfl ?_
      rw [HE.out]
      exact ⟨AG, N, cG, AB, M, cB, AF', F - 1, cF', rfl, HL.out.1, HL.out.2⟩

end
end Go.Proofs.Ytkglgbbekmljcaa
