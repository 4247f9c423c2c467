/-
  The walk of the laws' own same.
-/
import Derived.Test.YtginijeajenghaaDoorFrC
import Derived.Test.YtginijeajenghaaDoorFrD
import Derived.Test.YtginijeajenghaaDoorFrF
import Derived.Deep.RegionHeld3
namespace Go.Proofs.YtginijeajenghaaDoor
open Go.RowKit

theorem held14 {W1 w w' : World} {a0 a1 a2 a3 a4 a5 a6 a7 a8 a9 a10 a11 a12 a13 : Addr} {v0 v1 v2 v3 v4 v5 v6 v7 v8 v9 v10 v11 v12 v13 : Value} (hb : Below w.heap.size w w') (h : Below W1.heap.size W1 w ∧ w.cell? a0 = some v0 ∧ w.cell? a1 = some v1 ∧ w.cell? a2 = some v2 ∧ w.cell? a3 = some v3 ∧ w.cell? a4 = some v4 ∧ w.cell? a5 = some v5 ∧ w.cell? a6 = some v6 ∧ w.cell? a7 = some v7 ∧ w.cell? a8 = some v8 ∧ w.cell? a9 = some v9 ∧ w.cell? a10 = some v10 ∧ w.cell? a11 = some v11 ∧ w.cell? a12 = some v12 ∧ w.cell? a13 = some v13) :
    Below W1.heap.size W1 w' ∧ w'.cell? a0 = some v0 ∧ w'.cell? a1 = some v1 ∧ w'.cell? a2 = some v2 ∧ w'.cell? a3 = some v3 ∧ w'.cell? a4 = some v4 ∧ w'.cell? a5 = some v5 ∧ w'.cell? a6 = some v6 ∧ w'.cell? a7 = some v7 ∧ w'.cell? a8 = some v8 ∧ w'.cell? a9 = some v9 ∧ w'.cell? a10 = some v10 ∧ w'.cell? a11 = some v11 ∧ w'.cell? a12 = some v12 ∧ w'.cell? a13 = some v13 :=
  ⟨bon h.1 hb, cell_up hb h.2.1, cell_up hb h.2.2.1, cell_up hb h.2.2.2.1, cell_up hb h.2.2.2.2.1, cell_up hb h.2.2.2.2.2.1, cell_up hb h.2.2.2.2.2.2.1, cell_up hb h.2.2.2.2.2.2.2.1, cell_up hb h.2.2.2.2.2.2.2.2.1, cell_up hb h.2.2.2.2.2.2.2.2.2.1, cell_up hb h.2.2.2.2.2.2.2.2.2.2.1, cell_up hb h.2.2.2.2.2.2.2.2.2.2.2.1, cell_up hb h.2.2.2.2.2.2.2.2.2.2.2.2.1, cell_up hb h.2.2.2.2.2.2.2.2.2.2.2.2.2.1, cell_up hb h.2.2.2.2.2.2.2.2.2.2.2.2.2.2⟩

section
variable (m t : ByteArray) (st : Int) (r : ByteArray) (mi : Int) (A : Option Addr) (n c : Nat) (fs : List Fd) (w : World) (hm : m.size ≤ 4096) (ht : t.size ≤ 4096) (hr : r.size ≤ 4096) (hL : Fs w ⟨A, n, c⟩ fs) (hn : n ≤ 4096) (hf : Few fs)
include hm ht hr hL hn hf

set_option maxRecDepth 100000 in
set_option maxHeartbeats 4000000 in
theorem same_any (mt : ByteArray) : Calls Tryd.prog 9 #[.agg #[.string m, .string t, .int .i64 st, .string r, .int .i64 mi, .slice A n c], .string mt] w (BoolEnds true w) := by
  obtain ⟨q1, hq1⟩ : ∃ q, reqF (rightB (hdOf m t st r mi fs) false) (frH fs mi) = q := ⟨_, rfl⟩
  obtain ⟨q2, hq2⟩ : ∃ q, ansF (rightB (hdOf m t st r mi fs) true) (bareB st (dl mt)) (frH fs mi) = q := ⟨_, rfl⟩
  obtain ⟨bs, hbs⟩ : ∃ b, staysH fs mi = b := ⟨_, rfl⟩
  have P1 : Hid (∀ W, Below w.heap.size w W → Calls Tryd.prog 12 #[.agg #[.string m, .string t, .int .i64 st, .string r, .int .i64 mi, .slice A n c]] W (FrEnds q1 W)) := Lib.hid (fun W h => by rw [← hq1]; exact request_any m t st r mi A n c fs W hm ht hr (hL.up h) hn hf)
  have R1 : Hid (∀ W, Below w.heap.size w W → Calls Tryd.prog 17 #[.agg #[.string m, .string t, .int .i64 st, .string r, .int .i64 mi, .slice A n c]] W (FrEnds q1 W)) := Lib.hid (fun W h => by rw [← hq1]; exact rrequest_any m t st r mi A n c fs W hm ht hr (hL.up h) hn hf)
  have P2 : Hid (∀ W, Below w.heap.size w W → Calls Tryd.prog 18 #[.agg #[.string m, .string t, .int .i64 st, .string r, .int .i64 mi, .slice A n c], .string mt] W (FrEnds q2 W)) := Lib.hid (fun W h => by rw [← hq2]; exact answer_any m t st r mi A n c fs W hm ht hr (hL.up h) hn hf mt)
  have R2 : Hid (∀ W, Below w.heap.size w W → Calls Tryd.prog 19 #[.agg #[.string m, .string t, .int .i64 st, .string r, .int .i64 mi, .slice A n c], .string mt] W (FrEnds q2 W)) := Lib.hid (fun W h => by rw [← hq2]; exact ranswer_any m t st r mi A n c fs W hm ht hr (hL.up h) hn hf mt)
  have P3 : Hid (∀ W, Below w.heap.size w W → Calls Tryd.prog 15 #[.agg #[.string m, .string t, .int .i64 st, .string r, .int .i64 mi, .slice A n c]] W (BoolEnds bs W)) := Lib.hid (fun W h => by rw [← hbs]; exact stays_any m t st r mi A n c fs W (hL.up h) hn hf)
  have R3 : Hid (∀ W, Below w.heap.size w W → Calls Tryd.prog 20 #[.agg #[.string m, .string t, .int .i64 st, .string r, .int .i64 mi, .slice A n c]] W (BoolEnds bs W)) := Lib.hid (fun W h => by rw [← hbs]; exact rstays_any m t st r mi A n c fs W (hL.up h) hn hf)
  clear hq1 hq2 hbs hm ht hr hL hn hf
  obtain ⟨x1, y1, z1⟩ := q1
  obtain ⟨x2, y2, z2⟩ := q2
  have hb0 := ba1 w (.cells #[.string m, .string t, .int .i64 st, .string r, .int .i64 mi, .slice A n c] 25)
  have bh := Box.new w 25 #[.string m, .string t, .int .i64 st, .string r, .int .i64 mi, .slice A n c]
  go_enter Tryd.func9, Tryd.ntmps9
  go_wp2_with fail
  obtain ⟨g, hg⟩ : ∃ g, w.heap.size = g := ⟨_, rfl⟩
  rw [hg] at bh ⊢
  clear hg
  generalize w.alloc (.cells #[.string m, .string t, .int .i64 st, .string r, .int .i64 mi, .slice A n c] 25) = W0 at *
  refine (P1.out _ hb0).mono ?_
  rintro e w1 ⟨rfl, hc1⟩
  simp only
  go_upto_region 2 with fail
  have hd1 := bon hc1 (ba1 w1 (.cells #[.int .i64 x1, .int .i64 y1] 38))
  have bh := bh.up hd1
  have hB1 := bon hb0 hd1
  have bx1 := Box.new w1 38 #[.int .i64 x1, .int .i64 y1]
  obtain ⟨g1, hg1⟩ : ∃ g, w1.heap.size = g := ⟨_, rfl⟩
  rw [hg1] at bx1 ⊢
  clear hg1 hc1 hd1
  generalize w1.alloc (.cells #[.int .i64 x1, .int .i64 y1] 38) = W1 at *
  obtain ⟨c0, c1, c2, c3, c4, c5⟩ := bh.six
  go_wp2_with fail
  clear c0 c1 c2 c3 c4 c5
  refine (R1.out _ hB1).mono ?_
  rintro e w2 ⟨rfl, hc2⟩
  simp only
  go_upto_region 3 with fail
  have hd2 := bon hc2 (ba1 w2 (.cells #[.int .i64 x1, .int .i64 y1] 38))
  have bh := bh.up hd2
  have hB2 := bon hB1 hd2
  have bx1 := bx1.up hd2
  have bx2 := Box.new w2 38 #[.int .i64 x1, .int .i64 y1]
  obtain ⟨g2, hg2⟩ : ∃ g, w2.heap.size = g := ⟨_, rfl⟩
  rw [hg2] at bx2 ⊢
  clear hg2 hc2 hd2
  generalize w2.alloc (.cells #[.int .i64 x1, .int .i64 y1] 38) = W2 at *
  obtain ⟨c0, c1, c2, c3, c4, c5⟩ := bh.six
  go_wp2_with fail
  clear c0 c1 c2 c3 c4 c5
  refine (P2.out _ hB2).mono ?_
  rintro e w3 ⟨rfl, hc3⟩
  simp only
  go_upto_region 4 with fail
  have hd3 := bon hc3 (ba1 w3 (.cells #[.int .i64 x2, .int .i64 y2] 38))
  have bh := bh.up hd3
  have hB3 := bon hB2 hd3
  have bx1 := bx1.up hd3
  have bx2 := bx2.up hd3
  have bx3 := Box.new w3 38 #[.int .i64 x2, .int .i64 y2]
  obtain ⟨g3, hg3⟩ : ∃ g, w3.heap.size = g := ⟨_, rfl⟩
  rw [hg3] at bx3 ⊢
  clear hg3 hc3 hd3
  generalize w3.alloc (.cells #[.int .i64 x2, .int .i64 y2] 38) = W3 at *
  obtain ⟨c0, c1, c2, c3, c4, c5⟩ := bh.six
  go_wp2_with fail
  clear c0 c1 c2 c3 c4 c5
  refine (R2.out _ hB3).mono ?_
  rintro e w4 ⟨rfl, hc4⟩
  simp only
  go_upto_region 5 with fail
  have hd4 := bon hc4 (ba1 w4 (.cells #[.int .i64 x2, .int .i64 y2] 38))
  have bh := bh.up hd4
  have hB4 := bon hB3 hd4
  have bx1 := bx1.up hd4
  have bx2 := bx2.up hd4
  have bx3 := bx3.up hd4
  have bx4 := Box.new w4 38 #[.int .i64 x2, .int .i64 y2]
  obtain ⟨g4, hg4⟩ : ∃ g, w4.heap.size = g := ⟨_, rfl⟩
  rw [hg4] at bx4 ⊢
  clear hg4 hc4 hd4
  generalize w4.alloc (.cells #[.int .i64 x2, .int .i64 y2] 38) = W4 at *
  obtain ⟨c0, c1, c2, c3, c4, c5⟩ := bh.six
  obtain ⟨d1, d2, _, _⟩ := Fr2 bx1
  obtain ⟨d3, d4, _, _⟩ := Fr2 bx2
  obtain ⟨d5, d6, _, _⟩ := Fr2 bx3
  obtain ⟨d7, d8, _, _⟩ := Fr2 bx4
  clear bx1 bx2 bx3 bx4 bh
  have HB4 := hB4
  clear hB1 hB2 hB3 hb0
  go_region_held3 (fun w' => Below W4.heap.size W4 w' ∧ w'.cell? ⟨g, 0, none⟩ = some (.string m) ∧ w'.cell? ⟨g, 1, none⟩ = some (.string t) ∧ w'.cell? ⟨g, 2, none⟩ = some (.int .i64 st) ∧ w'.cell? ⟨g, 3, none⟩ = some (.string r) ∧ w'.cell? ⟨g, 4, none⟩ = some (.int .i64 mi) ∧ w'.cell? ⟨g, 5, none⟩ = some (.slice A n c) ∧ w'.cell? ⟨g1, 0, none⟩ = some (.int .i64 x1) ∧ w'.cell? ⟨g1, 1, none⟩ = some (.int .i64 y1) ∧ w'.cell? ⟨g2, 0, none⟩ = some (.int .i64 x1) ∧ w'.cell? ⟨g2, 1, none⟩ = some (.int .i64 y1) ∧ w'.cell? ⟨g3, 0, none⟩ = some (.int .i64 x2) ∧ w'.cell? ⟨g3, 1, none⟩ = some (.int .i64 y2) ∧ w'.cell? ⟨g4, 0, none⟩ = some (.int .i64 x2) ∧ w'.cell? ⟨g4, 1, none⟩ = some (.int .i64 y2))
    (first | exact held14 hbP (by assumption) | exact ⟨(Below.refl _ _).drew, c0, c1, c2, c3, c4, c5, d1, d2, d3, d4, d5, d6, d7, d8⟩)
    (first
      | (go_at_call 15; refine (P3.out _ (bon HB4 ?_)).mono ?_; (simp only [*]); rintro e wP ⟨rfl, hbP⟩)
      | (go_at_call 20; refine (R3.out _ (bon HB4 ?_)).mono ?_; (simp only [*]); rintro e wP ⟨rfl, hbP⟩))
  rename_i hHeld
  have hfin := hHeld.1
  clear hHeld c0 c1 c2 c3 c4 c5 d1 d2 d3 d4 d5 d6 d7 d8
  go_wp2
  go_ret
  exact ⟨by first | rfl | simp, bon HB4 hfin⟩
end

end Go.Proofs.YtginijeajenghaaDoor
