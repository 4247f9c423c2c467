/-
  The walk of the laws' own 'told': of whatever ring, ring and the document's own answer tell the same.
-/
import Derived.Test.YtbjjolfefegcbaaRef4
import Derived.Test.YtbjjolfefegcbaaRef5
import Derived.Deep.RegionHeld3
namespace Go.Proofs.Ytbjjolfefegcbaa
open Go.RowKit

theorem cell_up {X w' : World} {a : Addr} {v : Value} (hb : Below X.heap.size X w') (h : X.cell? a = some v) : w'.cell? a = some v := (hb.cell (World.block_lt_of_cell? X a h)).trans h

/-- a ring that a call handed back, its capacity by name -/
def RingN (w' : World) (v : Value) (N : Nat) (xs : List UInt8) (f m : Int) : Prop := ∃ A c, v = .agg #[.slice A N c, .int .i64 f, .int .i64 m] ∧ Bs w' w'.heap.size A xs
theorem RingIs.named {w' : World} {v : Value} {xs : List UInt8} {f m : Int} {N : Nat} (h : RingIs w' v xs f m) (hx : xs.length = N) : RingN w' v N xs f m := by
  obtain ⟨A, c, e, _, _, hB⟩ := h
  subst hx
  exact ⟨A, c, e, hB⟩

theorem toldS {W5 X w' : World} {a0 a1 a2 a3 a4 a5 a6 a7 a8 a9 a10 a11 a12 a13 a14 : Addr} {v0 v1 v2 v3 v4 v5 v6 v7 v8 v9 v10 v11 v12 v13 v14 : Value} (hb : Below X.heap.size X w')
    (h : Below W5.heap.size W5 X ∧ X.cell? a0 = some v0 ∧ X.cell? a1 = some v1 ∧ X.cell? a2 = some v2 ∧ X.cell? a3 = some v3 ∧ X.cell? a4 = some v4 ∧ X.cell? a5 = some v5 ∧ X.cell? a6 = some v6 ∧ X.cell? a7 = some v7 ∧ X.cell? a8 = some v8 ∧ X.cell? a9 = some v9 ∧ X.cell? a10 = some v10 ∧ X.cell? a11 = some v11 ∧ X.cell? a12 = some v12 ∧ X.cell? a13 = some v13 ∧ X.cell? a14 = some v14) :
    Below W5.heap.size W5 w' ∧ w'.cell? a0 = some v0 ∧ w'.cell? a1 = some v1 ∧ w'.cell? a2 = some v2 ∧ w'.cell? a3 = some v3 ∧ w'.cell? a4 = some v4 ∧ w'.cell? a5 = some v5 ∧ w'.cell? a6 = some v6 ∧ w'.cell? a7 = some v7 ∧ w'.cell? a8 = some v8 ∧ w'.cell? a9 = some v9 ∧ w'.cell? a10 = some v10 ∧ w'.cell? a11 = some v11 ∧ w'.cell? a12 = some v12 ∧ w'.cell? a13 = some v13 ∧ w'.cell? a14 = some v14 := by
  obtain ⟨h, h0, h1, h2, h3, h4, h5, h6, h7, h8, h9, h10, h11, h12, h13, h14⟩ := h
  exact ⟨bon h hb, cell_up hb h0, cell_up hb h1, cell_up hb h2, cell_up hb h3, cell_up hb h4, cell_up hb h5, cell_up hb h6, cell_up hb h7, cell_up hb h8, cell_up hb h9, cell_up hb h10, cell_up hb h11, cell_up hb h12, cell_up hb h13, cell_up hb h14⟩

set_option maxRecDepth 100000 in
set_option maxHeartbeats 4000000 in
theorem told_any (A : Option Addr) (c N : Nat) (f m n : Int) (xs : List UInt8) (s : ByteArray) (w : World) (HX : Hid (xs.length = N)) (HA : Hid (A = none → c = 0)) (hN : N ≤ 100000000) (hc : N ≤ c) (hs : s.size ≤ 100000000) (hB : Bs w w.heap.size A xs) (hM : Mx w) :
    Calls Try.prog 7 #[.agg #[.slice A N c, .int .i64 f, .int .i64 m], .string s, .int .i64 n] w fun e w' => e = .returned (.bool true) ∧ Below w.heap.size w w' := by
  obtain ⟨⟨xs2, m2, k2⟩, hpu⟩ : ∃ q, pushed xs f m s.data.toList = q := ⟨_, rfl⟩
  obtain ⟨⟨f3, m3, l3⟩, hpo⟩ : ∃ q, popped xs f m n = q := ⟨_, rfl⟩
  obtain ⟨N2, hN2⟩ : ∃ N2, xs2.length = N2 := ⟨_, rfl⟩
  have hmax : s.size ≤ maxLen := by unfold maxLen; omega
  have PU : ∀ W, Bs W W.heap.size A xs → Calls Try.prog 14 #[.agg #[.slice A N c, .int .i64 f, .int .i64 m], .string s] W (PushEnds xs2 f m2 k2 W) := fun W h => by
    have := push_any A c f m xs s W HA.out (by have := HX.out; omega) h hmax
    rw [hpu, HX.out] at this
    exact this
  have RU : ∀ W, Bs W W.heap.size A xs → Calls Try.prog 18 #[.agg #[.slice A N c, .int .i64 f, .int .i64 m], .string s] W (PushEnds xs2 f m2 k2 W) := fun W h => by
    have := rpush_any A c f m xs s W HA.out (by have := HX.out; omega) h hmax
    rw [hpu, HX.out] at this
    exact this
  have PO : ∀ W, Bs W W.heap.size A xs → Calls Try.prog 13 #[.agg #[.slice A N c, .int .i64 f, .int .i64 m], .int .i64 n] W (PopEnds xs f3 m3 l3 W) := fun W h => by
    have := pop_any A c f m n xs W HA.out (by have := HX.out; omega) h
    rw [hpo, HX.out] at this
    exact this
  have RO : ∀ W, Bs W W.heap.size A xs → Calls Try.prog 19 #[.agg #[.slice A N c, .int .i64 f, .int .i64 m], .int .i64 n] W (PopEnds xs f3 m3 l3 W) := fun W h => by
    have := rpop_any A c f m n xs W HA.out (by have := HX.out; omega) h
    rw [hpo, HX.out] at this
    exact this
  have DA : ∀ W, Bs W W.heap.size A xs → Calls Try.prog 16 #[.agg #[.slice A N c, .int .i64 f, .int .i64 m]] W (StrEnds (datB xs f m) W) := fun W h => by
    have := data_any A c f m xs W (by have := HX.out; omega) h
    rw [HX.out] at this
    exact this
  have RD : ∀ W, Bs W W.heap.size A xs → Calls Try.prog 12 #[.agg #[.slice A N c, .int .i64 f, .int .i64 m]] W (StrEnds (datB xs f m) W) := fun W h => by
    have := rdata_any A c f m xs W h
    rw [HX.out] at this
    exact this
  have FA : ∀ W, Bs W W.heap.size A xs → Mx W → Calls Try.prog 17 #[.agg #[.slice A N c, .int .i64 f, .int .i64 m], .string s] W (IntEnds (Lib.index (datB xs f m) s.data.toList) W) := fun W h hm => by
    have := find_any A c f m xs s W (by have := HX.out; omega) h hm
    rw [HX.out] at this
    exact this
  have RF : ∀ W, Bs W W.heap.size A xs → Calls Try.prog 21 #[.agg #[.slice A N c, .int .i64 f, .int .i64 m], .string s] W (IntEnds (Lib.index (datB xs f m) s.data.toList) W) := fun W h => by
    have := rfind_any A c f m xs s W h hs
    rw [HX.out] at this
    exact this
  generalize datB xs f m = D at *
  generalize Lib.index D s.data.toList = ix at *
  have HPU := Lib.hid PU
  have HRU := Lib.hid RU
  have HPO := Lib.hid PO
  have HRO := Lib.hid RO
  have HDA := Lib.hid DA
  have HRD := Lib.hid RD
  have HFA := Lib.hid FA
  have HRF := Lib.hid RF
  have HX2 := Lib.hid hN2
  clear PU RU PO RO DA RD FA RF hN2 hpu hpo
  go_enter Try.func7, Try.ntmps7
  go_wp2_with fail
  refine (HPU.out _ (hB.up (ba1 _ _))).mono ?_
  rintro e w1 ⟨v, rfl, hr, hb1⟩
  obtain ⟨A1, c1, rfl, hB1⟩ := hr.named HX2.out
  have b3 := (Box.new w 24 #[.slice A N c, .int .i64 f, .int .i64 m]).up hb1
  have hw1 := bon (ba1 w _) hb1
  have s1 := hb1.size
  simp only [World.size_alloc] at s1
  have l1 : w.heap.size < w1.heap.size := by omega
  obtain ⟨⟨c0, d1, d2⟩, _⟩ := b3.three
  go_wp2_with fail
  refine (HRU.out _ (hB.up (bon hw1 (ba1 _ _)))).mono ?_
  rintro e w2 ⟨v, rfl, hr2, hb2⟩
  obtain ⟨A2, c2, rfl, hB2⟩ := hr2.named HX2.out
  have a3 := (b3.alloc (.cells #[.slice A1 N2 c1, .int .i64 f, .int .i64 m2] 24)).up hb2
  have a7 := (Box.new w1 24 #[.slice A1 N2 c1, .int .i64 f, .int .i64 m2]).up hb2
  have hw2 := bon (bon hw1 (ba1 _ _)) hb2
  have hB12 := (hB1.up (ba1 w1 (.cells #[.slice A1 N2 c1, .int .i64 f, .int .i64 m2] 24))).up hb2
  have l2 : w.heap.size < w2.heap.size := a3.lt
  clear c0 d1 d2 b3 hb1 hb2 hr hr2 s1 l1 hw1 hB1
  obtain ⟨⟨c0, d1, d2⟩, _⟩ := a3.three
  go_wp2_with fail
  refine (HPO.out _ (hB.up (bon hw2 (ba1 _ _)))).mono ?_
  rintro e w3 ⟨v, rfl, hr, hb3⟩
  obtain ⟨A3, c3, rfl, hB3⟩ := hr.named HX.out
  have e3 := (a3.alloc (.cells #[.slice A2 N2 c2, .int .i64 f, .int .i64 m2] 24)).up hb3
  have e7 := (a7.alloc (.cells #[.slice A2 N2 c2, .int .i64 f, .int .i64 m2] 24)).up hb3
  have e9 := (Box.new w2 24 #[.slice A2 N2 c2, .int .i64 f, .int .i64 m2]).up hb3
  have hw3 := bon (bon hw2 (ba1 _ _)) hb3
  have hB13 := (hB12.up (ba1 w2 (.cells #[.slice A2 N2 c2, .int .i64 f, .int .i64 m2] 24))).up hb3
  have hB23 := (hB2.up (ba1 w2 (.cells #[.slice A2 N2 c2, .int .i64 f, .int .i64 m2] 24))).up hb3
  have l3' : w.heap.size < w3.heap.size := e3.lt
  clear c0 d1 d2 a3 a7 hb3 hr l2 hw2 hB12 hB2
  obtain ⟨⟨c0, d1, d2⟩, _⟩ := e3.three
  go_wp2_with fail
  refine (HRO.out _ (hB.up (bon hw3 (ba1 _ _)))).mono ?_
  rintro e w4 ⟨v, rfl, hr, hb4⟩
  obtain ⟨A4, c4, rfl, hB4⟩ := hr.named HX.out
  have a3 := (e3.alloc (.cells #[.slice A3 N c3, .int .i64 f3, .int .i64 m3] 24)).up hb4
  have a7 := (e7.alloc (.cells #[.slice A3 N c3, .int .i64 f3, .int .i64 m3] 24)).up hb4
  have a9 := (e9.alloc (.cells #[.slice A3 N c3, .int .i64 f3, .int .i64 m3] 24)).up hb4
  have a11 := (Box.new w3 24 #[.slice A3 N c3, .int .i64 f3, .int .i64 m3]).up hb4
  have hw4 := bon (bon hw3 (ba1 _ _)) hb4
  have hB14 := (hB13.up (ba1 w3 (.cells #[.slice A3 N c3, .int .i64 f3, .int .i64 m3] 24))).up hb4
  have hB24 := (hB23.up (ba1 w3 (.cells #[.slice A3 N c3, .int .i64 f3, .int .i64 m3] 24))).up hb4
  have hB34 := (hB3.up (ba1 w3 (.cells #[.slice A3 N c3, .int .i64 f3, .int .i64 m3] 24))).up hb4
  clear c0 d1 d2 e3 e7 e9 hb4 hr l3' hw3 hB13 hB23 hB3
  go_wp2_with fail
  have e3 := a3.alloc (.cells #[.slice A4 N c4, .int .i64 f3, .int .i64 m3] 24)
  have e7 := a7.alloc (.cells #[.slice A4 N c4, .int .i64 f3, .int .i64 m3] 24)
  have e9 := a9.alloc (.cells #[.slice A4 N c4, .int .i64 f3, .int .i64 m3] 24)
  have e11 := a11.alloc (.cells #[.slice A4 N c4, .int .i64 f3, .int .i64 m3] 24)
  have e13 := Box.new w4 24 #[.slice A4 N c4, .int .i64 f3, .int .i64 m3]
  have hw5 := bon hw4 (ba1 w4 (.cells #[.slice A4 N c4, .int .i64 f3, .int .i64 m3] 24))
  have hB5 := hB.up hw5
  have hB15 := hB14.up (ba1 w4 (.cells #[.slice A4 N c4, .int .i64 f3, .int .i64 m3] 24))
  have hB25 := hB24.up (ba1 w4 (.cells #[.slice A4 N c4, .int .i64 f3, .int .i64 m3] 24))
  have hB35 := hB34.up (ba1 w4 (.cells #[.slice A4 N c4, .int .i64 f3, .int .i64 m3] 24))
  have hB45 := hB4.up (ba1 w4 (.cells #[.slice A4 N c4, .int .i64 f3, .int .i64 m3] 24))
  have hM5 := hM.up hw5
  generalize w4.alloc (.cells #[.slice A4 N c4, .int .i64 f3, .int .i64 m3] 24) = W5 at *
  generalize w1.heap.size = g7 at *
  generalize w2.heap.size = g9 at *
  generalize w3.heap.size = g11 at *
  generalize w4.heap.size = g13 at *
  generalize hg3 : w.heap.size = g3
  rw [hg3] at e3
  clear a3 a7 a9 a11 hw4 hB14 hB24 hB34 hB4 hB hM HPU HRU HPO HRO hmax hN hc
  obtain ⟨⟨p0, p1, p2⟩, _⟩ := e3.three
  obtain ⟨⟨p3, p4, p5⟩, _⟩ := e7.three
  obtain ⟨⟨p6, p7, p8⟩, _⟩ := e9.three
  obtain ⟨⟨p9, p10, p11⟩, _⟩ := e11.three
  obtain ⟨⟨p12, p13, p14⟩, _⟩ := e13.three
  clear e3 e7 e9 e11 e13
  go_region_held3 (fun w' => Below W5.heap.size W5 w' ∧ w'.cell? ⟨g3, 0, none⟩ = some (.slice A N c) ∧ w'.cell? ⟨g3, 1, none⟩ = some (.int .i64 f) ∧ w'.cell? ⟨g3, 2, none⟩ = some (.int .i64 m) ∧ w'.cell? ⟨g7, 0, none⟩ = some (.slice A1 N2 c1) ∧ w'.cell? ⟨g7, 1, none⟩ = some (.int .i64 f) ∧ w'.cell? ⟨g7, 2, none⟩ = some (.int .i64 m2) ∧ w'.cell? ⟨g9, 0, none⟩ = some (.slice A2 N2 c2) ∧ w'.cell? ⟨g9, 1, none⟩ = some (.int .i64 f) ∧ w'.cell? ⟨g9, 2, none⟩ = some (.int .i64 m2) ∧ w'.cell? ⟨g11, 0, none⟩ = some (.slice A3 N c3) ∧ w'.cell? ⟨g11, 1, none⟩ = some (.int .i64 f3) ∧ w'.cell? ⟨g11, 2, none⟩ = some (.int .i64 m3) ∧ w'.cell? ⟨g13, 0, none⟩ = some (.slice A4 N c4) ∧ w'.cell? ⟨g13, 1, none⟩ = some (.int .i64 f3) ∧ w'.cell? ⟨g13, 2, none⟩ = some (.int .i64 m3))
    (first | exact toldS hbP (by assumption) | exact ⟨(Below.refl _ _).drew, p0, p1, p2, p3, p4, p5, p6, p7, p8, p9, p10, p11, p12, p13, p14⟩)
    (first
      | (go_at_call 15; refine (right_any A N c f m _).mono ?_; rintro e wP ⟨rfl, hbP⟩)
      | (go_at_call 20; refine (rright_any A N c f m _).mono ?_; rintro e wP ⟨rfl, hbP⟩)
      | (go_at_call 16; refine (HDA.out _ (hB5.up ?_)).mono ?_; (simp only [*]); rintro e wP ⟨rfl, hbP⟩)
      | (go_at_call 12; refine (HRD.out _ (hB5.up ?_)).mono ?_; (simp only [*]); rintro e wP ⟨rfl, hbP⟩)
      | (go_at_call 17; refine (HFA.out _ (hB5.up ?_) (hM5.up ?_)).mono ?_; (simp only [*]); (simp only [*]); rintro e wP ⟨rfl, hbP⟩)
      | (go_at_call 21; refine (HRF.out _ (hB5.up ?_)).mono ?_; (simp only [*]); rintro e wP ⟨rfl, hbP⟩)
      | (go_at_call_of 8 (Value.agg #[Value.slice A1 N2 c1, Value.int IntKind.i64 f, Value.int IntKind.i64 m2]); refine (same_any A1 A2 N2 c1 c2 f m2 xs2 _ HX2 (hB15.up ?_) (hB25.up ?_)).mono ?_; (simp only [*]); (simp only [*]); rintro e wP ⟨rfl, hbP⟩)
      | (go_at_call_of 8 (Value.agg #[Value.slice A3 N c3, Value.int IntKind.i64 f3, Value.int IntKind.i64 m3]); refine (same_any A3 A4 N c3 c4 f3 m3 xs _ HX (hB35.up ?_) (hB45.up ?_)).mono ?_; (simp only [*]); (simp only [*]); rintro e wP ⟨rfl, hbP⟩))
  rename_i hHeld
  have hfin : Below W5.heap.size W5 wP := hHeld.1
  clear hHeld
  go_wp2
  go_ret
  exact ⟨rfl, bon hw5 hfin⟩

end Go.Proofs.Ytbjjolfefegcbaa
