/-
  The walks of the document's own answers Pop, Find and Same (lockageref01).
-/
import Derived.Test.YtbjjolfefegcbaaRef2
import Derived.Test.YtbjjolfefegcbaaFind
namespace Go.Proofs.Ytbjjolfefegcbaa
open Go.RowKit

set_option maxRecDepth 100000 in
set_option maxHeartbeats 1000000 in
theorem rpop_no (A : Option Addr) (c : Nat) (f m n : Int) (xs : List UInt8) (w : World) (hA : A = none → c = 0) (hb : xs.length ≤ 100000000) (hB : Bs w w.heap.size A xs) (hok : okB xs.length f m = false ∨ (okB xs.length f m = true ∧ n < 0)) :
    Calls Try.prog 19 #[rv A xs.length c f m, .int .i64 n] w (PopEnds xs f m [] w) := by
  have HA := Lib.hid hA
  clear hA
  rcases hok with hok | ⟨hok, hn⟩
  all_goals
    go_enter Try.func19, Try.ntmps19
    go_wp2_with fail
    refine (rown_any A c f m xs _ HA.out hb (hB.up (ba2 _ _ _))).mono ?_
    rintro e w1 ⟨A', c', rfl, ho, hbl⟩
    have b0 := (Box.mk' w 24 #[.slice A xs.length c, .int .i64 f, .int .i64 m] _ rfl).alloc (.cells #[.slice none 0 0, .int .i64 0, .int .i64 0] 24) |>.up hbl
    have b2 := (Box.mk' (w.alloc (.cells #[.slice A xs.length c, .int .i64 f, .int .i64 m] 24)) 24 #[.slice none 0 0, .int .i64 0, .int .i64 0] (w.heap.size + 1) (by simp)).up hbl
    have hbw := bon (ba2 _ _ _) hbl
    have hsz := hbl.size
    simp only [World.size_alloc] at hsz ho
    have hlt1 : w.heap.size < w1.heap.size := by omega
    obtain ⟨⟨c0, c1, c2⟩, f0, f1, f2⟩ := b0.three
    go_wp2_with fail
    refine (rright_any A xs.length c f m _).mono ?_
    rintro e w2 ⟨rfl, hbl2⟩
    have b2' := (b2.alloc (.cells #[.slice A' xs.length c', .int .i64 f, .int .i64 m] 24)).up hbl2
    have b3' := (Box.new w1 24 #[.slice A' xs.length c', .int .i64 f, .int .i64 m]).up hbl2
    have hbw2 := bon (bon hbw (ba1 _ _)) hbl2
    have ho2 := (ho.up (ba1 w1 (.cells #[.slice A' xs.length c', .int .i64 f, .int .i64 m] 24))).up hbl2
    clear c0 c1 c2 f0 f1 f2 hbl hbl2 b0 b2 ho hbw
    obtain ⟨⟨c0, c1, c2⟩, _⟩ := b3'.three
    obtain ⟨⟨d0, d1, d2⟩, e0, e1, e2⟩ := b2'.three
    go_wp2
    refine bodyPost_ret (v := .tuple #[rv A' xs.length c' f m, .string ⟨[].toArray⟩]) (by simp [results, Try.results19, go_sem, d0, d1, d2]) rfl ⟨rv A' xs.length c' f m, rfl, ⟨A', c', rfl, ho2.1, ho2.le, ?_⟩, ?_⟩
    · exact (ho2.set3 (g := w.heap.size + 1) (by omega) _ _ _).bs
    · exact below_set3 hbw2 (by omega) _ _ _

theorem size_set1 (w : World) (p : Addr) (u : Value) : (w.setCell p u).heap.size = w.heap.size := by simp [World.setCell]

/-- a ring's own block holds no byte -/
theorem Bs.off_ring {w : World} {B g n c : Nat} {A a : Option Addr} {x y : Int} {xs : List UInt8} (h : Bs w B A xs) (hb : Box w g 24 #[.slice a n c, .int .i64 x, .int .i64 y]) (hl : 0 < xs.length) :
    ∃ b o, A = some ⟨b, o, none⟩ ∧ b < B ∧ b ≠ g ∧ ∀ j, j < xs.length → w.cell? ⟨b, o + j, none⟩ = some (bv (xs[j]?.getD 0)) := by
  obtain ⟨b, o, rfl, hbB, hc⟩ := h hl
  refine ⟨b, o, rfl, hbB, ?_, hc⟩
  rintro rfl
  have h0 := hc 0 hl
  have h1 := cell_of_row w b (o + 0) _ 24 (0, 0) hb
  rw [h0] at h1
  match o with
  | 0 => simp [bv] at h1
  | 1 => simp [bv] at h1
  | 2 => simp [bv] at h1
  | (k + 3) => simp at h1

theorem Bs.set1 {w : World} {B g n c : Nat} {A a : Option Addr} {x y : Int} {xs : List UInt8} (h : Bs w B A xs) (hb : Box w g 24 #[.slice a n c, .int .i64 x, .int .i64 y]) (i : Nat) (u : Value) : Bs (w.setCell ⟨g, i, none⟩ u) B A xs := by
  intro hl
  obtain ⟨b, o, rfl, hbB, hne, hc⟩ := h.off_ring hb hl
  refine ⟨b, o, rfl, hbB, fun j hj => ?_⟩
  rw [World.cell?_setCell_far _ _ _ _ (by simpa using hne.symm)]
  exact hc j hj

theorem Bs.set3 {w : World} {B g n c : Nat} {A a : Option Addr} {x y : Int} {xs : List UInt8} (h : Bs w B A xs) (hb : Box w g 24 #[.slice a n c, .int .i64 x, .int .i64 y]) (x' y' z' : Value) :
    Bs (((w.setCell ⟨g, 0, none⟩ x').setCell ⟨g, 1, none⟩ y').setCell ⟨g, 2, none⟩ z') B A xs := by
  intro hl
  obtain ⟨b, o, rfl, hbB, hne, hc⟩ := h.off_ring hb hl
  refine ⟨b, o, rfl, hbB, fun j hj => ?_⟩
  rw [World.cell?_setCell_far _ _ _ _ (by simpa using hne.symm), World.cell?_setCell_far _ _ _ _ (by simpa using hne.symm), World.cell?_setCell_far _ _ _ _ (by simpa using hne.symm)]
  exact hc j hj

set_option maxRecDepth 100000 in
set_option maxHeartbeats 1000000 in
theorem rpop_yes (A : Option Addr) (c : Nat) (f m n : Int) (xs : List UInt8) (w : World) (hA : A = none → c = 0) (hB : Bs w w.heap.size A xs) (hok : okB xs.length f m = true) (hn : 0 ≤ n) :
    Calls Try.prog 19 #[rv A xs.length c f m, .int .i64 n] w (PopEnds xs ((f + min n m) % xs.length) (m - min n m) (dat xs f.toNat (min n m).toNat) w) := by
  have HA := Lib.hid hA
  clear hA
  have hh := okB_true hok
  have h0k : 0 ≤ min n m := by omega
  have hkm : min n m ≤ m := by omega
  have hdb : datB xs f m = dat xs f.toNat m.toNat := by simp [datB, hok]
  have hdl : (dat xs f.toNat m.toNat).length = m.toNat := dat_length _ _ _ (by omega) (by omega)
  have hdt : dat xs f.toNat (min n m).toNat = (dat xs f.toNat m.toNat).take (min n m).toNat := dat_take _ _ _ _ (by omega)
  have HD := Lib.hid hdb
  have hsl : min n m ≤ ((dat xs f.toNat m.toNat).length : Int) := by rw [hdl]; omega
  have HL := Lib.hid hdl
  have HT := Lib.hid hdt
  clear hdb hdl hdt
  go_enter Try.func19, Try.ntmps19
  go_wp2_with fail
  refine (rown_any A c f m xs _ HA.out (by omega) (hB.up (ba2 _ _ _))).mono ?_
  rintro e w1 ⟨A', c', rfl, ho, hbl⟩
  have b0 := (Box.mk' w 24 #[.slice A xs.length c, .int .i64 f, .int .i64 m] _ rfl).alloc (.cells #[.slice none 0 0, .int .i64 0, .int .i64 0] 24) |>.up hbl
  have b2 := (Box.mk' (w.alloc (.cells #[.slice A xs.length c, .int .i64 f, .int .i64 m] 24)) 24 #[.slice none 0 0, .int .i64 0, .int .i64 0] (w.heap.size + 1) (by simp)).up hbl
  have hbw := bon (ba2 _ _ _) hbl
  have hsz := hbl.size
  simp only [World.size_alloc] at hsz ho
  have hlt1 : w.heap.size < w1.heap.size := by omega
  obtain ⟨⟨c0, c1, c2⟩, f0, f1, f2⟩ := b0.three
  go_wp2_with fail
  refine (rright_any A xs.length c f m _).mono ?_
  rintro e w2 ⟨rfl, hbl2⟩
  have b0' := (b0.alloc (.cells #[.slice A' xs.length c', .int .i64 f, .int .i64 m] 24)).up hbl2
  have b2' := (b2.alloc (.cells #[.slice A' xs.length c', .int .i64 f, .int .i64 m] 24)).up hbl2
  have b3' := (Box.new w1 24 #[.slice A' xs.length c', .int .i64 f, .int .i64 m]).up hbl2
  have hbw2 := bon (bon hbw (ba1 _ _)) hbl2
  have ho2 := (ho.up (ba1 w1 (.cells #[.slice A' xs.length c', .int .i64 f, .int .i64 m] 24))).up hbl2
  have s2 := hbl2.size
  simp only [World.size_alloc] at s2
  clear c0 c1 c2 f0 f1 f2 hbl hbl2 b0 b2 ho hbw
  obtain ⟨⟨c0, c1, c2⟩, _⟩ := b0'.three
  go_wp2_with fail
  have P1 := rdata_any A c f m xs w2 (hB.up hbw2)
  rw [HD.out] at P1
  refine P1.mono ?_
  clear P1
  rintro e w3 ⟨rfl, hbl3⟩
  have b0 := b0'.up hbl3
  have b2 := b2'.up hbl3
  have b3 := b3'.up hbl3
  have hbw3 := bon hbw2 hbl3
  have ho3 := ho2.up hbl3
  have s3 := hbl3.size
  clear c0 c1 c2 b0' b2' b3' ho2 hbw2 hbl3
  obtain ⟨⟨c0, c1, c2⟩, _⟩ := b0.three
  obtain ⟨⟨d0, d1, d2⟩, e0, e1, e2⟩ := b2.three
  obtain ⟨⟨g0, g1, g2⟩, i0, i1, i2⟩ := b3.three
  go_wp2
  have es : (⟨(dat xs f.toNat m.toNat).toArray⟩ : ByteArray).extract 0 (min n m).toNat = ⟨(dat xs f.toNat (min n m).toNat).toArray⟩ := by
    apply ByteArray.ext
    apply Array.ext'
    rw [Lib.extract_data, HT.out]
    simp
  refine bodyPost_ret (v := .tuple #[rv A' xs.length c' ((f + min n m) % xs.length) (m - min n m), .string ⟨(dat xs f.toNat (min n m).toNat).toArray⟩]) (by rw [← es]; simp [results, Try.results19, go_sem, d0, d1, d2]) rfl ⟨_, rfl, ⟨A', c', rfl, ho3.1, ho3.le, ?_⟩, ?_⟩
  · have q1 := b3.set 1 (.int .i64 ((f + min n m) % (xs.length : Int)))
    have B1 := ho3.bs.set1 b3 1 (.int .i64 ((f + min n m) % (xs.length : Int)))
    simp only [List.setIfInBounds_toArray, List.set_cons_succ, List.set_cons_zero] at q1
    have B2 := B1.set1 q1 2 (.int .i64 (m - min n m))
    have q2 := (b2.far (p := ⟨w1.heap.size, 1, none⟩) (by simp; omega) (.int .i64 ((f + min n m) % (xs.length : Int)))).far (p := ⟨w1.heap.size, 2, none⟩) (by simp; omega) (.int .i64 (m - min n m))
    have B3 := B2.set3 q2 (.slice A' xs.length c') (.int .i64 ((f + min n m) % (xs.length : Int))) (.int .i64 (m - min n m))
    rw [size_set3, size_set1, size_set1]
    exact B3
  · exact below_set3 ((hbw3.setCell (p := ⟨w1.heap.size, 1, none⟩) (by simp only; omega) _).setCell (p := ⟨w1.heap.size, 2, none⟩) (by simp only; omega) _) (by omega) _ _ _

theorem rpop_any (A : Option Addr) (c : Nat) (f m n : Int) (xs : List UInt8) (w : World) (hA : A = none → c = 0) (hb : xs.length ≤ 100000000) (hB : Bs w w.heap.size A xs) :
    Calls Try.prog 19 #[rv A xs.length c f m, .int .i64 n] w (PopEnds xs (popped xs f m n).1 (popped xs f m n).2.1 (popped xs f m n).2.2 w) := by
  cases h : okB xs.length f m with
  | false =>
    have e : popped xs f m n = (f, m, []) := by simp [popped, h]
    rw [e]
    exact rpop_no A c f m n xs w hA hb hB (.inl h)
  | true =>
    by_cases hn : 0 ≤ n
    · have e : popped xs f m n = ((f + min n m) % xs.length, m - min n m, dat xs f.toNat (min n m).toNat) := by
        by_cases hm : n ≤ m
        · simp [popped, h, hn, hm, Int.min_eq_left hm]
        · simp [popped, h, hn, hm, Int.min_eq_right (show m ≤ n by omega)]
      rw [e]
      exact rpop_yes A c f m n xs w hA hB h hn
    · have e : popped xs f m n = (f, m, []) := by simp [popped, hn]
      rw [e]
      exact rpop_no A c f m n xs w hA hb hB (.inr ⟨h, by omega⟩)


end Go.Proofs.Ytbjjolfefegcbaa
