/-
  The walk of the document's own answer Push (lockageref01): byte by byte, as many as fit.
-/
import Derived.Test.YtbjjolfefegcbaaRef3
import Derived.Deep.RegionHeld3
namespace Go.Proofs.Ytbjjolfefegcbaa
open Go.RowKit

theorem cellsOf_set (L : List UInt8) (sp : List Value) (p : Nat) (y : UInt8) (h : p < L.length) : (cellsOf L sp).setIfInBounds p (bv y) = cellsOf (L.set p y) sp := by
  unfold cellsOf
  rw [List.setIfInBounds_toArray]
  congr 1
  rw [List.set_append_left _ _ (by simpa using h), List.map_set]

/-- the block of a slice of the call's own that holds a byte is no ring's -/
theorem OwnSl.block24 {w : World} {B c : Nat} {A : Option Addr} {xs : List UInt8} (h : OwnSl w B A c xs) (hx : 0 < xs.length) {gp : Nat} {cs : Array Value} (hb : Box w gp 24 cs) :
    ∃ g sp, A = some ⟨g, 0, none⟩ ∧ B ≤ g ∧ Box w g 5 (cellsOf xs sp) ∧ g ≠ gp := by
  rcases h.2.2 with ⟨_, h2⟩ | ⟨g, cap, cur, h1, h2, h3, h4, h5, h6, h7⟩
  · omega
  · injection h1 with h1
    refine ⟨g, cur.toList.drop xs.length, h1, h2, ?_, ?_⟩
    · unfold Box cellsOf
      rw [h3]
      congr 2
      apply Array.ext'
      rw [Nat.mul_one] at h7
      rw [← h7]
      simp
    · rintro rfl
      rw [show w.heap[g]? = _ from hb] at h3
      cases h3

/-- what holds at the head of each round of Push's loop: k bytes of s are written -/
def RPush (xs : List UInt8) (s : ByteArray) (N f m g go c' : Nat) (sp : List Value) (w : World) (c7 : Value) (wr : World) : Prop :=
  ∃ k : Nat, c7 = .int .i64 (k : Int) ∧ k ≤ s.size ∧ m + k ≤ N ∧ Box wr g 5 (cellsOf (put xs (f + m) (s.data.toList.take k)) sp) ∧ Box wr go 24 #[.slice (some ⟨g, 0, none⟩) N c', .int .i64 (f : Int), .int .i64 ((m : Int) + (k : Int))] ∧
    Box wr (w.heap.size + 1) 24 #[.slice none 0 0, .int .i64 0, .int .i64 0] ∧ Below w.heap.size w wr

set_option maxRecDepth 100000 in
set_option maxHeartbeats 1000000 in
theorem rpush_no (A : Option Addr) (c : Nat) (f m : Int) (xs : List UInt8) (s : ByteArray) (w : World) (hA : A = none → c = 0) (hb : xs.length ≤ 100000000) (hB : Bs w w.heap.size A xs) (hok : okB xs.length f m = false) :
    Calls Try.prog 18 #[rv A xs.length c f m, .string s] w (PushEnds xs f m 0 w) := by
  have HA := Lib.hid hA
  clear hA
  go_enter Try.func18, Try.ntmps18
  go_wp2_with fail
  refine (rown_any A c f m xs _ HA.out hb (hB.up (ba2 _ _ _))).mono ?_
  rintro e w1 ⟨A', c', rfl, ho, hbl⟩
  have b0 := (Box.mk' w 24 #[.slice A xs.length c, .int .i64 f, .int .i64 m] _ rfl).alloc (.cells #[.slice none 0 0, .int .i64 0, .int .i64 0] 24) |>.up hbl
  have b2 := (Box.mk' (w.alloc (.cells #[.slice A xs.length c, .int .i64 f, .int .i64 m] 24)) 24 #[.slice none 0 0, .int .i64 0, .int .i64 0] (w.heap.size + 1) (by simp)).up hbl
  have hbw := bon (ba2 _ _ _) hbl
  have hsz := hbl.size
  simp only [World.size_alloc] at hsz ho
  have hlt1 : w.heap.size < w1.heap.size := by omega
  obtain ⟨⟨c0, c1, c2⟩, f0, f1, f2⟩ := b0.three
  go_wp2_with fail
  refine (rright_any A xs.length c f m _).mono ?_
  rintro e w2 ⟨rfl, hbl2⟩
  have b2' := (b2.alloc (.cells #[.slice A' xs.length c', .int .i64 f, .int .i64 m] 24)).up hbl2
  have b3' := (Box.new w1 24 #[.slice A' xs.length c', .int .i64 f, .int .i64 m]).up hbl2
  have hbw2 := bon (bon hbw (ba1 _ _)) hbl2
  have ho2 := (ho.up (ba1 w1 (.cells #[.slice A' xs.length c', .int .i64 f, .int .i64 m] 24))).up hbl2
  clear c0 c1 c2 f0 f1 f2 hbl hbl2 b0 b2 ho hbw
  obtain ⟨⟨c0, c1, c2⟩, _⟩ := b3'.three
  obtain ⟨⟨d0, d1, d2⟩, e0, e1, e2⟩ := b2'.three
  go_wp2
  refine bodyPost_ret (v := .tuple #[rv A' xs.length c' f m, .int .i64 0]) (by simp [results, Try.results18, go_sem, d0, d1, d2]) rfl ⟨rv A' xs.length c' f m, rfl, ⟨A', c', rfl, ho2.1, ho2.le, ?_⟩, ?_⟩
  · exact (ho2.set3 (g := w.heap.size + 1) (by omega) _ _ _).bs
  · exact below_set3 hbw2 (by omega) _ _ _

theorem rpush_end {xs : List UInt8} {l : List UInt8} {N f m g c' k : Nat} {sp : List Value} {w wr : World} {x : Value} (HX : Hid (xs.length = N)) (hle : xs.length ≤ c') (i1 : Box wr g 5 (cellsOf (put xs (f + m) (l.take k)) sp))
    (i3 : Box wr (w.heap.size + 1) 24 #[.slice none 0 0, .int .i64 0, .int .i64 0]) (hBW : Below w.heap.size w wr) (hk : k ≤ l.length ∧ m + k ≤ N) (hor : k = l.length ∨ m + k = N) {T : List UInt8} {kn : Nat} (hT : Hid (l.take (N - m) = T)) (hkn : Hid (T.length = kn)) :
    PushEnds (put xs (f + m) T) f (m + kn) kn w (.returned (.tuple #[rv (some ⟨g, 0, none⟩) N c' f ((m : Int) + (k : Int)), .int .i64 (k : Int)])) (((wr.setCell ⟨w.heap.size + 1, 0, none⟩ (.slice (some ⟨g, 0, none⟩) N c')).setCell ⟨w.heap.size + 1, 1, none⟩ (.int .i64 (f : Int))).setCell ⟨w.heap.size + 1, 2, none⟩ x) := by
  obtain rfl := hT.out
  obtain rfl := hkn.out
  have e1 : l.take (N - m) = l.take k := by
    rcases hor with h | h
    · rw [List.take_of_length_le (by omega), List.take_of_length_le (by omega)]
    · rw [show N - m = k by omega]
  have e2 : (l.take k).length = k := by simp; omega
  rw [e1, e2]
  refine ⟨_, rfl, ⟨some ⟨g, 0, none⟩, c', by rw [put_length, HX.out], (fun h => by cases h), by rw [put_length]; exact hle, ?_⟩, below_set3 hBW (by omega) _ _ _⟩
  have hB : Bs wr wr.heap.size (some ⟨g, 0, none⟩) (put xs (f + m) (l.take k)) := Bs.of_block i1 _ (by simp only [cellsOf]; rw [List.take_append_of_le_length (by simp), List.take_of_length_le (by simp)])
  rw [size_set3]
  exact hB.set3 i3 _ _ _

set_option maxRecDepth 100000 in
set_option maxHeartbeats 1000000 in
theorem rpush_yes (A : Option Addr) (c N f m : Nat) (xs : List UInt8) (s : ByteArray) (w : World) (HX : Hid (xs.length = N)) (hA : A = none → c = 0) (hN : N ≤ 4096) (hB : Bs w w.heap.size A xs) (hf : f < N) (hm : m ≤ N) (hS : s.size ≤ maxLen) (T : List UInt8) (kn : Nat) (hT : Hid (s.data.toList.take (N - m) = T)) (hkn : Hid (T.length = kn)) :
    Calls Try.prog 18 #[rv A N c f m, .string s] w (PushEnds (put xs (f + m) T) f (m + kn) kn w) := by
  have hok : okB N f m = true := okB_mk (by omega)
  have HA := Lib.hid hA
  clear hA
  unfold maxLen at hS
  go_enter Try.func18, Try.ntmps18
  go_wp2_with fail
  have P1 := rown_any A c f m xs ((w.alloc (.cells #[.slice A N c, .int .i64 (f : Int), .int .i64 (m : Int)] 24)).alloc (.cells #[.slice none 0 0, .int .i64 0, .int .i64 0] 24)) HA.out (by have := HX.out; omega) (hB.up (ba2 _ _ _))
  rw [HX.out] at P1
  refine P1.mono ?_
  clear P1
  rintro e w1 ⟨A', c', rfl, ho, hbl⟩
  rw [HX.out]
  have b2 := (Box.mk' (w.alloc (.cells #[.slice A N c, .int .i64 (f : Int), .int .i64 (m : Int)] 24)) 24 #[.slice none 0 0, .int .i64 0, .int .i64 0] (w.heap.size + 1) (by simp)).up hbl
  have b0 := (Box.mk' w 24 #[.slice A N c, .int .i64 (f : Int), .int .i64 (m : Int)] _ rfl).alloc (.cells #[.slice none 0 0, .int .i64 0, .int .i64 0] 24) |>.up hbl
  have hbw := bon (ba2 _ _ _) hbl
  have hsz := hbl.size
  simp only [World.size_alloc] at hsz ho
  have hlt1 : w.heap.size < w1.heap.size := by omega
  obtain ⟨⟨c0, c1, c2⟩, f0, f1, f2⟩ := b0.three
  go_wp2_with fail
  refine (rright_any A N c f m _).mono ?_
  rintro e w2 ⟨rfl, hbl2⟩
  have b2' := (b2.alloc (.cells #[.slice A' N c', .int .i64 (f : Int), .int .i64 (m : Int)] 24)).up hbl2
  have b3' := (Box.new w1 24 #[.slice A' N c', .int .i64 (f : Int), .int .i64 (m : Int)]).up hbl2
  have hbw2 := bon (bon hbw (ba1 _ _)) hbl2
  have ho2 := (ho.up (ba1 w1 (.cells #[.slice A' N c', .int .i64 (f : Int), .int .i64 (m : Int)] 24))).up hbl2
  have s2 := hbl2.size
  simp only [World.size_alloc] at s2
  obtain ⟨go, hgo⟩ : ∃ go, go = w1.heap.size := ⟨_, rfl⟩
  clear c0 c1 c2 f0 f1 f2 hbl hbl2 b0 b2 ho hbw
  rw [← hgo] at b3' s2 hsz hlt1
  have hle := ho2.le
  obtain ⟨g, sp, rfl, hg, hcur, hne⟩ := ho2.block24 (by have := HX.out; omega) b3'
  go_wp2_with fail
  rw [← hgo]
  clear hgo
  go_loopw [7] (RPush xs s N f m g go c' sp w) (fun c7 _ => s.size - (intOf c7).toNat)
  case atStart => exact ⟨0, rfl, Nat.zero_le _, by omega, by simpa [put] using hcur, by simpa using b3', b2', hbw2⟩
  case round =>
    obtain ⟨k, rfl, hk1, hk2, i1, i2, i3, hBW⟩ := hrel
    clear hcur b3' b2' hbw2 ho2
    obtain ⟨⟨c0, c1, c2⟩, f0, f1, f2⟩ := i2.three
    by_cases hlt : k < s.size
    · by_cases hlt2 : m + k < N
      · have hlt2' : (m : Int) + (k : Int) < (N : Int) := by omega
        obtain ⟨p, hp⟩ : ∃ p, p = (f + m + k) % N := ⟨_, rfl⟩
        have hp1 : p < N := by rw [hp]; exact Nat.mod_lt _ (by omega)
        have hpl : (put xs (f + m) (s.data.toList.take k)).length = N := by rw [put_length]; exact HX.out
        have hpc : (cellsOf (put xs (f + m) (s.data.toList.take k)) sp)[p]? = some (bv ((put xs (f + m) (s.data.toList.take k))[p]?.getD 0)) := by
          unfold cellsOf
          rw [List.getElem?_toArray, List.getElem?_append_left (by simp; omega), List.getElem?_map, List.getElem?_eq_getElem (by omega)]
          rfl
        have gp := i1.c p hpc
        have fp := i1.f p
        generalize bv ((put xs (f + m) (s.data.toList.take k))[p]?.getD 0) = oldv at gp
        have hstep : put xs (f + m) (s.data.toList.take (k + 1)) = (put xs (f + m) (s.data.toList.take k)).set p s[k] := by
          rw [List.take_succ_eq_append_getElem (by rw [← Lib.size_eq]; exact hlt), put_snoc, HX.out, List.length_take, Nat.min_eq_left (by rw [← Lib.size_eq]; exact hk1), hp]
          rfl
        have hset := i1.set p (bv s[k])
        rw [cellsOf_set _ _ _ _ (by omega), ← hstep] at hset
        have HS := Lib.hid hset
        have t3 : (0 : Int) ≤ (p : Int) := by omega
        have t4 : (p : Int) < (N : Int) := by omega
        have t5 : ((N : Int) == 0) = false := beq_eq_false_iff_ne.2 (by omega)
        have t6 : ¬ N = 0 := by omega
        have t7 : ¬ (N : Int) = 0 := by omega
        have n1 : ¬ g = go := by omega
        have n2 : ¬ go = g := by omega
        have t8 : (k : Int) < (s.size : Int) := by omega
        have t1 : IntKind.i64.wrap ((f : Int) + ((m : Int) + (k : Int))) = (f : Int) + ((m : Int) + (k : Int)) := IntWalk.i64_in _ (by omega)
        have t2 : ((f : Int) + ((m : Int) + (k : Int))).tmod (N : Int) = (p : Int) := by rw [Int.tmod_eq_emod_of_nonneg (by omega), hp, ← Int.natCast_add, ← Int.natCast_add, ← Int.natCast_emod, Nat.add_assoc]
        clear hp hpl hpc hstep hset
        go_wp2_with fail
        go_region_held3 (fun w' => w'.cell? ⟨go, 0, none⟩ = some (.slice (some ⟨g, 0, none⟩) N c') ∧ w'.cell? ⟨go, 1, none⟩ = some (.int .i64 (f : Int)) ∧ w'.cell? ⟨go, 2, none⟩ = some (.int .i64 ((m : Int) + (k : Int))))
          (go_keep)
          (first | fail)
        clear c0 c1 c2 f0 f1 f2 gp fp t1 t2 t3 t4 t5 t7 hlt2'
        have j2 := i2.far (p := ⟨g, p, none⟩) (by simpa using n2) (.int .u8 (s[k].toNat : Int))
        have j3 := i3.far (p := ⟨g, p, none⟩) (by simp; omega) (.int .u8 (s[k].toNat : Int))
        have jB := (hBW.setCell (p := ⟨g, p, none⟩) (by simp only; omega) (.int .u8 (s[k].toNat : Int))).drew
        have j2 : Box (wr.setCell ⟨g, p, none⟩ (.int .u8 (s[k].toNat : Int))).drew go 24 #[.slice (some ⟨g, 0, none⟩) N c', .int .i64 (f : Int), .int .i64 ((m : Int) + (k : Int))] := j2
        have j3 : Box (wr.setCell ⟨g, p, none⟩ (.int .u8 (s[k].toNat : Int))).drew (w.heap.size + 1) 24 #[.slice none 0 0, .int .i64 0, .int .i64 0] := j3
        have j1 : Box (wr.setCell ⟨g, p, none⟩ (.int .u8 (s[k].toNat : Int))).drew g 5 (cellsOf (put xs (f + m) (s.data.toList.take (k + 1))) sp) := HS.out
        clear HS
        generalize (wr.setCell ⟨g, p, none⟩ (.int .u8 (s[k].toNat : Int))).drew = W5 at *
        obtain ⟨⟨c0, c1, c2⟩, f0, f1, f2⟩ := j2.three
        go_wp2
        go_roundw
        case rel =>
          refine ⟨k + 1, by go_num, by omega, by omega, j1.far (by simpa using n1) _, ?_, j3.far (by simp; omega) _, jB.setCell (p := ⟨go, 2, none⟩) (by simp only; omega) _⟩
          have := j2.set 2 (.int .i64 ((m : Int) + (k : Int) + 1))
          rw [show (m : Int) + ((k + 1 : Nat) : Int) = (m : Int) + (k : Int) + 1 by omega]
          simpa using this
        case measure => simp [intOf]; omega
      · have hlt2' : ¬ ((m : Int) + (k : Int) < (N : Int)) := by omega
        obtain ⟨⟨d0, d1, d2⟩, e0, e1, e2⟩ := i3.three
        have n3 : ¬ go = w.heap.size + 1 := by omega
        have n4 : ¬ w.heap.size + 1 = go := by omega
        go_wp2
        refine bodyPost_ret (v := .tuple #[rv (some ⟨g, 0, none⟩) N c' f ((m : Int) + (k : Int)), .int .i64 (k : Int)]) (by simp [results, Try.results18, go_sem, d0, d1, d2]) rfl ?_
        exact rpush_end HX hle i1 i3 hBW (by have := Lib.size_eq s; omega) (.inr (by omega)) hT hkn
    · obtain ⟨⟨d0, d1, d2⟩, e0, e1, e2⟩ := i3.three
      go_wp2
      refine bodyPost_ret (v := .tuple #[rv (some ⟨g, 0, none⟩) N c' f ((m : Int) + (k : Int)), .int .i64 (k : Int)]) (by simp [results, Try.results18, go_sem, d0, d1, d2]) rfl ?_
      exact rpush_end HX hle i1 i3 hBW (by have := Lib.size_eq s; omega) (.inl (by have := Lib.size_eq s; omega)) hT hkn

theorem rpush_any (A : Option Addr) (c : Nat) (f m : Int) (xs : List UInt8) (s : ByteArray) (w : World) (hA : A = none → c = 0) (hb : xs.length ≤ 100000000) (hB : Bs w w.heap.size A xs) (hS : s.size ≤ maxLen) :
    Calls Try.prog 18 #[rv A xs.length c f m, .string s] w (PushEnds (pushed xs f m s.data.toList).1 f (pushed xs f m s.data.toList).2.1 (pushed xs f m s.data.toList).2.2 w) := by
  cases h : okB xs.length f m with
  | false =>
    have e : pushed xs f m s.data.toList = (xs, m, 0) := by simp [pushed, h]
    rw [e]
    exact rpush_no A c f m xs s w hA hb hB h
  | true =>
    have hh := okB_true h
    have e : pushed xs f m s.data.toList = (put xs (f.toNat + m.toNat) (s.data.toList.take (xs.length - m.toNat)), m + (s.data.toList.take (xs.length - m.toNat)).length, (s.data.toList.take (xs.length - m.toNat)).length) := by simp [pushed, h]
    rw [e]
    obtain ⟨f', rfl⟩ := Int.eq_ofNat_of_zero_le hh.2.2.1
    obtain ⟨m', rfl⟩ := Int.eq_ofNat_of_zero_le hh.2.2.2.2.1
    simp only [Int.toNat_natCast]
    exact rpush_yes A c xs.length f' m' xs s w (Lib.hid rfl) hA (by omega) hB (by omega) (by omega) hS _ _ (Lib.hid rfl) (Lib.hid rfl)

end Go.Proofs.Ytbjjolfefegcbaa
