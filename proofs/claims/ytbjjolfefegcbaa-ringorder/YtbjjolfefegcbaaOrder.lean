/-
  The walk of the law RingOrder: whatever is done between, what is pushed comes out, in order.
-/
import Derived.Test.YtbjjolfefegcbaaFind
import Derived.Deep.LoopGhost
import Derived.Deep.DeepCutAuto
import Derived.Deep.RegionHeld3
namespace Go.Proofs.Ytbjjolfefegcbaa
open Go.RowKit

/-- T bytes of s are in, M at most; OUT is out; the ring in block g holds the rest -/
def OrdMid (s : ByteArray) (N M g : Nat) (w : World) (c9 c10 c11 : Value) (wr : World) : Prop :=
  ∃ (T f m : Nat) (xs OUT : List UInt8) (A : Option Addr) (c : Nat), c11 = .int .i64 (T : Int) ∧ c9 = .string ⟨(s.data.toList.take T).toArray⟩ ∧ c10 = .string ⟨OUT.toArray⟩ ∧
    (T ≤ s.size ∧ T ≤ M) ∧ OUT ++ dat xs f m = s.data.toList.take T ∧ (xs.length = N ∧ f < N ∧ m ≤ N ∧ N ≤ c) ∧ (A = none → c = 0) ∧
    Box wr g 24 #[.slice A N c, .int .i64 (f : Int), .int .i64 (m : Int)] ∧ Bs wr wr.heap.size A xs ∧ Below w.heap.size w wr

/-- what holds at the head of each round: k rounds are over -/
def OrdRel (s : ByteArray) (N len g : Nat) (w : World) (c9 c10 c11 c12 : Value) (wr : World) : Prop :=
  ∃ k : Nat, c12 = .int .i64 (k : Int) ∧ k ≤ len ∧ k ≤ 40 ∧ OrdMid s N (12 * k) g w c9 c10 c11 wr

theorem cell_up {X w' : World} {a : Addr} {v : Value} (hb : Below X.heap.size X w') (h : X.cell? a = some v) : w'.cell? a = some v := (hb.cell (World.block_lt_of_cell? X a h)).trans h

theorem cell_up_alloc {X w' : World} {a : Addr} {v : Value} (hb : Below X.heap.size X w') (h : X.cell? a = some v) (o : Obj) : (w'.alloc o).cell? a = some v := cell_up (ba1 w' o) (cell_up hb h)

theorem pop_N (N : Nat) (A : Option Addr) (c : Nat) (f m n : Int) (xs : List UInt8) (w : World) (hx : Hid (xs.length = N)) (hA : Hid (A = none → c = 0)) (hb : N ≤ 100000000) (hB : Bs w w.heap.size A xs) :
    Calls Try.prog 13 #[.agg #[.slice A N c, .int .i64 f, .int .i64 m], .int .i64 n] w (PopEnds xs (popped xs f m n).1 (popped xs f m n).2.1 (popped xs f m n).2.2 w) := by
  obtain rfl := hx.out
  exact pop_any A c f m n xs w hA.out hb hB

theorem push_N (N : Nat) (A : Option Addr) (c : Nat) (f m : Int) (xs : List UInt8) (s : ByteArray) (w : World) (hx : Hid (xs.length = N)) (hA : Hid (A = none → c = 0)) (hb : N ≤ 100000000) (hB : Bs w w.heap.size A xs) (hS : s.size ≤ maxLen) :
    Calls Try.prog 14 #[.agg #[.slice A N c, .int .i64 f, .int .i64 m], .string s] w (PushEnds (pushed xs f m s.data.toList).1 f (pushed xs f m s.data.toList).2.1 (pushed xs f m s.data.toList).2.2 w) := by
  obtain rfl := hx.out
  exact push_any A c f m xs s w hA.out hb hB hS

theorem pop_R (N : Nat) (A : Option Addr) (c : Nat) (f m n : Int) (xs : List UInt8) (w : World) (f2 m2 : Int) (L : List UInt8) (hx : Hid (xs.length = N)) (hA : Hid (A = none → c = 0)) (hP : Hid (popped xs f m n = (f2, m2, L))) (hb : N ≤ 100000000) (hB : Bs w w.heap.size A xs) :
    Calls Try.prog 13 #[.agg #[.slice A N c, .int .i64 f, .int .i64 m], .int .i64 n] w (PopEnds xs f2 m2 L w) := by
  have := pop_N N A c f m n xs w hx hA hb hB
  rw [hP.out] at this
  exact this

theorem push_R (N : Nat) (A : Option Addr) (c : Nat) (f m : Int) (xs : List UInt8) (s : ByteArray) (w : World) (xs2 : List UInt8) (m2 : Int) (kn : Nat) (hx : Hid (xs.length = N)) (hA : Hid (A = none → c = 0)) (hP : Hid (pushed xs f m s.data.toList = (xs2, m2, kn))) (hb : N ≤ 100000000) (hB : Bs w w.heap.size A xs) (hS : s.size ≤ maxLen) :
    Calls Try.prog 14 #[.agg #[.slice A N c, .int .i64 f, .int .i64 m], .string s] w (PushEnds xs2 f m2 kn w) := by
  have := push_N N A c f m xs s w hx hA hb hB hS
  rw [hP.out] at this
  exact this

theorem data_N (N : Nat) (A : Option Addr) (c : Nat) (f m : Int) (xs : List UInt8) (w : World) (hx : Hid (xs.length = N)) (hc : N ≤ c) (hB : Bs w w.heap.size A xs) :
    Calls Try.prog 16 #[.agg #[.slice A N c, .int .i64 f, .int .i64 m]] w (StrEnds (datB xs f m) w) := by
  obtain rfl := hx.out
  exact data_any A c f m xs w hc hB

/-- behind a statement 'q, .. := ..': q is a new ring; the ring r, in block g, is as it was -/
def CutQ (N g : Nat) (old : Array Value) (xs : List UInt8) (f' m' : Int) (w : World) (vq : Value) (wx : World) : Prop :=
  ∃ gq Aq cq, vq = .pointer (some ⟨gq, 0, none⟩) ∧ Box wx gq 24 #[.slice Aq N cq, .int .i64 f', .int .i64 m'] ∧ (Aq = none → cq = 0) ∧ N ≤ cq ∧ Bs wx wx.heap.size Aq xs ∧ Box wx g 24 old ∧ Below w.heap.size w wx ∧ w.heap.size ≤ gq ∧ gq ≠ g

def CutPop (N g : Nat) (old : Array Value) (xs : List UInt8) (f' m' : Int) (l : List UInt8) (w : World) (v13 v14 : Value) (wx : World) : Prop :=
  v14 = .string ⟨l.toArray⟩ ∧ CutQ N g old xs f' m' w v13 wx

def CutPush (N g : Nat) (old : Array Value) (xs : List UInt8) (f' m' : Int) (kn : Nat) (w : World) (v16 v17 : Value) (wx : World) : Prop :=
  v17 = .int .i64 (kn : Int) ∧ CutQ N g old xs f' m' w v16 wx

theorem Bs.set3 {w : World} {B g n c : Nat} {A a : Option Addr} {x y : Int} {xs : List UInt8} (h : Bs w B A xs) (hb : Box w g 24 #[.slice a n c, .int .i64 x, .int .i64 y]) (x' y' z' : Value) :
    Bs (((w.setCell ⟨g, 0, none⟩ x').setCell ⟨g, 1, none⟩ y').setCell ⟨g, 2, none⟩ z') B A xs := by
  intro hl
  obtain ⟨b, o, rfl, hbB, hc⟩ := h hl
  have hne : b ≠ g := by
    rintro rfl
    have h0 := hc 0 hl
    have h1 := cell_of_row w b (o + 0) _ 24 (0, 0) hb
    rw [h0] at h1
    match o with
    | 0 => simp [bv] at h1
    | 1 => simp [bv] at h1
    | 2 => simp [bv] at h1
    | (k + 3) => simp at h1
  refine ⟨b, o, rfl, hbB, fun j hj => ?_⟩
  rw [World.cell?_setCell_far _ _ _ _ (by simpa using hne.symm), World.cell?_setCell_far _ _ _ _ (by simpa using hne.symm), World.cell?_setCell_far _ _ _ _ (by simpa using hne.symm)]
  exact hc j hj

theorem popped_ok (xs : List UInt8) (f m q N : Nat) (hN : xs.length = N) (hf : f < N) (hm : m ≤ N) (h40 : N ≤ 4096) : ∃ (f2 m2 : Nat) (L : List UInt8), popped xs f m (q : Int) = ((f2 : Int), (m2 : Int), L) ∧ f2 < N ∧ m2 ≤ N ∧ dat xs f m = L ++ dat xs f2 m2 := by
  subst hN
  have hok : okB xs.length f m = true := okB_mk (by omega)
  have hp : ∀ kk : Nat, kk ≤ m → (((f : Int) + (kk : Int)) % (xs.length : Int), (m : Int) - (kk : Int), dat xs f kk) = ((((f + kk) % xs.length : Nat) : Int), ((m - kk : Nat) : Int), dat xs f kk) := by
    intro kk hk
    rw [← Int.natCast_add, ← Int.natCast_emod, Int.ofNat_sub hk]
  have hlt : ∀ kk, (f + kk) % xs.length < xs.length := fun kk => Nat.mod_lt _ (by omega)
  by_cases h : q ≤ m
  · refine ⟨(f + q) % xs.length, m - q, dat xs f q, ?_, hlt q, by omega, dat_pop xs f m q hf hm h⟩
    rw [← hp q h]
    simp [popped, hok, h]
  · refine ⟨(f + m) % xs.length, m - m, dat xs f m, ?_, hlt m, by omega, dat_pop xs f m m hf hm (Nat.le_refl _)⟩
    rw [← hp m (Nat.le_refl _)]
    simp [popped, hok, h]

theorem pushed_ok (xs : List UInt8) (f m : Nat) (t : List UInt8) (N : Nat) (hN : xs.length = N) (hf : f < N) (hm : m ≤ N) (h40 : N ≤ 4096) : ∃ (xs2 : List UInt8) (m2 kn : Nat), pushed xs f m t = (xs2, (m2 : Int), kn) ∧ xs2.length = N ∧ m2 ≤ N ∧ kn ≤ t.length ∧ dat xs2 f m2 = dat xs f m ++ t.take kn := by
  subst hN
  have hok : okB xs.length f m = true := okB_mk (by omega)
  have hl : (t.take (xs.length - m)).length ≤ xs.length - m := List.length_take_le _ _
  refine ⟨put xs (f + m) (t.take (xs.length - m)), m + (t.take (xs.length - m)).length, (t.take (xs.length - m)).length, ?_, put_length _ _ _, by omega, by simp; omega, ?_⟩
  · simp [pushed, hok]
  · rw [dat_put _ _ _ _ hf (by omega)]
    congr 1
    rw [List.length_take]
    by_cases h : xs.length - m ≤ t.length
    · rw [Nat.min_eq_left h]
    · rw [List.take_of_length_le (by omega), List.take_of_length_le (by omega)]

theorem val_int {k : IntKind} {a b : Int} (h : a = b) : Value.int k a = Value.int k b := by rw [h]

theorem ba_append (a b : List UInt8) : (⟨a.toArray⟩ : ByteArray) ++ (⟨b.toArray⟩ : ByteArray) = ⟨(a ++ b).toArray⟩ := by
  apply ByteArray.ext
  simp

theorem mid_pop {s : ByteArray} {N M g T f m f2 m2 gc : Nat} {w wc : World} {xs OUT L : List UInt8} {Aq A1 : Option Addr} {cq : Nat} (hin : OUT ++ dat xs f m = s.data.toList.take T) (hL : dat xs f m = L ++ dat xs f2 m2) (hx : xs.length = N) (hf2 : f2 < N) (hm2 : m2 ≤ N) (hcq : N ≤ cq) (hA : Aq = none → cq = 0)
    (bg : Box wc g 24 #[.slice A1 N gc, .int .i64 (f : Int), .int .i64 (m : Int)]) (hBq : Bs wc wc.heap.size Aq xs) (hbx : Below w.heap.size w wc) (hT1 : T ≤ s.size) (hT2 : T ≤ M) (hgw : w.heap.size ≤ g) :
    OrdMid s N M g w (.string ⟨(s.data.toList.take T).toArray⟩) (.string (⟨OUT.toArray⟩ ++ ⟨L.toArray⟩)) (.int .i64 (T : Int)) (((wc.setCell ⟨g, 0, none⟩ (.slice Aq N cq)).setCell ⟨g, 1, none⟩ (.int .i64 (f2 : Int))).setCell ⟨g, 2, none⟩ (.int .i64 (m2 : Int))) := by
  refine ⟨T, f2, m2, xs, OUT ++ L, Aq, cq, rfl, rfl, by rw [ba_append], ⟨hT1, hT2⟩, by rw [List.append_assoc, ← hL, hin], ⟨hx, hf2, hm2, hcq⟩, hA, bg.set3 _ _ _, ?_, below_set3 hbx hgw _ _ _⟩
  rw [size_set3]
  exact hBq.set3 bg _ _ _

theorem mid_push {s : ByteArray} {N M g T E f m m2 kn gc : Nat} {w wc : World} {xs xs2 OUT : List UInt8} {Aq A1 : Option Addr} {cq : Nat} (hin : OUT ++ dat xs f m = s.data.toList.take T) (hD : dat xs2 f m2 = dat xs f m ++ (s.extract T E).data.toList.take kn) (hx : xs2.length = N) (hf : f < N) (hm2 : m2 ≤ N) (hcq : N ≤ cq) (hA : Aq = none → cq = 0)
    (bg : Box wc g 24 #[.slice A1 N gc, .int .i64 (f : Int), .int .i64 (m : Int)]) (hBq : Bs wc wc.heap.size Aq xs2) (hbx : Below w.heap.size w wc) (hE2 : E ≤ s.size) (hkn : kn ≤ E - T) (hE1 : T ≤ E) (hT2 : T + kn ≤ M) (hgw : w.heap.size ≤ g) :
    OrdMid s N M g w (.string (⟨(s.data.toList.take T).toArray⟩ ++ s.extract T (T + kn))) (.string ⟨OUT.toArray⟩) (.int .i64 ((T : Int) + (kn : Int))) (((wc.setCell ⟨g, 0, none⟩ (.slice Aq N cq)).setCell ⟨g, 1, none⟩ (.int .i64 (f : Int))).setCell ⟨g, 2, none⟩ (.int .i64 (m2 : Int))) := by
  have e1 : (s.extract T E).data.toList.take kn = (s.data.toList.drop T).take kn := by rw [Lib.extract_data, List.take_take, Nat.min_eq_left hkn]
  have e2 : s.data.toList.take (T + kn) = s.data.toList.take T ++ (s.data.toList.drop T).take kn := List.take_add
  have e3 : s.extract T (T + kn) = ⟨((s.data.toList.drop T).take kn).toArray⟩ := by
    apply ByteArray.ext
    apply Array.ext'
    rw [Lib.extract_data, show T + kn - T = kn by omega]
  refine ⟨T + kn, f, m2, xs2, OUT, Aq, cq, by simp, by rw [e3, ba_append, e2], rfl, ⟨by omega, hT2⟩, by rw [hD, e1, ← List.append_assoc, hin, e2], ⟨hx, hf, hm2, hcq⟩, hA, bg.set3 _ _ _, ?_, below_set3 hbx hgw _ _ _⟩
  rw [size_set3]
  exact hBq.set3 bg _ _ _

theorem dat_in {s : ByteArray} {OUT D : List UInt8} {T : Nat} (h : OUT ++ D = s.data.toList.take T) : (((⟨OUT.toArray⟩ : ByteArray) ++ (⟨D.toArray⟩ : ByteArray)).toList == s.data.toList.take T) = true := by
  rw [ba_append, h, Lib.toList_data]
  simp

theorem cutQ_a {N g : Nat} {old : Array Value} {xs : List UInt8} {f' m' : Int} {w wr wP : World} {Aq : Option Addr} {cq : Nat} (hx : Hid (xs.length = N)) (b1 : Box wr g 24 old) (hbw : Below w.heap.size w wr) (hbP : Below wr.drew.heap.size wr.drew wP) (hAq : Aq = none → cq = 0) (hcq : N ≤ cq) (hBq : Bs wP wP.heap.size Aq xs) :
    CutQ N g old xs f' m' w (.pointer (some ⟨wP.heap.size, 0, none⟩)) (wP.alloc (.cells #[.slice Aq xs.length cq, .int .i64 f', .int .i64 m'] 24)) := by
  obtain rfl := hx.out
  have h1 : Below wr.heap.size wr wP := ⟨hbP.os, hbP.tape, hbP.output, hbP.size, hbP.block⟩
  have h2 := h1.size
  have h3 := hbw.size
  have h4 := b1.lt
  exact ⟨wP.heap.size, Aq, cq, rfl, Box.new _ _ _, hAq, hcq, hBq.up (ba1 _ _), (b1.up h1).alloc _, bon (bon hbw h1) (ba1 _ _), by omega, by omega⟩

theorem cutQ_b {N g : Nat} {old : Array Value} {xs : List UInt8} {f' m' : Int} {w wr wP : World} {Aq : Option Addr} {cq : Nat} (hx : Hid (xs.length = N)) (b1 : Box wr g 24 old) (hbw : Below w.heap.size w wr)
    (hbP : Below (wr.alloc (.cells #[.slice none 0 0, .int .i64 0, .int .i64 0] 24)).drew.heap.size (wr.alloc (.cells #[.slice none 0 0, .int .i64 0, .int .i64 0] 24)).drew wP) (hAq : Aq = none → cq = 0) (hcq : N ≤ cq) (hBq : Bs wP wP.heap.size Aq xs) :
    CutQ N g old xs f' m' w (.pointer (some ⟨wr.heap.size, 0, none⟩)) (((wP.setCell ⟨wr.heap.size, 0, none⟩ (.slice Aq xs.length cq)).setCell ⟨wr.heap.size, 1, none⟩ (.int .i64 f')).setCell ⟨wr.heap.size, 2, none⟩ (.int .i64 m')) := by
  obtain rfl := hx.out
  have bq : Box wP wr.heap.size 24 #[.slice none 0 0, .int .i64 0, .int .i64 0] := Box.up (w := (wr.alloc (.cells #[.slice none 0 0, .int .i64 0, .int .i64 0] 24)).drew) (Box.new wr 24 #[.slice none 0 0, .int .i64 0, .int .i64 0]) hbP
  have h1 : Below wr.heap.size wr wP := bon (w1 := (wr.alloc (.cells #[.slice none 0 0, .int .i64 0, .int .i64 0] 24)).drew) (ba1 wr _).drew hbP
  have h3 := hbw.size
  have h4 := b1.lt
  refine ⟨wr.heap.size, Aq, cq, rfl, bq.set3 _ _ _, hAq, hcq, ?_, (b1.up h1).far3 (by omega) _ _ _, below_set3 (bon hbw h1) h3 _ _ _, h3, by omega⟩
  rw [size_set3]
  exact hBq.set3 bq _ _ _

set_option maxRecDepth 100000 in
set_option maxHeartbeats 2000000 in
theorem order_any (room : UInt8) (A : Option Addr) (c : Nat) (ys : List UInt8) (s : ByteArray) (w : World) (hB : Bs w w.heap.size A ys) (hy : ys.length ≤ maxLen) (hs : s.size ≤ maxLen) (hM : Mx w) :
    Calls Try.prog 5 #[.int .u8 (room.toNat : Int), .slice A ys.length c, .string s] w fun e w' => e = .returned (.bool true) ∧ Below w.heap.size w w' := by
  unfold maxLen at hy hs
  have hr : room.toNat < 256 := UInt8.toNat_lt room
  go_enter Try.func5, Try.ntmps5
  go_wp2_with fail
  refine (awake_any w hM).mono ?_
  rintro e w1 ⟨rfl, hb1⟩
  go_wp2_with fail
  obtain ⟨N, hN⟩ : ∃ N : Nat, N = 1 + room.toNat % 40 := ⟨_, rfl⟩
  have hN1 : 1 ≤ N := by omega
  have hN2 : N ≤ 40 := by omega
  have eN : (1 + (room.toNat : Int) % 40) = (N : Int) := by omega
  rw [eN]
  refine (new_yes N w1 hN1 (by omega)).mono ?_
  rintro e w2 ⟨rfl, hb2, hB2⟩
  have hw2 := bon hb1 hb2
  have HN := Lib.hid eN
  clear eN hN
  go_wp2_with fail
  obtain ⟨g, hg⟩ : ∃ g, g = w2.heap.size := ⟨_, rfl⟩
  have hw3 := bon hw2 (ba1 w2 (.cells #[.slice (some ⟨w1.heap.size + 1, 0, none⟩) N N, .int .i64 0, .int .i64 0] 24))
  have hB3 := hB2.up (ba1 w2 (.cells #[.slice (some ⟨w1.heap.size + 1, 0, none⟩) N N, .int .i64 0, .int .i64 0] 24))
  have b3 := Box.mk' w2 24 #[.slice (some ⟨w1.heap.size + 1, 0, none⟩) N N, .int .i64 0, .int .i64 0] g hg.symm
  have hgw : w.heap.size ≤ g := by have := hw2.size; omega
  rw [← hg]
  generalize w2.alloc (.cells #[.slice (some ⟨w1.heap.size + 1, 0, none⟩) N N, .int .i64 0, .int .i64 0] 24) = w3 at *
  clear hb1 hb2 hB2 hw2 hg
  go_loopw [9, 10, 11, 12] (OrdRel s N ys.length g w) (fun _ _ _ i _ => 40 - (intOf i).toNat)
  case atStart =>
    exact ⟨0, rfl, by omega, by omega, 0, 0, 0, List.replicate N 0, [], some ⟨w1.heap.size + 1, 0, none⟩, N, rfl, rfl, rfl, ⟨by omega, by omega⟩, by simp [dat], ⟨by simp, by omega, by omega, by omega⟩, (fun h => by cases h), b3, hB3, hw3⟩
  case round =>
    obtain ⟨k, rfl, hk1, hk2, T, f, m, xs, OUT, A1, c1, rfl, rfl, rfl, ⟨hT1, hT2⟩, hin, ⟨hx1, hx2, hx3, hx4⟩, hA1, b1, hB1, hbw⟩ := hrel
    by_cases hlt : k < ys.length
    · by_cases hlt2 : k < 40
      · obtain ⟨b, off, rfl, hbl, hcell⟩ := hB (by omega)
        have hy0 : wr.cell? ⟨b, off + k, none⟩ = some (bv (ys[k]?.getD 0)) := (hbw.cell (p := ⟨b, off + k, none⟩) hbl).trans (hcell k hlt)
        generalize ys[k]?.getD 0 = y at hy0
        unfold bv at hy0
        have hyl : y.toNat < 256 := UInt8.toNat_lt y
        obtain ⟨z, hz⟩ : ∃ z : Nat, z = y.toNat := ⟨_, rfl⟩
        rw [← hz] at hy0 hyl
        have HI := Lib.hid hin
        have HX := Lib.hid hx1
        have HA := Lib.hid hA1
        clear hin hx1 hcell hB hB3 b3 hw3 hA1 hz
        go_upto_if 41 with fail
        go_cut [9, 10, 11] (OrdMid s N (12 * (k + 1)) g w)
        case first =>
          obtain ⟨⟨c0, d1, d2⟩, z0, z1, z2⟩ := b1.three
          have hgs := b1.lt
          have hbs := hbw.size
          obtain ⟨q, hq⟩ : ∃ q : Nat, q = z / 2 % 12 := ⟨_, rfl⟩
          have hq1 : q < 12 := by omega
          have t1 : IntKind.i64.wrap (z : Int) = (z : Int) := IntWalk.i64_in _ (by omega)
          have t2 : IntKind.i64.wrap ((z : Int).tdiv 2) = (z : Int) / 2 := by rw [Int.tdiv_eq_ediv_of_nonneg (by omega)]; exact IntWalk.i64_in _ (by omega)
          have t3 : ((z : Int) / 2).tmod 12 = (q : Int) := by rw [Int.tmod_eq_emod_of_nonneg (by omega)]; omega
          have t4 : IntKind.i64.wrap ((z : Int) / 2) = (z : Int) / 2 := IntWalk.i64_in _ (by omega)
          clear hq
          have n1 : ¬ wr.heap.size = g := by omega
          have n2 : ¬ g = wr.heap.size := by omega
          have n3 : ¬ wr.heap.size = b := by omega
          have n4 : ¬ b = wr.heap.size := by omega
          by_cases hev : z % 2 = 0
          · have hev' : (((z : Int) % 2) == 0) = true := by simp; omega
            clear hev
            obtain ⟨f2, m2, L, hpop, hf2, hm2, hL⟩ := popped_ok xs f m q N HX.out hx2 hx3 (by omega)
            have HP := Lib.hid hpop
            have hsum : OUT.length + L.length ≤ T := by
              have h1 := congrArg List.length HI.out
              rw [hL] at h1
              simp only [List.length_append, List.length_take] at h1
              omega
            have HL := Lib.hid hL
            clear hpop hL
            go_wp2_with fail
            go_cut [13, 14] (CutPop N g #[.slice A1 N c1, .int .i64 (f : Int), .int .i64 (m : Int)] xs (f2 : Int) (m2 : Int) L w)
            case first =>
              go_region_held3 (fun w' => w'.cell? ⟨g, 0, none⟩ = some (.slice A1 N c1) ∧ w'.cell? ⟨g, 1, none⟩ = some (.int .i64 (f : Int)) ∧ w'.cell? ⟨g, 2, none⟩ = some (.int .i64 (m : Int)) ∧ w'.cell? ⟨b, off + k, none⟩ = some (.int .u8 (z : Int)))
                (first | (refine ⟨cell_up hbP ?_, cell_up hbP ?_, cell_up hbP ?_, cell_up hbP ?_⟩ <;> go_keep) | (refine ⟨cell_up_alloc hbP ?_ _, cell_up_alloc hbP ?_ _, cell_up_alloc hbP ?_ _, cell_up_alloc hbP ?_ _⟩ <;> go_keep) | go_keep)
                (first
                  | (go_at_call 13; refine (pop_R N A1 c1 f m _ xs _ f2 m2 L HX HA HP (by omega) ?_).mono ?_; exact hB1; rintro e wP ⟨v, rfl, ⟨Aq, cq, rfl, hAq, hcq, hBq⟩, hbP⟩)
                  | (go_at_call 13; refine (pop_R N A1 c1 f m _ xs _ f2 m2 L HX HA HP (by omega) ?_).mono ?_; exact hB1.up (ba1 _ _).drew; rintro e wP ⟨v, rfl, ⟨Aq, cq, rfl, hAq, hcq, hBq⟩, hbP⟩; obtain ⟨⟨q0, q1, q2⟩, r0, r1, r2⟩ := (Box.up (w := (wr.alloc (.cells #[.slice none 0 0, .int .i64 0, .int .i64 0] 24)).drew) (Box.new wr 24 #[.slice none 0 0, .int .i64 0, .int .i64 0]) hbP).three))
              all_goals (go_wp2_with fail; go_meet)
              · exact ⟨rfl, cutQ_a HX b1 hbw hbP hAq (by have := HX.out; omega) hBq⟩
              · exact ⟨rfl, cutQ_b HX b1 hbw hbP hAq (by have := HX.out; omega) hBq⟩
            case rest =>
              obtain ⟨rfl, gq, Aq, cq, rfl, bq, hAq, hcq, hBq, bg, hbx, hgq, hne⟩ := hcut
              have hAq := Lib.hid hAq
              clear c0 d1 d2 z0 z1 z2 hy0 b1 hB1 HA HP n1 n2 n3 n4 t1 t2 t3 t4
              obtain ⟨⟨q0, q1, q2⟩, _⟩ := bq.three
              obtain ⟨⟨c0, d1, d2⟩, z0, z1, z2⟩ := bg.three
              go_wp2_with fail
              go_meet
              exact mid_pop (M := 12 * (k + 1)) HI.out HL.out HX.out hf2 hm2 hcq hAq.out bg hBq hbx hT1 (by omega) hgw
          · have hev' : (((z : Int) % 2) == 0) = false := by simp; omega
            clear hev
            obtain ⟨E, hE⟩ : ∃ E : Nat, E = min s.size (T + q) := ⟨_, rfl⟩
            have hE1 : T ≤ E := by omega
            have hE2 : E ≤ s.size := by omega
            have hE3 : E ≤ T + q := by omega
            have HE := Lib.hid hE
            clear hE
            go_upto_region 14 with fail
            go_cut [15] (fun c15 wx => c15 = .int .i64 (E : Int) ∧ wr = wx)
            case first =>
              go_wp2_with fail
              go_meet
              exact ⟨val_int (by have := HE.out; omega), rfl⟩
            case rest =>
              obtain ⟨rfl, rfl⟩ := hcut
              obtain ⟨xs2, m2, kn, hpu, hx2l, hm2, hkn, hdat⟩ := pushed_ok xs f m (s.extract T E).data.toList N HX.out hx2 hx3 (by omega)
              have hkn2 : kn ≤ E - T := by rw [Lib.extract_data, List.length_take, List.length_drop] at hkn; omega
              have HP := Lib.hid hpu
              have HD := Lib.hid hdat
              have HXl := Lib.hid hx2l
              clear hpu hdat hkn hx2l
              have hsz : (s.extract T E).size ≤ maxLen := by rw [ByteArray.size_extract]; unfold maxLen; omega
              go_wp2_with fail
              go_cut [16, 17] (CutPush N g #[.slice A1 N c1, .int .i64 (f : Int), .int .i64 (m : Int)] xs2 (f : Int) (m2 : Int) kn w)
              case first =>
                go_region_held3 (fun w' => w'.cell? ⟨g, 0, none⟩ = some (.slice A1 N c1) ∧ w'.cell? ⟨g, 1, none⟩ = some (.int .i64 (f : Int)) ∧ w'.cell? ⟨g, 2, none⟩ = some (.int .i64 (m : Int)))
                  (first | (refine ⟨cell_up hbP ?_, cell_up hbP ?_, cell_up hbP ?_⟩ <;> go_keep) | (refine ⟨cell_up_alloc hbP ?_ _, cell_up_alloc hbP ?_ _, cell_up_alloc hbP ?_ _⟩ <;> go_keep) | go_keep)
                  (first
                    | (go_at_call 14; refine (push_R N A1 c1 f m xs (s.extract T E) _ xs2 m2 kn HX HA HP (by omega) ?_ hsz).mono ?_; exact hB1; rintro e wP ⟨v, rfl, ⟨Aq, cq, rfl, hAq, hcq, hBq⟩, hbP⟩)
                    | (go_at_call 14; refine (push_R N A1 c1 f m xs (s.extract T E) _ xs2 m2 kn HX HA HP (by omega) ?_ hsz).mono ?_; exact hB1.up (ba1 _ _).drew; rintro e wP ⟨v, rfl, ⟨Aq, cq, rfl, hAq, hcq, hBq⟩, hbP⟩; obtain ⟨⟨q0, q1, q2⟩, r0, r1, r2⟩ := (Box.up (w := (wr.alloc (.cells #[.slice none 0 0, .int .i64 0, .int .i64 0] 24)).drew) (Box.new wr 24 #[.slice none 0 0, .int .i64 0, .int .i64 0]) hbP).three))
                all_goals (go_wp2_with fail; go_meet)
                · exact ⟨rfl, cutQ_a HXl b1 hbw hbP hAq (by have := HXl.out; omega) hBq⟩
                · exact ⟨rfl, cutQ_b HXl b1 hbw hbP hAq (by have := HXl.out; omega) hBq⟩
              case rest =>
                obtain ⟨rfl, gq, Aq, cq, rfl, bq, hAq, hcq, hBq, bg, hbx, hgq, hne⟩ := hcut
                have hAq := Lib.hid hAq
                clear c0 d1 d2 z0 z1 z2 hy0 b1 hB1 HA HP n1 n2 n3 n4 t1 t2 t3 t4
                obtain ⟨⟨q0, q1, q2⟩, _⟩ := bq.three
                obtain ⟨⟨c0, d1, d2⟩, z0, z1, z2⟩ := bg.three
                go_wp2_with fail
                go_meet
                exact mid_push (M := 12 * (k + 1)) HI.out HD.out HXl.out hx2 hm2 hcq hAq.out bg hBq hbx hE2 hkn2 hE1 (by omega) hgw
        case rest =>
          clear HI HX HA b1 hB1 hy0 hT1 hT2 hx2 hx3 hx4
          obtain ⟨T', f', m', xs', OUT', A', c', rfl, rfl, rfl, ⟨hT1', hT2'⟩, hin', ⟨hx1', hx2', hx3', hx4'⟩, hA', b1', hB1', hbw'⟩ := hcut
          have HI := Lib.hid hin'
          have HX := Lib.hid hx1'
          have HA := Lib.hid hA'
          obtain ⟨⟨c0, d1, d2⟩, z0, z1, z2⟩ := b1'.three
          have hok : okB N (f' : Int) (m' : Int) = true := okB_mk (by omega)
          have hdb : datB xs' (f' : Int) (m' : Int) = dat xs' f' m' := by unfold datB; rw [hx1', if_pos hok]; simp
          have hsum : OUT'.length + (dat xs' f' m').length ≤ T' := by
            have h1 := congrArg List.length HI.out
            simp only [List.length_append, List.length_take] at h1
            omega
          have HDB := Lib.hid hdb
          clear hin' hx1' hA' hdb
          go_wp2_with fail
          refine (right_any A' N c' (f' : Int) (m' : Int) _).mono ?_
          rintro e w5 ⟨rfl, hb5⟩
          have b5 := b1'.up hb5
          have hB5 := hB1'.up hb5
          have hw5 := bon hbw' hb5
          clear c0 d1 d2 z0 z1 z2 b1' hB1' hbw' hb5
          obtain ⟨⟨c0, d1, d2⟩, z0, z1, z2⟩ := b5.three
          have hneN : ((N : Int) != (1 + (room.toNat : Int) % 40)) = false := by rw [HN.out]; simp
          go_wp2_with fail
          have P1 := data_N N A' c' (f' : Int) (m' : Int) xs' w5 HX hx4' hB5
          rw [HDB.out] at P1
          refine P1.mono ?_
          clear P1
          rintro e w6 ⟨rfl, hb6⟩
          have b6 := b5.up hb6
          have hB6 := hB5.up hb6
          have hw6 := bon hw5 hb6
          clear c0 d1 d2 z0 z1 z2 b5 hB5 hw5 hb6 hneN HDB hok
          have hbq := dat_in HI.out
          go_wp2
          exact ⟨⟨k + 1, by go_num, by omega, by omega, T', f', m', xs', OUT', A', c', rfl, rfl, rfl, ⟨hT1', hT2'⟩, HI.out, ⟨HX.out, hx2', hx3', hx4'⟩, HA.out, b6, hB6, hw6⟩, by simp [intOf]; omega⟩
      · go_wp2
        go_ret
        exact ⟨rfl, hbw⟩
    · go_wp2
      go_ret
      exact ⟨rfl, hbw⟩

end Go.Proofs.Ytbjjolfefegcbaa
