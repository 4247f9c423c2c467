/-
  The walk of ring.Push: as many bytes of s as fit are appended.
-/
import Derived.Test.YtbjjolfefegcbaaFirst
import Derived.Lib.IndexBytes
import Derived.IntWalk
import Derived.Deep.RegionHeld3
namespace Go.Proofs.Ytbjjolfefegcbaa
open Go.RowKit Go.Shelf

attribute [local go_sem] Oper.semAt_some

theorem Box.set3 {w : World} {g : Nat} {t : TypeId} {x y z : Value} (h : Box w g t #[x, y, z]) (x' y' z' : Value) : Box (((w.setCell ⟨g, 0, none⟩ x').setCell ⟨g, 1, none⟩ y').setCell ⟨g, 2, none⟩ z') g t #[x', y', z'] := by
  simpa using ((h.set 0 x').set 1 y').set 2 z'
theorem Box.far3 {w : World} {g g' : Nat} {t : TypeId} {cs : Array Value} (h : Box w g t cs) (hne : g ≠ g') (x' y' z' : Value) : Box (((w.setCell ⟨g', 0, none⟩ x').setCell ⟨g', 1, none⟩ y').setCell ⟨g', 2, none⟩ z') g t cs :=
  ((h.far hne _).far hne _).far hne _
theorem below_set3 {B : Nat} {a w : World} (h : Below B a w) {g : Nat} (hg : B ≤ g) (x' y' z' : Value) : Below B a (((w.setCell ⟨g, 0, none⟩ x').setCell ⟨g, 1, none⟩ y').setCell ⟨g, 2, none⟩ z') :=
  ((h.setCell (p := ⟨g, 0, none⟩) hg _).setCell (p := ⟨g, 1, none⟩) hg _).setCell (p := ⟨g, 2, none⟩) hg _
theorem size_set3 (w : World) (g : Nat) (x' y' z' : Value) : (((w.setCell ⟨g, 0, none⟩ x').setCell ⟨g, 1, none⟩ y').setCell ⟨g, 2, none⟩ z').heap.size = w.heap.size := by simp [World.setCell]
theorem OwnSl.set3 {w : World} {B c : Nat} {A : Option Addr} {xs : List UInt8} (h : OwnSl w B A c xs) {g : Nat} (hg : g < B) (x' y' z' : Value) : OwnSl (((w.setCell ⟨g, 0, none⟩ x').setCell ⟨g, 1, none⟩ y').setCell ⟨g, 2, none⟩ z') B A c xs :=
  ((h.setCell (p := ⟨g, 0, none⟩) hg _).setCell (p := ⟨g, 1, none⟩) hg _).setCell (p := ⟨g, 2, none⟩) hg _
theorem OwnSl.up {w w' : World} {B c : Nat} {A : Option Addr} {xs : List UInt8} (h : OwnSl w B A c xs) (hb : Below w.heap.size w w') : OwnSl w' B A c xs := by
  refine ⟨h.1, h.2.1, ?_⟩
  rcases h.2.2 with h | ⟨g, cap, cur, h1, h2, h3, h4⟩
  · exact .inl h
  · exact .inr ⟨g, cap, cur, h1, h2, (hb.block g (Array.getElem?_eq_some_iff.1 h3).1).trans h3, h4⟩

/-- what Push and Pop hand back: a ring that reads as xs, f, m -/
def RingIs (w' : World) (v : Value) (xs : List UInt8) (f m : Int) : Prop := ∃ A c, v = rv A xs.length c f m ∧ (A = none → c = 0) ∧ xs.length ≤ c ∧ Bs w' w'.heap.size A xs

def PushEnds (xs : List UInt8) (f m : Int) (k : Nat) (w : World) (e : Ending) (w' : World) : Prop :=
  ∃ v, e = .returned (.tuple #[v, .int .i64 (k : Int)]) ∧ RingIs w' v xs f m ∧ Below w.heap.size w w'

theorem OwnSl.le {w : World} {B c : Nat} {A : Option Addr} {xs : List UInt8} (h : OwnSl w B A c xs) : xs.length ≤ c := by
  rcases h.2.2 with ⟨h1, h2⟩ | ⟨g, cap, cur, h1, _, _, h4, _⟩
  · omega
  · injection h1 with _ _ h1
    omega

set_option maxRecDepth 100000 in
set_option maxHeartbeats 1000000 in
theorem push_no (A : Option Addr) (c : Nat) (f m : Int) (xs : List UInt8) (s : ByteArray) (w : World) (hA : A = none → c = 0) (hb : xs.length ≤ 100000000) (hB : Bs w w.heap.size A xs) (hok : okB xs.length f m = false) :
    Calls Try.prog 14 #[rv A xs.length c f m, .string s] w (PushEnds xs f m 0 w) := by
  have HA := Lib.hid hA
  clear hA
  refine (callsIn_wide (n := 6)).1 ?_
  refine callsIn_of_wp_marks Try.func14 rfl trivial ?_ rfl
  simp only [Try.ntmps14, List.size_toArray, List.length_cons, List.length_nil, Nat.reduceAdd, Nat.reduceSub, Array.replicate_succ, Array.replicate_zero, List.push_toArray, List.append_toArray, List.nil_append, List.cons_append]
  refine wpIn_wide.2 ?_
  go_wp2_with fail
  refine (own_any A c f m xs _ HA.out hb (hB.up (ba3 _ _ _ _))).mono ?_
  rintro e w1 ⟨A', c', rfl, ho, hbl⟩
  have b0 := ((Box.mk' w 24 #[.slice A xs.length c, .int .i64 f, .int .i64 m] _ rfl).alloc (.cells #[.string s] 9)).alloc (.cells #[.slice none 0 0, .int .i64 0, .int .i64 0] 24) |>.up hbl
  have b2 := (Box.mk' ((w.alloc (.cells #[.slice A xs.length c, .int .i64 f, .int .i64 m] 24)).alloc (.cells #[.string s] 9)) 24 #[.slice none 0 0, .int .i64 0, .int .i64 0] (w.heap.size + 1 + 1) (by simp)).up hbl
  have hbw := bon (ba3 _ _ _ _) hbl
  have hsz := hbl.size
  simp only [World.size_alloc] at hsz ho
  obtain ⟨⟨c0, c1, c2⟩, f0, f1, f2⟩ := b0.three
  go_wp2_with fail
  clear c0 c1 c2 f0 f1 f2 hbl
  have b0' := b0.set3 (.slice A' xs.length c') (.int .i64 f) (.int .i64 m)
  have b2' := b2.far3 (g' := w.heap.size) (by omega) (.slice A' xs.length c') (.int .i64 f) (.int .i64 m)
  have ho' := ho.set3 (g := w.heap.size) (by omega) (.slice A' xs.length c') (.int .i64 f) (.int .i64 m)
  have hbw' := below_set3 hbw (Nat.le_refl _) (.slice A' xs.length c') (.int .i64 f) (.int .i64 m)
  have hsz' := size_set3 w1 w.heap.size (.slice A' xs.length c') (.int .i64 f) (.int .i64 m)
  generalize ((w1.setCell ⟨w.heap.size, 0, none⟩ (.slice A' xs.length c')).setCell ⟨w.heap.size, 1, none⟩ (.int .i64 f)).setCell ⟨w.heap.size, 2, none⟩ (.int .i64 m) = W1 at *
  refine (right_any A' xs.length c' f m W1).mono ?_
  rintro e w2 ⟨rfl, hbl2⟩
  obtain ⟨⟨c0, c1, c2⟩, f0, f1, f2⟩ := (b0'.up hbl2).three
  obtain ⟨⟨d0, d1, d2⟩, e0, e1, e2⟩ := (b2'.up hbl2).three
  have hbw2 := bon hbw' hbl2
  have ho2 := ho'.up hbl2
  clear b0 b2 b0' b2' ho ho' hbw hbw' hbl2
  go_wp2
  refine ⟨.tuple #[rv A' xs.length c' f m, .int .i64 0], by simp [results, Try.results14, go_sem, d0, d1, d2], rv A' xs.length c' f m, rfl, ⟨A', c', rfl, ho2.1, ho2.le, ?_⟩, ?_⟩
  · exact (ho2.set3 (g := w.heap.size + 1 + 1) (by omega) _ _ _).bs
  · exact below_set3 hbw2 (by omega) _ _ _

/-- the block of a slice of the call's own that holds a byte: its cells, and whatever lies behind them -/
theorem OwnSl.block {w : World} {B c : Nat} {A : Option Addr} {xs : List UInt8} (h : OwnSl w B A c xs) (hx : 0 < xs.length) {gp : Nat} {cs : Array Value} (hb : Box w gp 3 cs) :
    ∃ g sp, A = some ⟨g, 0, none⟩ ∧ B ≤ g ∧ Box w g 5 (cellsOf xs sp) ∧ g ≠ gp := by
  rcases h.2.2 with ⟨_, h2⟩ | ⟨g, cap, cur, h1, h2, h3, h4, h5, h6, h7⟩
  · omega
  · injection h1 with h1
    refine ⟨g, cur.toList.drop xs.length, h1, h2, ?_, ?_⟩
    · unfold Box cellsOf
      rw [h3]
      congr 2
      apply Array.ext'
      rw [Nat.mul_one] at h7
      rw [← h7]
      simp
    · rintro rfl
      rw [show w.heap[g]? = _ from hb] at h3
      cases h3

theorem keep4 {W : World} {g : Nat} (h : g < W.heap.size) (o1 o2 o3 o4 : Obj) (i : Nat) : ((((W.alloc o1).alloc o2).alloc o3).alloc o4).drew.cell? ⟨g, i, none⟩ = W.cell? ⟨g, i, none⟩ :=
  ((ba3 W o1 o2 o3).alloc (by simp; omega) o4).cell (p := ⟨g, i, none⟩) h

set_option maxHeartbeats 400000 in
theorem place_eq (A : Option Addr) (n c : Nat) (f m i : Int) (w : World) (h0 : 1 ≤ n) (h1 : n ≤ 4096) (h2 : 0 ≤ f) (h3 : f < n) (h4 : 0 ≤ i) (h5 : i ≤ n) :
    Calls Try.prog 24 #[.agg #[.slice A n c, .int .i64 f, .int .i64 m], .int .i64 i] w fun e w' => e = .returned (.int .i64 ((f + i) % n)) ∧ w' = w.alloc (.cells #[.slice A n c, .int .i64 f, .int .i64 m] 24) := by
  go_enter Try.func24, Try.ntmps24
  go_wp2
  go_ret
  exact ⟨rfl, rfl⟩

def PushSt (xs : List UInt8) (s : ByteArray) {n : Nat} (pre : List (Pc n)) : List UInt8 × Nat := pst xs s.data.toList (pre.map (fun x => x.1))

/-- what holds between two rounds of the loop in Push -/
def PushI (xs : List UInt8) (s : ByteArray) (g gp c' f m : Nat) (sp : List Value) (w : World) {n : Nat} (pre : List (Pc n)) (W : World) : Prop :=
  (Box W g 5 (cellsOf (PushSt xs s pre).1 sp) ∧ Box W gp 3 #[.int .i64 ((PushSt xs s pre).2 : Int)] ∧ Box W w.heap.size 24 #[.slice (some ⟨g, 0, none⟩) xs.length c', .int .i64 (f : Int), .int .i64 (m : Int)] ∧ Box W (w.heap.size + 1) 9 #[.string s] ∧ Box W (w.heap.size + 1 + 1) 24 #[.slice none 0 0, .int .i64 0, .int .i64 0]) ∧
    Below w.heap.size w W ∧ gp + 1 + 1 + 3 ≤ W.heap.size

theorem pushI_own (xs : List UInt8) (s : ByteArray) (g gp c' f m : Nat) (sp : List Value) (w : World) {n : Nat} (B : Nat) (hB : w.heap.size ≤ B) : OwnFrom B (PushI xs s g gp c' f m sp w (n := n)) :=
  OwnFrom.and (OwnFrom.and (Own.from (box_own _ _ _) _) (OwnFrom.and (Own.from (box_own _ _ _) _) (OwnFrom.and (Own.from (box_own _ _ _) _) (OwnFrom.and (Own.from (box_own _ _ _) _) (Own.from (box_own _ _ _) _)))))
    (OwnFrom.and (ownFrom_below (Nat.le_refl _) hB) (fun _ _ _ _ h hg _ => Nat.le_trans h hg.size))

theorem push_round (xs : List UInt8) (s : ByteArray) (g gp c' f m : Nat) (sp : List Value) (w W W' : World) {n : Nat} (pre : List (Pc n)) (x : Pc n) (cur : List UInt8) (o le d cnt : Nat) (i1 : Box W g 5 (cellsOf cur sp)) (i2' : Box W' gp 3 #[.int .i64 (d : Int)])
    (i3 : Box W w.heap.size 24 #[.slice (some ⟨g, 0, none⟩) xs.length c', .int .i64 (f : Int), .int .i64 (m : Int)]) (i4 : Box W (w.heap.size + 1) 9 #[.string s]) (i5 : Box W (w.heap.size + 1 + 1) 24 #[.slice none 0 0, .int .i64 0, .int .i64 0])
    (hBW : Below w.heap.size w W) (hsW : gp + 1 + 1 + 3 ≤ W.heap.size) (hg : w.heap.size + 1 + 1 + 1 ≤ g) (hP : w.heap.size + 1 + 1 + 1 ≤ gp) (hgp : g ≠ gp) (hgl : g < gp + 1)
    (HH : Hid (pst xs s.data.toList ((pre ++ [x]).map (fun x => x.1)) = (spl cur o ((s.data.toList.drop d).take le), d + cnt))) (HB : Hid (Box W' g 5 (cellsOf (spl cur o ((s.data.toList.drop d).take le)) sp))) (HG : Hid (W.drew.grownBy W' (some g))) :
    KeepsOthers W (W'.setCell ⟨gp, 0, none⟩ (.int .i64 ((d : Int) + (cnt : Int)))) ∧ Kp3 (gp + 1 + 1) W (W'.setCell ⟨gp, 0, none⟩ (.int .i64 ((d : Int) + (cnt : Int)))) ∧
      PushI xs s g gp c' f m sp w (pre ++ [x]) (W'.setCell ⟨gp, 0, none⟩ (.int .i64 ((d : Int) + (cnt : Int)))) := by
  have hG : W.grownBy W' (some g) := ⟨HG.out.os, HG.out.tape, HG.out.output, HG.out.size, HG.out.block⟩
  have hW' : W.heap.size ≤ W'.heap.size := hG.size
  refine ⟨(keeps_cells hG i1).trans (KeepsOthers.setCell _ _ _), kp3_t (kp3_grown hG (by omega) hsW) (fun j h1 h2 => Below.heap_setCell _ _ _ _ (by simp only; omega)), ⟨?_, ?_, ?_, ?_, ?_⟩, ?_, ?_⟩
  · unfold PushSt
    rw [HH.out]
    exact HB.out.far (by simpa using hgp) _
  · unfold PushSt
    rw [HH.out]
    have := i2'.set 0 (.int .i64 ((d : Int) + (cnt : Int)))
    simpa using this
  · exact Box.far ((hG.block _ i3.lt (by simp; omega)).trans i3) (by simp; omega) _
  · exact Box.far ((hG.block _ i4.lt (by simp; omega)).trans i4) (by simp; omega) _
  · exact Box.far ((hG.block _ i5.lt (by simp; omega)).trans i5) (by simp; omega) _
  · exact (hBW.grown hG hBW.size (fun j e => by cases e; omega)).setCell (by simp only; omega) _
  · have : (W'.setCell ⟨gp, 0, none⟩ (.int .i64 ((d : Int) + (cnt : Int)))).heap.size = W'.heap.size := by simp [World.setCell]
    omega

theorem push_last (xs t : List UInt8) (g c' f m D : Nat) (sp : List Value) (w W : World) (i1 : Box W g 5 (cellsOf (put xs (f + m) t) sp))
    (i5 : Box W (w.heap.size + 1 + 1) 24 #[.slice none 0 0, .int .i64 0, .int .i64 0])
    (hBW : Below w.heap.size w W) (hK : W.heap[D]? = some (.deferred (some []))) (hg : w.heap.size + 1 + 1 + 1 ≤ g) :
    Box ((((W.setCell ⟨w.heap.size, 2, none⟩ (.int .i64 ((m : Int) + (t.length : Int)))).setCell ⟨w.heap.size + 1 + 1, 0, none⟩ (.slice (some ⟨g, 0, none⟩) xs.length c')).setCell ⟨w.heap.size + 1 + 1, 1, none⟩ (.int .i64 (f : Int))).setCell ⟨w.heap.size + 1 + 1, 2, none⟩ (.int .i64 ((m : Int) + (t.length : Int)))).drew (w.heap.size + 1 + 1) 24 #[.slice (some ⟨g, 0, none⟩) xs.length c', .int .i64 (f : Int), .int .i64 ((m : Int) + (t.length : Int))] ∧
    Box ((((W.setCell ⟨w.heap.size, 2, none⟩ (.int .i64 ((m : Int) + (t.length : Int)))).setCell ⟨w.heap.size + 1 + 1, 0, none⟩ (.slice (some ⟨g, 0, none⟩) xs.length c')).setCell ⟨w.heap.size + 1 + 1, 1, none⟩ (.int .i64 (f : Int))).setCell ⟨w.heap.size + 1 + 1, 2, none⟩ (.int .i64 ((m : Int) + (t.length : Int)))).drew g 5 (cellsOf (put xs (f + m) t) sp) ∧
    Below w.heap.size w ((((W.setCell ⟨w.heap.size, 2, none⟩ (.int .i64 ((m : Int) + (t.length : Int)))).setCell ⟨w.heap.size + 1 + 1, 0, none⟩ (.slice (some ⟨g, 0, none⟩) xs.length c')).setCell ⟨w.heap.size + 1 + 1, 1, none⟩ (.int .i64 (f : Int))).setCell ⟨w.heap.size + 1 + 1, 2, none⟩ (.int .i64 ((m : Int) + (t.length : Int)))).drew ∧
    ((((W.setCell ⟨w.heap.size, 2, none⟩ (.int .i64 ((m : Int) + (t.length : Int)))).setCell ⟨w.heap.size + 1 + 1, 0, none⟩ (.slice (some ⟨g, 0, none⟩) xs.length c')).setCell ⟨w.heap.size + 1 + 1, 1, none⟩ (.int .i64 (f : Int))).setCell ⟨w.heap.size + 1 + 1, 2, none⟩ (.int .i64 ((m : Int) + (t.length : Int)))).drew.heap[D]? = some (.deferred (some [])) := by
  generalize hu : (Value.int .i64 ((m : Int) + (t.length : Int))) = u
  have a5 := i5.far (p := ⟨w.heap.size, 2, none⟩) (by simp; omega) u
  have a1 := i1.far (p := ⟨w.heap.size, 2, none⟩) (by simp; omega) u
  have aB := hBW.setCell (p := ⟨w.heap.size, 2, none⟩) (Nat.le_refl _) u
  have aK := (KeepsOthers.setCell W ⟨w.heap.size, 2, none⟩ u).same D _ hK rfl
  generalize W.setCell ⟨w.heap.size, 2, none⟩ u = V at *
  have b5 := a5.set3 (.slice (some ⟨g, 0, none⟩) xs.length c') (.int .i64 (f : Int)) u
  have b1 := a1.far3 (g' := w.heap.size + 1 + 1) (by omega) (.slice (some ⟨g, 0, none⟩) xs.length c') (.int .i64 (f : Int)) u
  have bB := below_set3 aB (g := w.heap.size + 1 + 1) (by omega) (.slice (some ⟨g, 0, none⟩) xs.length c') (.int .i64 (f : Int)) u
  have bK := (KeepsOthers.setCell V ⟨w.heap.size + 1 + 1, 0, none⟩ (.slice (some ⟨g, 0, none⟩) xs.length c')).same D _ aK rfl
  have bK := (KeepsOthers.setCell _ ⟨w.heap.size + 1 + 1, 1, none⟩ (.int .i64 (f : Int))).same D _ bK rfl
  have bK := (KeepsOthers.setCell _ ⟨w.heap.size + 1 + 1, 2, none⟩ u).same D _ bK rfl
  generalize ((V.setCell ⟨w.heap.size + 1 + 1, 0, none⟩ (.slice (some ⟨g, 0, none⟩) xs.length c')).setCell ⟨w.heap.size + 1 + 1, 1, none⟩ (.int .i64 (f : Int))).setCell ⟨w.heap.size + 1 + 1, 2, none⟩ u = Z at *
  exact ⟨b5, b1, bB.drew, bK⟩

set_option maxRecDepth 100000 in
set_option maxHeartbeats 1000000 in
theorem push_yes (A : Option Addr) (c : Nat) (f m : Nat) (xs : List UInt8) (s : ByteArray) (w : World) (hA : A = none → c = 0) (hN : xs.length ≤ 4096) (hB : Bs w w.heap.size A xs) (hf : f < xs.length) (hm : m ≤ xs.length) (hS : s.size ≤ maxLen) :
    Calls Try.prog 14 #[rv A xs.length c f m, .string s] w (PushEnds (put xs (f + m) (s.data.toList.take (xs.length - m))) f (m + (s.data.toList.take (xs.length - m)).length) (s.data.toList.take (xs.length - m)).length w) := by
  have hok : okB xs.length f m = true := okB_mk (by omega)
  have HA := Lib.hid hA
  clear hA
  refine (callsIn_wide (n := 6)).1 ?_
  refine callsIn_of_wp_marks Try.func14 rfl trivial ?_ rfl
  simp only [Try.ntmps14, List.size_toArray, List.length_cons, List.length_nil, Nat.reduceAdd, Nat.reduceSub, Array.replicate_succ, Array.replicate_zero, List.push_toArray, List.append_toArray, List.nil_append, List.cons_append]
  refine wpIn_wide.2 ?_
  go_wp2_with fail
  refine (own_any A c f m xs _ HA.out (by omega) (hB.up (ba3 _ _ _ _))).mono ?_
  rintro e w1 ⟨A', c', rfl, ho, hbl⟩
  have b0 := ((Box.mk' w 24 #[.slice A xs.length c, .int .i64 f, .int .i64 m] _ rfl).alloc (.cells #[.string s] 9)).alloc (.cells #[.slice none 0 0, .int .i64 0, .int .i64 0] 24) |>.up hbl
  have b1 := (Box.mk' (w.alloc (.cells #[.slice A xs.length c, .int .i64 f, .int .i64 m] 24)) 9 #[.string s] (w.heap.size + 1) (by simp)).alloc (.cells #[.slice none 0 0, .int .i64 0, .int .i64 0] 24) |>.up hbl
  have b2 := (Box.mk' ((w.alloc (.cells #[.slice A xs.length c, .int .i64 f, .int .i64 m] 24)).alloc (.cells #[.string s] 9)) 24 #[.slice none 0 0, .int .i64 0, .int .i64 0] (w.heap.size + 1 + 1) (by simp)).up hbl
  have hbw := bon (ba3 _ _ _ _) hbl
  have hsz := hbl.size
  simp only [World.size_alloc] at hsz ho
  obtain ⟨⟨c0, c1, c2⟩, f0, f1, f2⟩ := b0.three
  go_wp2_with fail
  clear c0 c1 c2 f0 f1 f2 hbl
  have b0' := b0.set3 (.slice A' xs.length c') (.int .i64 f) (.int .i64 m)
  have b1' := b1.far3 (g' := w.heap.size) (by omega) (.slice A' xs.length c') (.int .i64 f) (.int .i64 m)
  have b2' := b2.far3 (g' := w.heap.size) (by omega) (.slice A' xs.length c') (.int .i64 f) (.int .i64 m)
  have ho' := ho.set3 (g := w.heap.size) (by omega) (.slice A' xs.length c') (.int .i64 f) (.int .i64 m)
  have hbw' := below_set3 hbw (Nat.le_refl _) (.slice A' xs.length c') (.int .i64 f) (.int .i64 m)
  have hsz' := size_set3 w1 w.heap.size (.slice A' xs.length c') (.int .i64 f) (.int .i64 m)
  generalize ((w1.setCell ⟨w.heap.size, 0, none⟩ (.slice A' xs.length c')).setCell ⟨w.heap.size, 1, none⟩ (.int .i64 f)).setCell ⟨w.heap.size, 2, none⟩ (.int .i64 m) = W1 at *
  refine (right_any A' xs.length c' f m W1).mono ?_
  rintro e w2 ⟨rfl, hbl2⟩
  have s2 := hbl2.size
  have b0 := b0'.up hbl2
  have b1 := b1'.up hbl2
  have b2 := b2'.up hbl2
  have hbw2 := bon hbw' hbl2
  have ho2 := ho'.up hbl2
  obtain ⟨⟨c0, c1, c2⟩, f0, f1, f2⟩ := b0.three
  clear b0' b1' b2' ho ho' hbw hbw' hbl2
  go_wp2_with fail
  have b0' := b0.alloc (.cells #[.int .i64 0] 3)
  have b1' := b1.alloc (.cells #[.int .i64 0] 3)
  have b2' := b2.alloc (.cells #[.int .i64 0] 3)
  have b3' := Box.new w2 3 #[.int .i64 0]
  have ho' := ho2.up (ba1 w2 (.cells #[.int .i64 0] 3))
  have hbw' := bon hbw2 (ba1 w2 (.cells #[.int .i64 0] 3))
  have s3 : (w2.alloc (.cells #[.int .i64 0] 3)).heap.size = w2.heap.size + 1 := by simp
  have hP : w.heap.size + 1 + 1 + 1 ≤ w2.heap.size := by omega
  generalize hpp : w2.heap.size = gp at *
  clear hpp
  generalize w2.alloc (.cells #[.int .i64 0] 3) = W3 at *
  clear b0 b1 b2 c0 c1 c2 f0 f1 f2 hbw2 ho2 s2 hsz'
  obtain ⟨⟨c0, c1, c2⟩, f0, f1, f2⟩ := b0'.three
  have hlt : w.heap.size < W3.heap.size := by omega
  have hsub : IntKind.i64.wrap ((xs.length : Int) - (m : Int)) = (xs.length : Int) - (m : Int) := IntWalk.i64_in _ (by omega)
  go_region_held3 (fun w' => w'.cell? ⟨w.heap.size, 0, none⟩ = some (.slice A' xs.length c') ∧ w'.cell? ⟨w.heap.size, 1, none⟩ = some (.int .i64 (f : Int)) ∧ w'.cell? ⟨w.heap.size, 2, none⟩ = some (.int .i64 (m : Int))) (first | exact ⟨(keep4 hlt _ _ _ _ _).trans c0, (keep4 hlt _ _ _ _ _).trans c1, (keep4 hlt _ _ _ _ _).trans c2⟩ | go_keep)
    (first | (go_at_call 24; refine (place_eq _ _ _ _ _ _ _ (by omega) (by omega) (by omega) (by omega) (by omega) (by omega)).mono ?_; rintro e w' ⟨rfl, rfl⟩) | (go_at_call 25; refine (parts_any _ _ _ _ _ _).mono ?_; rintro e w' ⟨rfl, rfl⟩))
  go_wp2_with fail
  refine (wpIn_wide (n := 6)).1 ?_
  have em : ((f : Int) + (m : Int)) % (xs.length : Int) = (((f + m) % xs.length : Nat) : Int) := by rw [← Int.natCast_add, ← Int.natCast_emod]
  have es : (xs.length : Int) - (m : Int) = ((xs.length - m : Nat) : Int) := by omega
  rw [em, es]
  have hp : (f + m) % xs.length < xs.length := Nat.mod_lt _ (by omega)
  have hpa := pst_all xs s.data.toList f m hf hm
  have hq : xs.length - m ≤ xs.length := Nat.sub_le _ _
  clear em es hsub
  generalize (f + m) % xs.length = pp at *
  generalize hqq : xs.length - m = qq at *
  have HP := Lib.hid hpa
  have HQ := Lib.hid hqq
  clear hpa hqq
  obtain ⟨g, sp, rfl, hg, hcur, hgp⟩ := ho'.block (by omega) b3'
  obtain ⟨W0, hW0⟩ : ∃ W0, ((((W3.alloc (Obj.cells #[Value.slice (some ⟨g, 0, none⟩) xs.length c', Value.int IntKind.i64 ↑f, Value.int IntKind.i64 ↑m] 24)).alloc
    (Obj.cells #[Value.slice (some ⟨g, 0, none⟩) xs.length c'] 22)).alloc
    (Obj.cells #[Value.int IntKind.i64 (pp : Int)] 3)).alloc
    (Obj.cells #[Value.int IntKind.i64 (qq : Int)] 3)).drew = W0 := ⟨_, rfl⟩
  rw [hW0]
  have hs0 : W0.heap.size = gp + 1 + 1 + 3 := by rw [← hW0]; simp [s3]
  have hB3 : Below W3.heap.size W3 W0 := by rw [← hW0]; exact ((ba3 _ _ _ _).alloc (by simp; omega) _).drew
  have x4 : Box W0 (gp + 1 + 1) 22 #[.slice (some ⟨g, 0, none⟩) xs.length c'] := by
    rw [← hW0]
    exact ((Box.mk' _ _ _ _ (by simp [s3])).alloc _).alloc _
  have x5 : Box W0 (gp + 1 + 1 + 1) 3 #[.int .i64 (pp : Int)] := by
    rw [← hW0]
    exact (Box.mk' _ _ _ _ (by simp [s3])).alloc _
  have x6 : Box W0 (gp + 1 + 1 + 2) 3 #[.int .i64 (qq : Int)] := by
    rw [← hW0]
    exact Box.mk' _ _ _ _ (by simp [s3])
  have hle := ho'.le
  clear hW0 c0 c1 c2 f0 f1 f2
  refine wpIn_rangeFunc_ownF (α := Pc xs.length) rfl (by decide) (gf := 29) (lb := #[.pointer (some ⟨gp + 1 + 1 + 2, 0, none⟩), .pointer (some ⟨gp + 1 + 1, 0, none⟩), .pointer (some ⟨gp + 1 + 1 + 1, 0, none⟩)]) rfl trivial (enters_of Try.func29 (by kernel_rfl) rfl)
    (parts_stops 5 (gp + 1 + 1) g 0 xs.length c' pp qq W0 (by decide) hN hle hp hq x4 x5 x6) kp3_t (kp3_b (by omega)) (Below.refl _ _) (fun _ => rfl)
    (PushI xs s g gp c' f m sp w) (fun _ _ _ => False) (pushI_own xs s g gp c' f m sp w _ (by omega))
    (fun _ _ _ _ _ hs _ _ => hs)
    ⟨⟨hcur.up hB3, b3'.up hB3, b0'.up hB3, b1'.up hB3, b2'.up hB3⟩, bon hbw' hB3, by omega⟩
    (fun x => { tmps := #[rv A xs.length c f m, .string s, .pointer (some ⟨w.heap.size, 0, none⟩), .pointer (some ⟨w.heap.size + 1, 0, none⟩), .pointer (some ⟨w.heap.size + 1 + 1, 0, none⟩), .int .i64 0, .pointer (some ⟨gp, 0, none⟩), .slice (some ⟨g, x.1.1, none⟩) x.1.2 (c' - x.1.1),
      .agg #[.slice A xs.length c, .int .i64 f, .int .i64 m], rv (some ⟨g, 0, none⟩) xs.length c' f m, .agg #[.slice (some ⟨g, 0, none⟩) xs.length c', .int .i64 f, .int .i64 m], .bool true, .bool false, undef, .pointer (some ⟨w.heap.size, 0, none⟩), .slice (some ⟨g, 0, none⟩) xs.length c',
      .agg #[.slice (some ⟨g, 0, none⟩) xs.length c', .int .i64 f, .int .i64 m], .pointer (some ⟨w.heap.size, 2, none⟩), .int .i64 m, .int .i64 (pp : Int), .pointer (some ⟨w.heap.size, 0, none⟩), .slice (some ⟨g, 0, none⟩) xs.length c', .int .i64 xs.length, .pointer (some ⟨w.heap.size, 2, none⟩), .int .i64 m, .int .i64 (qq : Int),
      .func (.func 29) #[] #[.pointer (some ⟨gp + 1 + 1 + 2, 0, none⟩), .pointer (some ⟨gp + 1 + 1, 0, none⟩), .pointer (some ⟨gp + 1 + 1 + 1, 0, none⟩)], .slice (some ⟨g, x.1.1, none⟩) x.1.2 (c' - x.1.1),
      undef, undef, undef, undef, undef, undef, undef, undef, undef, undef, undef, undef, undef, undef], defers := [] }) ?assign ?body ?done ?stop
  case assign =>
    intro l x W K hK
    gi_wp2
    exact hK
  case body =>
    rintro l pre ⟨⟨o, le⟩, hx⟩ W ⟨⟨i1, i2, i3, i4, i5⟩, hBW, hsW⟩ _
    simp only at hx
    have hg1 := pst_inv xs s.data.toList xs.length rfl pre
    have hsn := pst_snoc xs s.data.toList (pre.map (fun x => x.1)) (o, le)
    have hst : pst xs s.data.toList ((pre ++ [(⟨(o, le), hx⟩ : Pc xs.length)]).map (fun x => x.1)) = pst xs s.data.toList (pre.map (fun x => x.1) ++ [(o, le)]) := by simp
    rw [hsn] at hst
    unfold PushSt at i1 i2
    generalize pst xs s.data.toList (pre.map (fun x => x.1)) = q at *
    obtain ⟨cur, d⟩ := q
    simp only at hg1 hst i1 i2
    obtain ⟨hcl, hdk⟩ := hg1
    obtain ⟨p2, r2⟩ := i2.one
    obtain ⟨p4, _⟩ := i4.one
    have hds : d ≤ s.size := by rw [Lib.size_eq]; exact hdk
    have hex : (s.extract d s.size).data.toList = s.data.toList.drop d := Lib.extract_to_end s d
    obtain ⟨W', hrun, hbox, hgrow⟩ := copy_string W.drew 3 g o le (c' - o) cur (s.extract d s.size) sp i1 (by have := List.length_take_le le (s.extract d s.size).data.toList; omega)
    have i2' : Box W' gp 3 #[.int .i64 (d : Int)] := (hgrow.block _ i2.lt (by simp; omega)).trans i2
    obtain ⟨q2, t2⟩ := i2'.one
    have hle2 : ((s.data.toList.drop d).take le).length ≤ s.size - d := by rw [List.length_take, List.length_drop, ← Lib.size_eq]; omega
    rw [hex] at hrun hbox
    generalize hcnt : ((s.data.toList.drop d).take le).length = cnt at *
    have HB := Lib.hid hbox
    have HG := Lib.hid hgrow
    have HH := Lib.hid hst
    clear hbox hgrow hcnt hst hsn hex
    have hmx : Try.prog.follows .mixedOrders = true := by kernel_rfl
    have hwr : IntKind.i64.wrap ((d : Int) + (cnt : Int)) = (d : Int) + (cnt : Int) := IntWalk.i64_in _ (by unfold maxLen at hS; omega)
    gi_wp2
    gi_region_o
    all_goals gi_wp2
    all_goals exact push_round xs s g gp c' f m sp w W W' pre ⟨(o, le), hx⟩ cur o le d cnt i1 i2' i3 i4 i5 hBW hsW hg hP hgp (by have := hcur.lt; omega) HH HB HG
  case done =>
    rintro D ys W hD hY ⟨⟨i1, i2, i3, i4, i5⟩, hBW, hsW⟩ hK
    unfold PushSt at i1 i2
    rw [hY, HP.out] at i1 i2
    simp only at i1 i2
    have htl : (s.data.toList.take qq).length ≤ qq := List.length_take_le _ _
    have hmq : m + qq ≤ xs.length := by have := HQ.out; omega
    generalize s.data.toList.take qq = t at *
    obtain ⟨p2, r2⟩ := i2.one
    obtain ⟨⟨c0, c1, c2⟩, f0, f1, f2⟩ := i3.three
    obtain ⟨⟨d0, d1, d2⟩, e0, e1, e2⟩ := i5.three
    have hpl := put_length t xs (f + m)
    have hD0 : D ≠ w.heap.size := by omega
    clear HP hY i4
    go_wp2
    go_region
    all_goals go_wp2
    have hK' := hK
    obtain ⟨bX, gX, hBX, hKX⟩ := push_last xs t g c' f m D sp w W i1 i5 hBW hK' hg
    generalize ((((W.setCell ⟨w.heap.size, 2, none⟩ (.int .i64 ((m : Int) + (t.length : Int)))).setCell ⟨w.heap.size + 1 + 1, 0, none⟩ (.slice (some ⟨g, 0, none⟩) xs.length c')).setCell ⟨w.heap.size + 1 + 1, 1, none⟩ (.int .i64 (f : Int))).setCell ⟨w.heap.size + 1 + 1, 2, none⟩ (.int .i64 ((m : Int) + (t.length : Int)))).drew = X at *
    refine ⟨by simp, .inl ⟨_, _, rfl, run_takeDeferred hKX, ?_⟩⟩
    have bY : Box (X.putObj D (.deferred none)) (w.heap.size + 1 + 1) 24 #[.slice (some ⟨g, 0, none⟩) xs.length c', .int .i64 (f : Int), .int .i64 ((m : Int) + (t.length : Int))] := (World.putObj_heap_other (by omega)).trans bX
    have gY : Box (X.putObj D (.deferred none)) g 5 (cellsOf (put xs (f + m) t) sp) := (World.putObj_heap_other (by have := hcur.lt; omega)).trans gX
    have hBY : Below w.heap.size w (X.putObj D (.deferred none)) := hBX.trans (belowK_b (w := w) (Nat.le_refl _) X D _ _ (by omega) hKX rfl rfl)
    generalize X.putObj D (.deferred none) = Y at *
    obtain ⟨⟨q0, q1, q2⟩, _⟩ := bY.three
    refine ⟨.tuple #[rv (some ⟨g, 0, none⟩) xs.length c' f ((m : Int) + (t.length : Int)), .int .i64 (t.length : Int)], by simp [results, Try.results14, go_sem, q0, q1, q2], _, rfl, ⟨some ⟨g, 0, none⟩, c', by rw [hpl], (fun h => by cases h), by omega, ?_⟩, hBY⟩
    exact Bs.of_block gY _ (by simp only [cellsOf]; rw [List.take_append_of_le_length (by simp), List.take_of_length_le (by simp)])
  case stop =>
    rintro D cc pre W _ _ h _
    exact h.elim

/-- what Push comes to: the buffer, Many, and how many bytes went over -/
def pushed (xs : List UInt8) (f m : Int) (s : List UInt8) : List UInt8 × Int × Nat :=
  if okB xs.length f m then (put xs (f.toNat + m.toNat) (s.take (xs.length - m.toNat)), m + (s.take (xs.length - m.toNat)).length, (s.take (xs.length - m.toNat)).length) else (xs, m, 0)

theorem push_any (A : Option Addr) (c : Nat) (f m : Int) (xs : List UInt8) (s : ByteArray) (w : World) (hA : A = none → c = 0) (hb : xs.length ≤ 100000000) (hB : Bs w w.heap.size A xs) (hS : s.size ≤ maxLen) :
    Calls Try.prog 14 #[rv A xs.length c f m, .string s] w (PushEnds (pushed xs f m s.data.toList).1 f (pushed xs f m s.data.toList).2.1 (pushed xs f m s.data.toList).2.2 w) := by
  cases h : okB xs.length f m with
  | false =>
    have e : pushed xs f m s.data.toList = (xs, m, 0) := by simp [pushed, h]
    rw [e]
    exact push_no A c f m xs s w hA hb hB h
  | true =>
    have hh := okB_true h
    have e : pushed xs f m s.data.toList = (put xs (f.toNat + m.toNat) (s.data.toList.take (xs.length - m.toNat)), m + (s.data.toList.take (xs.length - m.toNat)).length, (s.data.toList.take (xs.length - m.toNat)).length) := by simp [pushed, h]
    rw [e]
    obtain ⟨f', rfl⟩ := Int.eq_ofNat_of_zero_le hh.2.2.1
    obtain ⟨m', rfl⟩ := Int.eq_ofNat_of_zero_le hh.2.2.2.2.1
    simp only [Int.toNat_natCast]
    exact push_yes A c f' m' xs s w hA (by omega) hB (by omega) (by omega) hS

end Go.Proofs.Ytbjjolfefegcbaa
