/-
  The walk of ring.first: of a valid ring it hands back the first k bytes of the content.
-/
import Derived.Test.YtbjjolfefegcbaaCopy
import Derived.IntWalk
namespace Go.Proofs.Ytbjjolfefegcbaa
open Go.RowKit Go.Shelf

attribute [local go_sem] Oper.semAt_some

/-- a box speaks of cells alone -/
theorem box_own {β : Type} (g : Nat) (t : TypeId) (cs : β → Array Value) : Own (fun s W => Box W g t (cs s)) := by
  intro s W W' row h hg hr
  refine (hg.block g h.lt (fun e => ?_)).trans h
  obtain ⟨o, ho, hc⟩ := hr g e.symm
  rw [show W.heap[g]? = _ from h] at ho
  cases ho
  cases hc

theorem first_run (k : Nat) (hk : k ≤ 4096) (W : World) : (Instr.makeSlice 22 (.int .i64 (k : Int)) (.int .i64 (k : Int))).run Try.prog W = .ok (.slice (some ⟨W.heap.size, 0, none⟩) k k) (W.alloc (.cells (madeCells #[.int .u8 0] k) 5)) :=
  run_make_row' (P := Try.prog) 22 5 (.int .u8 0) 1 Try.underlying22 info5 rfl .i64 .i64 k (by omega) (by omega) W

theorem made_cells (k : Nat) : madeCells #[.int .u8 0] k = cellsOf (List.replicate k 0) [] := by
  apply Array.ext'
  rw [toList_madeCells_one]
  simp [cellsOf, bv]

/-- what holds between two rounds of the loop in first -/
def FirstI (xs : List UInt8) (k : Nat) (w : World) {n : Nat} (pre : List (Pc n)) (W : World) : Prop :=
  (Box W (w.heap.size + 1) 5 (cellsOf (gst xs k (pre.map (fun x => x.1))).1 []) ∧ Box W (w.heap.size + 1 + 1) 22 #[.slice (some ⟨w.heap.size + 1, 0, none⟩) k k] ∧ Box W (w.heap.size + 1 + 1 + 1) 3 #[.int .i64 ((gst xs k (pre.map (fun x => x.1))).2 : Int)]) ∧ Below w.heap.size w W ∧ w.heap.size + 1 + 1 + 1 + 1 + 3 ≤ W.heap.size

theorem firstI_own (xs : List UInt8) (k : Nat) (w : World) (n B : Nat) (hB : w.heap.size ≤ B) : OwnFrom B (FirstI xs k w (n := n)) :=
  OwnFrom.and (OwnFrom.and (Own.from (box_own _ _ _) _) (OwnFrom.and (Own.from (box_own _ _ _) _) (Own.from (box_own _ _ _) _))) (OwnFrom.and (ownFrom_below (Nat.le_refl _) hB) (fun _ _ _ _ h hg _ => Nat.le_trans h hg.size))

theorem keeps_cells {W W' : World} {g : Nat} {t : TypeId} {cs : Array Value} (hg : W.grownBy W' (some g)) (hb : Box W g t cs) : KeepsOthers W W' :=
  KeepsOthers.of_grownBy hg (fun j o e hj => by
    cases e
    rw [show W.heap[g]? = _ from hb] at hj
    cases hj
    rfl)

theorem kp3_grown {lo g : Nat} {W W' : World} (hg : W.grownBy W' (some g)) (hlt : g < lo) (hs : lo + 3 ≤ W.heap.size) : Kp3 lo W W' :=
  fun j h1 h2 => hg.block j (by omega) (by simp; omega)

theorem first_round (xs : List UInt8) (k : Nat) (w W W' : World) {n : Nat} (pre : List (Pc n)) (x : Pc n) (cur src : List UInt8) (d dl cnt : Nat) (i1 : Box W (w.heap.size + 1) 5 (cellsOf cur [])) (i2 : Box W (w.heap.size + 1 + 1) 22 #[.slice (some ⟨w.heap.size + 1, 0, none⟩) k k])
    (i3' : Box W' (w.heap.size + 1 + 1 + 1) 3 #[.int .i64 (d : Int)]) (hBW : Below w.heap.size w W) (hs : w.heap.size + 1 + 1 + 1 + 1 + 3 ≤ W.heap.size)
    (HH : Hid (gst xs k ((pre ++ [x]).map (fun x => x.1)) = (spl cur d (src.take dl), d + cnt))) (HB : Hid (Box W' (w.heap.size + 1) 5 (cellsOf (spl cur d (src.take dl)) []))) (HG : Hid (W.drew.grownBy W' (some (w.heap.size + 1)))) :
    KeepsOthers W (W'.setCell ⟨w.heap.size + 1 + 1 + 1, 0, none⟩ (.int .i64 ((d : Int) + (cnt : Int)))) ∧ Kp3 (w.heap.size + 1 + 1 + 1 + 1) W (W'.setCell ⟨w.heap.size + 1 + 1 + 1, 0, none⟩ (.int .i64 ((d : Int) + (cnt : Int)))) ∧
      FirstI xs k w (pre ++ [x]) (W'.setCell ⟨w.heap.size + 1 + 1 + 1, 0, none⟩ (.int .i64 ((d : Int) + (cnt : Int)))) := by
  have hG : W.grownBy W' (some (w.heap.size + 1)) := ⟨HG.out.os, HG.out.tape, HG.out.output, HG.out.size, HG.out.block⟩
  have hW' : W.heap.size ≤ W'.heap.size := hG.size
  refine ⟨(keeps_cells hG i1).trans (KeepsOthers.setCell _ _ _), kp3_t (kp3_grown hG (by omega) hs) (fun j h1 h2 => Below.heap_setCell _ _ _ _ (by simp only; omega)), ⟨?_, ?_, ?_⟩, ?_, ?_⟩
  · rw [HH.out]
    exact HB.out.far (by simp) _
  · exact Box.far ((hG.block _ i2.lt (by simp)).trans i2) (by simp) _
  · rw [HH.out]
    have := i3'.set 0 (.int .i64 ((d : Int) + (cnt : Int)))
    simpa using this
  · exact (hBW.grown hG hBW.size (fun j e => by cases e; omega)).setCell (by simp only; omega) _
  · have : (W'.setCell ⟨w.heap.size + 1 + 1 + 1, 0, none⟩ (.int .i64 ((d : Int) + (cnt : Int)))).heap.size = W'.heap.size := by simp [World.setCell]
    omega

set_option maxRecDepth 100000 in
set_option maxHeartbeats 1000000 in
theorem first_any (b off c f k : Nat) (m : Int) (xs : List UInt8) (w : World) (hN : xs.length ≤ 4096) (hc : xs.length ≤ c) (hf : f < xs.length) (hk : k ≤ xs.length) (hb : b < w.heap.size)
    (hcell : ∀ j, j < xs.length → w.cell? ⟨b, off + j, none⟩ = some (bv (xs[j]?.getD 0))) :
    Calls Try.prog 23 #[.agg #[.slice (some ⟨b, off, none⟩) xs.length c, .int .i64 (f : Int), .int .i64 m], .int .i64 (k : Int)] w fun e w' => e = .returned (.string ⟨(dat xs f k).toArray⟩) ∧ Below w.heap.size w w' := by
  have hmk := first_run k (by omega)
  generalize hn : xs.length = n at *
  have HN := Lib.hid hn
  clear hn
  refine (callsIn_wide (n := 6)).1 ?_
  refine callsIn_of_wp_marks Try.func23 rfl trivial ?_ rfl
  simp only [Try.ntmps23, List.size_toArray, List.length_cons, List.length_nil, Nat.reduceAdd, Nat.reduceSub, Array.replicate_succ, Array.replicate_zero, List.push_toArray, List.append_toArray, List.nil_append, List.cons_append]
  gi_wp2_with fail
  refine ⟨trivial, ?_⟩
  refine (callsIn_wide.2 (parts_any _ _ _ _ _ _)).mono ?_
  rintro e w' ⟨rfl, rfl⟩
  gi_wp2
  obtain ⟨W0, hW0⟩ : ∃ W0, (((((((w.alloc (Obj.cells #[Value.slice (some { block := b, off := off }) n c, Value.int IntKind.i64 ↑f, Value.int IntKind.i64 m] 24)).alloc
    (Obj.cells (madeCells #[Value.int IntKind.u8 0] k) 5)).alloc
    (Obj.cells #[Value.slice (some { block := w.heap.size + 1, off := 0 }) k k] 22)).alloc
    (Obj.cells #[Value.int IntKind.i64 0] 3)).alloc
    (Obj.cells #[Value.slice (some { block := b, off := off }) n c] 22)).alloc
    (Obj.cells #[Value.int IntKind.i64 ↑f] 3)).alloc
    (Obj.cells #[Value.int IntKind.i64 ↑k] 3)) = W0 := ⟨_, rfl⟩
  rw [hW0]
  have hs0 : W0.heap.size = w.heap.size + 1 + 1 + 1 + 1 + 3 := by rw [← hW0]; simp
  have hB0 : Below w.heap.size w W0 := by rw [← hW0]; exact ((((ba3 _ _ _ _).alloc (by simp; omega) _).alloc (by simp; omega) _).alloc (by simp; omega) _).alloc (by simp; omega) _
  have x1 : Box W0 (w.heap.size + 1) 5 (cellsOf (List.replicate k 0) []) := by
    rw [← hW0, ← made_cells]
    exact (((((Box.mk' _ _ _ _ (by simp)).alloc _).alloc _).alloc _).alloc _).alloc _
  have x2 : Box W0 (w.heap.size + 1 + 1) 22 #[.slice (some ⟨w.heap.size + 1, 0, none⟩) k k] := by
    rw [← hW0]
    exact ((((Box.mk' _ _ _ _ (by simp)).alloc _).alloc _).alloc _).alloc _
  have x3 : Box W0 (w.heap.size + 1 + 1 + 1) 3 #[.int .i64 0] := by
    rw [← hW0]
    exact (((Box.mk' _ _ _ _ (by simp)).alloc _).alloc _).alloc _
  have x4 : Box W0 (w.heap.size + 1 + 1 + 1 + 1) 22 #[.slice (some ⟨b, off, none⟩) n c] := by
    rw [← hW0]
    exact ((Box.mk' _ _ _ _ (by simp)).alloc _).alloc _
  have x5 : Box W0 (w.heap.size + 1 + 1 + 1 + 1 + 1) 3 #[.int .i64 (f : Int)] := by
    rw [← hW0]
    exact (Box.mk' _ _ _ _ (by simp)).alloc _
  have x6 : Box W0 (w.heap.size + 1 + 1 + 1 + 1 + 2) 3 #[.int .i64 (k : Int)] := by
    rw [← hW0]
    exact Box.mk' _ _ _ _ (by simp)
  clear hW0
  refine wpIn_rangeFunc_ownF (α := Pc n) rfl (by decide) (gf := 29) (lb := #[.pointer (some ⟨w.heap.size + 1 + 1 + 1 + 1 + 2, 0, none⟩), .pointer (some ⟨w.heap.size + 1 + 1 + 1 + 1, 0, none⟩), .pointer (some ⟨w.heap.size + 1 + 1 + 1 + 1 + 1, 0, none⟩)]) rfl trivial (enters_of Try.func29 (by kernel_rfl) rfl)
    (parts_stops 5 (w.heap.size + 1 + 1 + 1 + 1) b off n c f k W0 (by decide) hN hc hf hk x4 x5 x6) kp3_t (kp3_b (by omega)) (Below.refl _ _) (fun _ => rfl)
    (FirstI xs k w) (fun _ _ _ => False) (firstI_own xs k w n _ (by omega))
    (fun _ _ _ _ _ hs _ _ => hs)
    ⟨⟨x1, x2, x3⟩, hB0, by omega⟩
    (fun x => { tmps := #[.agg #[.slice (some ⟨b, off, none⟩) n c, .int .i64 (f : Int), .int .i64 m], .int .i64 (k : Int), .pointer (some ⟨w.heap.size, 0, none⟩), undef, .string ⟨#[]⟩, .pointer (some ⟨w.heap.size + 1 + 1, 0, none⟩), .pointer (some ⟨w.heap.size + 1 + 1 + 1, 0, none⟩),
      .slice (some ⟨b, off + x.1.1, none⟩) x.1.2 (c - x.1.1), .int .i64 (k : Int), .slice (some ⟨w.heap.size + 1, 0, none⟩) k k, .pointer (some ⟨w.heap.size, 0, none⟩), .slice (some ⟨b, off, none⟩) n c, .pointer (some ⟨w.heap.size, 1, none⟩), .int .i64 (f : Int), .int .i64 (k : Int),
      .func (.func 29) #[] #[.pointer (some ⟨w.heap.size + 1 + 1 + 1 + 1 + 2, 0, none⟩), .pointer (some ⟨w.heap.size + 1 + 1 + 1 + 1, 0, none⟩), .pointer (some ⟨w.heap.size + 1 + 1 + 1 + 1 + 1, 0, none⟩)],
      .slice (some ⟨b, off + x.1.1, none⟩) x.1.2 (c - x.1.1), undef, undef, undef, undef, undef, undef, undef, undef, undef], defers := [] }) ?assign ?body ?done ?stop
  case assign =>
    intro l x W K hK
    gi_wp2
    exact hK
  case body =>
    rintro l pre ⟨⟨o, le⟩, hx⟩ W ⟨⟨i1, i2, i3⟩, hBW, hsW⟩ _
    simp only at hx
    have hg1 := gst_inv xs k (pre.map (fun x => x.1))
    have hsn := gst_snoc xs k (pre.map (fun x => x.1)) (o, le)
    have hst : gst xs k ((pre ++ [(⟨(o, le), hx⟩ : Pc n)]).map (fun x => x.1)) = gst xs k (pre.map (fun x => x.1) ++ [(o, le)]) := by simp
    rw [hsn] at hst
    generalize gst xs k (pre.map (fun x => x.1)) = q at *
    obtain ⟨cur, d⟩ := q
    simp only at hg1 hst i1 i3
    obtain ⟨hcl, hdk⟩ := hg1
    obtain ⟨p2, _⟩ := i2.one
    obtain ⟨p3, g3⟩ := i3.one
    have hsl : ((xs.drop o).take le).length = le := by have := HN.out; simp; omega
    generalize hsrc : (xs.drop o).take le = src at *
    have hsc : ∀ j, j < src.length → W.drew.cell? ⟨b, off + o + j, none⟩ = some (bv (src[j]?.getD 0)) := fun j hj => by
      have h1 : W.cell? ⟨b, off + (o + j), none⟩ = w.cell? ⟨b, off + (o + j), none⟩ := hBW.cell (p := ⟨b, off + (o + j), none⟩) hb
      have h2 : src[j]? = xs[o + j]? := by rw [← hsrc, List.getElem?_take, if_pos (by omega), List.getElem?_drop]
      rw [h2, ← hcell (o + j) (by omega), ← h1, Nat.add_assoc]
      rfl
    have HH := Lib.hid hst
    have HC := Lib.hid hsrc
    have HL := Lib.hid hsl
    clear hst hsrc hsn hcell
    by_cases hd : d < k
    · obtain ⟨W', hrun, hbox, hgrow⟩ := copy_slice W.drew 3 (w.heap.size + 1) d (k - d) (k - d) b (off + o) (c - o) (some ⟨w.heap.size + 1, d, none⟩) cur src [] i1 (fun _ => rfl) hsc (by have := List.length_take_le (k - d) src; omega)
      have i3' : Box W' (w.heap.size + 1 + 1 + 1) 3 #[.int .i64 (d : Int)] := (hgrow.block _ i3.lt (by simp; omega)).trans i3
      obtain ⟨q3, r3⟩ := i3'.one
      have hle : (src.take (k - d)).length ≤ k - d := List.length_take_le _ _
      generalize hcnt : (src.take (k - d)).length = cnt at *
      have HB := Lib.hid hbox
      have HG := Lib.hid hgrow
      have HK := Lib.hid hcnt
      clear hbox hgrow hsc hcnt
      rw [hsl] at hrun
      have hmx : Try.prog.follows .mixedOrders = true := by kernel_rfl
      have hwr : IntKind.i64.wrap ((d : Int) + (cnt : Int)) = (d : Int) + (cnt : Int) := IntWalk.i64_in _ (by omega)
      gi_wp2
      gi_region_o
      all_goals gi_wp2
      all_goals exact first_round xs k w W W' pre ⟨(o, le), hx⟩ cur src d (k - d) cnt i1 i2 i3' hBW hsW HH HB HG
    · obtain rfl : d = k := by omega
      obtain ⟨W', hrun, hbox, hgrow⟩ := copy_slice W.drew 3 (w.heap.size + 1) d 0 0 b (off + o) (c - o) (some ⟨w.heap.size + 1, 0, none⟩) cur src [] i1 (fun h => absurd h (by omega)) hsc (by simp; omega)
      have i3' : Box W' (w.heap.size + 1 + 1 + 1) 3 #[.int .i64 (d : Int)] := (hgrow.block _ i3.lt (by simp; omega)).trans i3
      obtain ⟨q3, r3⟩ := i3'.one
      have e0 : d - d = 0 := Nat.sub_self d
      rw [e0] at HH
      generalize hcnt : (src.take 0).length = cnt at *
      have hle : cnt ≤ 0 := by rw [← hcnt]; simp
      have HB := Lib.hid hbox
      have HG := Lib.hid hgrow
      clear hbox hgrow hsc hcnt e0
      rw [hsl] at hrun
      have hmx : Try.prog.follows .mixedOrders = true := by kernel_rfl
      have hwr : IntKind.i64.wrap ((d : Int) + (cnt : Int)) = (d : Int) + (cnt : Int) := IntWalk.i64_in _ (by omega)
      gi_wp2
      gi_region_o
      all_goals gi_wp2
      all_goals exact first_round xs d w W W' pre ⟨(o, le), hx⟩ cur src d 0 cnt i1 i2 i3' hBW hsW HH HB HG
  case done =>
    rintro D ys W hD hS ⟨⟨i1, i2, i3⟩, hBW, hsW⟩ hK
    obtain ⟨p2, _⟩ := i2.one
    rw [hS, gst_all xs n f k HN.out hf hk] at i1
    have hdl : (dat xs f k).length = k := by have := HN.out; simp [dat]; omega
    have hcv := conv_any W W.heap.size k (some ⟨w.heap.size + 1, 0, none⟩) (dat xs f k) (Bs.of_block i1 _ (by simp only [cellsOf, List.append_nil]; exact List.take_of_length_le (by simp)))
    rw [hdl] at hcv
    have HD := Lib.hid hdl
    clear hdl hS i1 i3
    gi_wp2
    refine ⟨by simp, .inl ⟨_, _, rfl, run_takeDeferred hK, ?_⟩⟩
    exact ⟨_, results_tmp rfl _ _ _, rfl, hBW.trans (belowK_b (w := w) (Nat.le_refl _) W D _ _ (by omega) hK rfl rfl)⟩
  case stop =>
    rintro D cc pre W _ _ h _
    exact h.elim

end Go.Proofs.Ytbjjolfefegcbaa
