/-
  The walk of ids.New.
-/
import Derived.Test.YtkglgbbekmljcaaOwn
import Derived.Deep.DeepCutAuto
namespace Go.Proofs.Ytkglgbbekmljcaa
open Go.RowKit

/-- what New hands back -/
def NewEnds (T : Tb) (w : World) (e : Ending) (w' : World) : Prop :=
  ∃ Ag N cg Ab M cb Af F cf, e = .returned (tv Ag N cg Ab M cb Af F cf) ∧ RowT w' w.heap.size T Ag N cg Ab M cb Af F cf ∧ Below w.heap.size w w'

theorem rowNil (w : World) (B : Nat) (t : TypeId) : Row w B t none 0 0 [] := ⟨rfl, .inl ⟨rfl, rfl, rfl⟩⟩
theorem rowT_nil (w : World) (B : Nat) : RowT w B ⟨[], [], []⟩ none 0 0 none 0 0 none 0 0 := ⟨rowNil _ _ _, rowNil _ _ _, rowNil _ _ _, fun p q h => by cases h⟩

/-- the free slots behind k rounds -/
def fl (k room : Nat) : List Int := (List.range k).map Int.ofNat ++ List.replicate (room - k) 0
theorem fl_set {k room : Nat} (h : k < room) : (fl k room).set k (k : Int) = fl (k + 1) room := by
  unfold fl
  rw [List.set_append_right _ _ (by simp)]
  rw [List.range_succ, List.map_append, show room - k = (room - (k + 1)) + 1 by omega, List.replicate_succ]
  simp
theorem fl_all (room : Nat) : fl room room = (List.range room).map Int.ofNat := by simp [fl]

set_option maxHeartbeats 400000 in
theorem new_no (room : Int) (w : World) (h : ¬ (1 ≤ room ∧ room ≤ 64)) :
    Calls Try.prog 10 #[.int .i64 room] w (NewEnds (newT room) w) := by
  have he : newT room = ⟨[], [], []⟩ := by simp only [newT, if_neg h]
  rw [he]
  clear he
  have h' : room < 1 ∨ 1 ≤ room ∧ 64 < room := by omega
  clear h
  rcases h' with h1 | ⟨h1, h2⟩
  all_goals
    go_enter Try.func10, Try.ntmps10
    go_wp2
    refine bodyPost_ret (v := tv none 0 0 none 0 0 none 0 0) (by simp [results, Try.results10, go_sem]) rfl ?_
    exact ⟨none, 0, 0, none, 0, 0, none, 0, 0, rfl, rowT_nil _ _, ba1 _ _⟩

theorem Box.drew {w : World} {g : Nat} {t : TypeId} {cs : Array Value} (h : Box w g t cs) : Box w.drew g t cs := h
theorem bx1 {W : World} {n : Nat} (hs : W.heap.size = n) (t : TypeId) (cs : Array Value) (b c d : Obj) : Box ((((W.alloc (.cells cs t)).alloc b).alloc c).alloc d) n t cs := ((((Box.mk' W t cs n hs).alloc b).alloc c).alloc d)
theorem bx2 {W : World} {n : Nat} (hs : W.heap.size = n) (t : TypeId) (cs : Array Value) (a c d : Obj) : Box ((((W.alloc a).alloc (.cells cs t)).alloc c).alloc d) (n + 1) t cs := (((Box.mk' (W.alloc a) t cs (n + 1) (by simp [hs])).alloc c).alloc d)
theorem bx3 {W : World} {n : Nat} (hs : W.heap.size = n) (t : TypeId) (cs : Array Value) (a b d : Obj) : Box ((((W.alloc a).alloc b).alloc (.cells cs t)).alloc d) (n + 1 + 1) t cs := ((Box.mk' ((W.alloc a).alloc b) t cs (n + 1 + 1) (by simp [hs])).alloc d)
theorem bx4 {W : World} {n : Nat} (hs : W.heap.size = n) (t : TypeId) (cs : Array Value) (a b c : Obj) : Box ((((W.alloc a).alloc b).alloc c).alloc (.cells cs t)) (n + 1 + 1 + 1) t cs := (Box.mk' (((W.alloc a).alloc b).alloc c) t cs (n + 1 + 1 + 1) (by simp [hs]))

/-- what stands when the three slices are made -/
def NewMid (room : Nat) (w : World) (c3 : Value) (wx : World) : Prop :=
  ∃ p ga gb gf, c3 = .pointer (some ⟨p, 0, none⟩) ∧ Box wx p 25 #[.slice (some ⟨ga, 0, none⟩) room room, .slice (some ⟨gb, 0, none⟩) room room, .slice (some ⟨gf, 0, none⟩) room room] ∧
    Box wx ga 3 (madeCells #[.int .i64 0] room) ∧ Box wx gb 4 (madeCells #[.bool false] room) ∧ Box wx gf 3 (madeCells #[.int .i64 0] room) ∧ (ga ≠ gf ∧ w.heap.size < p ∧ w.heap.size < ga ∧ w.heap.size < gb ∧ w.heap.size < gf) ∧
    Box wx w.heap.size 25 #[.slice none 0 0, .slice none 0 0, .slice none 0 0] ∧ Below w.heap.size w wx

theorem newMid_mk {room p ga gb gf : Nat} {w wx : World} (h1 : Box wx p 25 #[.slice (some ⟨ga, 0, none⟩) room room, .slice (some ⟨gb, 0, none⟩) room room, .slice (some ⟨gf, 0, none⟩) room room])
    (h2 : Box wx ga 3 (madeCells #[.int .i64 0] room)) (h3 : Box wx gb 4 (madeCells #[.bool false] room)) (h4 : Box wx gf 3 (madeCells #[.int .i64 0] room)) (h5 : ga ≠ gf ∧ w.heap.size < p ∧ w.heap.size < ga ∧ w.heap.size < gb ∧ w.heap.size < gf)
    (h6 : Box wx w.heap.size 25 #[.slice none 0 0, .slice none 0 0, .slice none 0 0]) (h7 : Below w.heap.size w wx) : NewMid room w (.pointer (some ⟨p, 0, none⟩)) wx.drew :=
  ⟨p, ga, gb, gf, rfl, h1, h2, h3, h4, h5, h6, h7.drew⟩

/-- what stands between two rounds -/
structure NewRel (room k : Nat) (w : World) (p ga gb gf : Nat) (wr : World) : Prop where
  b : Box wr p 25 #[.slice (some ⟨ga, 0, none⟩) room room, .slice (some ⟨gb, 0, none⟩) room room, .slice (some ⟨gf, 0, none⟩) room room]
  r : RowT wr w.heap.size ⟨List.replicate room 0, List.replicate room false, fl k room⟩ (some ⟨ga, 0, none⟩) room room (some ⟨gb, 0, none⟩) room room (some ⟨gf, 0, none⟩) room room
  z : Box wr w.heap.size 25 #[.slice none 0 0, .slice none 0 0, .slice none 0 0]
  l : Below w.heap.size w wr
  p : w.heap.size < p

theorem newMid_rel {room : Nat} {w wx : World} {c3 : Value} (h2 : room ≤ 64) (h : NewMid room w c3 wx) : ∃ p ga gb gf, c3 = .pointer (some ⟨p, 0, none⟩) ∧ NewRel room 0 w p ga gb gf wx := by
  obtain ⟨p, ga, gb, gf, rfl, b1, b2, b3, b4, ⟨hd, hp, hga, hgb, hgf⟩, b0, hbl⟩ := h
  refine ⟨p, ga, gb, gf, rfl, b1, ⟨?_, ?_, ?_, fun q q' hq hq' => by cases hq; cases hq'; exact hd⟩, b0, hbl, hp⟩
  · exact ⟨by simp, .inr ⟨ga, 0, _, rfl, by omega, b2, Nat.le_refl _, .inr (by simp [madeCells]), by unfold maxLen; omega, by rw [toList_madeCells_one]; simp⟩⟩
  · exact ⟨by simp, .inr ⟨gb, 0, _, rfl, by omega, b3, Nat.le_refl _, .inr (by simp [madeCells]), by unfold maxLen; omega, by rw [toList_madeCells_one]; simp⟩⟩
  · exact ⟨by simp [fl], .inr ⟨gf, 0, _, rfl, by omega, b4, Nat.le_refl _, .inr (by simp [madeCells]), by unfold maxLen; omega, by rw [toList_madeCells_one]; simp [fl]⟩⟩

theorem NewRel.step {room k p ga gb gf : Nat} {w wr : World} (h : NewRel room k w p ga gb gf wr) (hk : k < room) : NewRel room (k + 1) w p ga gb gf (wr.setCell ⟨gf, k, none⟩ (.int .i64 (k : Int))) := by
  have hne1 : p ≠ gf := fun e => h.r.f.ne h.b (by decide) _ rfl e.symm
  have hne2 : w.heap.size ≠ gf := fun e => h.r.f.ne h.z (by decide) _ rfl e.symm
  refine ⟨h.b.far hne1 _, ⟨?_, ?_, ?_, h.r.d⟩, h.z.far hne2 _, h.l.setCell (p := ⟨gf, k, none⟩) (h.r.f.blk _ rfl).1 _, h.p⟩
  · exact h.r.g.far (p := ⟨gf, k, none⟩) (fun q hq => h.r.d _ ⟨gf, 0, none⟩ hq rfl) _
  · exact h.r.b.far (p := ⟨gf, k, none⟩) (fun q hq => h.r.b.ne2 h.r.f (by decide) _ ⟨gf, 0, none⟩ hq rfl) _
  · have := h.r.f.set hk (.int .i64 (k : Int))
    rw [← List.map_set, fl_set hk, Nat.zero_add] at this
    exact this

theorem b5 (w : World) (z a b c d : Obj) : Below w.heap.size w (((((w.alloc z).alloc a).alloc b).alloc c).alloc d) := ((ba3 w z a b).alloc (by simp; omega) c).alloc (by simp; omega) d
theorem bz (w : World) (t : TypeId) (cs : Array Value) (a b c d : Obj) : Box (((((w.alloc (.cells cs t)).alloc a).alloc b).alloc c).alloc d) w.heap.size t cs := ((((Box.new w t cs).alloc a).alloc b).alloc c).alloc d

set_option maxHeartbeats 4000000 in
theorem new_yes (room : Nat) (w : World) (h1 : 1 ≤ room) (h2 : room ≤ 64) :
    Calls Try.prog 10 #[.int .i64 (room : Int)] w (NewEnds (newT room) w) := by
  have hmk := fun W => run_make_row' (P := Try.prog) 22 3 (.int .i64 0) 8 Try.underlying22 info3 rfl .i64 .i64 room (by omega) (by omega) W
  have hmk2 := fun W => run_make_row' (P := Try.prog) 23 4 (.bool false) 1 Try.underlying23 info4 rfl .i64 .i64 room (by omega) (by omega) W
  go_enter Try.func10, Try.ntmps10
  go_wp2_with fail
  go_cut [3] (NewMid room w)
  case first =>
    go_region
    all_goals (go_wp2_with fail; go_meet)
    all_goals
      first
      | refine newMid_mk (bx4 (by simp) _ _ _ _ _) ?h2 ?h3 ?h4 ?h5 (bz _ _ _ _ _ _ _) (b5 _ _ _ _ _ _)
      | refine newMid_mk (bx3 (by simp) _ _ _ _ _) ?h2 ?h3 ?h4 ?h5 (bz _ _ _ _ _ _ _) (b5 _ _ _ _ _ _)
      | refine newMid_mk (bx2 (by simp) _ _ _ _ _) ?h2 ?h3 ?h4 ?h5 (bz _ _ _ _ _ _ _) (b5 _ _ _ _ _ _)
      | refine newMid_mk (bx1 (by simp) _ _ _ _ _) ?h2 ?h3 ?h4 ?h5 (bz _ _ _ _ _ _ _) (b5 _ _ _ _ _ _)
      case h2 => first | (refine bx4 ?_ _ _ _ _ _; simp; done) | (refine bx3 ?_ _ _ _ _ _; simp; done) | (refine bx2 ?_ _ _ _ _ _; simp; done) | (refine bx1 ?_ _ _ _ _ _; simp; done)
      case h3 => first | (refine bx4 ?_ _ _ _ _ _; simp; done) | (refine bx3 ?_ _ _ _ _ _; simp; done) | (refine bx2 ?_ _ _ _ _ _; simp; done) | (refine bx1 ?_ _ _ _ _ _; simp; done)
      case h4 => first | (refine bx4 ?_ _ _ _ _ _; simp; done) | (refine bx3 ?_ _ _ _ _ _; simp; done) | (refine bx2 ?_ _ _ _ _ _; simp; done) | (refine bx1 ?_ _ _ _ _ _; simp; done)
      case h5 => omega
  case rest =>
    obtain ⟨p, ga, gb, gf, rfl, hrel0⟩ := newMid_rel h2 hcut
    clear hcut
    go_wp2_with fail
    go_loopw [20] (fun i wr => ∃ k : Nat, k ≤ room ∧ i = .int .i64 k ∧ NewRel room k w p ga gb gf wr)
      (fun i _ => room - (intOf i).toNat)
    case atStart => exact ⟨0, Nat.zero_le _, rfl, hrel0⟩
    case round =>
      obtain ⟨k, hk, rfl, hr⟩ := hrel
      obtain ⟨⟨c0, c1, c2⟩, _⟩ := hr.b.three
      by_cases hlt : k < room
      · obtain ⟨g', o', he, _, _, hcell⟩ := hr.r.f.at (by omega)
        simp only [Option.some.injEq, Addr.mk.injEq, and_true] at he
        obtain ⟨rfl, rfl⟩ := he
        obtain ⟨h3, h4⟩ := hcell k hlt
        rw [Nat.zero_add] at h3 h4
        have h5 : wr.cell? ⟨gf, k, none⟩ = some (.int .i64 (gd (fl k room) k)) := by
          rw [h3]
          have hl : k < (fl k room).length := by simp [fl]; omega
          simp [gd, List.getElem?_eq_getElem hl]
        have HR := Lib.hid hr
        have HS := Lib.hid (hr.step hlt)
        clear hr hcell h3
        go_wp2
        go_roundw
        case rel => exact ⟨k + 1, by omega, by go_num, HS.out⟩
        case measure => simp [intOf]; omega
      · have : k = room := by omega
        subst this
        obtain ⟨⟨d0, d1, d2⟩, e0, e1, e2⟩ := hr.z.three
        have hp := hr.p
        have hpn : p ≠ w.heap.size := by omega
        have hpn' : w.heap.size ≠ p := by omega
        have HR := Lib.hid hr
        clear hr
        go_wp2
        refine bodyPost_ret (v := tv (some ⟨ga, 0, none⟩) k k (some ⟨gb, 0, none⟩) k k (some ⟨gf, 0, none⟩) k k) (by simp [results, Try.results10, go_sem, d0, d1, d2]) rfl ?_
        refine ⟨_, _, _, _, _, _, _, _, _, rfl, ?_, below_set3 HR.out.l (Nat.le_refl _) _ _ _⟩
        have hT : newT (k : Int) = ⟨List.replicate k 0, List.replicate k false, fl k k⟩ := by
          rw [newT, if_pos (by omega), fl_all]
          simp
        rw [hT]
        exact HR.out.r.far3 HR.out.z (by decide) (by decide) _ _ _

theorem new_any (room : Int) (w : World) : Calls Try.prog 10 #[.int .i64 room] w (NewEnds (newT room) w) := by
  by_cases h : 1 ≤ room ∧ room ≤ 64
  · obtain ⟨r, rfl⟩ := Int.eq_ofNat_of_zero_le (show 0 ≤ room by omega)
    exact new_yes r w (by omega) (by omega)
  · exact new_no room w h

end Go.Proofs.Ytkglgbbekmljcaa
