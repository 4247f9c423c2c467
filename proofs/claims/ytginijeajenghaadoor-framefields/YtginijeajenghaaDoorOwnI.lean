/-
  The walk of field's own Items: a loop over the iterator that goes over the parts.
-/
import Derived.Test.YtginijeajenghaaDoorOwnG
import Derived.RangeFuncNested
import Derived.RangeFuncBound
import Derived.RangeFuncCalls
import Derived.RangeFuncLeaves
import Derived.Shelf.Abstract
import Derived.Shelf.RegionOpen
import Derived.OwnWalkIn
import Derived.TacticsInMore
import Derived.LoopNIn
import Derived.LoopIn
import Derived.Maps.AppendAt
namespace Go.Proofs.YtginijeajenghaaDoor
open Go.RowKit Go.Shelf

attribute [local go_sem] Oper.semAt_some

/-- a text that is not long -/
abbrev Pt := { x : ByteArray // x.size ≤ 4096 }
def pdl (x : Pt) : Bs := dl x.1
theorem grown_of {W W' : World} (hb : Below W.heap.size W W') : W.grownBy W' none := ⟨hb.1, hb.2, hb.3, hb.4, fun k hk _ => hb.5 k hk⟩
theorem box_own {β : Type} (g : Nat) (t : TypeId) (cs : β → Array Value) : Own (fun s W => Box W g t (cs s)) := by
  intro s W W' row h hg hr
  refine (hg.block g h.lt (fun e => ?_)).trans h
  obtain ⟨o, ho, hc⟩ := hr g e.symm
  rw [show W.heap[g]? = _ from h] at ho
  cases ho
  cases hc

/-- how much the iterator has still to go over -/
def mOf : Value → Value → Nat
  | .bool true, .string t => t.size + 1
  | _, _ => 0
theorem split_ne (l : Bs) : 1 ≤ (splitA [] l).length := by
  obtain ⟨p, ps, h, _⟩ := splitA_acc [] l
  rw [h]
  simp

set_option maxRecDepth 100000 in
set_option maxHeartbeats 2000000 in
theorem parts_stops (N lo : Nat) (s : ByteArray) (w : World) (h1N : 1 ≤ N) (hs : s.size ≤ 4096) (b0 : Box w lo 9 #[.string s]) :
    SeqStopsK Fence.wide N Tryd.prog 53 #[.pointer (some ⟨lo, 0, none⟩)] (fun x : Pt => #[Value.string x.1]) (fun _ _ => True) (fun xs => xs.map pdl = splitA [] (dl s)) (fun _ => True) (s.size + 1) w := fun l J Jx W hW hJ _ hY h0 => by
  have p0 := (b0.up hW).c 0 (v := .string s) rfl
  clear b0
  refine callsIn_of_wp Tryd.func53 rfl trivial ?_ rfl
  simp only [Tryd.ntmps53, List.size_toArray, List.length_cons, List.length_nil, Nat.reduceAdd, Nat.reduceSub, Array.replicate_succ, Array.replicate_zero, List.push_toArray, List.append_toArray, List.nil_append, List.cons_append]
  gi_wp2_with fail
  gi_loopw [3, 4] (fun r m wr => ∃ (pre : List Pt) (t : ByteArray) (b : Bool), r = .string t ∧ m = .bool b ∧ t.size ≤ s.size ∧ Hid (splitA [] (dl s) = pre.map pdl ++ (if b = true then splitA [] (dl t) else [])) ∧ Hid (J pre wr)) (fun r m _ => mOf m r)
  case atStart => exact ⟨[], s, true, rfl, rfl, Nat.le_refl _, Lib.hid (by simp), Lib.hid h0⟩
  case round =>
    obtain ⟨pre, t, b, rfl, rfl, hts, HS, HJ⟩ := hrel
    cases b with
    | false =>
      gi_wp2
      go_end0
      exact ⟨⟨_, rfl⟩, .inl ⟨pre, by rw [HS.out]; simp, HJ.out⟩⟩
    | true =>
      have HC := Lib.hid (fun W => cut_any 44 t (Nat.le_trans hts hs) W)
      gi_wp2_with fail
      refine ⟨trivial, ?_⟩
      refine (callsIn_wide.2 (HC.out _)).mono ?_
      rintro e w1 ⟨a, r, rfl, ha, hr, hb1⟩
      have has : a.size ≤ 4096 := by
        have h2 := (cut_len 44 (dl t)).1
        rw [← ha, dl_len, dl_len] at h2
        omega
      have hlen : pre.length < s.size + 1 := by
        have h1 := congrArg List.length HS.out
        rw [if_pos trivial, List.length_append, List.length_map] at h1
        have h2 := split_ne (dl t)
        have h3 := split_len [] (dl s)
        rw [dl_len] at h3
        omega
      have HJ1 := Lib.hid (hJ pre wr w1 none HJ.out (grown_of hb1) (fun r e => by cases e))
      clear HJ hb1
      have hrs : (dl t).contains 44 = true → r.size < t.size := fun h => by
        have := aft_len 44 (dl t) h
        rw [← hr, dl_len, dl_len] at this
        exact this
      have hrs2 : r.size ≤ s.size := by
        have h2 := (cut_len 44 (dl t)).2
        rw [← hr, dl_len, dl_len] at h2
        omega
      have HN : Hid (splitA [] (dl s) = (pre ++ [(⟨a, has⟩ : Pt)]).map pdl ++ (if (dl t).contains 44 = true then splitA [] (dl r) else [])) := Lib.hid (by
        rw [HS.out, if_pos trivial, split_cut, hr]
        by_cases hc : (dl t).contains 44 = true
        · rw [if_pos hc, if_pos hc, List.map_append, List.append_assoc, ← ha]
          rfl
        · rw [if_neg hc, if_neg hc, List.map_append, List.append_nil]
          have h44 : ∀ j, j < (dl t).length → (dl t)[j]? ≠ some 44 := fun j _ he => hc (by rw [List.contains_iff_mem]; exact List.mem_of_getElem? he)
          have hbe := (cut_none h44).1
          have : pdl ⟨a, has⟩ = dl t := ha.trans hbe
          simp [this])
      obtain ⟨b, hb⟩ : ∃ b, (dl t).contains 44 = b := ⟨_, rfl⟩
      rw [hb] at HN hrs ⊢
      have HM : Hid (b = true → r.size < t.size) := Lib.hid hrs
      clear HS HC ha hr hb hrs
      obtain ⟨f1, t1, a1, d1, hy1, hR1⟩ := hY pre ⟨a, has⟩ w1 HJ1.out hlen
      dsimp only at hy1
      gi_wp2
      refine hR1.mono ?_
      rintro e W3 (⟨rfl, hJ3, _⟩ | ⟨rfl, hJx3⟩)
      · have HJ3 := Lib.hid hJ3
        clear hJ3
        gi_wp2
        go_roundw
        case rel => exact ⟨pre ++ [⟨a, has⟩], r, b, rfl, rfl, hrs2, HN, HJ3⟩
        case measure =>
          cases b with
          | true => have := HM.out rfl; simp [mOf]; omega
          | false => simp [mOf]
      · gi_wp2
        refine bodyPost_ret (results_none rfl _ _ _) rfl ?_
        exact ⟨⟨_, rfl⟩, .inr ⟨_, trivial, hJx3⟩⟩

theorem parts_any (s : ByteArray) (w : World) : Calls Tryd.prog 40 #[.string s] w fun e w' => e = .returned (.func (.func 53) #[] #[.pointer (some ⟨w.heap.size, 0, none⟩)]) ∧ w' = w.alloc (.cells #[.string s] 9) := by
  go_enter Tryd.func40, Tryd.ntmps40
  go_wp2
  go_ret
  exact ⟨rfl, rfl⟩

/-- what holds between two rounds of the loop in Items -/
def ItI (w : World) (pre : List Pt) (W : World) : Prop :=
  ∃ (O : Sli) (xs : List ByteArray), Box W w.heap.size 27 #[.slice O.A O.n O.c] ∧ Out 9 1 w W O (svs xs) ∧ xs.map dl = itemsP (pre.map pdl) ∧ O.n ≤ pre.length

theorem itI_own (w : World) (B : Nat) (hB : w.heap.size ≤ B) : OwnFrom B (ItI w) := by
  rintro pre W W' row ⟨O, xs, hb, ho, hx, hn⟩ hg hr
  have hne : ∀ (j : Nat) (cs : Array Value) (t : TypeId) (fz : Nat × Nat), W.heap[j]? = some (.cells cs t fz) → W'.heap[j]? = W.heap[j]? := fun j cs t fz hj => by
    refine hg.block j (Array.getElem?_eq_some_iff.1 hj).1 (fun e => ?_)
    obtain ⟨_, o, ho, hc⟩ := hr j e.symm
    rw [hj] at ho
    cases ho
    cases hc
  refine ⟨O, xs, (hne _ _ _ _ hb).trans hb, ⟨ho.row.keep fun g cur hcur => hne _ _ _ _ hcur, ?_⟩, hx, hn⟩
  exact ownFrom_below (β := Unit) (Nat.le_refl _) hB () W W' row ho.hb hg hr

theorem keeps_row {W W' : World} {B n sz : Nat} {e : TypeId} {v : Value} {xs : List Value} (h : W.ownsRow B e sz v n xs) (hg : W.grownBy W' v.ownBlock) : KeepsOthers W W' :=
  KeepsOthers.of_grownBy hg (fun j o he hj => by
    rcases h.2 with ⟨rfl, _⟩ | ⟨g, cap, cur, rfl, hb, hgc, _⟩
    · cases he
    · have : g = j := Option.some.inj he
      subst this
      rw [hj] at hgc
      cases hgc
      rfl)

set_option maxRecDepth 100000 in
set_option maxHeartbeats 4000000 in
theorem items_any (s : ByteArray) (hs : s.size ≤ 4096) (w : World) : Calls Tryd.prog 25 #[.string s] w (StrsEnds (itemsL (dl s)) w) := by
  obtain ⟨i9, hi, hz0, hz1, hz2⟩ := info_parts info9
  refine (callsIn_wide (n := 6)).1 ?_
  refine callsIn_of_wp_marks Tryd.func25 rfl trivial ?_ rfl
  simp only [Tryd.ntmps25, List.size_toArray, List.length_cons, List.length_nil, Nat.reduceAdd, Nat.reduceSub, Array.replicate_succ, Array.replicate_zero, List.push_toArray, List.append_toArray, List.nil_append, List.cons_append]
  gi_wp2_with fail
  refine ⟨trivial, ?_⟩
  refine (callsIn_wide.2 (parts_any _ _)).mono ?_
  rintro e w' ⟨rfl, rfl⟩
  gi_wp2
  have x1 : Box ((w.alloc (.cells #[.slice none 0 0] 27)).alloc (.cells #[.string s] 9)) w.heap.size 27 #[.slice none 0 0] := (Box.new _ _ _).alloc _
  have x2 : Box ((w.alloc (.cells #[.slice none 0 0] 27)).alloc (.cells #[.string s] 9)) (w.heap.size + 1) 9 #[.string s] := Box.mk' _ _ _ _ (by simp)
  have hB0 := ba2 w (.cells #[.slice none 0 0] 27) (.cells #[.string s] 9)
  have hs0 : ((w.alloc (.cells #[.slice none 0 0] 27)).alloc (.cells #[.string s] 9)).heap.size = w.heap.size + 2 := by simp
  generalize (w.alloc (.cells #[.slice none 0 0] 27)).alloc (.cells #[.string s] 9) = W0 at *
  refine wpIn_rangeFunc_ownF (α := Pt) rfl (by decide) (gf := 53) (lb := #[.pointer (some ⟨w.heap.size + 1, 0, none⟩)]) rfl trivial (enters_of Tryd.func53 (by kernel_rfl) rfl)
    (parts_stops 5 (w.heap.size + 1) s W0 (by decide) hs x2) (fun _ _ => trivial) (fun _ _ _ _ _ _ _ _ => trivial) (Below.refl _ _) (fun _ => rfl)
    (ItI w) (fun _ _ _ => False) (itI_own w _ (by omega))
    (fun _ _ _ _ _ hs _ _ => hs)
    ⟨⟨none, 0, 0⟩, [], x1, Out.nil _ _ _ _ hB0, rfl, Nat.le_refl _⟩
    (fun x => { tmps := #[.string s, undef, .slice none 0 0, .pointer (some ⟨w.heap.size, 0, none⟩), .string x.1, undef, .string s, .func (.func 53) #[] #[.pointer (some ⟨w.heap.size + 1, 0, none⟩)], .string x.1, undef, undef, undef, undef, undef, undef, undef, undef, undef, undef], defers := [] }) ?assign ?body ?done ?stop
  case assign =>
    intro l x W K hK
    gi_wp2
    exact hK
  case body =>
    rintro l pre ⟨x, hx⟩ W ⟨O, xs, hbx, ho, hxs, hn⟩ hpre
    have HT := Lib.hid (fun W => trim_any x hx W)
    have HX := Lib.hid hxs
    have HB := Lib.hid hbx
    have HO := Lib.hid ho
    clear hxs hbx ho x1 x2 hB0
    gi_wp2_with fail
    refine ⟨trivial, ?_⟩
    refine (CallsIn.inRound l (callsIn_wide.2 (HT.out _))).mono ?_
    rintro e w1 ⟨t, rfl, ht, hb1⟩
    have hts : t.size ≤ 4096 := by
      have h2 := trim_len (dl x)
      rw [← ht, dl_len, dl_len] at h2
      omega
    have HL := Lib.hid (fun W => lower_any t hts W)
    gi_wp2_with fail
    refine ⟨trivial, ?_⟩
    refine (CallsIn.inRound l (callsIn_wide.2 (HL.out _))).mono ?_
    rintro e w2 ⟨y, rfl, hy, hb2⟩
    have HI : Hid (itemsP ((pre ++ [(⟨x, hx⟩ : Pt)]).map pdl) = itemsP (pre.map pdl) ++ (if dl y = [] then [] else [dl y])) := Lib.hid (by
      rw [List.map_append, itemsP_app]
      congr 1
      show itemsP [dl x] = _
      rw [itemsP_one, hy, ht])
    have HB2 := Lib.hid (HB.out.up (bon hb1 hb2))
    have HO2 := Lib.hid (HO.out.up (bon hb1 hb2))
    have HG := Lib.hid (KeepsOthers.of_grownBy (grown_of (bon hb1 hb2)) (fun _ _ e _ => by cases e))
    clear HT HL ht hy HB HO hb1 hb2
    have hemp := isEmp (s := y)
    by_cases h0 : y.size = 0
    · rw [decide_eq_true h0] at hemp
      gi_wp2
      exact ⟨HG.out, trivial, O, xs, HB2.out, HO2.out, by rw [HI.out, if_pos (dl_nil h0), List.append_nil]; exact HX.out, by simp; omega⟩
    · rw [decide_eq_false h0] at hemp
      obtain ⟨hc, hf⟩ := HB2.out.one
      have HO3 := Lib.hid (HO2.out.up (ba1 w2 (.cells #[.string y] 9)))
      have HB3 := Lib.hid (HB2.out.alloc (.cells #[.string y] 9))
      have hBw : w.heap.size ≤ (w2.alloc (.cells #[.string y] 9)).heap.size := HO3.out.le
      have hOn : O.n ≤ 4096 := by omega
      gi_wp2_with (gi_at_builtin; refine wpListIn_append_own _ rfl _ _ 27 rfl w.heap.size 9 i9 _ 1 16 Tryd.underlying27 hi hz0 hz1 hz2 rfl (by decide) (.slice O.A O.n O.c) O.n (svs xs) rfl HO3.out.row ⟨w2.heap.size, 0, none⟩ 1 1 [.string y] rfl rfl (cell_one_new _ _ _) (svs_one [y]) ?_ ?_ hBw ?_; (unfold maxLen; omega); omega; intro v' w3 h1 h2 h3; refine Hid.out ?_)
      obtain ⟨A', c', rfl⟩ := ownsRow_slice h1
      have HO4 := Lib.hid (HO3.out.app (cs' := svs (xs ++ [y])) (by rw [svs, List.map_append]; exact h1) h2)
      have HB4 : Hid (Box w3 w.heap.size 27 #[.slice O.A O.n O.c]) := Lib.hid ((grown_other HO3.out.row h2 HB3.out (by decide)).trans HB3.out)
      have HK4 := Lib.hid (((HG.out).trans (KeepsOthers.alloc w2 (.cells #[.string y] 9))).trans (keeps_row HO3.out.row h2))
      clear h1 h2 h3 HO3 HB3 HG HB2 HO2 hc hf
      obtain ⟨hc, hf⟩ := HB4.out.one
      refine Lib.hid ?_
      gi_wp2
      refine ⟨HK4.out.trans (KeepsOthers.setCell _ _ _), trivial, ⟨A', O.n + 1, c'⟩, xs ++ [y], ?_, ?_, ?_, by simp; omega⟩
      · have := HB4.out.set 0 (.slice A' (O.n + 1) c')
        simpa using this
      · exact ⟨HO4.out.row.keep fun g cur hg => Below.heap_setCell _ _ _ _ (box_ne HB4.out hg (by decide)), HO4.out.hb.setCell (p := ⟨w.heap.size, 0, none⟩) (Nat.le_refl _) _⟩
      · rw [HI.out, if_neg (fun h => h0 (by rw [← dl_len, h]; rfl)), List.map_append, HX.out]
        rfl
  case done =>
    rintro D ys W hD hS ⟨O, xs, hbx, ho, hxs, hn⟩ hK
    obtain ⟨p0, _⟩ := hbx.one
    have HX : Hid (xs.map dl = itemsL (dl s)) := Lib.hid (by rw [hxs, hS]; rfl)
    clear hxs hS
    gi_wp2
    refine ⟨by simp, .inl ⟨_, _, rfl, run_takeDeferred hK, ?_⟩⟩
    have hbel : Below w.heap.size w (W.putObj D (.deferred none)) := ho.hb.trans (belowK_b (w := w) (Nat.le_refl _) W D _ _ (by omega) hK rfl rfl)
    exact ⟨_, results_tmp rfl _ _ _, O, xs, rfl, HX.out, Row.ss (B := w.heap.size) (ownsRow_putObj ho.row _ hK rfl), hbel⟩
  case stop =>
    rintro D cc pre W _ _ h _
    exact h.elim

end Go.Proofs.YtginijeajenghaaDoor
