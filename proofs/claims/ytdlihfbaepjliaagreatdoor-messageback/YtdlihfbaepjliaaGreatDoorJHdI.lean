/-
  The walk of head's own Parse.
-/
import Derived.Test.YtdlihfbaepjliaaGreatDoorJHdC
import Derived.Test.YtdlihfbaepjliaaGreatDoorJHdU
import Derived.Test.YtdlihfbaepjliaaGreatDoorProg
import Derived.Lib.SlTrimSet
import Derived.WalkKit
import Derived.Lib.Split
import Derived.WalkSpells
import Derived.WalkLawsBesides
import Derived.WalkSmall
import Derived.Lib.Hide
import Derived.IntWalk
import Derived.BigQuiet
import Derived.Laws.OwnMore
import Derived.Deep.AppendLies
import Derived.Deep.RegionLaw
import Derived.Deep.Upon
import Derived.Deep.DeepCutAuto
import Derived.Lib.IndexLaws
import Derived.Shelf.LaysM
import Derived.Shelf.Small.Strs
import Derived.Shelf.Small.Wraps
import Derived.Shelf.Strings.Search1
import Derived.Shelf.Strings.Search2
import Derived.Shelf.Strings.SlTrimAscii
import Derived.Shelf.Strings.Split
import Derived.Shelf.Strings.Prefix
import Derived.Shelf.Strconv.Itoa4
import Derived.Lib.SmallJoins
import Derived.Lib.LaidTab
import Derived.Lib.AppendIntMem
import Derived.Lib.IndexAny
import Derived.RangeFuncNested
import Derived.RangeFuncBound
import Derived.RangeFuncCalls
import Derived.RangeFuncLeaves
import Derived.Shelf.Abstract
import Derived.Shelf.RegionOpen
import Derived.OwnWalkIn
import Derived.TacticsInMore
import Derived.LoopNIn
import Derived.LoopIn
import Derived.Maps.AppendAt
namespace Go.Proofs.YtdlihfbaepjliaaGreatDoor
open Go.RowKit

/-- a head and an error are handed back -/
def HeadEnds (q : Hd × Int) (w : World) (e : Ending) (w' : World) : Prop :=
  ∃ (m t : ByteArray) (st : Int) (r : ByteArray) (mi : Int) (S : Sli) (fs : List Fd), e = .returned (.tuple #[.agg #[.string m, .string t, .int .i64 st, .string r, .int .i64 mi, .slice S.A S.n S.c], .int .i64 q.2]) ∧ hdOf m t st r mi fs = q.1 ∧ Fs w' S fs ∧ Fresh w S ∧ Below w.heap.size w w'
theorem parse_long {l : Bs} (h : 2000 < l.length) (a : Bool) : parseH l a = (Hd.zero, 2) := if_pos h
theorem parse_of {l x : Bs} {xs : List Bs} (h : ¬ 2000 < l.length) (hl : linesL l = x :: xs) (a : Bool) : parseH l a = parseL x xs a := by
  rw [parseH, if_neg h, hl]
  rfl
theorem lines_few {l : Bs} {xs : List ByteArray} (h : xs.map dl = linesL l) (hl : l.length ≤ 2000) : FewS xs ∧ xs.length ≤ 2001 := by
  have ht := lines_total [] l
  have hsum : ∀ ls : List Bs, (∀ x ∈ ls, x.length ≤ total ls) ∧ ls.length ≤ total ls := by
    intro ls
    induction ls with
    | nil => exact ⟨(fun x hx => by cases hx), Nat.zero_le _⟩
    | cons y r ih =>
      have e : total (y :: r) = y.length + 2 + total r := by simp [total]
      refine ⟨fun x hx => ?_, by simp only [List.length_cons]; omega⟩
      rcases List.mem_cons.1 hx with rfl | hx
      · omega
      · have := ih.1 x hx; omega
  have h2 : ∀ ls : List Bs, 2 * ls.length ≤ total ls := by
    intro ls
    induction ls with
    | nil => exact Nat.zero_le _
    | cons y r ih =>
      have e : total (y :: r) = y.length + 2 + total r := by simp [total]
      simp only [List.length_cons]
      omega
  have e0 : ([] : Bs).length = 0 := rfl
  obtain ⟨a1, a2⟩ := hsum (linesL l)
  have a3 := h2 (linesL l)
  unfold linesL at a1 a2 a3 h
  refine ⟨fun x hx => ?_, ?_⟩
  · have := a1 (dl x) (by rw [← h]; exact List.mem_map.2 ⟨x, hx, rfl⟩)
    rw [dl_len] at this
    omega
  · have hlen : xs.length = (linesA [] l).length := by rw [← h, List.length_map]
    omega
theorem Fl.up {w w' : World} {g : Nat} {v u : Value} (h : Fl w g v u) (hb : Below w.heap.size w w') : Fl w' g v u := (hb.block g (Array.getElem?_eq_some_iff.1 h).1).trans h
theorem first_hd {m t : ByteArray} {st : Int} {r : ByteArray} {mi : Int} {q : Hd} (h : hdOf m t st r mi [] = q) (fs : List Fd) (gs : List (Bs × Bs)) (hg : dls fs = gs) : hdOf m t st r mi fs = { q with fs := gs } := by
  rw [← h, ← hg]
  rfl
set_option maxRecDepth 100000 in
set_option maxHeartbeats 2000000 in
theorem hparse_any (s : ByteArray) (a : Bool) (w : World) (hs : s.size ≤ 4611686018427387904) (hM : Mx w) : Calls Tryz.prog 107 #[.string s, .bool a] w (HeadEnds (parseH (dl s) a) w) := by
  by_cases hl : 2000 < s.size
  case pos =>
    have HE := Lib.hid (parse_long (l := dl s) (by rw [dl_len]; exact hl) a)
    go_enter Tryz.func107, Tryz.ntmps107
    go_wp2
    refine bodyPost_ret (v := .tuple #[.agg #[.string ⟨#[]⟩, .string ⟨#[]⟩, .int .i64 0, .string ⟨#[]⟩, .int .i64 0, .slice none 0 0], .int .i64 2]) (by simp [results, Tryz.results107, go_sem]) rfl ?_
    exact ⟨_, _, _, _, _, ⟨none, 0, 0⟩, [], by rw [HE.out], by rw [HE.out]; rfl, fs_nil _, fresh_nil _, ba1 _ _⟩
  have hlI : ¬ (2000 : Int) < (s.size : Int) := by omega
  go_enter Tryz.func107, Tryz.ntmps107
  go_wp2_with fail
  have hg0 := Box.new w 29 #[.string ⟨#[]⟩, .string ⟨#[]⟩, .int .i64 0, .string ⟨#[]⟩, .int .i64 0, .slice none 0 0]
  have hb0 := ba1 w (.cells #[.string ⟨#[]⟩, .string ⟨#[]⟩, .int .i64 0, .string ⟨#[]⟩, .int .i64 0, .slice none 0 0] 29)
  obtain ⟨g, hg⟩ : ∃ g, w.heap.size = g := ⟨_, rfl⟩
  rw [hg] at hg0 ⊢
  have HG := Lib.hid hg
  clear hg
  generalize w.alloc (.cells #[.string ⟨#[]⟩, .string ⟨#[]⟩, .int .i64 0, .string ⟨#[]⟩, .int .i64 0, .slice none 0 0] 29) = W0 at *
  refine (lines_any s (by omega) _ (hM.up hb0)).mono ?_
  rintro e w1 ⟨S, xs, rfl, hxs, hS, hb1⟩
  obtain ⟨hfew, hln⟩ := lines_few hxs (by rw [dl_len]; omega)
  have bg1 := hg0.up hb1
  have hw1 := bon hb0 hb1
  clear hg0 hb0 hb1
  cases xs with
  | nil => exact absurd hxs.symm (lines_ne [] (dl s))
  | cons x ys =>
  have HE0 := Lib.hid (parse_of (l := dl s) (by rw [dl_len]; exact hl) hxs.symm a)
  clear hxs
  obtain ⟨T, hT, hTs, hTn⟩ := ss_tail hS
  have hSn := hS.len
  simp only [List.length_cons] at hSn hln
  have hxz : x.size ≤ 4096 := hfew x (by simp)
  have hys : FewS ys := fun y hy => hfew y (by simp [hy])
  obtain ⟨SA, Sn, Sc⟩ := S
  obtain ⟨b0, o0, x', hA, hbl, hx', hc0⟩ := hS.cell (k := 0) (by simp only at hSn ⊢; omega)
  obtain rfl : x = x' := by simpa using hx'
  rw [Nat.add_zero] at hc0
  simp only at hA hSn hTn hT
  subst hA
  have HF0 : Hid (∀ W, Mx W → Calls Tryz.prog (if a = true then 142 else 141) #[.string x] W (FirstEnds (firstL (dl x) a) W)) := Lib.hid (fun W hW => by
    cases a with
    | false => exact request_any x hxz W hW
    | true => exact response_any x hxz W hW)
  have hTm : T.n ≤ 4096 := by omega
  have HPF : Hid (∀ W, Ss W T ys → Calls Tryz.prog 128 #[.slice T.A T.n T.c] W (PfEnds (pfL [] (ys.map dl)) W)) := Lib.hid (fun W hW => pf_any T.A T.n T.c ys W hW hTm hys)
  have HTs := Lib.hid hTs
  clear hfew hx' hS hys hTs
  have hSn1 : 0 < Sn := by omega
  have hSn2 : (0 : Int) < (Sn : Int) := by omega
  go_wp2_with fail
  refine (fl_any _).mono ?_
  rintro e w2 ⟨rfl, hfl, hb2⟩
  have bg2 := bg1.up hb2
  have hw2 := bon hw1 hb2
  have c2 := cell_up hb2 hc0
  have HTs2 := Lib.hid (HTs.out.up hb2)
  clear bg1 hw1 hc0 HTs
  have hlk := lk0 hfl a
  obtain ⟨q, hq⟩ : ∃ q, firstL (dl x) a = q := ⟨_, rfl⟩
  have HQ := Lib.hid hq
  rw [hq] at HF0
  clear hq
  have hMw := hM.up hw2
  have HC1 := Lib.hid (HF0.out w2 hMw)
  clear HF0 hfl hb2
  have HEL : Hid (parseH (dl s) a = if q.2 = 0 then (if (pfL [] (ys.map dl)).2 = 0 then ({ q.1 with fs := (pfL [] (ys.map dl)).1 }, 0) else (Hd.zero, (pfL [] (ys.map dl)).2)) else (Hd.zero, q.2)) := Lib.hid (by rw [HE0.out, parseL, HQ.out])
  clear HE0 HQ
  obtain ⟨q2, hq2⟩ : ∃ q, pfL [] (ys.map dl) = q := ⟨_, rfl⟩
  rw [hq2] at HEL HPF
  clear hq2
  obtain ⟨qh, qe⟩ := q
  obtain ⟨pf, pe⟩ := q2
  simp only at HEL
  cases a
  all_goals
    simp only [Bool.false_eq_true, if_false, if_true] at hlk HC1
    go_wp2_with fail
    refine HC1.out.mono ?_
    rintro e w3 ⟨m, t, st, r, mi, rfl, hhd, hb3⟩
    have bg := (bg2.up hb3).up (ba1 w3 (.cells #[.string m, .string t, .int .i64 st, .string r, .int .i64 mi, .slice none 0 0] 29))
    have hbw := bon (bon hw2 hb3) (ba1 w3 (.cells #[.string m, .string t, .int .i64 st, .string r, .int .i64 mi, .slice none 0 0] 29))
    have HHD := Lib.hid hhd
    simp only at HHD
    by_cases he0 : qe = 0
    case neg =>
      have HE : Hid (parseH (dl s) _ = (Hd.zero, qe)) := Lib.hid (by rw [HEL.out, if_neg he0])
      have e4 : (qe != 0) = true := bne_iff_ne.2 he0
      clear he0 hhd
      have HQ := Lib.hid (bg.set6 (.string ⟨#[]⟩) (.string ⟨#[]⟩) (.int .i64 0) (.string ⟨#[]⟩) (.int .i64 0) (.slice none 0 0)).six
      have HW := Lib.hid (below_set6 hbw (g := g) (by rw [HG.out]; exact Nat.le_refl _) (.string ⟨#[]⟩) (.string ⟨#[]⟩) (.int .i64 0) (.string ⟨#[]⟩) (.int .i64 0) (.slice none 0 0))
      obtain ⟨k0, k1, k2, k3, k4, k5⟩ := bg.six
      obtain ⟨f0, f1, f2, f3, f4, f5⟩ := bg.sixf
      go_wp2
      obtain ⟨q0, q1, q2, q3, q4, q5⟩ := HQ.out
      refine bodyPost_ret (v := .tuple #[.agg #[.string ⟨#[]⟩, .string ⟨#[]⟩, .int .i64 0, .string ⟨#[]⟩, .int .i64 0, .slice none 0 0], .int .i64 qe]) (by simp [results, Tryz.results107, go_sem, q0, q1, q2, q3, q4, q5]) rfl ?_
      exact ⟨_, _, _, _, _, ⟨none, 0, 0⟩, [], by rw [HE.out], by rw [HE.out]; rfl, fs_nil _, fresh_nil _, HW.out⟩
    subst he0
    rw [if_pos rfl] at HEL
    have HTs3 := Lib.hid (HTs2.out.up (bon hb3 (ba1 w3 (.cells #[.string m, .string t, .int .i64 st, .string r, .int .i64 mi, .slice none 0 0] 29))))
    have bh := Box.new w3 29 #[.string m, .string t, .int .i64 st, .string r, .int .i64 mi, .slice none 0 0]
    have hgh : g < w3.heap.size := (bg2.up hb3).lt
    have hwg : w.heap.size ≤ w3.heap.size := (bon hw2 hb3).size
    clear hhd c2 hb3 bg2
    go_wp2_with fail
    refine (HPF.out _ HTs3.out).mono ?_
    rintro e w4 ⟨F, fs, rfl, hfs, hF, hfr, hb4⟩
    have hnh : ∀ ad, F.A = some ad → w3.heap.size + 1 ≤ ad.block := fun ad h => by have := hfr ad h; simpa using this
    clear hfr
    have bg5 := bg.up hb4
    have hw5 := bon hbw hb4
    have bh5 := bh.up hb4
    clear bg hbw bh HTs3
    obtain ⟨gh, hghe⟩ : ∃ g, w3.heap.size = g := ⟨_, rfl⟩
    rw [hghe] at bh5 hgh hwg hnh ⊢
    clear hghe
    obtain ⟨j0, j1, j2, j3, j4, j5⟩ := bh5.six
    obtain ⟨l0, l1, l2, l3, l4, l5⟩ := bh5.sixf
    have bh6 := bh5.set5 (.slice F.A F.n F.c)
    have bg := bg5.far (p := ⟨gh, 5, none⟩) (by simp only; omega) (.slice F.A F.n F.c)
    have hbw : Below w.heap.size w (w4.setCell ⟨gh, 5, none⟩ (.slice F.A F.n F.c)) := hw5.setCell (p := ⟨gh, 5, none⟩) hwg _
    have hF6 : Fs (w4.setCell ⟨gh, 5, none⟩ (.slice F.A F.n F.c)) F fs := Fs.set hF (p := ⟨gh, 5, none⟩) (fun ad h => by have := hnh ad h; simp only; omega) _
    simp only at hfs
    by_cases hp0 : pe = 0
    case neg =>
      have HE : Hid (parseH (dl s) _ = (Hd.zero, pe)) := Lib.hid (by rw [HEL.out, if_neg hp0])
      have e4 : (pe != 0) = true := bne_iff_ne.2 hp0
      clear hp0 hF6 bh6
      have HQ := Lib.hid (bg.set6 (.string ⟨#[]⟩) (.string ⟨#[]⟩) (.int .i64 0) (.string ⟨#[]⟩) (.int .i64 0) (.slice none 0 0)).six
      have HW := Lib.hid (below_set6 hbw (g := g) (by rw [HG.out]; exact Nat.le_refl _) (.string ⟨#[]⟩) (.string ⟨#[]⟩) (.int .i64 0) (.string ⟨#[]⟩) (.int .i64 0) (.slice none 0 0))
      obtain ⟨k0, k1, k2, k3, k4, k5⟩ := bg.six
      obtain ⟨f0, f1, f2, f3, f4, f5⟩ := bg.sixf
      go_wp2
      obtain ⟨q0, q1, q2, q3, q4, q5⟩ := HQ.out
      refine bodyPost_ret (v := .tuple #[.agg #[.string ⟨#[]⟩, .string ⟨#[]⟩, .int .i64 0, .string ⟨#[]⟩, .int .i64 0, .slice none 0 0], .int .i64 pe]) (by simp [results, Tryz.results107, go_sem, q0, q1, q2, q3, q4, q5]) rfl ?_
      exact ⟨_, _, _, _, _, ⟨none, 0, 0⟩, [], by rw [HE.out], by rw [HE.out]; rfl, fs_nil _, fresh_nil _, HW.out⟩
    subst hp0
    have HE : Hid (parseH (dl s) _ = ({ qh with fs := pf }, 0)) := Lib.hid (by rw [HEL.out, if_pos rfl])
    have HH : Hid (hdOf m t st r mi fs = { qh with fs := pf }) := Lib.hid (first_hd (HHD.out trivial) fs pf hfs)
    have HFr : Hid (Fresh w F) := Lib.hid (fun ad h => by have := hnh ad h; omega)
    have HF6 := Lib.hid (fun u0 u1 u2 u3 u4 u5 => Fs.set6 hF6 (g := g) (fun ad h => by have := hnh ad h; omega) u0 u1 u2 u3 u4 u5)
    obtain ⟨i0, i1, i2, i3, i4, i5⟩ := bh6.six
    clear HHD hfs hF hF6 bg5 bh5 bh6
    have HQ := Lib.hid (bg.set6 (.string m) (.string t) (.int .i64 st) (.string r) (.int .i64 mi) (.slice F.A F.n F.c)).six
    have HW := Lib.hid (below_set6 hbw (g := g) (by rw [HG.out]; exact Nat.le_refl _) (.string m) (.string t) (.int .i64 st) (.string r) (.int .i64 mi) (.slice F.A F.n F.c))
    obtain ⟨k0, k1, k2, k3, k4, k5⟩ := bg.six
    obtain ⟨f0, f1, f2, f3, f4, f5⟩ := bg.sixf
    go_wp2
    obtain ⟨q0, q1, q2, q3, q4, q5⟩ := HQ.out
    refine bodyPost_ret (v := .tuple #[.agg #[.string m, .string t, .int .i64 st, .string r, .int .i64 mi, .slice F.A F.n F.c], .int .i64 0]) (by simp [results, Tryz.results107, go_sem, q0, q1, q2, q3, q4, q5]) rfl ?_
    exact ⟨_, _, _, _, _, F, fs, by rw [HE.out], by rw [HE.out]; exact HH.out, HF6.out _ _ _ _ _ _, HFr.out, HW.out⟩

end Go.Proofs.YtdlihfbaepjliaaGreatDoor

/-
  The walk of the document's own Parse.
-/
namespace Go.Proofs.YtdlihfbaepjliaaGreatDoor
open Go.RowKit

/-- between two rounds: the head's box, and the fields that it has -/
structure PL (W1 wr : World) (gh B : Nat) (m t : ByteArray) (st : Int) (r : ByteArray) (mi : Int) (O : Sli) (fs : List Fd) : Prop where
  low : Below W1.heap.size W1 wr
  hbox : Box wr gh 29 #[.string m, .string t, .int .i64 st, .string r, .int .i64 mi, .slice O.A O.n O.c]
  row : Row wr B 40 2 O (fvs fs)
  h1 : W1.heap.size ≤ gh
  h2 : gh < B
  h3 : B ≤ wr.heap.size
section
variable {W1 wr w' : World} {gh B : Nat} {m t r : ByteArray} {st mi : Int} {O : Sli} {fs : List Fd}
theorem PL.up (h : PL W1 wr gh B m t st r mi O fs) (hb : Below wr.heap.size wr w') : PL W1 w' gh B m t st r mi O fs :=
  ⟨bon h.low hb, h.hbox.up hb, h.row.up hb, h.h1, h.h2, Nat.le_trans h.h3 hb.size⟩
theorem PL.app (h : PL W1 wr gh B m t st r mi O fs) {A : Option Addr} {n c : Nat} {fs' : List Fd} (h1 : w'.ownsRow B 40 2 (.slice A n c) n (fvs fs')) (h2 : wr.grownBy w' (Value.slice O.A O.n O.c).ownBlock) :
    PL W1 (w'.setCell ⟨gh, 5, none⟩ (.slice A n c)) gh B m t st r mi ⟨A, n, c⟩ fs' ∧ w'.cell? ⟨gh, 5, none⟩ = some (.slice O.A O.n O.c) ∧ w'.frozen? ⟨gh, 5, none⟩ = false := by
  have hB : B ≤ w'.heap.size := Nat.le_trans h.h3 h2.size
  have hne : ∀ k, (Value.slice O.A O.n O.c).ownBlock = some k → B ≤ k := by
    intro k hk
    rcases h.row.2 with ⟨e1, _⟩ | ⟨g, cap, cur, e1, hb, _⟩
    · rw [e1] at hk
      cases hk
    · rw [e1] at hk
      have : g = k := Option.some.inj hk
      omega
  have hbx : Box w' gh 29 #[.string m, .string t, .int .i64 st, .string r, .int .i64 mi, .slice O.A O.n O.c] := by
    have := h2.block gh h.hbox.lt (fun e => by have := hne gh e.symm; have := h.h2; omega)
    unfold Box
    rw [this]
    exact h.hbox
  have hlow : Below W1.heap.size W1 w' := grown_base h.row h2 h.low (Nat.le_trans h.h1 (Nat.le_of_lt h.h2)) h.low.size
  refine ⟨⟨hlow.setCell (p := ⟨gh, 5, none⟩) h.h1 _, hbx.set5 _, ?_, h.h1, h.h2, by simpa using hB⟩, hbx.c 5 rfl, hbx.f 5⟩
  refine Row.keep (s := ⟨A, n, c⟩) h1 (fun g cur hg => ?_)
  have hgB : g ≠ gh := by
    intro e
    subst e
    have hx := hbx
    unfold Box at hx
    rw [hx] at hg
    simp only [Option.some.injEq, Obj.cells.injEq] at hg
    exact absurd hg.2.1 (by decide)
  exact Below.heap_setCell w' ⟨gh, 5, none⟩ _ g hgB
end

theorem Row.base {w : World} {B : Nat} {e : TypeId} {sz : Nat} {S : Sli} {cs : List Value} (h : Row w B e sz S cs) : ∀ ad, S.A = some ad → B ≤ ad.block := by
  intro ad hA
  rcases h.2 with ⟨h1, _⟩ | ⟨g, cap, cur, h1, hb, _⟩
  · simp only [Value.slice.injEq] at h1
    rw [h1.1] at hA
    cases hA
  · simp only [Value.slice.injEq] at h1
    rw [h1.1] at hA
    obtain rfl := Option.some.inj hA
    exact hb

set_option maxRecDepth 100000 in
set_option maxHeartbeats 2000000 in
theorem rparseH_any (s : ByteArray) (a : Bool) (w : World) (hs : s.size ≤ 4611686018427387904) : Calls Tryz.prog 79 #[.string s, .bool a] w (HeadEnds (parseH (dl s) a) w) := by
  obtain ⟨i32, hi, hz0, hz1, hz2⟩ := info_parts info32
  by_cases hl : 2000 < s.size
  case pos =>
    have HE := Lib.hid (parse_long (l := dl s) (by rw [dl_len]; exact hl) a)
    go_enter Tryz.func79, Tryz.ntmps79
    go_wp2
    refine bodyPost_ret (v := .tuple #[.agg #[.string ⟨#[]⟩, .string ⟨#[]⟩, .int .i64 0, .string ⟨#[]⟩, .int .i64 0, .slice none 0 0], .int .i64 2]) (by simp [results, Tryz.results79, go_sem]) rfl ?_
    exact ⟨_, _, _, _, _, ⟨none, 0, 0⟩, [], by rw [HE.out], by rw [HE.out]; rfl, fs_nil _, fresh_nil _, ba1 _ _⟩
  have hlI : ¬ (2000 : Int) < (s.size : Int) := by omega
  go_enter Tryz.func79, Tryz.ntmps79
  go_wp2_with fail
  have hg0 := Box.new w 29 #[.string ⟨#[]⟩, .string ⟨#[]⟩, .int .i64 0, .string ⟨#[]⟩, .int .i64 0, .slice none 0 0]
  have hb0 := ba1 w (.cells #[.string ⟨#[]⟩, .string ⟨#[]⟩, .int .i64 0, .string ⟨#[]⟩, .int .i64 0, .slice none 0 0] 29)
  obtain ⟨g, hg⟩ : ∃ g, w.heap.size = g := ⟨_, rfl⟩
  rw [hg] at hg0 ⊢
  have HG := Lib.hid hg
  clear hg
  generalize w.alloc (.cells #[.string ⟨#[]⟩, .string ⟨#[]⟩, .int .i64 0, .string ⟨#[]⟩, .int .i64 0, .slice none 0 0] 29) = W0 at *
  refine (rlines_any s (by omega) _).mono ?_
  rintro e w1 ⟨S, xs, rfl, hxs, hS, hb1⟩
  obtain ⟨hfew, hln⟩ := lines_few hxs (by rw [dl_len]; omega)
  have bg1 := hg0.up hb1
  have hw1 := bon hb0 hb1
  clear hg0 hb0 hb1
  cases xs with
  | nil => exact absurd hxs.symm (lines_ne [] (dl s))
  | cons x ys =>
  have HE0 := Lib.hid (parse_of (l := dl s) (by rw [dl_len]; exact hl) hxs.symm a)
  clear hxs
  have hSn := hS.len
  simp only [List.length_cons] at hSn hln
  have hxz : x.size ≤ 4096 := hfew x (by simp)
  have HYS : Hid (FewS ys) := Lib.hid (fun y hy => hfew y (by simp [hy]))
  obtain ⟨SA, Sn, Sc⟩ := S
  obtain ⟨b0, o0, x', hA, hbl, hx', hc0⟩ := hS.cell (k := 0) (by simp only at hSn ⊢; omega)
  obtain rfl : x = x' := by simpa using hx'
  rw [Nat.add_zero] at hc0
  simp only at hA hSn
  subst hA
  have HSS := Lib.hid hS
  have HLen := Lib.hid hSn
  have HRq := Lib.hid (fun W => rrequest_any x hxz W)
  have HAn := Lib.hid (fun W => ranswer_any x hxz W)
  have hSn1 : 0 < Sn := by omega
  have hSn2 : (0 : Int) < (Sn : Int) := by omega
  have hSn3 : Sn ≤ 2001 := by omega
  clear hfew hx' hS hSn hln
  obtain ⟨q, hq⟩ : ∃ q, firstL (dl x) a = q := ⟨_, rfl⟩
  have HEL : Hid (parseH (dl s) a = if q.2 = 0 then (if (pfL [] (ys.map dl)).2 = 0 then ({ q.1 with fs := (pfL [] (ys.map dl)).1 }, 0) else (Hd.zero, (pfL [] (ys.map dl)).2)) else (Hd.zero, q.2)) := Lib.hid (by rw [HE0.out, parseL, hq])
  clear HE0
  cases a
  case' false =>
    have hq' : reqL (dl x) = q := hq
    rw [hq'] at HRq
    clear hq hq' HAn
    go_wp2_with fail
    refine (HRq.out _).mono ?_
    rintro e w2 ⟨m, t, st, r, mi, rfl, hhd, hb2⟩
    have HHD := Lib.hid hhd
    have low2 := bon hb2 (ba1 w2 (.cells #[.string m, .string t, .int .i64 st, .string r, .int .i64 mi, .slice none 0 0] 29))
    have bh2 := Box.new w2 29 #[.string m, .string t, .int .i64 st, .string r, .int .i64 mi, .slice none 0 0]
    have hPL : PL w1 (w2.alloc (.cells #[.string m, .string t, .int .i64 st, .string r, .int .i64 mi, .slice none 0 0] 29)) w2.heap.size (w2.alloc (.cells #[.string m, .string t, .int .i64 st, .string r, .int .i64 mi, .slice none 0 0] 29)).heap.size m t st r mi ⟨none, 0, 0⟩ [] := ⟨low2, bh2, World.ownsRow_nil _ _ _ _, hb2.size, bh2.lt, Nat.le_refl _⟩
    clear HRq hhd hb2 low2 bh2 hc0
    go_upto_region 7 with fail
    generalize (w2.alloc (.cells #[.string m, .string t, .int .i64 st, .string r, .int .i64 mi, .slice none 0 0] 29)).heap.size = B at *
    generalize w2.alloc (.cells #[.string m, .string t, .int .i64 st, .string r, .int .i64 mi, .slice none 0 0] 29) = W at *
    generalize w2.heap.size = gh at *
  case' true =>
    have hq' : ansL (dl x) = q := hq
    rw [hq'] at HAn
    clear hq hq'
    go_wp2_with fail
    refine (HRq.out _).mono ?_
    rintro e w2 ⟨m0, t0, st0, r0, mi0, rfl, _, hb2⟩
    have c2 := cell_up (bon hb2 (ba1 w2 (.cells #[.string m0, .string t0, .int .i64 st0, .string r0, .int .i64 mi0, .slice none 0 0] 29))) hc0
    have low2 := bon hb2 (ba1 w2 (.cells #[.string m0, .string t0, .int .i64 st0, .string r0, .int .i64 mi0, .slice none 0 0] 29))
    have bh2 := Box.new w2 29 #[.string m0, .string t0, .int .i64 st0, .string r0, .int .i64 mi0, .slice none 0 0]
    have hgh := hb2.size
    clear HRq hb2 hc0
    go_wp2_with fail
    refine (HAn.out _).mono ?_
    rintro e w3 ⟨m, t, st, r, mi, rfl, hhd, hb3⟩
    have HHD := Lib.hid hhd
    have bh3 := bh2.up hb3
    have low3 := bon low2 hb3
    have hlt3 := bh3.lt
    obtain ⟨k0, k1, k2, k3, k4, k5⟩ := bh3.six
    obtain ⟨f0, f1, f2, f3, f4, f5⟩ := bh3.sixf
    have hPL : PL w1 ((((((w3.setCell ⟨w2.heap.size, 0, none⟩ (.string m)).setCell ⟨w2.heap.size, 1, none⟩ (.string t)).setCell ⟨w2.heap.size, 2, none⟩ (.int .i64 st)).setCell ⟨w2.heap.size, 3, none⟩ (.string r)).setCell ⟨w2.heap.size, 4, none⟩ (.int .i64 mi)).setCell ⟨w2.heap.size, 5, none⟩ (.slice none 0 0)) w2.heap.size w3.heap.size m t st r mi ⟨none, 0, 0⟩ [] := ⟨below_set6 low3 hgh _ _ _ _ _ _, bh3.set6 _ _ _ _ _ _, World.ownsRow_nil _ _ _ _, hgh, hlt3, by simp⟩
    clear HAn hhd hb3 low2 bh2 low3 c2 bh3 hlt3 hgh
    go_upto_region 7 with fail
    clear k0 k1 k2 k3 k4 k5 f0 f1 f2 f3 f4 f5
    generalize ((((((w3.setCell ⟨w2.heap.size, 0, none⟩ (.string m)).setCell ⟨w2.heap.size, 1, none⟩ (.string t)).setCell ⟨w2.heap.size, 2, none⟩ (.int .i64 st)).setCell ⟨w2.heap.size, 3, none⟩ (.string r)).setCell ⟨w2.heap.size, 4, none⟩ (.int .i64 mi)).setCell ⟨w2.heap.size, 5, none⟩ (.slice none 0 0)) = W at *
    generalize w2.heap.size = gh at *
    generalize w3.heap.size = B at *
  all_goals
    obtain ⟨q2, hq2⟩ : ∃ q, pfL [] (ys.map dl) = q := ⟨_, rfl⟩
    rw [hq2] at HEL
    have HQ2 := Lib.hid hq2
    clear hq2
    obtain ⟨qh, qe⟩ := q
    obtain ⟨pf, pe⟩ := q2
    simp only at HEL HHD
    have bg := bg1.below hPL.low bg1.lt
    have hbw := bon hw1 hPL.low
    by_cases he0 : qe = 0
    case neg =>
      have HE : Hid (parseH (dl s) _ = (Hd.zero, qe)) := Lib.hid (by rw [HEL.out, if_neg he0])
      have e4 : (qe != 0) = true := bne_iff_ne.2 he0
      clear he0
      have HQ := Lib.hid (bg.set6 (.string ⟨#[]⟩) (.string ⟨#[]⟩) (.int .i64 0) (.string ⟨#[]⟩) (.int .i64 0) (.slice none 0 0)).six
      have HW := Lib.hid (below_set6 hbw (g := g) (by rw [HG.out]; exact Nat.le_refl _) (.string ⟨#[]⟩) (.string ⟨#[]⟩) (.int .i64 0) (.string ⟨#[]⟩) (.int .i64 0) (.slice none 0 0))
      obtain ⟨k0, k1, k2, k3, k4, k5⟩ := bg.six
      obtain ⟨f0, f1, f2, f3, f4, f5⟩ := bg.sixf
      go_wp2
      obtain ⟨q0, q1, q2, q3, q4, q5⟩ := HQ.out
      refine bodyPost_ret (v := .tuple #[.agg #[.string ⟨#[]⟩, .string ⟨#[]⟩, .int .i64 0, .string ⟨#[]⟩, .int .i64 0, .slice none 0 0], .int .i64 qe]) (by simp [results, Tryz.results79, go_sem, q0, q1, q2, q3, q4, q5]) rfl ?_
      exact ⟨_, _, _, _, _, ⟨none, 0, 0⟩, [], by rw [HE.out], by rw [HE.out]; rfl, fs_nil _, fresh_nil _, HW.out⟩
    subst he0
    rw [if_pos rfl] at HEL
    have HHD2 := Lib.hid (HHD.out rfl)
    clear HHD bg hbw
    have HPL := Lib.hid hPL
    clear hPL
    go_wp2_with fail
    go_loopw [9] (fun i wr => ∃ (k : Nat) (O : Sli) (fs : List Fd), k + 1 ≤ Sn ∧ k ≤ 20 ∧ O.n = k ∧ i = .int .i64 ((k : Int) + 1) ∧ Hid (fs.length = k ∧ pfL [] (ys.map dl) = pfL (dls fs) ((ys.drop k).map dl)) ∧ Hid (PL w1 wr gh B m t st r mi O fs)) (fun i _ => Sn + 1 - (intOf i).toNat)
    case atStart => exact ⟨0, ⟨none, 0, 0⟩, [], by omega, by omega, rfl, rfl, Lib.hid ⟨rfl, rfl⟩, HPL⟩
    case round =>
      obtain ⟨k, O, fs, hk, hk20, hO, rfl, HX, HO⟩ := hrel
      obtain ⟨OA, On, Oc⟩ := O
      simp only at hO
      subst hO
      have bg := bg1.below HO.out.low bg1.lt
      have hbw := bon hw1 HO.out.low
      by_cases hlt : On + 1 < Sn
      · obtain ⟨b, o, y, hA, hb, hy, c1⟩ := (HSS.out.up HO.out.low).cell (k := On + 1) (by simp only; omega)
        simp only at hA
        obtain ⟨rfl, rfl⟩ : b0 = b ∧ o0 = o := by
          have := Option.some.inj hA
          exact ⟨congrArg Addr.block this, congrArg Addr.off this⟩
        have hy' : ys[On]? = some y := by simpa using hy
        have hyz : y.size ≤ 4096 := HYS.out y (List.mem_of_getElem? hy')
        have HP := Lib.hid (fun W => rparse_any y hyz W)
        have HS : Hid (pfL [] (ys.map dl) = if (dls fs).length = 20 then ([], 2) else if (parse3 (dl y)).2.2 = 0 then pfL (dls fs ++ [((parse3 (dl y)).1, (parse3 (dl y)).2.1)]) ((ys.drop (On + 1)).map dl) else ([], (parse3 (dl y)).2.2)) := Lib.hid (by rw [HX.out.2, map_drop hy', pfL])
        clear hy hy' hA
        have hki : (On : Int) + 1 < (Sn : Int) := by omega
        have hk0 : (0 : Int) ≤ (On : Int) + 1 := by omega
        have hk1 : ((On : Int) + 1).toNat = On + 1 := by omega
        by_cases h20 : On = 20
        · have HE1 : Hid (pfL [] (ys.map dl) = ([], 2)) := Lib.hid (by rw [HS.out, if_pos (by rw [List.length_map, HX.out.1]; exact h20)])
          have HE : Hid (parseH (dl s) _ = (Hd.zero, 2)) := Lib.hid (by rw [HEL.out]; have := HQ2.out; rw [HE1.out] at this; rw [← (Prod.mk.inj this).2]; rfl)
          subst h20
          clear HS HE1
          have HQ := Lib.hid (bg.set6 (.string ⟨#[]⟩) (.string ⟨#[]⟩) (.int .i64 0) (.string ⟨#[]⟩) (.int .i64 0) (.slice none 0 0)).six
          have HW := Lib.hid (below_set6 hbw (g := g) (by rw [HG.out]; exact Nat.le_refl _) (.string ⟨#[]⟩) (.string ⟨#[]⟩) (.int .i64 0) (.string ⟨#[]⟩) (.int .i64 0) (.slice none 0 0))
          obtain ⟨k0, k1, k2, k3, k4, k5⟩ := bg.six
          obtain ⟨f0, f1, f2, f3, f4, f5⟩ := bg.sixf
          go_wp2
          obtain ⟨q0, q1, q2, q3, q4, q5⟩ := HQ.out
          refine bodyPost_ret (v := .tuple #[.agg #[.string ⟨#[]⟩, .string ⟨#[]⟩, .int .i64 0, .string ⟨#[]⟩, .int .i64 0, .slice none 0 0], .int .i64 2]) (by simp [results, Tryz.results79, go_sem, q0, q1, q2, q3, q4, q5]) rfl ?_
          exact ⟨_, _, _, _, _, ⟨none, 0, 0⟩, [], by rw [HE.out], by rw [HE.out]; rfl, fs_nil _, fresh_nil _, HW.out⟩
        · have e20 : ¬ (20 : Int) < (On : Int) + 1 := by omega
          have HS2 : Hid (pfL [] (ys.map dl) = if (parse3 (dl y)).2.2 = 0 then pfL (dls fs ++ [((parse3 (dl y)).1, (parse3 (dl y)).2.1)]) ((ys.drop (On + 1)).map dl) else ([], (parse3 (dl y)).2.2)) := Lib.hid (by rw [HS.out, if_neg (by rw [List.length_map, HX.out.1]; exact h20)])
          clear HS
          go_wp2_with fail
          refine (HP.out _).mono ?_
          rintro e w4 ⟨f, v, ce, rfl, hfv, hvv, hce, hb4⟩
          rw [← hfv, ← hvv, ← hce] at HS2
          clear hfv hvv hce bg hbw c1
          have HO1 := Lib.hid (HO.out.up (bon hb4 (ba1 w4 (.cells #[.string f, .string v] 40))))
          clear HO hb4
          by_cases hc0 : ce = 0
          · subst hc0
            have HS3 : Hid (pfL [] (ys.map dl) = pfL (dls (fs ++ [(f, v)])) ((ys.drop (On + 1)).map dl)) := Lib.hid (by rw [HS2.out, if_pos rfl, dls_app])
            clear HS2
            have HSrc : Hid (Src ((w4.alloc (.cells #[.string f, .string v] 40)).alloc (.cells #[.string f, .string v] 40)) 2 (some ⟨w4.heap.size + 1, 0, none⟩) 1 1 (fvs [(f, v)])) := Lib.hid (src_two w4 _ f v)
            have HO2 := Lib.hid (HO1.out.up (ba1 (w4.alloc (.cells #[.string f, .string v] 40)) (.cells #[.string f, .string v] 40)))
            have hBw : B ≤ ((w4.alloc (.cells #[.string f, .string v] 40)).alloc (.cells #[.string f, .string v] 40)).heap.size := HO2.out.h3
            have d5 := HO1.out.hbox.c 5 rfl
            clear HO1
            go_wp2_with (at_builtin; refine wpList_app _ rfl _ _ 27 rfl B 40 i32 _ 2 32 (by decide) Tryz.underlying27 hi hz0 hz1 hz2 rfl (.slice OA On Oc) On (fvs fs) rfl HO2.out.row (some ⟨w4.heap.size + 1, 0, none⟩) 1 1 (fvs [(f, v)]) rfl HSrc.out (fvs_one _) ?_ ?_ hBw (On + 1) rfl ?_; (unfold maxLen; omega); omega; intro A' c' w5 h1 h2 h3; refine Hid.out ?_)
            obtain ⟨hP3, d6, e6⟩ := HO2.out.app (fs' := fs ++ [(f, v)]) (by rw [fvs_app]; exact h1) h2
            have HO3 := Lib.hid hP3
            clear h1 h2 h3 HO2 HSrc hP3 d5
            refine Lib.hid ?_
            go_wp2
            go_roundw
            case rel => exact ⟨On + 1, ⟨A', On + 1, c'⟩, fs ++ [(f, v)], by omega, by omega, rfl, by go_num, Lib.hid ⟨by rw [List.length_append, HX.out.1]; rfl, HS3.out⟩, HO3⟩
            case measure => simp [intOf]; omega
          · have HE1 : Hid (pfL [] (ys.map dl) = ([], ce)) := Lib.hid (by rw [HS2.out, if_neg hc0])
            have HE : Hid (parseH (dl s) _ = (Hd.zero, ce)) := Lib.hid (by rw [HEL.out]; have := HQ2.out; rw [HE1.out] at this; rw [← (Prod.mk.inj this).2, if_neg hc0])
            have e0 : (ce != 0) = true := bne_iff_ne.2 hc0
            have bg := bg1.below HO1.out.low bg1.lt
            have hbw := bon hw1 HO1.out.low
            clear hc0 HS2 HE1
            have HQ := Lib.hid (bg.set6 (.string ⟨#[]⟩) (.string ⟨#[]⟩) (.int .i64 0) (.string ⟨#[]⟩) (.int .i64 0) (.slice none 0 0)).six
            have HW := Lib.hid (below_set6 hbw (g := g) (by rw [HG.out]; exact Nat.le_refl _) (.string ⟨#[]⟩) (.string ⟨#[]⟩) (.int .i64 0) (.string ⟨#[]⟩) (.int .i64 0) (.slice none 0 0))
            obtain ⟨k0, k1, k2, k3, k4, k5⟩ := bg.six
            obtain ⟨f0, f1, f2, f3, f4, f5⟩ := bg.sixf
            go_wp2
            obtain ⟨q0, q1, q2, q3, q4, q5⟩ := HQ.out
            refine bodyPost_ret (v := .tuple #[.agg #[.string ⟨#[]⟩, .string ⟨#[]⟩, .int .i64 0, .string ⟨#[]⟩, .int .i64 0, .slice none 0 0], .int .i64 ce]) (by simp [results, Tryz.results79, go_sem, q0, q1, q2, q3, q4, q5]) rfl ?_
            exact ⟨_, _, _, _, _, ⟨none, 0, 0⟩, [], by rw [HE.out], by rw [HE.out]; rfl, fs_nil _, fresh_nil _, HW.out⟩
      · have hlti : ¬ (On : Int) + 1 < (Sn : Int) := by omega
        have HE1 : Hid (pfL [] (ys.map dl) = (dls fs, 0)) := Lib.hid (by rw [HX.out.2, List.drop_of_length_le (by have := HLen.out; omega)]; rfl)
        have HE : Hid (parseH (dl s) _ = ({ qh with fs := dls fs }, 0)) := Lib.hid (by rw [HEL.out]; have := HQ2.out; rw [HE1.out] at this; rw [← (Prod.mk.inj this).2, if_pos rfl, ← (Prod.mk.inj this).1])
        have HH : Hid (hdOf m t st r mi fs = { qh with fs := dls fs }) := Lib.hid (first_hd HHD2.out fs _ rfl)
        have hfr : ∀ ad, OA = some ad → ad.block ≠ g := fun ad h => by
          have h1 := Row.base HO.out.row ad h
          have h2 := HO.out.h1
          have h3 := HO.out.h2
          have h4 := bg1.lt
          omega
        have HFr : Hid (Fresh w ⟨OA, On, Oc⟩) := Lib.hid (fun ad h => by
          have h1 := Row.base HO.out.row ad h
          have h2 := HO.out.h1
          have h3 := HO.out.h2
          have h4 := bg1.lt
          have h5 := HG.out
          omega)
        have HF6 := Lib.hid (fun u0 u1 u2 u3 u4 u5 => Fs.set6 HO.out.row.fs (g := g) hfr u0 u1 u2 u3 u4 u5)
        obtain ⟨i0, i1, i2, i3, i4, i5⟩ := HO.out.hbox.six
        clear hfr
        have HQ := Lib.hid (bg.set6 (.string m) (.string t) (.int .i64 st) (.string r) (.int .i64 mi) (.slice OA On Oc)).six
        have HW := Lib.hid (below_set6 hbw (g := g) (by rw [HG.out]; exact Nat.le_refl _) (.string m) (.string t) (.int .i64 st) (.string r) (.int .i64 mi) (.slice OA On Oc))
        obtain ⟨k0, k1, k2, k3, k4, k5⟩ := bg.six
        obtain ⟨f0, f1, f2, f3, f4, f5⟩ := bg.sixf
        go_wp2
        obtain ⟨q0, q1, q2, q3, q4, q5⟩ := HQ.out
        refine bodyPost_ret (v := .tuple #[.agg #[.string m, .string t, .int .i64 st, .string r, .int .i64 mi, .slice OA On Oc], .int .i64 0]) (by simp [results, Tryz.results79, go_sem, q0, q1, q2, q3, q4, q5]) rfl ?_
        exact ⟨_, _, _, _, _, ⟨OA, On, Oc⟩, fs, by rw [HE.out], by rw [HE.out]; exact HH.out, HF6.out _ _ _ _ _ _, HFr.out, HW.out⟩

end Go.Proofs.YtdlihfbaepjliaaGreatDoor
