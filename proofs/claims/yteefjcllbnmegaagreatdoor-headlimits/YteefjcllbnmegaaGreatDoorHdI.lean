/-
  The walk of head's own Parse.
-/
import Derived.Test.YteefjcllbnmegaaGreatDoorHdH
namespace Go.Proofs.YteefjcllbnmegaaGreatDoor
open Go.RowKit

/-- a head and an error are handed back -/
def HeadEnds (q : Hd × Int) (w : World) (e : Ending) (w' : World) : Prop :=
  ∃ (m t : ByteArray) (st : Int) (r : ByteArray) (mi : Int) (S : Sli) (fs : List Fd), e = .returned (.tuple #[.agg #[.string m, .string t, .int .i64 st, .string r, .int .i64 mi, .slice S.A S.n S.c], .int .i64 q.2]) ∧ hdOf m t st r mi fs = q.1 ∧ Fs w' S fs ∧ Below w.heap.size w w'
theorem parse_long {l : Bs} (h : 2000 < l.length) (a : Bool) : parseH l a = (Hd.zero, 2) := if_pos h
theorem parse_of {l x : Bs} {xs : List Bs} (h : ¬ 2000 < l.length) (hl : linesL l = x :: xs) (a : Bool) : parseH l a = parseL x xs a := by
  rw [parseH, if_neg h, hl]
  rfl
theorem lines_few {l : Bs} {xs : List ByteArray} (h : xs.map dl = linesL l) (hl : l.length ≤ 2000) : FewS xs ∧ xs.length ≤ 2001 := by
  have ht := lines_total [] l
  have hsum : ∀ ls : List Bs, (∀ x ∈ ls, x.length ≤ total ls) ∧ ls.length ≤ total ls := by
    intro ls
    induction ls with
    | nil => exact ⟨(fun x hx => by cases hx), Nat.zero_le _⟩
    | cons y r ih =>
      have e : total (y :: r) = y.length + 2 + total r := by simp [total]
      refine ⟨fun x hx => ?_, by simp only [List.length_cons]; omega⟩
      rcases List.mem_cons.1 hx with rfl | hx
      · omega
      · have := ih.1 x hx; omega
  have h2 : ∀ ls : List Bs, 2 * ls.length ≤ total ls := by
    intro ls
    induction ls with
    | nil => exact Nat.zero_le _
    | cons y r ih =>
      have e : total (y :: r) = y.length + 2 + total r := by simp [total]
      simp only [List.length_cons]
      omega
  have e0 : ([] : Bs).length = 0 := rfl
  obtain ⟨a1, a2⟩ := hsum (linesL l)
  have a3 := h2 (linesL l)
  unfold linesL at a1 a2 a3 h
  refine ⟨fun x hx => ?_, ?_⟩
  · have := a1 (dl x) (by rw [← h]; exact List.mem_map.2 ⟨x, hx, rfl⟩)
    rw [dl_len] at this
    omega
  · have hlen : xs.length = (linesA [] l).length := by rw [← h, List.length_map]
    omega
theorem Fl.up {w w' : World} {g : Nat} {v u : Value} (h : Fl w g v u) (hb : Below w.heap.size w w') : Fl w' g v u := (hb.block g (Array.getElem?_eq_some_iff.1 h).1).trans h
theorem first_hd {m t : ByteArray} {st : Int} {r : ByteArray} {mi : Int} {q : Hd} (h : hdOf m t st r mi [] = q) (fs : List Fd) (gs : List (Bs × Bs)) (hg : dls fs = gs) : hdOf m t st r mi fs = { q with fs := gs } := by
  rw [← h, ← hg]
  rfl
theorem Box.set5 {w : World} {g : Nat} {ty : TypeId} {a b c d e f : Value} (h : Box w g ty #[a, b, c, d, e, f]) (u : Value) : Box (w.setCell ⟨g, 5, none⟩ u) g ty #[a, b, c, d, e, u] := by
  have := h.set 5 u
  simpa using this

/-- a store elsewhere leaves the fields as they are -/
theorem Fs.set {w : World} {S : Sli} {fs : List Fd} (h : Fs w S fs) {p : Addr} (hn : ∀ ad, S.A = some ad → ad.block ≠ p.block) (v : Value) : Fs (w.setCell p v) S fs := by
  refine ⟨h.len, fun hx => ?_, h.cap, h.le⟩
  obtain ⟨b, o, hA, hl, hc⟩ := h.rd hx
  have hb : b ≠ p.block := hn ⟨b, o, none⟩ hA
  refine ⟨b, o, hA, by simpa using hl, fun j u hu => ?_⟩
  rw [World.cell?_setCell_other (h := fun e => hb (by rw [e]))]
  exact hc j u hu
theorem Fs.set6 {w : World} {S : Sli} {fs : List Fd} (h : Fs w S fs) {g : Nat} (hn : ∀ ad, S.A = some ad → ad.block ≠ g) (u0 u1 u2 u3 u4 u5 : Value) :
    Fs ((((((w.setCell ⟨g, 0, none⟩ u0).setCell ⟨g, 1, none⟩ u1).setCell ⟨g, 2, none⟩ u2).setCell ⟨g, 3, none⟩ u3).setCell ⟨g, 4, none⟩ u4).setCell ⟨g, 5, none⟩ u5) S fs :=
  (((((h.set (p := ⟨g, 0, none⟩) hn u0).set (p := ⟨g, 1, none⟩) hn u1).set (p := ⟨g, 2, none⟩) hn u2).set (p := ⟨g, 3, none⟩) hn u3).set (p := ⟨g, 4, none⟩) hn u4).set (p := ⟨g, 5, none⟩) hn u5

set_option maxRecDepth 100000 in
set_option maxHeartbeats 2000000 in
theorem hparse_any (s : ByteArray) (a : Bool) (w : World) (hs : s.size ≤ 4611686018427387904) (hM : Mx w) : Calls Tryz.prog 12 #[.string s, .bool a] w (HeadEnds (parseH (dl s) a) w) := by
  by_cases hl : 2000 < s.size
  case pos =>
    have HE := Lib.hid (parse_long (l := dl s) (by rw [dl_len]; exact hl) a)
    go_enter Tryz.func12, Tryz.ntmps12
    go_wp2
    refine bodyPost_ret (v := .tuple #[.agg #[.string ⟨#[]⟩, .string ⟨#[]⟩, .int .i64 0, .string ⟨#[]⟩, .int .i64 0, .slice none 0 0], .int .i64 2]) (by simp [results, Tryz.results12, go_sem]) rfl ?_
    exact ⟨_, _, _, _, _, ⟨none, 0, 0⟩, [], by rw [HE.out], by rw [HE.out]; rfl, fs_nil _, ba1 _ _⟩
  have hlI : ¬ (2000 : Int) < (s.size : Int) := by omega
  go_enter Tryz.func12, Tryz.ntmps12
  go_wp2_with fail
  have hg0 := Box.new w 30 #[.string ⟨#[]⟩, .string ⟨#[]⟩, .int .i64 0, .string ⟨#[]⟩, .int .i64 0, .slice none 0 0]
  have hb0 := ba1 w (.cells #[.string ⟨#[]⟩, .string ⟨#[]⟩, .int .i64 0, .string ⟨#[]⟩, .int .i64 0, .slice none 0 0] 30)
  obtain ⟨g, hg⟩ : ∃ g, w.heap.size = g := ⟨_, rfl⟩
  rw [hg] at hg0 ⊢
  have HG := Lib.hid hg
  clear hg
  generalize w.alloc (.cells #[.string ⟨#[]⟩, .string ⟨#[]⟩, .int .i64 0, .string ⟨#[]⟩, .int .i64 0, .slice none 0 0] 30) = W0 at *
  refine (lines_any s (by omega) _ (hM.up hb0)).mono ?_
  rintro e w1 ⟨S, xs, rfl, hxs, hS, hb1⟩
  obtain ⟨hfew, hln⟩ := lines_few hxs (by rw [dl_len]; omega)
  have bg1 := hg0.up hb1
  have hw1 := bon hb0 hb1
  clear hg0 hb0 hb1
  cases xs with
  | nil => exact absurd hxs.symm (lines_ne [] (dl s))
  | cons x ys =>
  have HE0 := Lib.hid (parse_of (l := dl s) (by rw [dl_len]; exact hl) hxs.symm a)
  clear hxs
  obtain ⟨T, hT, hTs, hTn⟩ := ss_tail hS
  have hSn := hS.len
  simp only [List.length_cons] at hSn hln
  have hxz : x.size ≤ 4096 := hfew x (by simp)
  have hys : FewS ys := fun y hy => hfew y (by simp [hy])
  obtain ⟨SA, Sn, Sc⟩ := S
  obtain ⟨b0, o0, x', hA, hbl, hx', hc0⟩ := hS.cell (k := 0) (by simp only at hSn ⊢; omega)
  obtain rfl : x = x' := by simpa using hx'
  rw [Nat.add_zero] at hc0
  simp only at hA hSn hTn hT
  subst hA
  have HF0 : Hid (∀ W, Mx W → Calls Tryz.prog (if a = true then 43 else 42) #[.string x] W (FirstEnds (firstL (dl x) a) W)) := Lib.hid (fun W hW => by
    cases a with
    | false => exact request_any x hxz W hW
    | true => exact response_any x hxz W hW)
  have hTm : T.n ≤ 4096 := by omega
  have HPF : Hid (∀ W, Ss W T ys → Calls Tryz.prog 23 #[.slice T.A T.n T.c] W (PfEnds (pfL [] (ys.map dl)) W)) := Lib.hid (fun W hW => pf_any T.A T.n T.c ys W hW hTm hys)
  have HTs := Lib.hid hTs
  clear hfew hx' hS hys hTs
  have hSn1 : 0 < Sn := by omega
  have hSn2 : (0 : Int) < (Sn : Int) := by omega
  go_wp2_with fail
  refine (fl_any _).mono ?_
  rintro e w2 ⟨rfl, hfl, hb2⟩
  have bg2 := bg1.up hb2
  have hw2 := bon hw1 hb2
  have c2 := cell_up hb2 hc0
  have HTs2 := Lib.hid (HTs.out.up hb2)
  clear bg1 hw1 hc0 HTs
  have hlk := lk0 hfl a
  obtain ⟨q, hq⟩ : ∃ q, firstL (dl x) a = q := ⟨_, rfl⟩
  have HQ := Lib.hid hq
  rw [hq] at HF0
  clear hq
  have hMw := hM.up hw2
  have HC1 := Lib.hid (HF0.out w2 hMw)
  clear HF0 hfl hb2
  have HEL : Hid (parseH (dl s) a = if q.2 = 0 then (if (pfL [] (ys.map dl)).2 = 0 then ({ q.1 with fs := (pfL [] (ys.map dl)).1 }, 0) else (Hd.zero, (pfL [] (ys.map dl)).2)) else (Hd.zero, q.2)) := Lib.hid (by rw [HE0.out, parseL, HQ.out])
  clear HE0 HQ
  obtain ⟨q2, hq2⟩ : ∃ q, pfL [] (ys.map dl) = q := ⟨_, rfl⟩
  rw [hq2] at HEL HPF
  clear hq2
  obtain ⟨qh, qe⟩ := q
  obtain ⟨pf, pe⟩ := q2
  simp only at HEL
  cases a
  all_goals
    simp only [Bool.false_eq_true, if_false, if_true] at hlk HC1
    go_wp2_with fail
    refine HC1.out.mono ?_
    rintro e w3 ⟨m, t, st, r, mi, rfl, hhd, hb3⟩
    have bg := (bg2.up hb3).up (ba1 w3 (.cells #[.string m, .string t, .int .i64 st, .string r, .int .i64 mi, .slice none 0 0] 30))
    have hbw := bon (bon hw2 hb3) (ba1 w3 (.cells #[.string m, .string t, .int .i64 st, .string r, .int .i64 mi, .slice none 0 0] 30))
    have HHD := Lib.hid hhd
    simp only at HHD
    by_cases he0 : qe = 0
    case neg =>
      have HE : Hid (parseH (dl s) _ = (Hd.zero, qe)) := Lib.hid (by rw [HEL.out, if_neg he0])
      have e4 : (qe != 0) = true := bne_iff_ne.2 he0
      clear he0 hhd
      have HQ := Lib.hid (bg.set6 (.string ⟨#[]⟩) (.string ⟨#[]⟩) (.int .i64 0) (.string ⟨#[]⟩) (.int .i64 0) (.slice none 0 0)).six
      have HW := Lib.hid (below_set6 hbw (g := g) (by rw [HG.out]; exact Nat.le_refl _) (.string ⟨#[]⟩) (.string ⟨#[]⟩) (.int .i64 0) (.string ⟨#[]⟩) (.int .i64 0) (.slice none 0 0))
      obtain ⟨k0, k1, k2, k3, k4, k5⟩ := bg.six
      obtain ⟨f0, f1, f2, f3, f4, f5⟩ := bg.sixf
      go_wp2
      obtain ⟨q0, q1, q2, q3, q4, q5⟩ := HQ.out
      refine bodyPost_ret (v := .tuple #[.agg #[.string ⟨#[]⟩, .string ⟨#[]⟩, .int .i64 0, .string ⟨#[]⟩, .int .i64 0, .slice none 0 0], .int .i64 qe]) (by simp [results, Tryz.results12, go_sem, q0, q1, q2, q3, q4, q5]) rfl ?_
      exact ⟨_, _, _, _, _, ⟨none, 0, 0⟩, [], by rw [HE.out], by rw [HE.out]; rfl, fs_nil _, HW.out⟩
    subst he0
    rw [if_pos rfl] at HEL
    have HTs3 := Lib.hid (HTs2.out.up (bon hb3 (ba1 w3 (.cells #[.string m, .string t, .int .i64 st, .string r, .int .i64 mi, .slice none 0 0] 30))))
    have bh := Box.new w3 30 #[.string m, .string t, .int .i64 st, .string r, .int .i64 mi, .slice none 0 0]
    have hgh : g < w3.heap.size := (bg2.up hb3).lt
    have hwg : w.heap.size ≤ w3.heap.size := (bon hw2 hb3).size
    clear hhd c2 hb3 bg2
    go_wp2_with fail
    refine (HPF.out _ HTs3.out).mono ?_
    rintro e w4 ⟨F, fs, rfl, hfs, hF, hfr, hb4⟩
    have hnh : ∀ ad, F.A = some ad → w3.heap.size + 1 ≤ ad.block := fun ad h => by have := hfr ad h; simpa using this
    clear hfr
    have bg5 := bg.up hb4
    have hw5 := bon hbw hb4
    have bh5 := bh.up hb4
    clear bg hbw bh HTs3
    obtain ⟨gh, hghe⟩ : ∃ g, w3.heap.size = g := ⟨_, rfl⟩
    rw [hghe] at bh5 hgh hwg hnh ⊢
    clear hghe
    obtain ⟨j0, j1, j2, j3, j4, j5⟩ := bh5.six
    obtain ⟨l0, l1, l2, l3, l4, l5⟩ := bh5.sixf
    have bh6 := bh5.set5 (.slice F.A F.n F.c)
    have bg := bg5.far (p := ⟨gh, 5, none⟩) (by simp only; omega) (.slice F.A F.n F.c)
    have hbw : Below w.heap.size w (w4.setCell ⟨gh, 5, none⟩ (.slice F.A F.n F.c)) := hw5.setCell (p := ⟨gh, 5, none⟩) hwg _
    have hF6 : Fs (w4.setCell ⟨gh, 5, none⟩ (.slice F.A F.n F.c)) F fs := Fs.set hF (p := ⟨gh, 5, none⟩) (fun ad h => by have := hnh ad h; simp only; omega) _
    simp only at hfs
    by_cases hp0 : pe = 0
    case neg =>
      have HE : Hid (parseH (dl s) _ = (Hd.zero, pe)) := Lib.hid (by rw [HEL.out, if_neg hp0])
      have e4 : (pe != 0) = true := bne_iff_ne.2 hp0
      clear hp0 hF6 bh6
      have HQ := Lib.hid (bg.set6 (.string ⟨#[]⟩) (.string ⟨#[]⟩) (.int .i64 0) (.string ⟨#[]⟩) (.int .i64 0) (.slice none 0 0)).six
      have HW := Lib.hid (below_set6 hbw (g := g) (by rw [HG.out]; exact Nat.le_refl _) (.string ⟨#[]⟩) (.string ⟨#[]⟩) (.int .i64 0) (.string ⟨#[]⟩) (.int .i64 0) (.slice none 0 0))
      obtain ⟨k0, k1, k2, k3, k4, k5⟩ := bg.six
      obtain ⟨f0, f1, f2, f3, f4, f5⟩ := bg.sixf
      go_wp2
      obtain ⟨q0, q1, q2, q3, q4, q5⟩ := HQ.out
      refine bodyPost_ret (v := .tuple #[.agg #[.string ⟨#[]⟩, .string ⟨#[]⟩, .int .i64 0, .string ⟨#[]⟩, .int .i64 0, .slice none 0 0], .int .i64 pe]) (by simp [results, Tryz.results12, go_sem, q0, q1, q2, q3, q4, q5]) rfl ?_
      exact ⟨_, _, _, _, _, ⟨none, 0, 0⟩, [], by rw [HE.out], by rw [HE.out]; rfl, fs_nil _, HW.out⟩
    subst hp0
    have HE : Hid (parseH (dl s) _ = ({ qh with fs := pf }, 0)) := Lib.hid (by rw [HEL.out, if_pos rfl])
    have HH : Hid (hdOf m t st r mi fs = { qh with fs := pf }) := Lib.hid (first_hd (HHD.out trivial) fs pf hfs)
    have HF6 := Lib.hid (fun u0 u1 u2 u3 u4 u5 => Fs.set6 hF6 (g := g) (fun ad h => by have := hnh ad h; omega) u0 u1 u2 u3 u4 u5)
    obtain ⟨i0, i1, i2, i3, i4, i5⟩ := bh6.six
    clear HHD hfs hF hF6 bg5 bh5 bh6
    have HQ := Lib.hid (bg.set6 (.string m) (.string t) (.int .i64 st) (.string r) (.int .i64 mi) (.slice F.A F.n F.c)).six
    have HW := Lib.hid (below_set6 hbw (g := g) (by rw [HG.out]; exact Nat.le_refl _) (.string m) (.string t) (.int .i64 st) (.string r) (.int .i64 mi) (.slice F.A F.n F.c))
    obtain ⟨k0, k1, k2, k3, k4, k5⟩ := bg.six
    obtain ⟨f0, f1, f2, f3, f4, f5⟩ := bg.sixf
    go_wp2
    obtain ⟨q0, q1, q2, q3, q4, q5⟩ := HQ.out
    refine bodyPost_ret (v := .tuple #[.agg #[.string m, .string t, .int .i64 st, .string r, .int .i64 mi, .slice F.A F.n F.c], .int .i64 0]) (by simp [results, Tryz.results12, go_sem, q0, q1, q2, q3, q4, q5]) rfl ?_
    exact ⟨_, _, _, _, _, F, fs, by rw [HE.out], by rw [HE.out]; exact HH.out, HF6.out _ _ _ _ _ _, HW.out⟩

end Go.Proofs.YteefjcllbnmegaaGreatDoor
