/-
  A reader that came in as an argument: its parts, and its fields as a list.
-/
import Derived.Test.YtdlihfbaepjliaaGreatDoorJPw
import Derived.OpenShut
import Derived.ProofKit
import Derived.ChangeSame
import Derived.Deep.Slices
import Derived.Lib.SmallJoins
import Derived.SizedLaws
namespace Go.Proofs.YtdlihfbaepjliaaGreatDoor
open Go.RowKit Go.ChangeShapes Go.WideShapes

section
variable {H : Type} {enc : TypeId × Value → H} {w : World} {base : Nat} {sp : Nat → Bool} {held : Bool}

theorem cells32 : Tryz.prog.cellsOf 40 = 2 := by kernel_rfl
theorem cells9 : Tryz.prog.cellsOf 9 = 1 := by kernel_rfl

/-- a text in memory -/
theorem open_text {fuel : Nat} {cs : List Value} {x : DataW H × List MemPlace} (h : DataW.trod enc Tryz.prog w base sp held fuel 9 cs = some x) : ∃ a : ByteArray, cs = [.string a] ∧ x.1 = .lit (.string a.data.toList) := by
  obtain ⟨s, h1, h2, _⟩ := DataW.trod_string Tryz.underlying9 h
  exact ⟨s, h1, by rw [h2]⟩
set_option maxRecDepth 100000 in
/-- a field in memory -/
theorem open_field {fuel : Nat} {cs : List Value} {x : DataW H × List MemPlace} (h : DataW.trod enc Tryz.prog w base sp held fuel 40 cs = some x) : ∃ a b : ByteArray, cs = [.string a, .string b] ∧ x.1 = .agg [.lit (.string a.data.toList), .lit (.string b.data.toList)] := by
  obtain ⟨y0, y1, n, hx, hl, h0, h1⟩ := trod_struct2 Tryz.underlying40 h
  obtain ⟨a, e0, d0⟩ := open_text h0
  obtain ⟨b, e1, d1⟩ := open_text h1
  rw [cells32] at hl
  rw [cells9] at e0 e1
  match cs, hl with
  | [u, v], _ =>
    simp at e0 e1
    subst e0
    subst e1
    exact ⟨a, b, rfl, by rw [hx, d0, d1]⟩
theorem weights_mem {e : TypeId} : ∀ (ds : List (DataW H)), (DataW.weightsAll Tryz.prog e ds).all (· ≤ reachBytes) = true → ∀ d ∈ ds, (d.weights Tryz.prog e).all (· ≤ reachBytes) = true
  | [], _, d, h => by cases h
  | x :: r, hw, d, h => by
    simp only [DataW.weightsAll, List.all_append, Bool.and_eq_true] at hw
    rcases List.mem_cons.1 h with rfl | h
    · exact hw.1
    · exact weights_mem r hw.2 d h
theorem text_w {a : ByteArray} (h : ((DataW.lit (.string a.data.toList) : DataW H).weights Tryz.prog 9).all (· ≤ reachBytes) = true) : a.size ≤ reachBytes := by
  simpa [DataW.weights] using h
theorem field_w {a b : ByteArray} (h : ((DataW.agg [.lit (.string a.data.toList), .lit (.string b.data.toList)] : DataW H).weights Tryz.prog 40).all (· ≤ reachBytes) = true) : a.size ≤ reachBytes ∧ b.size ≤ reachBytes := by
  have e : (DataW.agg [.lit (.string a.data.toList), .lit (.string b.data.toList)] : DataW H).weights Tryz.prog 40 = [a.data.toList.length, b.data.toList.length] := by
    simp [DataW.weights, DataW.weightsEach, Tryz.underlying40]
  rw [e] at h
  simpa using h

set_option maxRecDepth 100000 in
/-- a slice of fields -/
theorem open_fs {fuel : Nat} {A : Option Addr} {len cap : Nat} {x : DataW H × List MemPlace} (h : DataW.trod enc Tryz.prog w base sp held fuel 27 [.slice A len cap] = some x) :
    ∃ xs : List Fd, Fs w ⟨A, len, cap⟩ xs ∧ ((x.1.weights Tryz.prog 27).all (· ≤ reachBytes) = true → ∀ f ∈ xs, f.1.size ≤ reachBytes ∧ f.2.size ≤ reachBytes) := by
  rcases Go.Deep.open_slice Tryz.underlying27 h with ⟨hcs, _⟩ | ⟨a, len', cap', m, n, D, Pl, hcs, _, hl, hm, hmm, hx, hall⟩
  · simp at hcs
    obtain ⟨rfl, rfl, rfl⟩ := hcs
    exact ⟨[], ⟨rfl, fun h => absurd h (by simp [fvs]), fun _ => rfl, Nat.le_refl _, Nat.zero_le _⟩, fun _ f hf => by cases hf⟩
  · simp at hcs
    obtain ⟨rfl, rfl, rfl⟩ := hcs
    have hlm : len ≤ m := by rw [hmm]; split <;> omega
    by_cases hp0 : len = 0
    · subst hp0
      exact ⟨[], ⟨rfl, fun h => absurd h (by simp [fvs]), (fun h => by cases h), Nat.zero_le _, hm⟩, fun _ f hf => by cases hf⟩
    · obtain ⟨b, o, spot⟩ := a
      have hspot : spot = none := by
        obtain ⟨cs', hc, ht⟩ := hall 0 (by omega)
        rw [cells32] at hc
        obtain ⟨p, q, rfl, _⟩ := open_field ht
        obtain ⟨_, _, hcell⟩ := World.cells?_some hc
        have h0 := hcell 0 (by omega)
        have := World.cell?_spot h0
        simpa [Addr.add] using this
      subst hspot
      have hone : ∀ i : Nat, ∃ t : Fd, i < len → w.cell? ⟨b, o + i * 2, none⟩ = some (.string t.1) ∧ w.cell? ⟨b, o + i * 2 + 1, none⟩ = some (.string t.2) ∧ D i = .agg [.lit (.string t.1.data.toList), .lit (.string t.2.data.toList)] := by
        intro i
        by_cases hi : i < len
        · obtain ⟨cs', hc, ht⟩ := hall i (by omega)
          rw [cells32] at hc
          obtain ⟨p, q, rfl, hd⟩ := open_field ht
          obtain ⟨_, _, hcell⟩ := World.cells?_some hc
          have h0 := hcell 0 (by omega)
          have h1 := hcell 1 (by omega)
          rw [Addr.add_lit, Addr.add_lit] at h0 h1
          exact ⟨(p, q), fun _ => ⟨by simpa using h0, by simpa using h1, hd⟩⟩
        · exact ⟨(⟨#[]⟩, ⟨#[]⟩), fun h => absurd h hi⟩
      obtain ⟨f, hf⟩ := Classical.axiomOfChoice hone
      have hat : ∀ j, j < len → ((List.range len).map f)[j]? = some (f j) := fun j hj => by rw [List.getElem?_map, List.getElem?_range hj]; rfl
      refine ⟨(List.range len).map f, ⟨by simp, ?_, (fun h => by cases h), hl, hm⟩, ?_⟩
      · intro _
        refine ⟨b, o, rfl, World.block_lt_of_cell? w _ (hf 0 (by omega)).1, fun j u hu => ?_⟩
        have hjl := (List.getElem?_eq_some_iff.1 hu).1
        rw [fvs_len, List.length_map, List.length_range] at hjl
        obtain ⟨q0, q1⟩ := fvs_at _ (j / 2) _ (hat (j / 2) (by omega))
        rcases Nat.mod_two_eq_zero_or_one j with h2 | h2
        · have e : j = j / 2 * 2 := by omega
          rw [← e, hu] at q0
          rw [Option.some.inj q0]
          have := (hf (j / 2) (by omega)).1
          rw [← e] at this
          exact this
        · have e : j = j / 2 * 2 + 1 := by omega
          rw [← e, hu] at q1
          rw [Option.some.inj q1]
          have := (hf (j / 2) (by omega)).2.1
          rw [Nat.add_assoc, ← e] at this
          exact this
      · intro hw t ht
        obtain ⟨j, hj, rfl⟩ := List.mem_map.1 ht
        have hj' := List.mem_range.1 hj
        rw [hx] at hw
        simp only [DataW.weights, Tryz.underlying27, List.all_cons, List.all_append, Bool.and_eq_true] at hw
        have := weights_mem _ hw.2.1 (D j) (List.mem_map.2 ⟨j, hj, rfl⟩)
        rw [(hf j hj').2.2] at this
        exact field_w this

/-- a slice's one cell -/
theorem slice_cell {fuel : Nat} {v : Value} {x : DataW H × List MemPlace} (h : DataW.trod enc Tryz.prog w base sp held fuel 27 [v] = some x) : ∃ A n c, v = .slice A n c := by
  rcases Go.Deep.open_slice Tryz.underlying27 h with ⟨hcs, _⟩ | ⟨a, len', cap', m, n, D, Pl, hcs, _⟩
  · simp at hcs
    exact ⟨none, 0, 0, hcs⟩
  · simp at hcs
    exact ⟨some a, len', cap', hcs⟩
/-- a number in memory -/
theorem open_num {fuel : Nat} {cs : List Value} {x : DataW H × List MemPlace} (h : DataW.trod enc Tryz.prog w base sp held fuel 3 cs = some x) : ∃ n : Int, cs = [.int .i64 n] ∧ x.1 = .lit (.int .i64 n) := by
  obtain ⟨n, h1, h2, _⟩ := DataW.trod_int Tryz.underlying3 h
  exact ⟨n, h1, by rw [h2]⟩
theorem open_err {fuel : Nat} {cs : List Value} {x : DataW H × List MemPlace} (h : DataW.trod enc Tryz.prog w base sp held fuel 30 cs = some x) : ∃ n : Int, cs = [.int .i64 n] ∧ x.1 = .lit (.int .i64 n) := by
  obtain ⟨n, h1, h2, _⟩ := DataW.trod_int Tryz.underlying30 h
  exact ⟨n, h1, by rw [h2]⟩
theorem open_bit {fuel : Nat} {cs : List Value} {x : DataW H × List MemPlace} (h : DataW.trod enc Tryz.prog w base sp held fuel 4 cs = some x) : ∃ n : Bool, cs = [.bool n] ∧ x.1 = .lit (.bool n) := by
  obtain ⟨n, h1, h2⟩ := DataW.trod_bool Tryz.underlying4 h
  exact ⟨n, h1, by rw [h2]⟩
theorem cellsH : Tryz.prog.cellsOf 29 = 6 := by kernel_rfl
theorem cellsK : Tryz.prog.cellsOf 26 = 4 := by kernel_rfl
theorem cellsF : Tryz.prog.cellsOf 24 = 2 := by kernel_rfl
theorem cellsR : Tryz.prog.cellsOf 32 = 17 := by kernel_rfl
theorem cellsE : Tryz.prog.cellsOf 30 = 1 := by kernel_rfl
theorem cells3 : Tryz.prog.cellsOf 3 = 1 := by kernel_rfl
theorem cells4 : Tryz.prog.cellsOf 4 = 1 := by kernel_rfl
theorem cellsL : Tryz.prog.cellsOf 27 = 1 := by kernel_rfl
set_option maxRecDepth 100000 in
theorem open_hd {fuel : Nat} {cs : List Value} {x : DataW H × List MemPlace} (hl : cs.length = 6) (h : DataW.trod enc Tryz.prog w base sp held fuel 29 cs = some x) :
    ∃ (m t : ByteArray) (st : Int) (r : ByteArray) (mi : Int) (A : Option Addr) (n c : Nat) (fs : List Fd), cs = [.string m, .string t, .int .i64 st, .string r, .int .i64 mi, .slice A n c] ∧ Fs w ⟨A, n, c⟩ fs ∧
      ((x.1.weights Tryz.prog 29).all (· ≤ reachBytes) = true → m.size ≤ reachBytes ∧ t.size ≤ reachBytes ∧ r.size ≤ reachBytes ∧ ∀ f ∈ fs, f.1.size ≤ reachBytes ∧ f.2.size ≤ reachBytes) := by
  match cs, hl with
  | [c0, c1, c2, c3, c4, c5], _ =>
    obtain ⟨xs, n, _, hx, _, hlen, hg⟩ := DataW.trod_struct Tryz.underlying29 h
    match xs, hlen with
    | [y0, y1, y2, y3, y4, y5], _ =>
      have g0 : DataW.trod enc Tryz.prog w base sp held n 9 (([c0, c1, c2, c3, c4, c5].drop 0).take (Tryz.prog.cellsOf 9)) = some y0 := hg 0 _ rfl
      rw [cells9] at g0
      replace g0 : DataW.trod enc Tryz.prog w base sp held n 9 [c0] = some y0 := g0
      have g1 : DataW.trod enc Tryz.prog w base sp held n 9 (([c0, c1, c2, c3, c4, c5].drop 1).take (Tryz.prog.cellsOf 9)) = some y1 := hg 1 _ rfl
      rw [cells9] at g1
      replace g1 : DataW.trod enc Tryz.prog w base sp held n 9 [c1] = some y1 := g1
      have g2 : DataW.trod enc Tryz.prog w base sp held n 3 (([c0, c1, c2, c3, c4, c5].drop 2).take (Tryz.prog.cellsOf 3)) = some y2 := hg 2 _ rfl
      rw [cells3] at g2
      replace g2 : DataW.trod enc Tryz.prog w base sp held n 3 [c2] = some y2 := g2
      have g3 : DataW.trod enc Tryz.prog w base sp held n 9 (([c0, c1, c2, c3, c4, c5].drop 3).take (Tryz.prog.cellsOf 9)) = some y3 := hg 3 _ rfl
      rw [cells9] at g3
      replace g3 : DataW.trod enc Tryz.prog w base sp held n 9 [c3] = some y3 := g3
      have g4 : DataW.trod enc Tryz.prog w base sp held n 3 (([c0, c1, c2, c3, c4, c5].drop 4).take (Tryz.prog.cellsOf 3)) = some y4 := hg 4 _ rfl
      rw [cells3] at g4
      replace g4 : DataW.trod enc Tryz.prog w base sp held n 3 [c4] = some y4 := g4
      have g5 : DataW.trod enc Tryz.prog w base sp held n 27 (([c0, c1, c2, c3, c4, c5].drop 5).take (Tryz.prog.cellsOf 27)) = some y5 := hg 5 _ rfl
      rw [cellsL] at g5
      replace g5 : DataW.trod enc Tryz.prog w base sp held n 27 [c5] = some y5 := g5
      obtain ⟨m, e0, d0⟩ := open_text g0
      obtain ⟨t, e1, d1⟩ := open_text g1
      obtain ⟨st, e2, d2⟩ := open_num g2
      obtain ⟨r, e3, d3⟩ := open_text g3
      obtain ⟨mi, e4, d4⟩ := open_num g4
      obtain ⟨A, ln, cp, rfl⟩ := slice_cell g5
      obtain ⟨fs, hFs, hw⟩ := open_fs g5
      simp only [List.cons.injEq, and_true] at e0 e1 e2 e3 e4
      subst e0 e1 e2 e3 e4
      refine ⟨m, t, st, r, mi, A, ln, cp, fs, rfl, hFs, fun hall => ?_⟩
      have hx1 : x.1 = .agg [y0.1, y1.1, y2.1, y3.1, y4.1, y5.1] := by rw [hx]; rfl
      have e : x.1.weights Tryz.prog 29 = [m.data.toList.length, t.data.toList.length, r.data.toList.length] ++ y5.1.weights Tryz.prog 27 := by
        rw [hx1, d0, d1, d2, d3, d4]
        simp [DataW.weights, DataW.weightsEach, Tryz.underlying29]
      rw [e, List.all_append, Bool.and_eq_true] at hall
      have h3 : m.size ≤ reachBytes ∧ t.size ≤ reachBytes ∧ r.size ≤ reachBytes := by simpa using hall.1
      exact ⟨h3.1, h3.2.1, h3.2.2, hw hall.2⟩
set_option maxRecDepth 100000 in
theorem open_cks {fuel : Nat} {cs : List Value} {x : DataW H × List MemPlace} (hl : cs.length = 4) (h : DataW.trod enc Tryz.prog w base sp held fuel 26 cs = some x) :
    ∃ (s l : Int) (ln : ByteArray) (m : Int), cs = [.int .i64 s, .int .i64 l, .string ln, .int .i64 m] ∧ ((x.1.weights Tryz.prog 26).all (· ≤ reachBytes) = true → ln.size ≤ reachBytes) := by
  match cs, hl with
  | [c0, c1, c2, c3], _ =>
    obtain ⟨xs, n, _, hx, _, hlen, hg⟩ := DataW.trod_struct Tryz.underlying26 h
    match xs, hlen with
    | [y0, y1, y2, y3], _ =>
      have g0 : DataW.trod enc Tryz.prog w base sp held n 3 (([c0, c1, c2, c3].drop 0).take (Tryz.prog.cellsOf 3)) = some y0 := hg 0 _ rfl
      rw [cells3] at g0
      replace g0 : DataW.trod enc Tryz.prog w base sp held n 3 [c0] = some y0 := g0
      have g1 : DataW.trod enc Tryz.prog w base sp held n 3 (([c0, c1, c2, c3].drop 1).take (Tryz.prog.cellsOf 3)) = some y1 := hg 1 _ rfl
      rw [cells3] at g1
      replace g1 : DataW.trod enc Tryz.prog w base sp held n 3 [c1] = some y1 := g1
      have g2 : DataW.trod enc Tryz.prog w base sp held n 9 (([c0, c1, c2, c3].drop 2).take (Tryz.prog.cellsOf 9)) = some y2 := hg 2 _ rfl
      rw [cells9] at g2
      replace g2 : DataW.trod enc Tryz.prog w base sp held n 9 [c2] = some y2 := g2
      have g3 : DataW.trod enc Tryz.prog w base sp held n 3 (([c0, c1, c2, c3].drop 3).take (Tryz.prog.cellsOf 3)) = some y3 := hg 3 _ rfl
      rw [cells3] at g3
      replace g3 : DataW.trod enc Tryz.prog w base sp held n 3 [c3] = some y3 := g3
      obtain ⟨s, e0, d0⟩ := open_num g0
      obtain ⟨l, e1, d1⟩ := open_num g1
      obtain ⟨ln, e2, d2⟩ := open_text g2
      obtain ⟨m, e3, d3⟩ := open_num g3
      simp only [List.cons.injEq, and_true] at e0 e1 e2 e3
      subst e0 e1 e2 e3
      refine ⟨s, l, ln, m, rfl, fun hall => ?_⟩
      have hx1 : x.1 = .agg [y0.1, y1.1, y2.1, y3.1] := by rw [hx]; rfl
      have e : x.1.weights Tryz.prog 26 = [ln.data.toList.length] := by
        rw [hx1, d0, d1, d2, d3]
        simp [DataW.weights, DataW.weightsEach, Tryz.underlying26]
      rw [e] at hall
      simpa using hall
set_option maxRecDepth 100000 in
theorem open_frm {fuel : Nat} {cs : List Value} {x : DataW H × List MemPlace} (hl : cs.length = 2) (h : DataW.trod enc Tryz.prog w base sp held fuel 24 cs = some x) :
    ∃ (k z : Int), cs = [.int .i64 k, .int .i64 z] := by
  match cs, hl with
  | [c0, c1], _ =>
    obtain ⟨xs, n, _, hx, _, hlen, hg⟩ := DataW.trod_struct Tryz.underlying24 h
    match xs, hlen with
    | [y0, y1], _ =>
      have g0 : DataW.trod enc Tryz.prog w base sp held n 3 (([c0, c1].drop 0).take (Tryz.prog.cellsOf 3)) = some y0 := hg 0 _ rfl
      rw [cells3] at g0
      replace g0 : DataW.trod enc Tryz.prog w base sp held n 3 [c0] = some y0 := g0
      have g1 : DataW.trod enc Tryz.prog w base sp held n 3 (([c0, c1].drop 1).take (Tryz.prog.cellsOf 3)) = some y1 := hg 1 _ rfl
      rw [cells3] at g1
      replace g1 : DataW.trod enc Tryz.prog w base sp held n 3 [c1] = some y1 := g1
      obtain ⟨k, e0, d0⟩ := open_num g0
      obtain ⟨z, e1, d1⟩ := open_num g1
      simp only [List.cons.injEq, and_true] at e0 e1
      subst e0 e1
      exact ⟨k, z, rfl⟩
set_option maxRecDepth 100000 in
set_option maxHeartbeats 1000000 in
/-- a reader that came in -/
theorem open_rd {R0 : Reach} {b0 fuel : Nat} {v : Value} {x : DataW H × List MemPlace} (hv : Value.okWide Tryz.prog w R0 b0 32 v) (h : DataW.trod enc Tryz.prog w base sp held fuel 32 v.cells.toList = some x) :
    ∃ (R : Rr) (S : Sli), v = .agg (rcs R S) ∧ Fs w S (mkF R.now.fs) ∧
      ((x.1.weights Tryz.prog 32).all (· ≤ reachBytes) = true → R.hd.length ≤ reachBytes ∧ R.b.length ≤ reachBytes ∧ R.ck.ln.length ≤ reachBytes ∧ R.now.m.length ≤ reachBytes ∧ R.now.t.length ≤ reachBytes ∧ R.now.r.length ≤ reachBytes ∧ ∀ f ∈ R.now.fs, f.1.length ≤ reachBytes ∧ f.2.length ≤ reachBytes) := by
  obtain ⟨cs, rfl, hsz⟩ := okWide_struct Tryz.underlying32 hv
  obtain ⟨l⟩ := cs
  match l, hsz.trans cellsR with
  | [c0, c1, c2, c3, c4, c5, c6, c7, c8, c9, c10, c11, c12, c13, c14, c15, c16], _ =>
    obtain ⟨xs, n, _, hx, _, hlen, hg⟩ := DataW.trod_struct Tryz.underlying32 h
    match xs, hlen with
    | [y0, y1, y2, y3, y4, y5, y6, y7], _ =>
      have g0 : DataW.trod enc Tryz.prog w base sp held n 4 (([c0, c1, c2, c3, c4, c5, c6, c7, c8, c9, c10, c11, c12, c13, c14, c15, c16].drop 0).take (Tryz.prog.cellsOf 4)) = some y0 := hg 0 _ rfl
      rw [cells4] at g0
      replace g0 : DataW.trod enc Tryz.prog w base sp held n 4 [c0] = some y0 := g0
      have g1 : DataW.trod enc Tryz.prog w base sp held n 9 (([c0, c1, c2, c3, c4, c5, c6, c7, c8, c9, c10, c11, c12, c13, c14, c15, c16].drop 1).take (Tryz.prog.cellsOf 9)) = some y1 := hg 1 _ rfl
      rw [cells9] at g1
      replace g1 : DataW.trod enc Tryz.prog w base sp held n 9 [c1] = some y1 := g1
      have g2 : DataW.trod enc Tryz.prog w base sp held n 9 (([c0, c1, c2, c3, c4, c5, c6, c7, c8, c9, c10, c11, c12, c13, c14, c15, c16].drop 2).take (Tryz.prog.cellsOf 9)) = some y2 := hg 2 _ rfl
      rw [cells9] at g2
      replace g2 : DataW.trod enc Tryz.prog w base sp held n 9 [c2] = some y2 := g2
      have g3 : DataW.trod enc Tryz.prog w base sp held n 24 (([c0, c1, c2, c3, c4, c5, c6, c7, c8, c9, c10, c11, c12, c13, c14, c15, c16].drop 3).take (Tryz.prog.cellsOf 24)) = some y3 := hg 3 _ rfl
      rw [cellsF] at g3
      replace g3 : DataW.trod enc Tryz.prog w base sp held n 24 [c3, c4] = some y3 := g3
      have g4 : DataW.trod enc Tryz.prog w base sp held n 9 (([c0, c1, c2, c3, c4, c5, c6, c7, c8, c9, c10, c11, c12, c13, c14, c15, c16].drop 5).take (Tryz.prog.cellsOf 9)) = some y4 := hg 4 _ rfl
      rw [cells9] at g4
      replace g4 : DataW.trod enc Tryz.prog w base sp held n 9 [c5] = some y4 := g4
      have g5 : DataW.trod enc Tryz.prog w base sp held n 26 (([c0, c1, c2, c3, c4, c5, c6, c7, c8, c9, c10, c11, c12, c13, c14, c15, c16].drop 6).take (Tryz.prog.cellsOf 26)) = some y5 := hg 5 _ rfl
      rw [cellsK] at g5
      replace g5 : DataW.trod enc Tryz.prog w base sp held n 26 [c6, c7, c8, c9] = some y5 := g5
      have g6 : DataW.trod enc Tryz.prog w base sp held n 29 (([c0, c1, c2, c3, c4, c5, c6, c7, c8, c9, c10, c11, c12, c13, c14, c15, c16].drop 10).take (Tryz.prog.cellsOf 29)) = some y6 := hg 6 _ rfl
      rw [cellsH] at g6
      replace g6 : DataW.trod enc Tryz.prog w base sp held n 29 [c10, c11, c12, c13, c14, c15] = some y6 := g6
      have g7 : DataW.trod enc Tryz.prog w base sp held n 30 (([c0, c1, c2, c3, c4, c5, c6, c7, c8, c9, c10, c11, c12, c13, c14, c15, c16].drop 16).take (Tryz.prog.cellsOf 30)) = some y7 := hg 7 _ rfl
      rw [cellsE] at g7
      replace g7 : DataW.trod enc Tryz.prog w base sp held n 30 [c16] = some y7 := g7
      obtain ⟨a, e0, d0⟩ := open_bit g0
      obtain ⟨q, e1, d1⟩ := open_text g1
      obtain ⟨hd, e2, d2⟩ := open_text g2
      obtain ⟨k, z, e3⟩ := open_frm rfl g3
      obtain ⟨b, e4, d4⟩ := open_text g4
      obtain ⟨s, l, ln, mm, e5, w5⟩ := open_cks rfl g5
      obtain ⟨m, t, st, r, mi, A, nn, c, fs, e6, hFs, w6⟩ := open_hd rfl g6
      obtain ⟨e, e7, d7⟩ := open_err g7
      simp only [List.cons.injEq, and_true] at e0 e1 e2 e3 e4 e5 e6 e7
      obtain ⟨e30, e31⟩ := e3
      obtain ⟨e50, e51, e52, e53⟩ := e5
      obtain ⟨e60, e61, e62, e63, e64, e65⟩ := e6
      subst e0 e1 e2 e30 e31 e4 e50 e51 e52 e53 e60 e61 e62 e63 e64 e65 e7
      refine ⟨rr a q hd k z b s l ln mm m t st r mi fs e, ⟨A, nn, c⟩, by rw [← rcs_of], by rw [mkF_rr]; exact hFs, fun hall => ?_⟩
      have hx1 : x.1 = .agg [y0.1, y1.1, y2.1, y3.1, y4.1, y5.1, y6.1, y7.1] := by rw [hx]; rfl
      have hw : x.1.weights Tryz.prog 32 = [q.data.toList.length, hd.data.toList.length] ++ y3.1.weights Tryz.prog 24 ++ [b.data.toList.length] ++ y5.1.weights Tryz.prog 26 ++ y6.1.weights Tryz.prog 29 := by
        rw [hx1, d0, d1, d2, d4, d7]
        simp [DataW.weights, DataW.weightsEach, Tryz.underlying32]
      rw [hw] at hall
      simp only [List.all_append, Bool.and_eq_true] at hall
      have h1 : q.size ≤ reachBytes ∧ hd.size ≤ reachBytes := by simpa using hall.1.1.1.1
      have h2 : b.size ≤ reachBytes := by simpa using hall.1.1.2
      have h3 := w5 hall.1.2
      obtain ⟨h4, h5, h6, h7⟩ := w6 hall.2
      simp only [rr, hdOf, ckOf, dl_len]
      refine ⟨h1.2, h2, h3, h4, h5, h6, fun f hf => ?_⟩
      obtain ⟨p, hp, rfl⟩ := List.mem_map.1 hf
      simp only [dl_len]
      exact h7 p hp
end

end Go.Proofs.YtdlihfbaepjliaaGreatDoor
