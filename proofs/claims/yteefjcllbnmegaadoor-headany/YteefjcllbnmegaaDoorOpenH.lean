/-
  A head that came in as an argument: its parts, and its fields as a list.
-/
import Derived.Test.YteefjcllbnmegaaDoorLawA
import Derived.OpenShut
import Derived.ProofKit
import Derived.ChangeSame
import Derived.Deep.Slices
import Derived.Lib.SmallJoins
import Derived.SizedLaws
namespace Go.Proofs.YteefjcllbnmegaaDoor
open Go.RowKit Go.ChangeShapes Go.WideShapes

section
variable {H : Type} {enc : TypeId × Value → H} {w : World} {base : Nat} {sp : Nat → Bool} {held : Bool}

theorem cells32 : Tryd.prog.cellsOf 44 = 2 := by kernel_rfl
theorem cells9 : Tryd.prog.cellsOf 9 = 1 := by kernel_rfl

/-- a text in memory -/
theorem open_text {fuel : Nat} {cs : List Value} {x : DataW H × List MemPlace} (h : DataW.trod enc Tryd.prog w base sp held fuel 9 cs = some x) : ∃ a : ByteArray, cs = [.string a] ∧ x.1 = .lit (.string a.data.toList) := by
  obtain ⟨s, h1, h2, _⟩ := DataW.trod_string Tryd.underlying9 h
  exact ⟨s, h1, by rw [h2]⟩
set_option maxRecDepth 100000 in
/-- a field in memory -/
theorem open_field {fuel : Nat} {cs : List Value} {x : DataW H × List MemPlace} (h : DataW.trod enc Tryd.prog w base sp held fuel 44 cs = some x) : ∃ a b : ByteArray, cs = [.string a, .string b] ∧ x.1 = .agg [.lit (.string a.data.toList), .lit (.string b.data.toList)] := by
  obtain ⟨y0, y1, n, hx, hl, h0, h1⟩ := trod_struct2 Tryd.underlying44 h
  obtain ⟨a, e0, d0⟩ := open_text h0
  obtain ⟨b, e1, d1⟩ := open_text h1
  rw [cells32] at hl
  rw [cells9] at e0 e1
  match cs, hl with
  | [u, v], _ =>
    simp at e0 e1
    subst e0
    subst e1
    exact ⟨a, b, rfl, by rw [hx, d0, d1]⟩
theorem weights_mem {e : TypeId} : ∀ (ds : List (DataW H)), (DataW.weightsAll Tryd.prog e ds).all (· ≤ reachBytes) = true → ∀ d ∈ ds, (d.weights Tryd.prog e).all (· ≤ reachBytes) = true
  | [], _, d, h => by cases h
  | x :: r, hw, d, h => by
    simp only [DataW.weightsAll, List.all_append, Bool.and_eq_true] at hw
    rcases List.mem_cons.1 h with rfl | h
    · exact hw.1
    · exact weights_mem r hw.2 d h
theorem text_w {a : ByteArray} (h : ((DataW.lit (.string a.data.toList) : DataW H).weights Tryd.prog 9).all (· ≤ reachBytes) = true) : a.size ≤ reachBytes := by
  simpa [DataW.weights] using h
theorem field_w {a b : ByteArray} (h : ((DataW.agg [.lit (.string a.data.toList), .lit (.string b.data.toList)] : DataW H).weights Tryd.prog 44).all (· ≤ reachBytes) = true) : a.size ≤ reachBytes ∧ b.size ≤ reachBytes := by
  have e : (DataW.agg [.lit (.string a.data.toList), .lit (.string b.data.toList)] : DataW H).weights Tryd.prog 44 = [a.data.toList.length, b.data.toList.length] := by
    simp [DataW.weights, DataW.weightsEach, Tryd.underlying44]
  rw [e] at h
  simpa using h

set_option maxRecDepth 100000 in
/-- a slice of fields -/
theorem open_fs {fuel : Nat} {A : Option Addr} {len cap : Nat} {x : DataW H × List MemPlace} (h : DataW.trod enc Tryd.prog w base sp held fuel 24 [.slice A len cap] = some x) :
    ∃ xs : List Fd, Fs w ⟨A, len, cap⟩ xs ∧ ((x.1.weights Tryd.prog 24).all (· ≤ reachBytes) = true → ∀ f ∈ xs, f.1.size ≤ reachBytes ∧ f.2.size ≤ reachBytes) := by
  rcases Go.Deep.open_slice Tryd.underlying24 h with ⟨hcs, _⟩ | ⟨a, len', cap', m, n, D, Pl, hcs, _, hl, hm, hmm, hx, hall⟩
  · simp at hcs
    obtain ⟨rfl, rfl, rfl⟩ := hcs
    exact ⟨[], ⟨rfl, fun h => absurd h (by simp [fvs]), fun _ => rfl, Nat.le_refl _, Nat.zero_le _⟩, fun _ f hf => by cases hf⟩
  · simp at hcs
    obtain ⟨rfl, rfl, rfl⟩ := hcs
    have hlm : len ≤ m := by rw [hmm]; split <;> omega
    by_cases hp0 : len = 0
    · subst hp0
      exact ⟨[], ⟨rfl, fun h => absurd h (by simp [fvs]), (fun h => by cases h), Nat.zero_le _, hm⟩, fun _ f hf => by cases hf⟩
    · obtain ⟨b, o, spot⟩ := a
      have hspot : spot = none := by
        obtain ⟨cs', hc, ht⟩ := hall 0 (by omega)
        rw [cells32] at hc
        obtain ⟨p, q, rfl, _⟩ := open_field ht
        obtain ⟨_, _, hcell⟩ := World.cells?_some hc
        have h0 := hcell 0 (by omega)
        have := World.cell?_spot h0
        simpa [Addr.add] using this
      subst hspot
      have hone : ∀ i : Nat, ∃ t : Fd, i < len → w.cell? ⟨b, o + i * 2, none⟩ = some (.string t.1) ∧ w.cell? ⟨b, o + i * 2 + 1, none⟩ = some (.string t.2) ∧ D i = .agg [.lit (.string t.1.data.toList), .lit (.string t.2.data.toList)] := by
        intro i
        by_cases hi : i < len
        · obtain ⟨cs', hc, ht⟩ := hall i (by omega)
          rw [cells32] at hc
          obtain ⟨p, q, rfl, hd⟩ := open_field ht
          obtain ⟨_, _, hcell⟩ := World.cells?_some hc
          have h0 := hcell 0 (by omega)
          have h1 := hcell 1 (by omega)
          rw [Addr.add_lit, Addr.add_lit] at h0 h1
          exact ⟨(p, q), fun _ => ⟨by simpa using h0, by simpa using h1, hd⟩⟩
        · exact ⟨(⟨#[]⟩, ⟨#[]⟩), fun h => absurd h hi⟩
      obtain ⟨f, hf⟩ := Classical.axiomOfChoice hone
      have hat : ∀ j, j < len → ((List.range len).map f)[j]? = some (f j) := fun j hj => by rw [List.getElem?_map, List.getElem?_range hj]; rfl
      refine ⟨(List.range len).map f, ⟨by simp, ?_, (fun h => by cases h), hl, hm⟩, ?_⟩
      · intro _
        refine ⟨b, o, rfl, World.block_lt_of_cell? w _ (hf 0 (by omega)).1, fun j u hu => ?_⟩
        have hjl := (List.getElem?_eq_some_iff.1 hu).1
        rw [fvs_len, List.length_map, List.length_range] at hjl
        obtain ⟨q0, q1⟩ := fvs_at _ (j / 2) _ (hat (j / 2) (by omega))
        rcases Nat.mod_two_eq_zero_or_one j with h2 | h2
        · have e : j = j / 2 * 2 := by omega
          rw [← e, hu] at q0
          rw [Option.some.inj q0]
          have := (hf (j / 2) (by omega)).1
          rw [← e] at this
          exact this
        · have e : j = j / 2 * 2 + 1 := by omega
          rw [← e, hu] at q1
          rw [Option.some.inj q1]
          have := (hf (j / 2) (by omega)).2.1
          rw [Nat.add_assoc, ← e] at this
          exact this
      · intro hw t ht
        obtain ⟨j, hj, rfl⟩ := List.mem_map.1 ht
        have hj' := List.mem_range.1 hj
        rw [hx] at hw
        simp only [DataW.weights, Tryd.underlying24, List.all_cons, List.all_append, Bool.and_eq_true] at hw
        have := weights_mem _ hw.2.1 (D j) (List.mem_map.2 ⟨j, hj, rfl⟩)
        rw [(hf j hj').2.2] at this
        exact field_w this

/-- a slice's one cell -/
theorem slice_cell {fuel : Nat} {v : Value} {x : DataW H × List MemPlace} (h : DataW.trod enc Tryd.prog w base sp held fuel 24 [v] = some x) : ∃ A n c, v = .slice A n c := by
  rcases Go.Deep.open_slice Tryd.underlying24 h with ⟨hcs, _⟩ | ⟨a, len', cap', m, n, D, Pl, hcs, _⟩
  · simp at hcs
    exact ⟨none, 0, 0, hcs⟩
  · simp at hcs
    exact ⟨some a, len', cap', hcs⟩
/-- a number in memory -/
theorem open_num {fuel : Nat} {cs : List Value} {x : DataW H × List MemPlace} (h : DataW.trod enc Tryd.prog w base sp held fuel 3 cs = some x) : ∃ n : Int, cs = [.int .i64 n] ∧ x.1 = .lit (.int .i64 n) := by
  obtain ⟨n, h1, h2, _⟩ := DataW.trod_int Tryd.underlying3 h
  exact ⟨n, h1, by rw [h2]⟩
theorem cellsH : Tryd.prog.cellsOf 26 = 6 := by kernel_rfl
theorem cells3 : Tryd.prog.cellsOf 3 = 1 := by kernel_rfl
theorem cellsL : Tryd.prog.cellsOf 24 = 1 := by kernel_rfl

set_option maxRecDepth 100000 in
/-- a head that came in -/
theorem open_head {R : Reach} {b0 fuel : Nat} {v : Value} {x : DataW H × List MemPlace} (hv : Value.okWide Tryd.prog w R b0 26 v) (h : DataW.trod enc Tryd.prog w base sp held fuel 26 v.cells.toList = some x) :
    ∃ (m t : ByteArray) (st : Int) (r : ByteArray) (mi : Int) (A : Option Addr) (n c : Nat) (fs : List Fd), v = .agg #[.string m, .string t, .int .i64 st, .string r, .int .i64 mi, .slice A n c] ∧ Fs w ⟨A, n, c⟩ fs ∧
      ((x.1.weights Tryd.prog 26).all (· ≤ reachBytes) = true → m.size ≤ reachBytes ∧ t.size ≤ reachBytes ∧ r.size ≤ reachBytes ∧ ∀ f ∈ fs, f.1.size ≤ reachBytes ∧ f.2.size ≤ reachBytes) := by
  obtain ⟨cs, rfl, hsz⟩ := okWide_struct Tryd.underlying26 hv
  obtain ⟨l⟩ := cs
  match l, hsz.trans cellsH with
  | [c0, c1, c2, c3, c4, c5], _ =>
    obtain ⟨xs, n, _, hx, _, hlen, hg⟩ := DataW.trod_struct Tryd.underlying26 h
    match xs, hlen with
    | [y0, y1, y2, y3, y4, y5], _ =>
      have g0 : DataW.trod enc Tryd.prog w base sp held n 9 (([c0, c1, c2, c3, c4, c5].drop 0).take (Tryd.prog.cellsOf 9)) = some y0 := hg 0 _ rfl
      rw [cells9] at g0
      replace g0 : DataW.trod enc Tryd.prog w base sp held n 9 [c0] = some y0 := g0
      have g1 : DataW.trod enc Tryd.prog w base sp held n 9 (([c0, c1, c2, c3, c4, c5].drop 1).take (Tryd.prog.cellsOf 9)) = some y1 := hg 1 _ rfl
      rw [cells9] at g1
      replace g1 : DataW.trod enc Tryd.prog w base sp held n 9 [c1] = some y1 := g1
      have g2 : DataW.trod enc Tryd.prog w base sp held n 3 (([c0, c1, c2, c3, c4, c5].drop 2).take (Tryd.prog.cellsOf 3)) = some y2 := hg 2 _ rfl
      rw [cells3] at g2
      replace g2 : DataW.trod enc Tryd.prog w base sp held n 3 [c2] = some y2 := g2
      have g3 : DataW.trod enc Tryd.prog w base sp held n 9 (([c0, c1, c2, c3, c4, c5].drop 3).take (Tryd.prog.cellsOf 9)) = some y3 := hg 3 _ rfl
      rw [cells9] at g3
      replace g3 : DataW.trod enc Tryd.prog w base sp held n 9 [c3] = some y3 := g3
      have g4 : DataW.trod enc Tryd.prog w base sp held n 3 (([c0, c1, c2, c3, c4, c5].drop 4).take (Tryd.prog.cellsOf 3)) = some y4 := hg 4 _ rfl
      rw [cells3] at g4
      replace g4 : DataW.trod enc Tryd.prog w base sp held n 3 [c4] = some y4 := g4
      have g5 : DataW.trod enc Tryd.prog w base sp held n 24 (([c0, c1, c2, c3, c4, c5].drop 5).take (Tryd.prog.cellsOf 24)) = some y5 := hg 5 _ rfl
      rw [cellsL] at g5
      replace g5 : DataW.trod enc Tryd.prog w base sp held n 24 [c5] = some y5 := g5
      obtain ⟨m, e0, d0⟩ := open_text g0
      obtain ⟨t, e1, d1⟩ := open_text g1
      obtain ⟨st, e2, d2⟩ := open_num g2
      obtain ⟨r, e3, d3⟩ := open_text g3
      obtain ⟨mi, e4, d4⟩ := open_num g4
      obtain ⟨A, ln, cp, rfl⟩ := slice_cell g5
      obtain ⟨fs, hFs, hw⟩ := open_fs g5
      simp only [List.cons.injEq, and_true] at e0 e1 e2 e3 e4
      subst e0 e1 e2 e3 e4
      refine ⟨m, t, st, r, mi, A, ln, cp, fs, rfl, hFs, fun hall => ?_⟩
      have hx1 : x.1 = .agg [y0.1, y1.1, y2.1, y3.1, y4.1, y5.1] := by rw [hx]; rfl
      have e : x.1.weights Tryd.prog 26 = [m.data.toList.length, t.data.toList.length, r.data.toList.length] ++ y5.1.weights Tryd.prog 24 := by
        rw [hx1, d0, d1, d2, d3, d4]
        simp [DataW.weights, DataW.weightsEach, Tryd.underlying26]
      rw [e, List.all_append, Bool.and_eq_true] at hall
      have h3 : m.size ≤ reachBytes ∧ t.size ≤ reachBytes ∧ r.size ≤ reachBytes := by simpa using hall.1
      exact ⟨h3.1, h3.2.1, h3.2.2, hw hall.2⟩
end

end Go.Proofs.YteefjcllbnmegaaDoor
