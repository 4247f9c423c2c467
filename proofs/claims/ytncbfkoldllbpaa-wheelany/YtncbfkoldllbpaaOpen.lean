/-
  A wheel that came in as an argument reads as a wheel.
-/
import Derived.Test.YtncbfkoldllbpaaStd
import Derived.OpenShut
import Derived.ProofKit
import Derived.ChangeSame
import Derived.Deep.Slices
import Derived.Lib.SmallJoins
namespace Go.Proofs.Ytncbfkoldllbpaa
open Go.RowKit Go.ChangeShapes Go.WideShapes

section
variable {H : Type} {enc : TypeId × Value → H} {w : World} {base : Nat} {sp : Nat → Bool} {held : Bool}

theorem cells34 : Try.prog.cellsOf 34 = 2 := by kernel_rfl
theorem cells22 : Try.prog.cellsOf 22 = 1 := by kernel_rfl
theorem cells23 : Try.prog.cellsOf 23 = 8 := by kernel_rfl
theorem cells25 : Try.prog.cellsOf 25 = 9 := by kernel_rfl
theorem cells3 : Try.prog.cellsOf 3 = 1 := by kernel_rfl

theorem i64_of {x : Int} (h : (Lit.int .i64 x).wf = true) : I64 x := bounds_i64 h

/-- one timer in memory -/
theorem open_timer {fuel : Nat} {cs : List Value} {x : DataW H × List MemPlace} (h : DataW.trod enc Try.prog w base sp held fuel 34 cs = some x) : ∃ a b : Int, cs = [.int .i64 a, .int .i64 b] ∧ I64 a ∧ I64 b := by
  obtain ⟨y0, y1, n, _, hl, h0, h1⟩ := trod_struct2 Try.underlying34 h
  obtain ⟨a, e0, _, w0⟩ := DataW.trod_int Try.underlying3 h0
  obtain ⟨b, e1, _, w1⟩ := DataW.trod_int Try.underlying3 h1
  rw [cells34] at hl
  rw [cells3] at e0 e1
  match cs, hl with
  | [u, v], _ =>
    simp at e0 e1
    subst e0
    subst e1
    exact ⟨a, b, rfl, i64_of w0, i64_of w1⟩

/-- one slot -/
theorem open_slot {fuel : Nat} {cs : List Value} {x : DataW H × List MemPlace} (h : DataW.trod enc Try.prog w base sp held fuel 22 cs = some x) :
    ∃ (s : Sli) (xs : List Tm), cs = [.slice s.A s.n s.c] ∧ xs.length = s.n ∧ Ts w s.A xs ∧ (s.A = none → s.c = 0) ∧ s.n ≤ s.c ∧ s.n ≤ maxLen ∧ (∀ t ∈ xs, I64 t.1 ∧ I64 t.2) ∧ ((x.1.weights Try.prog 22).all (· ≤ reachBytes) = true → s.n * 16 ≤ reachBytes) := by
  rcases Go.Deep.open_slice Try.underlying22 h with ⟨rfl, _⟩ | ⟨a, len, cap, m, n, D, Pl, rfl, _, hl, hm, hmm, hx, hall⟩
  · exact ⟨⟨none, 0, 0⟩, [], rfl, rfl, Ts.nil _ _, fun _ => rfl, Nat.le_refl _, Nat.zero_le _, (fun t ht => by cases ht), fun _ => Nat.zero_le _⟩
  · have hlm : len ≤ m := by rw [hmm]; split <;> omega
    have hwt : (x.1.weights Try.prog 22).all (· ≤ reachBytes) = true → len * 16 ≤ reachBytes := by
      intro hall
      rw [hx] at hall
      simp only [DataW.weights, Try.underlying22, List.all_cons, Bool.and_eq_true, decide_eq_true_eq] at hall
      have h1 := hall.1
      rw [show Try.prog.bytesOf 34 = 16 by kernel_rfl] at h1
      simp only [List.length_map, List.length_range] at h1
      omega
    by_cases hp0 : len = 0
    · subst hp0
      exact ⟨⟨some a, 0, cap⟩, [], rfl, rfl, Ts.nil _ _, (fun h => by cases h), Nat.zero_le _, Nat.zero_le _, (fun t ht => by cases ht), hwt⟩
    · obtain ⟨b, o, spot⟩ := a
      have hspot : spot = none := by
        obtain ⟨cs', hc, ht⟩ := hall 0 (by omega)
        rw [cells34] at hc
        obtain ⟨p, q, rfl, _, _⟩ := open_timer ht
        obtain ⟨_, _, hcell⟩ := World.cells?_some hc
        have h0 := hcell 0 (by omega)
        have := World.cell?_spot h0
        simpa [Addr.add] using this
      subst hspot
      have hone : ∀ i : Nat, ∃ t : Tm, i < len → w.cell? ⟨b, o + i * 2, none⟩ = some (.int .i64 t.1) ∧ w.cell? ⟨b, o + i * 2 + 1, none⟩ = some (.int .i64 t.2) ∧ I64 t.1 ∧ I64 t.2 := by
        intro i
        by_cases hi : i < len
        · obtain ⟨cs', hc, ht⟩ := hall i (by omega)
          rw [cells34] at hc
          obtain ⟨p, q, rfl, hp, hq⟩ := open_timer ht
          obtain ⟨_, _, hcell⟩ := World.cells?_some hc
          have h0 := hcell 0 (by omega)
          have h1 := hcell 1 (by omega)
          rw [Addr.add_lit, Addr.add_lit] at h0 h1
          exact ⟨(p, q), fun _ => ⟨by simpa using h0, by simpa using h1, hp, hq⟩⟩
        · exact ⟨(0, 0), fun h => absurd h hi⟩
      obtain ⟨f, hf⟩ := Classical.axiomOfChoice hone
      refine ⟨⟨some ⟨b, o, none⟩, len, cap⟩, (List.range len).map f, rfl, by simp, ?_, (fun h => by cases h), hl, Nat.le_trans hl hm, ?_, hwt⟩
      · intro _
        refine ⟨b, o, rfl, World.block_lt_of_cell? w _ (hf 0 (by omega)).1, fun j hj => ?_⟩
        have hj' : j < len := by simpa using hj
        have e : ((List.range len).map f)[j]? = some (f j) := by rw [List.getElem?_map, List.getElem?_range hj']; rfl
        rw [e]
        exact ⟨(hf j hj').1, (hf j hj').2.1⟩
      · intro t ht
        obtain ⟨j, hj, rfl⟩ := List.mem_map.1 ht
        exact (hf j (List.mem_range.1 hj)).2.2

theorem array9 {α : Type} {cs : Array α} (h : cs.size = 9) : ∃ c0 c1 c2 c3 c4 c5 c6 c7 c8, cs = #[c0, c1, c2, c3, c4, c5, c6, c7, c8] := by
  obtain ⟨l⟩ := cs
  match l, h with
  | [c0, c1, c2, c3, c4, c5, c6, c7, c8], _ => exact ⟨c0, c1, c2, c3, c4, c5, c6, c7, c8, rfl⟩

theorem weights_mem {e : TypeId} : ∀ (ds : List (DataW H)), (DataW.weightsAll Try.prog e ds).all (· ≤ reachBytes) = true → ∀ d ∈ ds, (d.weights Try.prog e).all (· ≤ reachBytes) = true
  | [], _, d, h => by cases h
  | x :: r, hw, d, h => by
    simp only [DataW.weightsAll, List.all_append, Bool.and_eq_true] at hw
    rcases List.mem_cons.1 h with rfl | h
    · exact hw.1
    · exact weights_mem r hw.2 d h

/-- a wheel -/
theorem open_wheel {r : Reach} {b0 : Nat} {v : Value} {d : DataW H} {p : List MemPlace} (hv : Value.okWide Try.prog w r b0 25 v) (h : DataW.Trod enc Try.prog w base sp held 25 v d p) :
    ∃ (W : Wl) (S : Nat → Sli), v = wv W.now S ∧ At w W S ∧ Wf W ∧ ((d.weights Try.prog 25).all (· ≤ reachBytes) = true → ∀ i, i < 8 → (S i).n * 16 ≤ reachBytes) := by
  obtain ⟨cs, rfl, hsz⟩ := okWide_struct Try.underlying25 hv
  obtain ⟨c0, c1, c2, c3, c4, c5, c6, c7, c8, rfl⟩ := array9 (hsz.trans cells25)
  obtain ⟨fuel, hf⟩ := h
  obtain ⟨y0, y1, n, hd, _, h0, h1⟩ := trod_struct2 Try.underlying25 hf
  obtain ⟨now, e0, _, w0⟩ := DataW.trod_int Try.underlying3 h0
  rw [cells3] at e0
  simp [Value.cells] at e0
  subst e0
  obtain ⟨xs, m, _, hy1, _, hxl, hel⟩ := DataW.trod_array Try.underlying23 h1
  rw [cells22, cells23] at hel
  have hall : ∀ i : Nat, ∃ sx : Sli × List Tm, i < 8 → ((([Value.int .i64 now, c1, c2, c3, c4, c5, c6, c7, c8] : List Value).drop 1).drop i).take 1 = [.slice sx.1.A sx.1.n sx.1.c] ∧ sx.2.length = sx.1.n ∧ Ts w sx.1.A sx.2 ∧ (sx.1.A = none → sx.1.c = 0) ∧ sx.1.n ≤ sx.1.c ∧ sx.1.n ≤ maxLen ∧ (∀ t ∈ sx.2, I64 t.1 ∧ I64 t.2) ∧ ((d.weights Try.prog 25).all (· ≤ reachBytes) = true → sx.1.n * 16 ≤ reachBytes) := by
    intro i
    by_cases hi : i < 8
    · have he := hel i hi
      rw [List.getElem?_eq_getElem (by omega)] at he
      obtain ⟨s, ys, a1, a2, a3, a4, a5, a6, a7, a8⟩ := open_slot he
      refine ⟨(s, ys), fun _ => ⟨?_, a2, a3, a4, a5, a6, a7, fun hw => a8 ?_⟩⟩
      · rw [← a1]
        simp [Value.cells]
      · have e : d = .agg [y0.1, y1.1] := by have := congrArg Prod.fst hd; exact this
        have e1 : y1.1 = .agg (xs.map (·.1)) := by rw [hy1]
        rw [e, e1] at hw
        simp only [DataW.weights, Try.underlying25, Try.underlying23, DataW.weightsEach, List.map_cons, List.map_nil, List.append_nil, List.all_append, Bool.and_eq_true] at hw
        exact weights_mem _ hw.2 _ (List.mem_map.2 ⟨xs[i], List.getElem_mem _, rfl⟩)
    · exact ⟨(⟨none, 0, 0⟩, []), fun h => absurd h hi⟩
  obtain ⟨f, hf⟩ := Classical.axiomOfChoice hall
  refine ⟨⟨now, fun i => (f i).2⟩, fun i => (f i).1, ?_, ⟨fun i hi => (hf i hi).2.1, fun i hi => (hf i hi).2.2.1, fun i hi => (hf i hi).2.2.2.1, fun i hi => ⟨(hf i hi).2.2.2.2.1, (hf i hi).2.2.2.2.2.1⟩⟩, ⟨i64_of w0, fun i hi => (hf i hi).2.2.2.2.2.2.1⟩, fun hw i hi => (hf i hi).2.2.2.2.2.2.2 hw⟩
  have k0 := (hf 0 (by omega)).1
  have k1 := (hf 1 (by omega)).1
  have k2 := (hf 2 (by omega)).1
  have k3 := (hf 3 (by omega)).1
  have k4 := (hf 4 (by omega)).1
  have k5 := (hf 5 (by omega)).1
  have k6 := (hf 6 (by omega)).1
  have k7 := (hf 7 (by omega)).1
  simp at k0 k1 k2 k3 k4 k5 k6 k7
  subst k0 k1 k2 k3 k4 k5 k6 k7
  rfl
end

end Go.Proofs.Ytncbfkoldllbpaa
