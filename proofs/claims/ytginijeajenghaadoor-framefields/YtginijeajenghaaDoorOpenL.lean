/-
  Slices of fields and of texts that came in as arguments read as lists.
-/
import Derived.Test.YtginijeajenghaaDoorHdU
import Derived.OpenShut
import Derived.ProofKit
import Derived.ChangeSame
import Derived.Deep.Slices
import Derived.Lib.SmallJoins
import Derived.SizedLaws
namespace Go.Proofs.YtginijeajenghaaDoor
open Go.RowKit Go.ChangeShapes Go.WideShapes

section
variable {H : Type} {enc : TypeId × Value → H} {w : World} {base : Nat} {sp : Nat → Bool} {held : Bool}

theorem cells32 : Tryd.prog.cellsOf 32 = 2 := by kernel_rfl
theorem cells9 : Tryd.prog.cellsOf 9 = 1 := by kernel_rfl

/-- a text in memory -/
theorem open_text {fuel : Nat} {cs : List Value} {x : DataW H × List MemPlace} (h : DataW.trod enc Tryd.prog w base sp held fuel 9 cs = some x) : ∃ a : ByteArray, cs = [.string a] ∧ x.1 = .lit (.string a.data.toList) := by
  obtain ⟨s, h1, h2, _⟩ := DataW.trod_string Tryd.underlying9 h
  exact ⟨s, h1, by rw [h2]⟩
/-- a field in memory -/
theorem open_field {fuel : Nat} {cs : List Value} {x : DataW H × List MemPlace} (h : DataW.trod enc Tryd.prog w base sp held fuel 32 cs = some x) : ∃ a b : ByteArray, cs = [.string a, .string b] ∧ x.1 = .agg [.lit (.string a.data.toList), .lit (.string b.data.toList)] := by
  obtain ⟨y0, y1, n, hx, hl, h0, h1⟩ := trod_struct2 Tryd.underlying32 h
  obtain ⟨a, e0, d0⟩ := open_text h0
  obtain ⟨b, e1, d1⟩ := open_text h1
  rw [cells32] at hl
  rw [cells9] at e0 e1
  match cs, hl with
  | [u, v], _ =>
    simp at e0 e1
    subst e0
    subst e1
    exact ⟨a, b, rfl, by rw [hx, d0, d1]⟩
theorem weights_mem {e : TypeId} : ∀ (ds : List (DataW H)), (DataW.weightsAll Tryd.prog e ds).all (· ≤ reachBytes) = true → ∀ d ∈ ds, (d.weights Tryd.prog e).all (· ≤ reachBytes) = true
  | [], _, d, h => by cases h
  | x :: r, hw, d, h => by
    simp only [DataW.weightsAll, List.all_append, Bool.and_eq_true] at hw
    rcases List.mem_cons.1 h with rfl | h
    · exact hw.1
    · exact weights_mem r hw.2 d h
theorem text_w {a : ByteArray} (h : ((DataW.lit (.string a.data.toList) : DataW H).weights Tryd.prog 9).all (· ≤ reachBytes) = true) : a.size ≤ reachBytes := by
  simpa [DataW.weights] using h
theorem field_w {a b : ByteArray} (h : ((DataW.agg [.lit (.string a.data.toList), .lit (.string b.data.toList)] : DataW H).weights Tryd.prog 32).all (· ≤ reachBytes) = true) : a.size ≤ reachBytes ∧ b.size ≤ reachBytes := by
  have e : (DataW.agg [.lit (.string a.data.toList), .lit (.string b.data.toList)] : DataW H).weights Tryd.prog 32 = [a.data.toList.length, b.data.toList.length] := by
    simp [DataW.weights, DataW.weightsEach, Tryd.underlying32]
  rw [e] at h
  simpa using h

set_option maxRecDepth 100000 in
/-- a slice of fields -/
theorem open_fs {fuel : Nat} {A : Option Addr} {len cap : Nat} {x : DataW H × List MemPlace} (h : DataW.trod enc Tryd.prog w base sp held fuel 23 [.slice A len cap] = some x) :
    ∃ xs : List Fd, Fs w ⟨A, len, cap⟩ xs ∧ ((x.1.weights Tryd.prog 23).all (· ≤ reachBytes) = true → ∀ f ∈ xs, f.1.size ≤ reachBytes ∧ f.2.size ≤ reachBytes) := by
  rcases Go.Deep.open_slice Tryd.underlying23 h with ⟨hcs, _⟩ | ⟨a, len', cap', m, n, D, Pl, hcs, _, hl, hm, hmm, hx, hall⟩
  · simp at hcs
    obtain ⟨rfl, rfl, rfl⟩ := hcs
    exact ⟨[], ⟨rfl, fun h => absurd h (by simp [fvs]), fun _ => rfl, Nat.le_refl _, Nat.zero_le _⟩, fun _ f hf => by cases hf⟩
  · simp at hcs
    obtain ⟨rfl, rfl, rfl⟩ := hcs
    have hlm : len ≤ m := by rw [hmm]; split <;> omega
    by_cases hp0 : len = 0
    · subst hp0
      exact ⟨[], ⟨rfl, fun h => absurd h (by simp [fvs]), (fun h => by cases h), Nat.zero_le _, hm⟩, fun _ f hf => by cases hf⟩
    · obtain ⟨b, o, spot⟩ := a
      have hspot : spot = none := by
        obtain ⟨cs', hc, ht⟩ := hall 0 (by omega)
        rw [cells32] at hc
        obtain ⟨p, q, rfl, _⟩ := open_field ht
        obtain ⟨_, _, hcell⟩ := World.cells?_some hc
        have h0 := hcell 0 (by omega)
        have := World.cell?_spot h0
        simpa [Addr.add] using this
      subst hspot
      have hone : ∀ i : Nat, ∃ t : Fd, i < len → w.cell? ⟨b, o + i * 2, none⟩ = some (.string t.1) ∧ w.cell? ⟨b, o + i * 2 + 1, none⟩ = some (.string t.2) ∧ D i = .agg [.lit (.string t.1.data.toList), .lit (.string t.2.data.toList)] := by
        intro i
        by_cases hi : i < len
        · obtain ⟨cs', hc, ht⟩ := hall i (by omega)
          rw [cells32] at hc
          obtain ⟨p, q, rfl, hd⟩ := open_field ht
          obtain ⟨_, _, hcell⟩ := World.cells?_some hc
          have h0 := hcell 0 (by omega)
          have h1 := hcell 1 (by omega)
          rw [Addr.add_lit, Addr.add_lit] at h0 h1
          exact ⟨(p, q), fun _ => ⟨by simpa using h0, by simpa using h1, hd⟩⟩
        · exact ⟨(⟨#[]⟩, ⟨#[]⟩), fun h => absurd h hi⟩
      obtain ⟨f, hf⟩ := Classical.axiomOfChoice hone
      have hat : ∀ j, j < len → ((List.range len).map f)[j]? = some (f j) := fun j hj => by rw [List.getElem?_map, List.getElem?_range hj]; rfl
      refine ⟨(List.range len).map f, ⟨by simp, ?_, (fun h => by cases h), hl, hm⟩, ?_⟩
      · intro _
        refine ⟨b, o, rfl, World.block_lt_of_cell? w _ (hf 0 (by omega)).1, fun j u hu => ?_⟩
        have hjl := (List.getElem?_eq_some_iff.1 hu).1
        rw [fvs_len, List.length_map, List.length_range] at hjl
        obtain ⟨q0, q1⟩ := fvs_at _ (j / 2) _ (hat (j / 2) (by omega))
        rcases Nat.mod_two_eq_zero_or_one j with h2 | h2
        · have e : j = j / 2 * 2 := by omega
          rw [← e, hu] at q0
          rw [Option.some.inj q0]
          have := (hf (j / 2) (by omega)).1
          rw [← e] at this
          exact this
        · have e : j = j / 2 * 2 + 1 := by omega
          rw [← e, hu] at q1
          rw [Option.some.inj q1]
          have := (hf (j / 2) (by omega)).2.1
          rw [Nat.add_assoc, ← e] at this
          exact this
      · intro hw t ht
        obtain ⟨j, hj, rfl⟩ := List.mem_map.1 ht
        have hj' := List.mem_range.1 hj
        rw [hx] at hw
        simp only [DataW.weights, Tryd.underlying23, List.all_cons, List.all_append, Bool.and_eq_true] at hw
        have := weights_mem _ hw.2.1 (D j) (List.mem_map.2 ⟨j, hj, rfl⟩)
        rw [(hf j hj').2.2] at this
        exact field_w this

end

end Go.Proofs.YtginijeajenghaaDoor
