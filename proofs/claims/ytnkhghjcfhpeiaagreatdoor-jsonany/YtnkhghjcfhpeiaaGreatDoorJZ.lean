/-
  A value that came in as an argument stands for a value of lists.
-/
import Derived.Test.YtnkhghjcfhpeiaaGreatDoorJH
import Derived.OpenShut
import Derived.ProofKit
import Derived.ChangeSame
import Derived.Deep.Slices
import Derived.Lib.SmallJoins
import Derived.SizedLaws
namespace Go.Proofs.YtnkhghjcfhpeiaaGreatDoor
open Go.RowKit Go.ChangeShapes Go.WideShapes

section
variable {H : Type} {enc : TypeId × Value → H} {w : World} {base : Nat} {sp : Nat → Bool} {held : Bool}

theorem cellsV : Tryz.prog.cellsOf 25 = 4 := by kernel_rfl
theorem cells3 : Tryz.prog.cellsOf 3 = 1 := by kernel_rfl
theorem cellsSs : Tryz.prog.cellsOf 22 = 1 := by kernel_rfl
theorem cellsVs : Tryz.prog.cellsOf 23 = 1 := by kernel_rfl
theorem cells9 : Tryz.prog.cellsOf 9 = 1 := by kernel_rfl
theorem ShL.app : ∀ {vs : List Jv} {v : Jv}, ShL vs → ShJ v → ShL (vs ++ [v])
  | [], v, _, h => by
    rw [List.nil_append, ShL, ShL]
    exact ⟨h, trivial⟩
  | u :: r, v, h, h2 => by
    rw [ShL] at h
    rw [List.cons_append, ShL]
    exact ⟨h.1, ShL.app h.2 h2⟩
/-- a text in memory -/
theorem open_text {fuel : Nat} {cs : List Value} {x : DataW H × List MemPlace} (h : DataW.trod enc Tryz.prog w base sp held fuel 9 cs = some x) : ∃ a : Bs, cs = [.string (tb a)] ∧ a.length ≤ maxLen := by
  obtain ⟨s, h1, _, h3⟩ := DataW.trod_string Tryz.underlying9 h
  exact ⟨dl s, by rw [h1, tb_dl], by rw [dl_len]; exact h3⟩
/-- so many texts in memory -/
theorem texts_from {a : Addr} (hs : a.spot = none) : ∀ n : Nat, (∀ i, i < n → ∃ t : Bs, w.cell? (a.add i) = some (.string (tb t)) ∧ t.length ≤ maxLen) →
    ∃ ks : List Bs, ks.length = n ∧ (∀ k ∈ ks, k.length ≤ maxLen) ∧ ∀ (j : Nat) u, (svs (ks.map tb))[j]? = some u → w.cell? (a.add j) = some u
  | 0, _ => ⟨[], rfl, fun k hk => by (cases hk), fun j u h => by simp [svs] at h⟩
  | n + 1, h => by
    obtain ⟨ks, h1, h2, h3⟩ := texts_from hs n (fun i hi => h i (by omega))
    obtain ⟨t, ht, hl⟩ := h n (by omega)
    refine ⟨ks ++ [t], by simp [h1], fun k hk => ?_, fun j u hu => ?_⟩
    · rcases List.mem_append.1 hk with q | q
      · exact h2 k q
      · rw [List.mem_singleton.1 q]
        exact hl
    · have e : svs ((ks ++ [t]).map tb) = svs (ks.map tb) ++ [.string (tb t)] := by simp [svs]
      rw [e] at hu
      have hkl : (svs (ks.map tb)).length = n := by simp [svs, h1]
      by_cases hj : j < n
      · rw [List.getElem?_append_left (by omega)] at hu
        exact h3 j u hu
      · have hj2 : j = n := by
          have := (List.getElem?_eq_some_iff.1 hu).1
          rw [List.length_append, hkl] at this
          simp only [List.length_cons, List.length_nil] at this
          omega
        subst hj2
        rw [List.getElem?_append_right (by omega), hkl, Nat.sub_self] at hu
        rw [ht]
        simpa using hu
/-- so many values in memory -/
theorem vals_from {a : Addr} (hs : a.spot = none) : ∀ n : Nat, (∀ i, i < n → ∃ (v : Jv) (x y z u : Value), w.cell? (a.add (i * 4)) = some x ∧ w.cell? (a.add (i * 4 + 1)) = some y ∧ w.cell? (a.add (i * 4 + 2)) = some z ∧ w.cell? (a.add (i * 4 + 3)) = some u ∧ JV w anyB v (.agg #[x, y, z, u]) ∧ ShJ v) →
    ∃ (vs : List Jv) (cs : List Value), vs.length = n ∧ JL w anyB vs cs ∧ ShL vs ∧ ∀ (j : Nat) u, cs[j]? = some u → w.cell? (a.add j) = some u
  | 0, _ => ⟨[], [], rfl, by rw [JL], by rw [ShL]; trivial, fun j u h => by simp at h⟩
  | n + 1, h => by
    obtain ⟨vs, cs, h1, h2, h3, h4⟩ := vals_from hs n (fun i hi => h i (by omega))
    obtain ⟨v, x, y, z, u, c0, c1, c2, c3, hv, hsh⟩ := h n (by omega)
    refine ⟨vs ++ [v], cs ++ [x, y, z, u], by simp [h1], h2.app hv, h3.app hsh, fun j q hq => ?_⟩
    have hcl : cs.length = n * 4 := by rw [h2.len, h1]
    by_cases hj : j < n * 4
    · rw [List.getElem?_append_left (by omega)] at hq
      exact h4 j q hq
    · have hj2 := (List.getElem?_eq_some_iff.1 hq).1
      rw [List.length_append, hcl] at hj2
      simp only [List.length_cons, List.length_nil] at hj2
      rw [List.getElem?_append_right (by omega), hcl] at hq
      obtain ⟨k, rfl⟩ : ∃ k, j = n * 4 + k := ⟨j - n * 4, by omega⟩
      rw [Nat.add_sub_cancel_left] at hq
      have hk : k = 0 ∨ k = 1 ∨ k = 2 ∨ k = 3 := by omega
      rcases hk with rfl | rfl | rfl | rfl
      · rw [Nat.add_zero, c0]; simpa using hq
      · rw [c1]; simpa using hq
      · rw [c2]; simpa using hq
      · rw [c3]; simpa using hq
/-- a slice of texts -/
theorem open_keys {fuel : Nat} {cs : List Value} {x : DataW H × List MemPlace} (h : DataW.trod enc Tryz.prog w base sp held fuel 22 cs = some x) : ∃ (K : Sli) (ks : List Bs), cs = [.slice K.A K.n K.c] ∧ SlP w anyB K 1 (svs (ks.map tb)) ∧ ∀ k ∈ ks, k.length ≤ maxLen := by
  rcases Go.Deep.open_slice1 Tryz.underlying22 cells9 h with ⟨rfl, _⟩ | ⟨a, len, cap, m, n, V, D, Pl, rfl, _, hl, hm, hmm, _, hall⟩
  · exact ⟨⟨none, 0, 0⟩, [], rfl, ⟨rfl, fun h => absurd h (by simp [svs]), fun _ => rfl, Nat.le_refl _, Nat.zero_le _⟩, fun k hk => by (cases hk)⟩
  · have hlm : len ≤ m := by rw [hmm]; split <;> omega
    have hone : ∀ i, i < len → ∃ t : Bs, w.cell? (a.add i) = some (.string (tb t)) ∧ t.length ≤ maxLen := fun i hi => by
      obtain ⟨h1, h2⟩ := hall i (by omega)
      obtain ⟨t, h3, h4⟩ := open_text h2
      simp only [List.cons.injEq, and_true] at h3
      exact ⟨t, by rw [h1, h3], h4⟩
    by_cases h0 : len = 0
    · subst h0
      exact ⟨⟨some a, 0, cap⟩, [], rfl, ⟨rfl, fun h => absurd h (by simp [svs]), (fun e => by cases e), Nat.zero_le _, hm⟩, fun k hk => by (cases hk)⟩
    · have hsp : a.spot = none := by
        obtain ⟨t, h1, _⟩ := hone 0 (by omega)
        exact World.cell?_spot h1
      obtain ⟨ks, k1, k2, k3⟩ := texts_from hsp len hone
      obtain ⟨b, o, spot⟩ := a
      simp only at hsp
      subst hsp
      refine ⟨⟨some ⟨b, o, none⟩, len, cap⟩, ks, rfl, ⟨by simp [svs, k1], fun _ => ⟨b, o, rfl, trivial, ?_, fun j u hj => by have := k3 j u hj; rw [Addr.add_lit] at this; exact this⟩, (fun e => by cases e), hl, hm⟩, k2⟩
      obtain ⟨t, h1, _⟩ := hone 0 (by omega)
      exact World.block_lt_of_cell? w _ h1
set_option maxRecDepth 1000000 in
/-- a value in memory -/
theorem open_val : ∀ (fuel : Nat) (cs : List Value) (x : DataW H × List MemPlace), DataW.trod enc Tryz.prog w base sp held fuel 25 cs = some x →
    ∃ (v : Jv) (K S : Sli), cs = [.int .i64 v.k, .string (tb v.t), .slice K.A K.n K.c, .slice S.A S.n S.c] ∧ JV w anyB v (jx v K S) ∧ ShJ v := by
  intro fuel
  induction fuel using Nat.strongRecOn with
  | ind fuel ih =>
  intro cs x h
  obtain ⟨xs, n, rfl, rfl, hl, hlen, hf⟩ := DataW.trod_struct Tryz.underlying25 h
  rw [cellsV] at hl
  match xs, hlen with
  | [y0, y1, y2, y3], _ =>
    have h0 : DataW.trod enc Tryz.prog w base sp held n 3 ((cs.drop 0).take (Tryz.prog.cellsOf 3)) = some y0 := hf 0 _ rfl
    have h1 : DataW.trod enc Tryz.prog w base sp held n 9 ((cs.drop 1).take (Tryz.prog.cellsOf 9)) = some y1 := hf 1 _ rfl
    have h2 : DataW.trod enc Tryz.prog w base sp held n 22 ((cs.drop 2).take (Tryz.prog.cellsOf 22)) = some y2 := hf 2 _ rfl
    have h3 : DataW.trod enc Tryz.prog w base sp held n 23 ((cs.drop 3).take (Tryz.prog.cellsOf 23)) = some y3 := hf 3 _ rfl
    match cs, hl with
    | [a, b, c, d], _ =>
      rw [cells3] at h0
      rw [cells9] at h1
      rw [cellsSs] at h2
      rw [cellsVs] at h3
      simp only [List.drop, List.take] at h0 h1 h2 h3
      obtain ⟨k, e0, _, _⟩ := DataW.trod_int Tryz.underlying3 h0
      obtain ⟨t, e1, ht⟩ := open_text h1
      obtain ⟨K, ks, e2, hK, hks⟩ := open_keys h2
      simp only [List.cons.injEq, and_true] at e0 e1 e2
      subst e0 e1 e2
      rcases DataW.trod_slice Tryz.underlying23 h3 with ⟨e3, _⟩ | ⟨ad, len, cap, elems, rest, n2, hn2, e3, _, _, hlc, hm, hle, hel, _, _⟩
      · simp only [List.cons.injEq, and_true] at e3
        subst e3
        refine ⟨.mk k t ks [], K, ⟨none, 0, 0⟩, rfl, ?_, ?_⟩
        · rw [JV]
          exact ⟨K, ⟨none, 0, 0⟩, [], rfl, hK, ⟨rfl, fun h => absurd h (by simp), fun _ => rfl, Nat.le_refl _, Nat.zero_le _⟩, by rw [JL]⟩
        · rw [ShJ, ShL]
          exact ⟨ht, hks, trivial⟩
      · simp only [List.cons.injEq, and_true] at e3
        subst e3
        have hone : ∀ i, i < len → ∃ (v : Jv) (x y z u : Value), w.cell? (ad.add (i * 4)) = some x ∧ w.cell? (ad.add (i * 4 + 1)) = some y ∧ w.cell? (ad.add (i * 4 + 2)) = some z ∧ w.cell? (ad.add (i * 4 + 3)) = some u ∧ JV w anyB v (.agg #[x, y, z, u]) ∧ ShJ v := fun i hi => by
          have he := hel i hi
          rw [List.getElem?_eq_getElem (by omega), cellsV] at he
          obtain ⟨cs', hc, htr⟩ := Option.bind_eq_some_iff.1 he
          obtain ⟨v, K2, S2, rfl, hv, hsh⟩ := ih n2 (by omega) cs' _ htr
          obtain ⟨_, _, hcell⟩ := World.cells?_some hc
          have q0 := hcell 0 (by omega)
          have q1 := hcell 1 (by omega)
          have q2 := hcell 2 (by omega)
          have q3 := hcell 3 (by omega)
          rw [Addr.add_add] at q0 q1 q2 q3
          exact ⟨v, _, _, _, _, q0, q1, q2, q3, hv, hsh⟩
        by_cases hl0 : len = 0
        · subst hl0
          refine ⟨.mk k t ks [], K, ⟨some ad, 0, cap⟩, rfl, ?_, ?_⟩
          · rw [JV]
            exact ⟨K, ⟨some ad, 0, cap⟩, [], rfl, hK, ⟨rfl, fun h => absurd h (by simp), (fun e => by cases e), Nat.zero_le _, hm⟩, by rw [JL]⟩
          · rw [ShJ, ShL]
            exact ⟨ht, hks, trivial⟩
        · have hsp : ad.spot = none := by
            obtain ⟨v, x, y, z, u, q0, _⟩ := hone 0 (by omega)
            have := World.cell?_spot q0
            simpa [Addr.add] using this
          obtain ⟨vs, cs2, v1, v2, v3, v4⟩ := vals_from hsp len hone
          obtain ⟨bk, o, spot⟩ := ad
          simp only at hsp
          subst hsp
          refine ⟨.mk k t ks vs, K, ⟨some ⟨bk, o, none⟩, len, cap⟩, rfl, ?_, ?_⟩
          · rw [JV]
            refine ⟨K, ⟨some ⟨bk, o, none⟩, len, cap⟩, cs2, rfl, hK, ⟨by rw [v2.len, v1], fun _ => ⟨bk, o, rfl, trivial, ?_, fun j u hj => by have := v4 j u hj; rw [Addr.add_lit] at this; exact this⟩, (fun e => by cases e), hlc, hm⟩, v2⟩
            obtain ⟨v, x, y, z, u, q0, _⟩ := hone 0 (by omega)
            exact World.block_lt_of_cell? w _ q0
          · rw [ShJ]
            exact ⟨ht, hks, v3⟩
end
end Go.Proofs.YtnkhghjcfhpeiaaGreatDoor
