/-
  append of one thing onto a slice of the call's own that may begin within its block.
-/
import Derived.Test.YtkglgbbekmljcaaApp
namespace Go.Proofs.Ytkglgbbekmljcaa
open Go.RowKit

section
variable {P : Program} (w : World)

theorem run_room1 (t ty e : TypeId) (i : TypeInfo) (ht : P.underlying t = some (.slice e)) (hi : P.info? e = some i) (hsize : i.size = 1)
    (g o n c : Nat) (cur : Array Value) (hg : w.heap[g]? = some (.cells cur e (0, 0))) (a : Addr) (c2 : Nat) (u : Value) (hnews : ∀ j x, [u][j]? = some x → w.cell? (a.add j) = some x) (h1 : u.oneCell' = true)
    (hroom : n + 1 ≤ c) (hfit : o + n + 1 ≤ cur.size) :
    (Builtin.append_ #[t, t] ty #[.slice (some ⟨g, o, none⟩) n c, .slice (some a) 1 c2]).run P w = .ok (.slice (some ⟨g, o, none⟩) (n + 1) c) (w.setRow g (cur.toList.take (o + n) ++ [u] ++ cur.toList.drop (o + n + 1)).toArray) := by
  have hf := run_firstCells_some (P := P) w i.size 1 a 1 c2 [u] (by simp [hsize]) hnews
  have hst := run_storeCells_at P g (o + n) e [u] 0 cur w hg (by simpa using hfit) (by simpa using h1)
  simp only [Nat.add_zero] at hst
  rw [hsize] at hf
  simp [Builtin.append_, run_underlying ht, sizeOf, typeInfo, hi, Builtin.lenOf, hroom, hf, Addr.add_lit, hst, hsize]

theorem run_app1 (t ty : TypeId) (B : Nat) (e : TypeId) (i : TypeInfo) (z : Value) (bytes : Nat) (ht : P.underlying t = some (.slice e)) (hi : P.info? e = some i) (hz : i.zero = some z) (hsize : i.size = 1) (hby : i.bytes = bytes) (hzs : z.cells.size = 1)
    (A : Option Addr) (n c : Nat) (vs : List Value) (hr : Row w B e A n c vs) (a : Addr) (c2 : Nat) (u : Value) (hnews : ∀ j x, [u][j]? = some x → w.cell? (a.add j) = some x) (h1 : u.oneCell' = true)
    (h63 : n + 1 ≤ maxLen) (hbytes : (n + 1) * bytes ≤ 140737488355328) (hB : B ≤ w.heap.size) :
    ∃ A' c' w', (Builtin.append_ #[t, t] ty #[.slice A n c, .slice (some a) 1 c2]).run P w = .ok (.slice A' (n + 1) c') w' ∧ Row w' B e A' (n + 1) c' (vs ++ [u]) ∧ (∀ j, j < w.heap.size → (∀ q, A = some q → q.block ≠ j) → w'.heap[j]? = w.heap[j]?) ∧ Below B w w' := by
  rcases hr.2 with ⟨rfl, rfl, rfl⟩ | ⟨g, o, cur, rfl, hg, hb, hnc, hs, hm, hv⟩
  · have hx : vs = [] := List.eq_nil_of_length_eq_zero hr.1
    subst hx
    obtain ⟨v', w', hr', h2, h3, _, _⟩ := run_append_own_at (P := P) w B t ty e i z 1 bytes ht hi hz hsize hby hzs (by decide) (.slice none 0 0) 0 [] (World.ownsRow_nil _ _ _ _) a 1 c2 [u] rfl hnews (by simpa using h1) h63 hbytes hB
    obtain ⟨A', c', rfl⟩ := ownsRow_slice h2
    exact ⟨A', c', w', hr', Row.of_own h2, fun j hj _ => h3.block j hj (by simp [Value.ownBlock]), (Below.refl _ _).grown h3 hB (fun j hj => by cases hj)⟩
  · by_cases hroom : n + 1 ≤ c
    · have hs' : cur.size = o + c := by rcases hs with h | h <;> omega
      refine ⟨_, _, _, run_room1 w t ty e i ht hi hsize g o n c cur hb a c2 u hnews h1 hroom (by omega), ⟨by simp [hr.1], .inr ⟨g, o, _, rfl, hg, setRow_heap w g cur _ e (0, 0) hb, hroom, .inr ?_, hm, ?_⟩⟩, fun j hj hne => setRow_other w g j _ (fun e => hne _ rfl e.symm), ?_⟩
      · simp
        omega
      · have hl : (cur.toList.take (o + n)).length = o + n := by simp; omega
        rw [List.toList_toArray, List.append_assoc, List.drop_append_of_le_length (by omega), List.drop_take, show o + n - o = n by omega, hv]
        rw [← List.append_assoc, List.take_append_of_le_length (by simp [hr.1]), List.take_of_length_le (by simp [hr.1])]
      · refine ⟨rfl, rfl, rfl, by simp [World.setRow], fun j hj => setRow_other w g j _ (by omega)⟩
    · have holds : ∀ j x, vs[j]? = some x → w.cell? ((⟨g, o, none⟩ : Addr).add j) = some x := by
        intro j x hx
        have hj : j < n := by
          have := (List.getElem?_eq_some_iff.1 hx).1
          rw [hr.1] at this
          exact this
        obtain ⟨g', o', he, _, _, hc⟩ := hr.at (by omega)
        simp only [Option.some.injEq, Addr.mk.injEq, and_true] at he
        obtain ⟨rfl, rfl⟩ := he
        rw [Addr.add_lit, (hc j hj).1]
        exact hx
      have hrr := run_append_grow (P := P) w t ty e i z ht hi hz ⟨g, o, none⟩ n c vs (by rw [hsize]; simpa using hr.1) holds a 1 c2 [u] (by simp [hsize]) hnews (by omega) (by unfold maxLen at h63; omega) (by rw [hby]; exact growslice_fits (by omega) hbytes)
      have hge := grownCap_ge w (n + 1) c e
      refine ⟨_, _, _, hrr, ⟨by simp [hr.1], .inr ⟨w.heap.size, 0, _, rfl, hB, heap_alloc_new w.drew _, hge, .inr ?_, grownCap_le_maxLen w (n + 1) c e h63, ?_⟩⟩, fun j hj _ => Below.heap_alloc w.drew _ j hj, ?_⟩
      · simp [size_zeroCells, hzs, hr.1]
        omega
      · have hl : (vs ++ [u]).length = n + 1 := by simp [hr.1]
        rw [List.drop_zero, Array.toList_append, List.take_append_of_le_length (by simp [hr.1]), List.take_of_length_le (by simp [hr.1])]
        simp
      · exact (Below.refl B w).drew.alloc hB _

theorem wpList_app1 {ops : Array Oper} {rest : List Oper} {o : Oper} {a : Act} {Q : Exit → Act → World → Prop} (hgd : o.guard = none) (s x : Operand) (t : TypeId)
    (ho : o.op = .call { callee := .builtin .append, args := #[s, x], argTypes := #[t, t] })
    (B : Nat) (e : TypeId) (i : TypeInfo) (z : Value) (bytes : Nat) (ht : P.underlying t = some (.slice e)) (hi : P.info? e = some i) (hz : i.zero = some z) (hsize : i.size = 1) (hby : i.bytes = bytes) (hzs : z.cells.size = 1)
    (A : Option Addr) (n c : Nat) (vs : List Value) (hs : a.eval s = .slice A n c) (hr : Row w B e A n c vs) (ad : Addr) (c2 : Nat) (u : Value) (hx : a.eval x = .slice (some ad) 1 c2) (hnews : ∀ j x, [u][j]? = some x → w.cell? (ad.add j) = some x) (h1 : u.oneCell' = true)
    (h63 : n + 1 ≤ maxLen) (hbytes : (n + 1) * bytes ≤ 140737488355328) (hB : B ≤ w.heap.size)
    (h : ∀ A' c' w', Row w' B e A' (n + 1) c' (vs ++ [u]) → (∀ j, j < w.heap.size → (∀ q, A = some q → q.block ≠ j) → w'.heap[j]? = w.heap[j]?) → Below B w w' → wpList P ops Q rest (a.put o.dst (.slice A' (n + 1) c')) w') : wpList P ops Q (o :: rest) a w := by
  refine wpList_plain hgd fun K hK => ?_
  obtain ⟨A', c', w', hr', h2, h3, h4⟩ := run_app1 (P := P) w t o.type B e i z bytes ht hi hz hsize hby hzs A n c vs hr ad c2 u hnews h1 h63 hbytes hB
  unfold Oper.wp execOp
  simp only [ho, resolve, invoke, builtin, Sem.run_bind, Sem.run_pure, Result.andThen_ok, List.map_toArray, List.map_cons, List.map_nil, hs, hx, hr']
  exact hK _ _ (h A' c' w' h2 h3 h4)

end
end Go.Proofs.Ytkglgbbekmljcaa
