/-
  append onto a slice of the call's own, of whatever slice that can be read, for elements of any size; rows of timers; eight of them as a wheel of the call's own.
-/
import Derived.Test.YtncbfkoldllbpaaRefB
import Derived.Deep.AppendLies
namespace Go.Proofs.Ytncbfkoldllbpaa
open Go.RowKit

/-- the slice holds news, or is nil -/
def Src (w : World) (sz : Nat) (A : Option Addr) (m c : Nat) (news : List Value) : Prop :=
  (A = none ∧ m = 0 ∧ c = 0 ∧ news = []) ∨ ∃ ad, A = some ad ∧ news.length = m * sz ∧ ∀ j u, news[j]? = some u → w.cell? (ad.add j) = some u

theorem ownsRow_slice {w : World} {base n sz : Nat} {t : TypeId} {v : Value} {ys : List Value} (h : w.ownsRow base t sz v n ys) : ∃ A c, v = .slice A n c := by
  rcases h.2 with ⟨h1, h2⟩ | ⟨g, c, _, h1, _⟩
  · exact ⟨none, 0, by rw [h1, h2]⟩
  · exact ⟨some ⟨g, 0, none⟩, c, h1⟩

section
variable {P : Program} (w : World)

theorem run_app (t ty : TypeId) (base : Nat) (e : TypeId) (i : TypeInfo) (z : Value) (sz bytes : Nat) (hsz : 0 < sz) (ht : P.underlying t = some (.slice e)) (hi : P.info? e = some i) (hz : i.zero = some z)
    (hsize : i.size = sz) (hby : i.bytes = bytes) (hzs : z.cells.size = sz) (v : Value) (n : Nat) (xs : List Value) (hown : w.ownsRow base e sz v n xs)
    (A : Option Addr) (m c : Nat) (news : List Value) (hsrc : Src w sz A m c news) (h1 : ∀ u ∈ news, u.oneCell' = true) (h63 : n + m ≤ maxLen) (hbytes : (n + m) * bytes ≤ 140737488355328) (hbase : base ≤ w.heap.size) (L : Nat) (hL : n + m = L) :
    ∃ A' c' w', (Builtin.append_ #[t, t] ty #[v, .slice A m c]).run P w = .ok (.slice A' L c') w' ∧ w'.ownsRow base e sz (.slice A' L c') L (xs ++ news) ∧ w.grownBy w' v.ownBlock ∧ ((Value.slice A' L c').ownBlock = v.ownBlock ∨ (Value.slice A' L c').ownBlock = some w.heap.size) := by
  subst hL
  rcases hsrc with ⟨rfl, rfl, rfl, rfl⟩ | ⟨ad, rfl, hl, hn⟩
  · obtain ⟨A', c', rfl⟩ := ownsRow_slice hown
    refine ⟨A', c', w, ?_, by simpa using hown, ⟨rfl, rfl, rfl, Nat.le_refl _, fun _ _ _ => rfl⟩, .inl rfl⟩
    exact run_append_owned_none w base t ty e i sz ht hi _ n xs hown
  · obtain ⟨v', w', hr, h2, h3, _, h5⟩ := run_append_own_at (P := P) w base t ty e i z sz bytes ht hi hz hsize hby hzs hsz v n xs hown ad m c news hl hn h1 h63 hbytes hbase
    obtain ⟨A', c', rfl⟩ := ownsRow_slice h2
    exact ⟨A', c', w', hr, h2, h3, h5⟩

theorem wp_app {o : Oper} {a : Act} {K : Act → World → Prop} {Q : Exit → Act → World → Prop} (s x : Operand) (t : TypeId)
    (ho : o.op = .call { callee := .builtin .append, args := #[s, x], argTypes := #[t, t] })
    (base : Nat) (e : TypeId) (i : TypeInfo) (z : Value) (sz bytes : Nat) (hsz : 0 < sz) (ht : P.underlying t = some (.slice e)) (hi : P.info? e = some i) (hz : i.zero = some z)
    (hsize : i.size = sz) (hby : i.bytes = bytes) (hzs : z.cells.size = sz) (v : Value) (n : Nat) (xs : List Value) (hs : a.eval s = v) (hown : w.ownsRow base e sz v n xs)
    (A : Option Addr) (m c : Nat) (news : List Value) (hx : a.eval x = .slice A m c) (hsrc : Src w sz A m c news) (h1 : ∀ u ∈ news, u.oneCell' = true) (h63 : n + m ≤ maxLen) (hbytes : (n + m) * bytes ≤ 140737488355328) (hbase : base ≤ w.heap.size) (L : Nat) (hL : n + m = L)
    (h : ∀ A' c' w', w'.ownsRow base e sz (.slice A' L c') L (xs ++ news) → w.grownBy w' v.ownBlock → ((Value.slice A' L c').ownBlock = v.ownBlock ∨ (Value.slice A' L c').ownBlock = some w.heap.size) → K (a.put o.dst (.slice A' L c')) w') : o.wp P a w K Q := by
  obtain ⟨A', c', w', hr, h2, h3, h4⟩ := run_app (P := P) w t o.type base e i z sz bytes hsz ht hi hz hsize hby hzs v n xs hown A m c news hsrc h1 h63 hbytes hbase L hL
  unfold Oper.wp execOp
  simp only [ho, resolve, invoke, builtin, Sem.run_bind, Sem.run_pure, Result.andThen_ok, List.map_toArray, List.map_cons, List.map_nil, hs, hx, hr]
  exact h A' c' w' h2 h3 h4

theorem wpList_app {ops : Array Oper} {rest : List Oper} {o : Oper} {a : Act} {Q : Exit → Act → World → Prop} (hgd : o.guard = none) (s x : Operand) (t : TypeId)
    (ho : o.op = .call { callee := .builtin .append, args := #[s, x], argTypes := #[t, t] })
    (base : Nat) (e : TypeId) (i : TypeInfo) (z : Value) (sz bytes : Nat) (hsz : 0 < sz) (ht : P.underlying t = some (.slice e)) (hi : P.info? e = some i) (hz : i.zero = some z)
    (hsize : i.size = sz) (hby : i.bytes = bytes) (hzs : z.cells.size = sz) (v : Value) (n : Nat) (xs : List Value) (hs : a.eval s = v) (hown : w.ownsRow base e sz v n xs)
    (A : Option Addr) (m c : Nat) (news : List Value) (hx : a.eval x = .slice A m c) (hsrc : Src w sz A m c news) (h1 : ∀ u ∈ news, u.oneCell' = true) (h63 : n + m ≤ maxLen) (hbytes : (n + m) * bytes ≤ 140737488355328) (hbase : base ≤ w.heap.size) (L : Nat) (hL : n + m = L)
    (h : ∀ A' c' w', w'.ownsRow base e sz (.slice A' L c') L (xs ++ news) → w.grownBy w' v.ownBlock → ((Value.slice A' L c').ownBlock = v.ownBlock ∨ (Value.slice A' L c').ownBlock = some w.heap.size) → wpList P ops Q rest (a.put o.dst (.slice A' L c')) w') : wpList P ops Q (o :: rest) a w :=
  wpList_plain hgd fun _ hK => wp_app w s x t ho base e i z sz bytes hsz ht hi hz hsize hby hzs v n xs hs hown A m c news hx hsrc h1 h63 hbytes hbase L hL fun A' c' w' h2 h3 h4 => hK _ _ (h A' c' w' h2 h3 h4)

theorem step_app {ops : Array Oper} {o : Oper} {a : Act} {K : Act → World → Prop} {Q : Exit → Act → World → Prop} {E : Prop} (hgd : o.guard = none) (s x : Operand) (t : TypeId)
    (ho : o.op = .call { callee := .builtin .append, args := #[s, x], argTypes := #[t, t] })
    (base : Nat) (e : TypeId) (i : TypeInfo) (z : Value) (sz bytes : Nat) (hsz : 0 < sz) (ht : P.underlying t = some (.slice e)) (hi : P.info? e = some i) (hz : i.zero = some z)
    (hsize : i.size = sz) (hby : i.bytes = bytes) (hzs : z.cells.size = sz) (v : Value) (n : Nat) (xs : List Value) (hs : a.eval s = v) (hown : w.ownsRow base e sz v n xs)
    (A : Option Addr) (m c : Nat) (news : List Value) (hx : a.eval x = .slice A m c) (hsrc : Src w sz A m c news) (h1 : ∀ u ∈ news, u.oneCell' = true) (h63 : n + m ≤ maxLen) (hbytes : (n + m) * bytes ≤ 140737488355328) (hbase : base ≤ w.heap.size) (L : Nat) (hL : n + m = L)
    (h : ∀ A' c' w', w'.ownsRow base e sz (.slice A' L c') L (xs ++ news) → w.grownBy w' v.ownBlock → ((Value.slice A' L c').ownBlock = v.ownBlock ∨ (Value.slice A' L c').ownBlock = some w.heap.size) → K (a.put o.dst (.slice A' L c')) w') :
    if Region.wanted o (yielded ops a.tmps) = true then Oper.wp P o a w K Q else E := by
  have hw : Region.wanted o (yielded ops a.tmps) = true := by simp [Region.wanted, hgd]
  rw [if_pos hw]
  exact wp_app w s x t ho base e i z sz bytes hsz ht hi hz hsize hby hzs v n xs hs hown A m c news hx hsrc h1 h63 hbytes hbase L hL h

end


/-- what was grown beyond a block, or nothing else: all that is older stands -/
theorem grown_none {w w' : World} (h : w.grownBy w' none) : Below w.heap.size w w' := (Below.refl _ _).grown h (Nat.le_refl _) (fun j hj => by cases hj)

theorem info34 : (Try.prog.info? 34).map (fun i => (i.zero, i.size, i.bytes)) = some (some (.agg #[.int .i64 0, .int .i64 0]), 2, 16) := by kernel_rfl
theorem info3 : (Try.prog.info? 3).map (fun i => (i.zero, i.size, i.bytes)) = some (some (.int .i64 0), 1, 8) := by kernel_rfl

theorem tmcs_len (xs : List Tm) : (tmcs xs).length = xs.length * 2 := by
  induction xs with
  | nil => rfl
  | cons x r ih =>
    show (tmc x ++ tmcs r).length = _
    rw [List.length_append, ih]
    simp [tmc]
    omega
theorem tmcs_app (xs ys : List Tm) : tmcs (xs ++ ys) = tmcs xs ++ tmcs ys := by simp [tmcs]
theorem tmcs_one (xs : List Tm) : ∀ u ∈ tmcs xs, u.oneCell' = true := by
  intro u hu
  simp only [tmcs, List.mem_flatMap, tmc] at hu
  obtain ⟨t, _, ht⟩ := hu
  simp only [List.mem_cons, List.not_mem_nil, or_false] at ht
  rcases ht with rfl | rfl <;> rfl
theorem tmcs_at (xs : List Tm) : ∀ (k : Nat) (t : Tm), xs[k]? = some t → (tmcs xs)[k * 2]? = some (.int .i64 t.1) ∧ (tmcs xs)[k * 2 + 1]? = some (.int .i64 t.2) := by
  induction xs with
  | nil => intro k t h; simp at h
  | cons x r ih =>
    intro k t h
    cases k with
    | zero =>
      simp at h
      subst h
      exact ⟨rfl, rfl⟩
    | succ k =>
      have := ih k t (by simpa using h)
      have e : tmcs (x :: r) = tmc x ++ tmcs r := rfl
      rw [e, show (k + 1) * 2 = 2 + k * 2 by omega, show 2 + k * 2 + 1 = 2 + (k * 2 + 1) by omega, List.getElem?_append_right (by simp [tmc]), List.getElem?_append_right (by simp [tmc])]
      simpa [tmc] using this
/-- whatever cell of a row of timers -/
theorem tmcs_cell (xs : List Tm) (j : Nat) (u : Value) (h : (tmcs xs)[j]? = some u) : ∃ (k : Nat) (t : Tm), xs[k]? = some t ∧ ((j = k * 2 ∧ u = .int .i64 t.1) ∨ (j = k * 2 + 1 ∧ u = .int .i64 t.2)) := by
  have hj : j < xs.length * 2 := by rw [← tmcs_len]; exact (List.getElem?_eq_some_iff.1 h).1
  have hk : j / 2 < xs.length := by omega
  have ht : xs[j / 2]? = some xs[j / 2] := List.getElem?_eq_getElem hk
  obtain ⟨a, b⟩ := tmcs_at xs (j / 2) _ ht
  refine ⟨j / 2, _, ht, ?_⟩
  rcases Nat.mod_two_eq_zero_or_one j with h2 | h2
  · have e : j = j / 2 * 2 := by omega
    rw [← e, h] at a
    exact .inl ⟨e, Option.some.inj a⟩
  · have e : j = j / 2 * 2 + 1 := by omega
    rw [← e, h] at b
    exact .inr ⟨e, Option.some.inj b⟩

theorem Ts.src {w : World} {A : Option Addr} {xs : List Tm} {m c : Nat} (h : Ts w A xs) (hm : xs.length = m) (hc : A = none → c = 0) : Src w 2 A m c (tmcs xs) := by
  cases A with
  | none =>
    have hx : xs = [] := by
      cases xs with
      | nil => rfl
      | cons x r =>
        obtain ⟨b, o, hA, _⟩ := h (by simp)
        cases hA
    subst hx
    exact .inl ⟨rfl, by simpa using hm.symm, hc rfl, rfl⟩
  | some ad =>
    refine .inr ⟨ad, rfl, by rw [tmcs_len, hm], fun j u hu => ?_⟩
    obtain ⟨k, t, ht, hj⟩ := tmcs_cell xs j u hu
    obtain ⟨b, o, hA, _, c1, c2⟩ := h.two ht
    obtain rfl := Option.some.inj hA
    rcases hj with ⟨rfl, rfl⟩ | ⟨rfl, rfl⟩
    · rw [Addr.add_lit]; exact c1
    · rw [Addr.add_lit, ← Nat.add_assoc]; exact c2

/-- a row of timers of the call's own, from block B on -/
abbrev TRow (w : World) (B : Nat) (s : Sli) (xs : List Tm) : Prop := w.ownsRow B 34 2 (.slice s.A s.n s.c) s.n (tmcs xs)
section
variable {w w' : World} {B : Nat} {s : Sli} {xs : List Tm}
theorem TRow.len (h : TRow w B s xs) : xs.length = s.n := by
  have := h.1
  rw [tmcs_len] at this
  omega
theorem TRow.blk (h : TRow w B s xs) : ∀ q, s.A = some q → B ≤ q.block ∧ q.block < w.heap.size ∧ ∃ cur, w.heap[q.block]? = some (.cells cur 34 (0, 0)) := by
  intro q hq
  rcases h.2 with ⟨h1, _⟩ | ⟨g, cap, cur, h1, hb, hg, _⟩
  · simp only [Value.slice.injEq] at h1
    rw [h1.1] at hq
    cases hq
  · simp only [Value.slice.injEq] at h1
    rw [h1.1] at hq
    obtain rfl := Option.some.inj hq
    exact ⟨hb, (Array.getElem?_eq_some_iff.1 hg).1, cur, hg⟩
theorem TRow.keep (h : TRow w B s xs) (hk : ∀ q, s.A = some q → w'.heap[q.block]? = w.heap[q.block]?) : TRow w' B s xs := by
  refine ⟨h.1, ?_⟩
  rcases h.2 with hn | ⟨g, cap, cur, h1, hb, hg, r⟩
  · exact .inl hn
  · refine .inr ⟨g, cap, cur, h1, hb, ?_, r⟩
    simp only [Value.slice.injEq] at h1
    rw [hk ⟨g, 0, none⟩ h1.1]
    exact hg
theorem TRow.up (h : TRow w B s xs) (hb : Below w.heap.size w w') : TRow w' B s xs := h.keep fun q hq => hb.block _ (h.blk q hq).2.1
theorem TRow.mono {B' : Nat} (h : TRow w B s xs) (hB : B' ≤ B) : TRow w B' s xs := by
  refine ⟨h.1, ?_⟩
  rcases h.2 with hn | ⟨g, cap, cur, h1, hb, r⟩
  · exact .inl hn
  · exact .inr ⟨g, cap, cur, h1, by omega, r⟩
theorem TRow.far (h : TRow w B s xs) {p : Addr} (hp : ∀ q, s.A = some q → q.block ≠ p.block) (u : Value) : TRow (w.setCell p u) B s xs := h.keep fun q hq => Below.heap_setCell w p u _ (hp q hq)
/-- a box is no row of timers -/
theorem TRow.ne (h : TRow w B s xs) {p : Nat} {t : TypeId} {cs : Array Value} (hb : Box w p t cs) (ht : t ≠ 34) : ∀ q, s.A = some q → q.block ≠ p := by
  intro q hq he
  obtain ⟨_, _, cur, hg⟩ := h.blk q hq
  rw [he] at hg
  unfold Box at hb
  rw [hb] at hg
  simp only [Option.some.injEq, Obj.cells.injEq] at hg
  exact ht hg.2.1
theorem TRow.farB (h : TRow w B s xs) {p : Nat} {t : TypeId} {cs : Array Value} (hb : Box w p t cs) (ht : t ≠ 34) (i : Nat) (u : Value) : TRow (w.setCell ⟨p, i, none⟩ u) B s xs := h.far (fun q hq => h.ne hb ht q hq) u
theorem TRow.ts (h : TRow w B s xs) : Ts w s.A xs := by
  intro hx
  rcases h.2 with ⟨_, h2⟩ | ⟨g, cap, cur, h1, hb, hg, hnc, hm, hcs, hv⟩
  · have := h.len
    omega
  · simp only [Value.slice.injEq] at h1
    refine ⟨g, 0, h1.1, (Array.getElem?_eq_some_iff.1 hg).1, fun j hj => ?_⟩
    have ht : xs[j]? = some xs[j] := List.getElem?_eq_getElem hj
    obtain ⟨a, b⟩ := tmcs_at xs j _ ht
    have hl := h.1
    have hc : ∀ i u, (tmcs xs)[i]? = some u → w.cell? ⟨g, i, none⟩ = some u := by
      intro i u hu
      rw [cell_of_row w g i cur 34 (0, 0) hg, ← Array.getElem?_toList]
      rw [← hv, List.getElem?_take] at hu
      split at hu
      · exact hu
      · cases hu
    rw [ht, Nat.zero_add]
    exact ⟨hc _ _ a, hc _ _ b⟩
end

/-- eight rows of the call's own, no two in one block -/
structure Own8 (w : World) (B : Nat) (W : Wl) (S : Nat → Sli) : Prop where
  row : ∀ i, i < 8 → TRow w B (S i) (W.sl i)
  sep : ∀ i j, i < 8 → j < 8 → i ≠ j → ∀ p q, (S i).A = some p → (S j).A = some q → p.block ≠ q.block
theorem Own8.up {w w' : World} {B : Nat} {W : Wl} {S : Nat → Sli} (h : Own8 w B W S) (hb : Below w.heap.size w w') : Own8 w' B W S := ⟨fun i hi => (h.row i hi).up hb, h.sep⟩
theorem Own8.mono {w : World} {B B' : Nat} {W : Wl} {S : Nat → Sli} (h : Own8 w B W S) (hB : B' ≤ B) : Own8 w B' W S := ⟨fun i hi => (h.row i hi).mono hB, h.sep⟩
theorem Own8.at {w : World} {B : Nat} {W : Wl} {S : Nat → Sli} (h : Own8 w B W S) : At w W S where
  len i hi := (h.row i hi).len
  ts i hi := (h.row i hi).ts
  cap i hi hA := by
    rcases (h.row i hi).2 with ⟨h1, _⟩ | ⟨g, cap, cur, h1, _⟩
    · simp only [Value.slice.injEq] at h1
      exact h1.2.2
    · simp only [Value.slice.injEq] at h1
      rw [h1.1] at hA
      cases hA
  le i hi := by
    rcases (h.row i hi).2 with ⟨h1, h2⟩ | ⟨g, cap, cur, h1, _, _, hnc, hm, _⟩
    · rw [h2]
      exact ⟨Nat.zero_le _, Nat.zero_le _⟩
    · simp only [Value.slice.injEq] at h1
      rw [h1.2.2]
      exact ⟨hnc, Nat.le_trans hnc hm⟩

/-- nine cells stored anew -/
theorem Box.set9 {w : World} {g : Nat} {t : TypeId} {x0 x1 x2 x3 x4 x5 x6 x7 x8 : Value} (h : Box w g t #[x0, x1, x2, x3, x4, x5, x6, x7, x8]) (v0 v1 v2 v3 v4 v5 v6 v7 v8 : Value) : Box (((((((((w.setCell ⟨g, 0, none⟩ v0).setCell ⟨g, 1, none⟩ v1).setCell ⟨g, 2, none⟩ v2).setCell ⟨g, 3, none⟩ v3).setCell ⟨g, 4, none⟩ v4).setCell ⟨g, 5, none⟩ v5).setCell ⟨g, 6, none⟩ v6).setCell ⟨g, 7, none⟩ v7).setCell ⟨g, 8, none⟩ v8) g t #[v0, v1, v2, v3, v4, v5, v6, v7, v8] := by
  have := ((((((((h.set 0 v0).set 1 v1).set 2 v2).set 3 v3).set 4 v4).set 5 v5).set 6 v6).set 7 v7).set 8 v8
  simpa using this
theorem heap_set9 (w : World) (g : Nat) (v0 v1 v2 v3 v4 v5 v6 v7 v8 : Value) {j : Nat} (hj : j ≠ g) : (((((((((w.setCell ⟨g, 0, none⟩ v0).setCell ⟨g, 1, none⟩ v1).setCell ⟨g, 2, none⟩ v2).setCell ⟨g, 3, none⟩ v3).setCell ⟨g, 4, none⟩ v4).setCell ⟨g, 5, none⟩ v5).setCell ⟨g, 6, none⟩ v6).setCell ⟨g, 7, none⟩ v7).setCell ⟨g, 8, none⟩ v8).heap[j]? = w.heap[j]? := by
  rw [Below.heap_setCell _ _ _ _ (by exact hj), Below.heap_setCell _ _ _ _ (by exact hj), Below.heap_setCell _ _ _ _ (by exact hj), Below.heap_setCell _ _ _ _ (by exact hj), Below.heap_setCell _ _ _ _ (by exact hj), Below.heap_setCell _ _ _ _ (by exact hj), Below.heap_setCell _ _ _ _ (by exact hj), Below.heap_setCell _ _ _ _ (by exact hj), Below.heap_setCell _ _ _ _ (by exact hj)]
theorem size_set9 (w : World) (g : Nat) (v0 v1 v2 v3 v4 v5 v6 v7 v8 : Value) : (((((((((w.setCell ⟨g, 0, none⟩ v0).setCell ⟨g, 1, none⟩ v1).setCell ⟨g, 2, none⟩ v2).setCell ⟨g, 3, none⟩ v3).setCell ⟨g, 4, none⟩ v4).setCell ⟨g, 5, none⟩ v5).setCell ⟨g, 6, none⟩ v6).setCell ⟨g, 7, none⟩ v7).setCell ⟨g, 8, none⟩ v8).heap.size = w.heap.size := by simp [World.setCell]
theorem Box.far9 {w : World} {g b : Nat} {t : TypeId} {cs : Array Value} (h : Box w b t cs) (hb : b ≠ g) (v0 v1 v2 v3 v4 v5 v6 v7 v8 : Value) : Box (((((((((w.setCell ⟨g, 0, none⟩ v0).setCell ⟨g, 1, none⟩ v1).setCell ⟨g, 2, none⟩ v2).setCell ⟨g, 3, none⟩ v3).setCell ⟨g, 4, none⟩ v4).setCell ⟨g, 5, none⟩ v5).setCell ⟨g, 6, none⟩ v6).setCell ⟨g, 7, none⟩ v7).setCell ⟨g, 8, none⟩ v8) b t cs := by
  unfold Box at h ⊢
  rw [heap_set9 w g v0 v1 v2 v3 v4 v5 v6 v7 v8 hb]
  exact h
theorem below_set9 {B : Nat} {a w : World} (h : Below B a w) {g : Nat} (hg : B ≤ g) (v0 v1 v2 v3 v4 v5 v6 v7 v8 : Value) : Below B a (((((((((w.setCell ⟨g, 0, none⟩ v0).setCell ⟨g, 1, none⟩ v1).setCell ⟨g, 2, none⟩ v2).setCell ⟨g, 3, none⟩ v3).setCell ⟨g, 4, none⟩ v4).setCell ⟨g, 5, none⟩ v5).setCell ⟨g, 6, none⟩ v6).setCell ⟨g, 7, none⟩ v7).setCell ⟨g, 8, none⟩ v8) :=
  ((((((((h.setCell (p := ⟨g, 0, none⟩) hg _).setCell (p := ⟨g, 1, none⟩) hg _).setCell (p := ⟨g, 2, none⟩) hg _).setCell (p := ⟨g, 3, none⟩) hg _).setCell (p := ⟨g, 4, none⟩) hg _).setCell (p := ⟨g, 5, none⟩) hg _).setCell (p := ⟨g, 6, none⟩) hg _).setCell (p := ⟨g, 7, none⟩) hg _).setCell (p := ⟨g, 8, none⟩) hg _
theorem TRow.far9 {w : World} {B : Nat} {s : Sli} {xs : List Tm} (h : TRow w B s xs) {g : Nat} {t : TypeId} {cs : Array Value} (hb : Box w g t cs) (ht : t ≠ 34) (v0 v1 v2 v3 v4 v5 v6 v7 v8 : Value) : TRow (((((((((w.setCell ⟨g, 0, none⟩ v0).setCell ⟨g, 1, none⟩ v1).setCell ⟨g, 2, none⟩ v2).setCell ⟨g, 3, none⟩ v3).setCell ⟨g, 4, none⟩ v4).setCell ⟨g, 5, none⟩ v5).setCell ⟨g, 6, none⟩ v6).setCell ⟨g, 7, none⟩ v7).setCell ⟨g, 8, none⟩ v8) B s xs :=
  h.keep fun q hq => heap_set9 w g v0 v1 v2 v3 v4 v5 v6 v7 v8 (h.ne hb ht q hq)
theorem Own8.far9 {w : World} {B : Nat} {W : Wl} {S : Nat → Sli} (h : Own8 w B W S) {g : Nat} {t : TypeId} {cs : Array Value} (hb : Box w g t cs) (ht : t ≠ 34) (v0 v1 v2 v3 v4 v5 v6 v7 v8 : Value) : Own8 (((((((((w.setCell ⟨g, 0, none⟩ v0).setCell ⟨g, 1, none⟩ v1).setCell ⟨g, 2, none⟩ v2).setCell ⟨g, 3, none⟩ v3).setCell ⟨g, 4, none⟩ v4).setCell ⟨g, 5, none⟩ v5).setCell ⟨g, 6, none⟩ v6).setCell ⟨g, 7, none⟩ v7).setCell ⟨g, 8, none⟩ v8) B W S :=
  ⟨fun i hi => (h.row i hi).far9 hb ht v0 v1 v2 v3 v4 v5 v6 v7 v8, h.sep⟩

end Go.Proofs.Ytncbfkoldllbpaa
