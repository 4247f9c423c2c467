/-
  The walks of slices.DeleteFunc at timers and of the program's own idsOf.
-/
import Derived.Test.YtncbfkoldllbpaaPf
namespace Go.Proofs.Ytncbfkoldllbpaa
open Go.RowKit

theorem grown_refl (w : World) (row : Option Nat) : w.grownBy w row := ⟨rfl, rfl, rfl, Nat.le_refl _, fun _ _ _ => rfl⟩
theorem grown_below {w a b : World} {row : Option Nat} (h : w.grownBy a row) (hb : Below a.heap.size a b) : w.grownBy b row :=
  ⟨hb.os.trans h.os, hb.tape.trans h.tape, hb.output.trans h.output, Nat.le_trans h.size hb.size, fun k hk hr => (hb.block k (Nat.lt_of_lt_of_le hk h.size)).trans (h.block k hk hr)⟩
theorem grown_set {w a : World} {g : Nat} (h : w.grownBy a (some g)) (i : Nat) (u : Value) : w.grownBy (a.setCell ⟨g, i, none⟩ u) (some g) := by
  refine ⟨h.os, h.tape, h.output, by simpa [World.setCell] using h.size, fun k hk hr => ?_⟩
  rw [Below.heap_setCell _ _ _ _ (by intro e; exact hr (by rw [e]))]
  exact h.block k hk hr
theorem grown_sets {w : World} {g : Nat} : ∀ (vs : List Value) (o : Nat) {a : World}, w.grownBy a (some g) → w.grownBy (a.setCells g o vs) (some g)
  | [], _, _, h => h
  | v :: r, o, _, h => grown_sets r (o + 1) (grown_set h o v)

theorem tmcs_set : ∀ (xs : List Tm) (k : Nat) (x y : Int), ((tmcs xs).set (k * 2) (.int .i64 x)).set (k * 2 + 1) (.int .i64 y) = tmcs (xs.set k (x, y))
  | [], k, x, y => by simp [tmcs]
  | t :: r, 0, x, y => rfl
  | t :: r, k + 1, x, y => by
    have e : tmcs (t :: r) = .int .i64 t.1 :: .int .i64 t.2 :: tmcs r := rfl
    have e2 : tmcs ((t :: r).set (k + 1) (x, y)) = .int .i64 t.1 :: .int .i64 t.2 :: tmcs (r.set k (x, y)) := rfl
    rw [e, e2, ← tmcs_set r k x y, show (k + 1) * 2 = k * 2 + 1 + 1 by omega]
    rfl
/-- a timer of a row is stored anew -/
theorem TRow.set {w : World} {B g n c : Nat} {xs : List Tm} (h : TRow w B ⟨some ⟨g, 0, none⟩, n, c⟩ xs) (k : Nat) (x y : Int) : TRow ((w.setCell ⟨g, k * 2, none⟩ (.int .i64 x)).setCell ⟨g, k * 2 + 1, none⟩ (.int .i64 y)) B ⟨some ⟨g, 0, none⟩, n, c⟩ (xs.set k (x, y)) := by
  have hl := h.1
  refine ⟨by rw [tmcs_len, List.length_set, ← tmcs_len]; exact hl, ?_⟩
  rcases h.2 with ⟨h1, _⟩ | ⟨g', cap, cur, h1, hb, hg, hnc, hm, hcs, hv⟩
  · simp at h1
  · simp only [Value.slice.injEq, Option.some.injEq, Addr.mk.injEq, and_true] at h1
    obtain ⟨rfl, _, rfl⟩ := h1
    have hbx : Box w g 34 cur := hg
    refine .inr ⟨g, c, _, rfl, hb, (hbx.set (k * 2) (.int .i64 x)).set (k * 2 + 1) (.int .i64 y), hnc, hm, by simp [hcs], ?_⟩
    rw [Array.toList_setIfInBounds, Array.toList_setIfInBounds, List.take_set, List.take_set, hv, tmcs_set]
theorem box_sets {g : Nat} {t : TypeId} : ∀ (vs : List Value) (o : Nat) {w : World} {cs : Array Value}, Box w g t cs → ∃ cs', Box (w.setCells g o vs) g t cs' ∧ cs'.size = cs.size ∧ ∀ m, m ≤ o → cs'.toList.take m = cs.toList.take m
  | [], _, _, cs, h => ⟨cs, h, rfl, fun _ _ => rfl⟩
  | v :: r, o, _, cs, h => by
    obtain ⟨cs', h1, h2, h3⟩ := box_sets r (o + 1) (h.set o v)
    refine ⟨cs', h1, by rw [h2]; simp, fun m hm => ?_⟩
    rw [h3 m (by omega), Array.toList_setIfInBounds, List.take_set, List.set_eq_of_length_le (by simp; omega)]
/-- the first i of a row, the others cleared -/
theorem TRow.cleared {w : World} {B g n c : Nat} {xs : List Tm} (h : TRow w B ⟨some ⟨g, 0, none⟩, n, c⟩ xs) {i : Nat} (hi : i ≤ n) (vs : List Value) : TRow (w.setCells g (i * 2) vs) B ⟨some ⟨g, 0, none⟩, i, c⟩ (xs.take i) := by
  have h := h.take hi
  refine ⟨h.1, ?_⟩
  rcases h.2 with ⟨h1, _⟩ | ⟨g', cap, cur, h1, hb, hg, hnc, hm, hcs, hv⟩
  · simp at h1
  · simp only [Value.slice.injEq, Option.some.injEq, Addr.mk.injEq, and_true] at h1
    obtain ⟨rfl, _, rfl⟩ := h1
    obtain ⟨cs', q1, q2, q3⟩ := box_sets vs (i * 2) (show Box w g 34 cur from hg)
    exact .inr ⟨g, c, cs', rfl, hb, q1, hnc, hm, by rw [q2, hcs], by rw [q3 _ (Nat.le_refl _)]; exact hv⟩

/-- the zero cells of n timers -/
def zc (n : Nat) : List Value := (Builtin.zeroCells (Value.agg #[.int .i64 0, .int .i64 0]).cells n).toList
theorem zc_len (n : Nat) : (zc n).length = n * 2 := by simp [zc, Builtin.zeroCells, Value.cells]
theorem zc_one (n : Nat) : ∀ u ∈ zc n, u.oneCell' = true := by
  intro u hu
  simp only [zc, Builtin.zeroCells, Value.cells, Array.toList_map, List.mem_map] at hu
  obtain ⟨i, _, rfl⟩ := hu
  rcases Nat.mod_two_eq_zero_or_one i with q | q <;> simp [q] <;> rfl
theorem clear_run {w : World} {g i m cc : Nat} {cur : Array Value} (hm : 0 < m) (hb : Box w g 34 cur) (hs : i * 2 + m * 2 ≤ cur.size) (ty : TypeId) :
    (Builtin.clear_ #[22] ty #[.slice (some ⟨g, i * 2, none⟩) m cc]).run Try.prog w = .ok (.tuple #[]) (w.setCells g (i * 2) (zc m)) := by
  have hst := run_storeCells_cells (P := Try.prog) g (i * 2) (zc m) 0 w (by
    intro j hj
    rw [zc_len] at hj
    rw [hb.c (i * 2 + 0 + j) (v := cur[i * 2 + 0 + j]'(by omega)) (Array.getElem?_eq_getElem (by omega))]
    rfl) (fun j _ => hb.f _) (zc_one m)
  rw [Nat.add_zero] at hst
  obtain ⟨k, rfl⟩ : ∃ k, m = k + 1 := ⟨m - 1, by omega⟩
  have hz : ∀ w, (zeroValue 34).run Try.prog w = .ok (.agg #[.int .i64 0, .int .i64 0]) w := Try.zeroValue34
  unfold zc at hst ⊢
  simp [Builtin.clear_, run_underlying Try.underlying22, hz, hst]

theorem sl_at (gi L c j : Nat) (hj : j ≤ L) (hc : j < c) (w : World) : (Instr.slice 22 (.slice (some ⟨gi, 0, none⟩) L c) (some (.int .i64 (j : Int))) none none).run Try.prog w = .ok (.slice (some ⟨gi, j * 2, none⟩) (L - j) (c - j)) w := by
  have e : ((j : Int)).toNat = j := by omega
  have hc' : ¬ c = j := by omega
  rw [run_slice_l w 22 _ L c el22 .i64 (j : Int) (by omega) (by omega), size22]
  simp only [Result.andThen, sliced, e, if_neg hc', Option.map_some, add_none, Nat.zero_add]

/-- what DeleteFunc hands back -/
def DelEnds (B : Nat) (s : Sli) (xs : List Tm) (w : World) (e : Ending) (w' : World) : Prop :=
  ∃ s' : Sli, e = .returned (.slice s'.A s'.n s'.c) ∧ s'.A = s.A ∧ TRow w' B s' xs ∧ w.grownBy w' (Value.slice s.A s.n s.c).ownBlock

/-- between two rounds of DeleteFunc: the first i are those that stay of the first j; from j on all is as it was -/
structure DelR (B g n c gc : Nat) (v : Int) (p : Tm → Bool) (xs : List Tm) (i j : Nat) (w wr : World) : Prop where
  row : ∃ ds : List Tm, TRow wr B ⟨some ⟨g, 0, none⟩, n, c⟩ ds ∧ ds.take i = (xs.take j).filter (fun t => !p t) ∧ ∀ l, j ≤ l → ds[l]? = xs[l]?
  box : Box wr gc 3 #[.int .i64 v]
  grown : w.grownBy wr (some g)
theorem DelR.up {B g n c gc : Nat} {v : Int} {p : Tm → Bool} {xs : List Tm} {i j : Nat} {w wr w' : World} (h : DelR B g n c gc v p xs i j w wr) (hb : Below wr.heap.size wr w') : DelR B g n c gc v p xs i j w w' := by
  obtain ⟨ds, h1, h2⟩ := h.row
  exact ⟨⟨ds, h1.up hb, h2⟩, h.box.up hb, grown_below h.grown hb⟩
theorem DelR.skip {B g n c gc : Nat} {v : Int} {p : Tm → Bool} {xs : List Tm} {i j : Nat} {w wr : World} (h : DelR B g n c gc v p xs i j w wr) {t : Tm} (ht : xs[j]? = some t) (hp : p t = true) : DelR B g n c gc v p xs i (j + 1) w wr := by
  obtain ⟨ds, h1, h2, h3⟩ := h.row
  refine ⟨⟨ds, h1, ?_, fun l hl => h3 l (by omega)⟩, h.box, h.grown⟩
  rw [h2, List.take_add_one, ht]
  simp [hp]
theorem DelR.stay {B g n c gc : Nat} {v : Int} {p : Tm → Bool} {xs : List Tm} {i j : Nat} {w wr : World} (h : DelR B g n c gc v p xs i j w wr) {x y : Int} (ht : xs[j]? = some (x, y)) (hp : p (x, y) = false) (hij : i < j) (hl : xs.length = n) : DelR B g n c gc v p xs (i + 1) (j + 1) w ((wr.setCell ⟨g, i * 2, none⟩ (.int .i64 x)).setCell ⟨g, i * 2 + 1, none⟩ (.int .i64 y)) := by
  obtain ⟨ds, h1, h2, h3⟩ := h.row
  have hjl := (List.getElem?_eq_some_iff.1 ht).1
  have hdl := h1.len
  simp only at hdl
  have hne : gc ≠ g := by
    intro e
    subst e
    have := h1.ne h.box (by decide) ⟨gc, 0, none⟩ rfl
    exact this rfl
  refine ⟨⟨ds.set i (x, y), h1.set i x y, ?_, fun l hl => ?_⟩, (h.box.far (p := ⟨g, i * 2, none⟩) hne _).far (p := ⟨g, i * 2 + 1, none⟩) hne _, grown_set (grown_set h.grown _ _) _ _⟩
  · have e : (xs.take (j + 1)).filter (fun t => !p t) = (xs.take j).filter (fun t => !p t) ++ [(x, y)] := by
      rw [List.take_add_one, ht]
      simp [hp]
    rw [e, ← h2, List.take_set, List.take_add_one, List.getElem?_eq_getElem (by omega)]
    simp only [Option.toList_some]
    rw [List.set_append, if_neg (by simp; omega), List.length_take, Nat.min_eq_left (show i ≤ ds.length by omega)]
    simp
  · rw [List.getElem?_set_ne (by omega)]
    exact h3 l (by omega)

set_option maxRecDepth 100000 in
set_option maxHeartbeats 4000000 in
theorem deleteFunc_any {f gc B : Nat} {v : Int} {p : Tm → Bool} (hT : Tells f gc v p) (s : Sli) (xs : List Tm) (w : World) (hR : TRow w B s xs) (hn : s.n ≤ 1000) (hb : Box w gc 3 #[.int .i64 v]) :
    Calls Try.prog 24 #[.slice s.A s.n s.c, .func (.func f) #[] #[.pointer (some ⟨gc, 0, none⟩)]] w (DelEnds B s (xs.filter (fun t => !p t)) w) := by
  have hl := hR.len
  have HIF := Lib.hid (indexFunc_any hT s xs w hl hR.ts (by omega) hb)
  have HT := Lib.hid hT.run
  have eg := hT.en
  obtain ⟨A, n, c⟩ := s
  simp only at hl hn HIF ⊢
  unfold idxT at HIF
  cases hfi : xs.findIdx? p with
  | none =>
    rw [hfi] at HIF
    simp only at HIF
    have HE : Hid (xs.filter (fun t => !p t) = xs) := Lib.hid (by
      rw [List.filter_eq_self]
      intro t ht
      rw [List.findIdx?_eq_none_iff] at hfi
      simpa using hfi t ht)
    have HR := Lib.hid hR
    clear hR hfi hl hb hT
    go_enter Try.func24, Try.ntmps24
    go_wp2_with fail
    refine HIF.out.mono ?_
    rintro e w1 ⟨rfl, hb1⟩
    go_wp2
    go_ret
    exact ⟨⟨A, n, c⟩, rfl, rfl, by rw [HE.out]; exact HR.out.up hb1, grown_below (grown_refl _ _) hb1⟩
  | some k0 =>
    rw [hfi] at HIF
    simp only at HIF
    rw [List.findIdx?_eq_some_iff_getElem] at hfi
    obtain ⟨hk0, hp0, hbef⟩ := hfi
    obtain ⟨g, rfl⟩ : ∃ g, A = some ⟨g, 0, none⟩ := by
      rcases hR.2 with ⟨_, h2⟩ | ⟨g, cap, cur, h1, _⟩
      · simp only at h2; omega
      · simp only [Value.slice.injEq] at h1
        exact ⟨g, h1.1⟩
    have hle : n ≤ c := by
      rcases hR.2 with ⟨_, h2⟩ | ⟨g', cap, cur, h1, _, _, h3, _⟩
      · simp only at h2; omega
      · simp only [Value.slice.injEq] at h1
        simp only at h3
        omega
    have HD : Hid (DelR B g n c gc v p xs k0 (k0 + 1) w w) := Lib.hid ⟨⟨xs, hR, by
      rw [List.take_add_one, List.getElem?_eq_getElem hk0, List.filter_append]
      have h1 : (xs.take k0).filter (fun t => !p t) = xs.take k0 := by
        rw [List.filter_eq_self]
        intro t ht
        obtain ⟨l, hl, rfl⟩ := List.mem_iff_getElem.1 ht
        rw [List.getElem_take]
        have := hbef l (by simp at hl; omega)
        simpa using this
      rw [h1]
      simp [hp0], fun _ _ => rfl⟩, hb, grown_refl _ _⟩
    have HL := Lib.hid hl
    have hkn : k0 < n := by omega
    clear hR hbef hp0 hk0 hl hb hT
    have hj5 : IntKind.i64.wrap ((k0 : Int) + 1) = ((k0 + 1 : Nat) : Int) := by rw [IntWalk.i64_in _ (by omega)]; omega
    go_enter Try.func24, Try.ntmps24
    go_wp2_with fail
    refine HIF.out.mono ?_
    rintro e w1 ⟨rfl, hb1⟩
    have HD1 := Lib.hid (HD.out.up hb1)
    clear HD hb1 HIF
    have hm1 : ((k0 : Int) == -1) = false := beq_eq_false_iff_ne.2 (by omega)
    go_wp2_with fail
    go_loopw [5, 6, 7] (fun vi vj v7 wr => ∃ i j : Nat, i < j ∧ j ≤ n ∧ vi = .int .i64 (i : Int) ∧ vj = .int .i64 (j : Int) ∧ DelR B g n c gc v p xs i j w wr) (fun _ vj _ _ => n - (intOf vj).toNat)
    case atStart => exact ⟨k0, k0 + 1, by omega, by omega, rfl, by go_num, HD1.out⟩
    case round =>
      clear HD1 hj5 hm1
      obtain ⟨i, j, hij, hjn, rfl, rfl, hR⟩ := hrel
      by_cases hlt : j < n
      · obtain ⟨⟨x, y⟩, ht⟩ : ∃ t : Tm, xs[j]? = some t := ⟨_, List.getElem?_eq_getElem (by rw [HL.out]; exact hlt)⟩
        have HX := Lib.hid ht
        obtain ⟨ds, h1, h2, h3⟩ := hR.row
        obtain ⟨b, o, hA, hb, hx, hy⟩ := h1.ts.two (k := j) (t := (x, y)) ((h3 j (Nat.le_refl _)).trans ht)
        simp only [Option.some.injEq, Addr.mk.injEq, and_true] at hA
        obtain ⟨rfl, rfl⟩ := hA
        have hx : wr.cell? ⟨g, j * 2, none⟩ = some (.int .i64 x) := by simpa using hx
        have hy : wr.cell? ⟨g, j * 2 + 1, none⟩ = some (.int .i64 y) := by simpa using hy
        have hRa := hR.up (ba1 wr (.cells #[.int .i64 x, .int .i64 y] 34))
        have htb := Box.new wr 34 #[.int .i64 x, .int .i64 y]
        have d0 := htb.c 0 (v := .int .i64 x) rfl
        have d1 := htb.c 1 (v := .int .i64 y) rfl
        clear h1 h2 h3 ht hR
        have hjI : (j : Int) < (n : Int) := by omega
        go_wp2_with fail
        refine (HT.out _ x y hRa.box).mono ?_
        rintro e w2 ⟨rfl, hb2⟩
        have hR2 := hRa.up hb2
        have htb2 := htb.up hb2
        clear hRa htb hx hy hb2 d0 d1
        cases hp : p (x, y) with
        | true =>
          have hR3 := hR2.skip HX.out hp
          clear hR2
          go_wp2
          go_roundw
          case rel => exact ⟨i, j + 1, by omega, by omega, rfl, by go_num, hR3⟩
          case measure => simp [intOf]; omega
        | false =>
          have hR3 := hR2.stay HX.out hp hij HL.out
          obtain ⟨ds, h1, _, _⟩ := hR2.row
          have hdl := h1.len
          simp only at hdl
          obtain ⟨⟨x', y'⟩, hu⟩ : ∃ t : Tm, ds[i]? = some t := ⟨_, List.getElem?_eq_getElem (by omega)⟩
          obtain ⟨b, o, hA, hb, hx, hy⟩ := h1.ts.two hu
          simp only [Option.some.injEq, Addr.mk.injEq, and_true] at hA
          obtain ⟨rfl, rfl⟩ := hA
          have hx : w2.cell? ⟨g, i * 2, none⟩ = some (.int .i64 x') := by simpa using hx
          have hy : w2.cell? ⟨g, i * 2 + 1, none⟩ = some (.int .i64 y') := by simpa using hy
          obtain ⟨_, _, cur, hcur⟩ := h1.blk ⟨g, 0, none⟩ rfl
          have hbx : Box w2 g 34 cur := hcur
          have e0 := hbx.f (i * 2)
          have e1 := hbx.f (i * 2 + 1)
          have d0 := htb2.c 0 (v := .int .i64 x) rfl
          have d1 := htb2.c 1 (v := .int .i64 y) rfl
          have hiI : (i : Int) < (n : Int) := by omega
          clear h1 hR2 hu hcur hbx htb2 hdl
          go_wp2
          go_roundw
          case rel => exact ⟨i + 1, j + 1, by omega, by omega, by go_num, by go_num, hR3⟩
          case measure => simp [intOf]; omega
      · have : j = n := by omega
        subst this
        obtain ⟨ds, h1, h2, _⟩ := hR.row
        have hdl := h1.len
        simp only at hdl
        have hq1 := sl_at g j c i (by omega) (by omega)
        have hq2 := sl_to g j c i (by omega)
        have HG := Lib.hid hR.grown
        have HC := Lib.hid (h1.cleared (i := i) (by omega) (zc (j - i)))
        have HE : Hid (ds.take i = xs.filter (fun t => !p t)) := Lib.hid (by rw [h2, ← HL.out, List.take_length])
        have hclr : ∀ ty, (Builtin.clear_ #[22] ty #[.slice (some ⟨g, i * 2, none⟩) (j - i) (c - i)]).run Try.prog wr = .ok (.tuple #[]) (wr.setCells g (i * 2) (zc (j - i))) := by
          rcases h1.2 with ⟨q, _⟩ | ⟨g', cap, cur, q, hb, hg, hnc, hm, hcs, hv⟩
          · simp at q
          · simp only [Value.slice.injEq, Option.some.injEq, Addr.mk.injEq, and_true] at q
            obtain ⟨rfl, _, rfl⟩ := q
            exact fun ty => clear_run (cur := cur) (by omega) hg (by simp only at hnc; omega) ty
        clear h1 h2 hdl hR
        go_wp2
        go_ret
        exact ⟨⟨some ⟨g, 0, none⟩, i, c⟩, rfl, rfl, by rw [← HE.out]; exact HC.out, grown_sets _ _ HG.out⟩

end Go.Proofs.Ytncbfkoldllbpaa
