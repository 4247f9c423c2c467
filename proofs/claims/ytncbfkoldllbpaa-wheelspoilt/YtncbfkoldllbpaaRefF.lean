/-
  The walk of the document's own Tick.
-/
import Derived.Test.YtncbfkoldllbpaaRefE
namespace Go.Proofs.Ytncbfkoldllbpaa
open Go.RowKit

/-- the slice at address A holds the numbers xs -/
def Is (w : World) (A : Option Addr) (xs : List Int) : Prop :=
  0 < xs.length → ∃ b o, A = some ⟨b, o, none⟩ ∧ b < w.heap.size ∧ ∀ j, j < xs.length → w.cell? ⟨b, o + j, none⟩ = some (.int .i64 (xs[j]?.getD 0))
theorem Is.up {w w' : World} {A : Option Addr} {xs : List Int} (h : Is w A xs) (hb : Below w.heap.size w w') : Is w' A xs := by
  intro hx
  obtain ⟨b, o, rfl, hl, hc⟩ := h hx
  exact ⟨b, o, rfl, Nat.lt_of_lt_of_le hl hb.size, fun j hj => (hb.cell hl).trans (hc j hj)⟩
/-- .. its length and its room told -/
structure Ints (w : World) (s : Sli) (xs : List Int) : Prop where
  len : xs.length = s.n
  is : Is w s.A xs
theorem Ints.up {w w' : World} {s : Sli} {xs : List Int} (h : Ints w s xs) (hb : Below w.heap.size w w') : Ints w' s xs := ⟨h.len, h.is.up hb⟩

/-- a row of numbers of the call's own -/
abbrev IRow (w : World) (B : Nat) (s : Sli) (xs : List Int) : Prop := w.ownsRow B 3 1 (.slice s.A s.n s.c) s.n (xs.map (Value.int .i64))
theorem one_iv (xs : List Int) : ∀ u ∈ xs.map (Value.int .i64), u.oneCell' = true := by
  intro u hu
  obtain ⟨x, _, rfl⟩ := List.mem_map.1 hu
  rfl
theorem IRow.ints {w : World} {B : Nat} {s : Sli} {xs : List Int} (h : IRow w B s xs) : Ints w s xs := by
  have hl : xs.length = s.n := by have := h.1; simpa using this
  refine ⟨hl, fun hx => ?_⟩
  rcases h.2 with ⟨_, h2⟩ | ⟨g, cap, cur, h1, hb, hg, hnc, hm, hcs, hv⟩
  · omega
  · simp only [Value.slice.injEq] at h1
    refine ⟨g, 0, h1.1, (Array.getElem?_eq_some_iff.1 hg).1, fun j hj => ?_⟩
    rw [Nat.zero_add, cell_of_row w g j cur 3 (0, 0) hg, ← Array.getElem?_toList]
    have hu : (xs.map (Value.int .i64))[j]? = some (.int .i64 (xs[j]?.getD 0)) := by
      rw [List.getElem?_map, List.getElem?_eq_getElem hj]
      rfl
    rw [← hv, List.getElem?_take] at hu
    split at hu
    · exact hu
    · cases hu

theorem IRow.keep {w w' : World} {B : Nat} {s : Sli} {xs : List Int} (h : IRow w B s xs) (hk : ∀ (g : Nat) (cur : Array Value), w.heap[g]? = some (.cells cur 3 (0, 0)) → w'.heap[g]? = w.heap[g]?) : IRow w' B s xs := by
  refine ⟨h.1, ?_⟩
  rcases h.2 with hn | ⟨g, cap, cur, e1, hb, hgc, q⟩
  · exact .inl hn
  · exact .inr ⟨g, cap, cur, e1, hb, by rw [hk g cur hgc]; exact hgc, q⟩
theorem box_ne {w : World} {p g : Nat} {t e : TypeId} {cs cur : Array Value} (h : Box w p t cs) (hg : w.heap[g]? = some (.cells cur e (0, 0))) (ht : t ≠ e) : g ≠ p := by
  intro he
  subst he
  unfold Box at h
  rw [h] at hg
  simp only [Option.some.injEq, Obj.cells.injEq] at hg
  exact ht hg.2.1
theorem IRow.farB {w : World} {B : Nat} {s : Sli} {xs : List Int} (h : IRow w B s xs) {p : Nat} {cs : Array Value} (hb : Box w p 25 cs) (i : Nat) (u : Value) : IRow (w.setCell ⟨p, i, none⟩ u) B s xs :=
  h.keep fun g cur hg => Below.heap_setCell _ _ _ _ (box_ne hb hg (by decide))
theorem IRow.far9 {w : World} {B : Nat} {s : Sli} {xs : List Int} (h : IRow w B s xs) {g : Nat} {cs : Array Value} (hb : Box w g 25 cs) (v0 v1 v2 v3 v4 v5 v6 v7 v8 : Value) : IRow (((((((((w.setCell ⟨g, 0, none⟩ v0).setCell ⟨g, 1, none⟩ v1).setCell ⟨g, 2, none⟩ v2).setCell ⟨g, 3, none⟩ v3).setCell ⟨g, 4, none⟩ v4).setCell ⟨g, 5, none⟩ v5).setCell ⟨g, 6, none⟩ v6).setCell ⟨g, 7, none⟩ v7).setCell ⟨g, 8, none⟩ v8) B s xs :=
  h.keep fun j cur hg => heap_set9 w g v0 v1 v2 v3 v4 v5 v6 v7 v8 (box_ne hb hg (by decide))

/-- what is no row of that kind stays when the row grows -/
theorem grown_other {w w' : World} {B n sz : Nat} {e t : TypeId} {v : Value} {xs : List Value} (h : w.ownsRow B e sz v n xs) (hg : w.grownBy w' v.ownBlock) {j : Nat} {cs : Array Value} {fz : Nat × Nat} (hj : w.heap[j]? = some (.cells cs t fz)) (ht : t ≠ e) : w'.heap[j]? = w.heap[j]? := by
  refine hg.block j (Array.getElem?_eq_some_iff.1 hj).1 ?_
  intro he
  rcases h.2 with ⟨rfl, _⟩ | ⟨g, cap, cur, rfl, hb, hgc, _⟩
  · cases he
  · have : j = g := Option.some.inj he
    subst this
    rw [hj] at hgc
    simp only [Option.some.injEq, Obj.cells.injEq] at hgc
    exact ht hgc.2.1
theorem grown_base {w w' : World} {B B2 n sz : Nat} {e : TypeId} {v : Value} {xs : List Value} (h : w.ownsRow B2 e sz v n xs) (hg : w.grownBy w' v.ownBlock) {a : World} (hb : Below B a w) (hB : B ≤ B2) (hw : B ≤ w.heap.size) : Below B a w' :=
  hb.grown hg hw fun k hk => by
    rcases h.2 with ⟨rfl, _⟩ | ⟨g, cap, cur, rfl, hb, _⟩
    · cases hk
    · have : g = k := Option.some.inj hk
      omega

/-- what stands between two rounds of Tick's loop -/
structure TickR (B B2 ga gr : Nat) (now : Int) (W : Wl) (T : Nat → Sli) (F L : Sli) (fs : List Int) (ls : List Tm) (w wr : World) : Prop where
  ha : Box wr ga 25 (wcs now T)
  hr : Box wr gr 25 (wcs 0 (fun _ => ⟨none, 0, 0⟩))
  ho : Own8 wr B W T
  old : ∀ i, i < 8 → ∀ q, (T i).A = some q → q.block < B2
  f : IRow wr B F fs
  l : TRow wr B2 L ls
  hb : Below B w wr
  le : B2 ≤ wr.heap.size
section
variable {B B2 ga gr : Nat} {now : Int} {W : Wl} {T : Nat → Sli} {F L : Sli} {fs : List Int} {ls : List Tm} {w wr w' : World}
theorem TickR.alloc (h : TickR B B2 ga gr now W T F L fs ls w wr) (hB : B ≤ B2) (o : Obj) : TickR B B2 ga gr now W T F L fs ls w (wr.alloc o) :=
  ⟨h.ha.alloc o, h.hr.alloc o, h.ho.up (ba1 _ _), h.old, World.ownsRow.alloc h.f o, h.l.up (ba1 _ _), h.hb.trans ((ba1 wr o).mono (Nat.le_trans hB h.le)), Nat.le_trans h.le (ba1 wr o).size⟩
theorem TickR.drewN (h : TickR B B2 ga gr now W T F L fs ls w wr) (j : Nat) : TickR B B2 ga gr now W T F L fs ls w (wr.drewN j) :=
  ⟨h.ha, h.hr, h.ho.up (below_drewN (Below.refl _ _) _), h.old, h.f, h.l, below_drewN h.hb _, h.le⟩
theorem TickR.fire (h : TickR B B2 ga gr now W T F L fs ls w wr) (hB : B ≤ B2) {F' : Sli} {x : Int} (h1 : IRow w' B F' (fs ++ [x])) (hg : wr.grownBy w' (Value.slice F.A F.n F.c).ownBlock) : TickR B B2 ga gr now W T F' L (fs ++ [x]) ls w w' where
  ha := by unfold Box; rw [grown_other h.f hg h.ha (by decide)]; exact h.ha
  hr := by unfold Box; rw [grown_other h.f hg h.hr (by decide)]; exact h.hr
  ho := ⟨fun i hi => (h.ho.row i hi).keep fun q hq => by
    obtain ⟨_, _, cur, hc⟩ := (h.ho.row i hi).blk q hq
    exact grown_other h.f hg hc (by decide), h.ho.sep⟩
  old := h.old
  f := h1
  l := h.l.keep fun q hq => by
    obtain ⟨_, _, cur, hc⟩ := h.l.blk q hq
    exact grown_other h.f hg hc (by decide)
  hb := grown_base h.f hg h.hb (Nat.le_refl _) (Nat.le_trans hB h.le)
  le := Nat.le_trans h.le hg.size
theorem TickR.leave (h : TickR B B2 ga gr now W T F L fs ls w wr) (hB : B ≤ B2) {L' : Sli} {x : Tm} (h1 : TRow w' B2 L' (ls ++ [x])) (hg : wr.grownBy w' (Value.slice L.A L.n L.c).ownBlock) : TickR B B2 ga gr now W T F L' fs (ls ++ [x]) w w' where
  ha := by unfold Box; rw [grown_other h.l hg h.ha (by decide)]; exact h.ha
  hr := by unfold Box; rw [grown_other h.l hg h.hr (by decide)]; exact h.hr
  ho := ⟨fun i hi => (h.ho.row i hi).keep fun q hq => by
    refine hg.block _ ((h.ho.row i hi).blk q hq).2.1 ?_
    intro he
    have h2 := h.old i hi q hq
    cases hA : L.A with
    | none => rw [hA] at he; cases he
    | some p =>
      rw [hA] at he
      have h3 := (h.l.blk p hA).1
      have h4 : q.block = p.block := Option.some.inj he
      omega, h.ho.sep⟩
  old := h.old
  f := by
    refine ⟨h.f.1, ?_⟩
    rcases h.f.2 with hn | ⟨g, cap, cur, e1, hb, hgc, r⟩
    · exact .inl hn
    · exact .inr ⟨g, cap, cur, e1, hb, by rw [grown_other h.l hg hgc (by decide)]; exact hgc, r⟩
  l := h1
  hb := grown_base h.l hg h.hb hB (Nat.le_trans hB h.le)
  le := Nat.le_trans h.le hg.size
end

/-- a wheel of its own, numbers and an error are handed back -/
def TkEnds (q : Wl × List Int × Int) (w : World) (e : Ending) (w' : World) : Prop :=
  ∃ S F, e = .returned (.tuple #[wv q.1.now S, .slice F.A F.n F.c, .int .i64 q.2.2]) ∧ Own8 w' w.heap.size q.1 S ∧ Ints w' F q.2.1 ∧ Below w.heap.size w w'

set_option maxRecDepth 100000 in
set_option maxHeartbeats 4000000 in
theorem rtick_any (W : Wl) (S : Nat → Sli) (w : World) (h : At w W S) (hf : manyN W ≤ 1000000) : Calls Try.prog 17 #[wv W.now S] w (TkEnds (tickN W) w) := by
  have HOw := Lib.hid (fun W1 (hb : Below w.heap.size w W1) => own_any W S W1 (h.up hb) hf)
  have HRt := Lib.hid (fun W1 (hb : Below w.heap.size w W1) => rright_any W S W1 (h.up hb) hf)
  clear h
  obtain ⟨now, hn⟩ : ∃ now, W.now = now := ⟨_, rfl⟩
  have HN := Lib.hid hn
  rw [hn] at HOw HRt ⊢
  clear hn
  unfold wv at HOw HRt ⊢
  go_enter Try.func17, Try.ntmps17
  go_wp2_with fail
  refine (HOw.out _ (ba2 _ _ _)).mono ?_
  rintro e w1 ⟨T, rfl, hO, hb1⟩
  rw [HN.out]
  have hbox := ((Box.new w 25 (wcs now S)).alloc (.cells (wcs 0 (fun _ => ⟨none, 0, 0⟩)) 25)).up hb1
  have hres := (Box.mk' (w.alloc (.cells (wcs now S) 25)) 25 (wcs 0 (fun _ => ⟨none, 0, 0⟩)) (w.heap.size + 1) (by simp)).up hb1
  have hbel := bon (ba2 w _ _) hb1
  have hO := hO.mono (B' := w.heap.size) (by simp; omega)
  clear hb1
  unfold wv
  have hboxA := hbox.alloc (.cells (wcs now T) 25)
  have hresA := hres.alloc (.cells (wcs now T) 25)
  have haA := Box.new w1 25 (wcs now T)
  have hOA := hO.up (ba1 w1 (.cells (wcs now T) 25))
  have hbelA := bon hbel (ba1 w1 (.cells (wcs now T) 25))
  obtain ⟨c0, c1, c2, c3, c4, c5, c6, c7, c8⟩ := hboxA.nine
  go_wp2_with fail
  refine (HRt.out _ hbelA).mono ?_
  rintro e w2 ⟨rfl, hb2⟩
  have hbox2 := hboxA.up hb2
  have hres2 := hresA.up hb2
  have ha2 := haA.up hb2
  have hO2 := hOA.up hb2
  have hbel2 := bon hbelA hb2
  obtain ⟨ga, hga⟩ : ∃ ga, w1.heap.size = ga := ⟨_, rfl⟩
  have hgw : w.heap.size + 1 < ga := by rw [← hga]; exact hres.lt
  rw [hga] at ha2 ⊢
  clear c0 c1 c2 c3 c4 c5 c6 c7 c8 hboxA hresA haA hOA hbelA hb2 hbox hres hO hbel hga
  cases hok : okB W with
  | false =>
    have HE : Hid (tickN W = (W, [], 1)) := Lib.hid (by rw [tickN, if_pos hok])
    clear hok
    obtain ⟨c0, c1, c2, c3, c4, c5, c6, c7, c8⟩ := ha2.nine
    obtain ⟨d0, d1, d2, d3, d4, d5, d6, d7, d8⟩ := hres2.nine
    have f0 := hres2.f 0
    have f1 := hres2.f 1
    have f2 := hres2.f 2
    have f3 := hres2.f 3
    have f4 := hres2.f 4
    have f5 := hres2.f 5
    have f6 := hres2.f 6
    have f7 := hres2.f 7
    have f8 := hres2.f 8
    have HO := Lib.hid (hO2.far9 hres2 (by decide) (.int .i64 now) (.slice (T 0).A (T 0).n (T 0).c) (.slice (T 1).A (T 1).n (T 1).c) (.slice (T 2).A (T 2).n (T 2).c) (.slice (T 3).A (T 3).n (T 3).c) (.slice (T 4).A (T 4).n (T 4).c) (.slice (T 5).A (T 5).n (T 5).c) (.slice (T 6).A (T 6).n (T 6).c) (.slice (T 7).A (T 7).n (T 7).c))
    have HB := Lib.hid (below_set9 hbel2 (Nat.le_succ _) (.int .i64 now) (.slice (T 0).A (T 0).n (T 0).c) (.slice (T 1).A (T 1).n (T 1).c) (.slice (T 2).A (T 2).n (T 2).c) (.slice (T 3).A (T 3).n (T 3).c) (.slice (T 4).A (T 4).n (T 4).c) (.slice (T 5).A (T 5).n (T 5).c) (.slice (T 6).A (T 6).n (T 6).c) (.slice (T 7).A (T 7).n (T 7).c))
    have hend : Box _ _ 25 (wcs now T) := hres2.set9 (.int .i64 now) (.slice (T 0).A (T 0).n (T 0).c) (.slice (T 1).A (T 1).n (T 1).c) (.slice (T 2).A (T 2).n (T 2).c) (.slice (T 3).A (T 3).n (T 3).c) (.slice (T 4).A (T 4).n (T 4).c) (.slice (T 5).A (T 5).n (T 5).c) (.slice (T 6).A (T 6).n (T 6).c) (.slice (T 7).A (T 7).n (T 7).c)
    have HEnd := Lib.hid hend.nine
    clear hend
    go_wp2
    obtain ⟨q0, q1, q2, q3, q4, q5, q6, q7, q8⟩ := HEnd.out
    refine bodyPost_ret (v := .tuple #[wv now T, .slice none 0 0, .int .i64 1]) (by simp [results, Try.results17, go_sem, q0, q1, q2, q3, q4, q5, q6, q7, q8]) rfl ?_
    rw [HE.out]; exact ⟨T, ⟨none, 0, 0⟩, by rw [HN.out], HO.out, ⟨rfl, fun h => absurd h (by simp)⟩, HB.out⟩
  | true =>
    have hfew := (ok_iff.1 hok).few
    have hlo := (ok_iff.1 hok).lo
    have hhi := (ok_iff.1 hok).hi
    rw [HN.out] at hlo hhi
    have e0 := hbox2.c 0 (v := .int .i64 now) rfl
    by_cases hmx : now = 9007199254740992
    · have HE : Hid (tickN W = (W, [], 3)) := Lib.hid (by rw [tickN, if_neg (by rw [hok]; simp), if_pos (by rw [HN.out]; exact hmx)])
      clear hok
      subst hmx
      obtain ⟨c0, c1, c2, c3, c4, c5, c6, c7, c8⟩ := ha2.nine
      obtain ⟨d0, d1, d2, d3, d4, d5, d6, d7, d8⟩ := hres2.nine
      have f0 := hres2.f 0
      have f1 := hres2.f 1
      have f2 := hres2.f 2
      have f3 := hres2.f 3
      have f4 := hres2.f 4
      have f5 := hres2.f 5
      have f6 := hres2.f 6
      have f7 := hres2.f 7
      have f8 := hres2.f 8
      have HO := Lib.hid (hO2.far9 hres2 (by decide) (.int .i64 9007199254740992) (.slice (T 0).A (T 0).n (T 0).c) (.slice (T 1).A (T 1).n (T 1).c) (.slice (T 2).A (T 2).n (T 2).c) (.slice (T 3).A (T 3).n (T 3).c) (.slice (T 4).A (T 4).n (T 4).c) (.slice (T 5).A (T 5).n (T 5).c) (.slice (T 6).A (T 6).n (T 6).c) (.slice (T 7).A (T 7).n (T 7).c))
      have HB := Lib.hid (below_set9 hbel2 (Nat.le_succ _) (.int .i64 9007199254740992) (.slice (T 0).A (T 0).n (T 0).c) (.slice (T 1).A (T 1).n (T 1).c) (.slice (T 2).A (T 2).n (T 2).c) (.slice (T 3).A (T 3).n (T 3).c) (.slice (T 4).A (T 4).n (T 4).c) (.slice (T 5).A (T 5).n (T 5).c) (.slice (T 6).A (T 6).n (T 6).c) (.slice (T 7).A (T 7).n (T 7).c))
      have hend : Box _ _ 25 (wcs 9007199254740992 T) := hres2.set9 (.int .i64 9007199254740992) (.slice (T 0).A (T 0).n (T 0).c) (.slice (T 1).A (T 1).n (T 1).c) (.slice (T 2).A (T 2).n (T 2).c) (.slice (T 3).A (T 3).n (T 3).c) (.slice (T 4).A (T 4).n (T 4).c) (.slice (T 5).A (T 5).n (T 5).c) (.slice (T 6).A (T 6).n (T 6).c) (.slice (T 7).A (T 7).n (T 7).c)
      have HEnd := Lib.hid hend.nine
      clear hend
      go_wp2
      obtain ⟨q0, q1, q2, q3, q4, q5, q6, q7, q8⟩ := HEnd.out
      refine bodyPost_ret (v := .tuple #[wv 9007199254740992 T, .slice none 0 0, .int .i64 3]) (by simp [results, Try.results17, go_sem, q0, q1, q2, q3, q4, q5, q6, q7, q8]) rfl ?_
      rw [HE.out]; exact ⟨T, ⟨none, 0, 0⟩, by rw [HN.out], HO.out, ⟨rfl, fun h => absurd h (by simp)⟩, HB.out⟩
    · have HE : Hid (tickN W = (W.tick, W.due, 0)) := Lib.hid (by rw [tickN, if_neg (by rw [hok]; simp), if_neg (by rw [HN.out]; exact hmx)])
      clear hok
      have hmx' : (now == 9007199254740992) = false := by simpa using hmx
      obtain ⟨r, hr⟩ : ∃ r : Nat, ((now + 1) % 8).toNat = r := ⟨_, rfl⟩
      have hr8 : r < 8 := by omega
      have t1 : (now + 1).tmod 8 = (r : Int) := by rw [Int.tmod_eq_emod_of_nonneg (by omega)]; omega
      have HR := Lib.hid hr
      clear hr
      have a0 := ha2.c 0 (v := .int .i64 now) rfl
      have b0 := ha2.f 0
      have ha3 : Box (w2.setCell ⟨ga, 0, none⟩ (.int .i64 (now + 1))) ga 25 (wcs (now + 1) T) := ha2.set 0 (.int .i64 (now + 1))
      have hc0 := ha3.c 0 (v := .int .i64 (now + 1)) rfl
      have hcr := ha3.slot hr8
      have hres3 := hres2.far (p := ⟨ga, 0, none⟩) (by simp; omega) (.int .i64 (now + 1))
      have hO3 := hO2.farB ha2 (by decide) 0 (.int .i64 (now + 1))
      have hbel3 := hbel2.setCell (p := ⟨ga, 0, none⟩) (by simp; omega) (.int .i64 (now + 1))
      clear hres2 hO2 hbel2
      have hrow3 := hO3.row r hr8
      have hold : ∀ i, i < 8 → ∀ q, (T i).A = some q → q.block < w2.heap.size := fun i hi q hq => by have := ((hO3.row i hi).blk q hq).2.1; simpa [World.setCell] using this
      obtain ⟨A, n, c, hTr⟩ : ∃ A n c, T r = ⟨A, n, c⟩ := ⟨_, _, _, rfl⟩
      rw [hTr] at hcr hrow3
      have HLn := Lib.hid hrow3.len
      have hn64 : n ≤ 64 := by
        have h1 := hrow3.len
        have h2 := len_le W hr8
        simp only at h1
        omega
      have hA0 : 0 < n → ∃ g, A = some ⟨g, 0, none⟩ := by
        intro hp
        rcases hrow3.2 with ⟨_, h2⟩ | ⟨g, cap, cur, h1, _⟩
        · simp only at h2
          omega
        · simp only [Value.slice.injEq] at h1
          exact ⟨g, h1.1⟩
      simp only at hcr
      obtain ⟨i34, hi34, hz340, hz341, hz342⟩ := info_parts info34
      obtain ⟨i3, hi3, hz30, hz31, hz32⟩ := info_parts info3
      have HX : Hid (TickR w.heap.size w2.heap.size ga (w.heap.size + 1) (now + 1) W T ⟨none, 0, 0⟩ ⟨none, 0, 0⟩ [] [] w (w2.setCell ⟨ga, 0, none⟩ (.int .i64 (now + 1)))) := Lib.hid ⟨ha3, hres3, hO3, hold, World.ownsRow_nil _ _ _ _, World.ownsRow_nil _ _ _ _, hbel3, by simp [World.setCell]⟩
      have hB2 : w.heap.size ≤ w2.heap.size := by have := hbel3.size; simpa [World.setCell] using this
      clear hrow3 hold hres3 hO3 hbel3 ha3
      go_wp2_with fail
      obtain ⟨w3, hw3⟩ : ∃ w3, w2.setCell ⟨ga, 0, none⟩ (.int .i64 (now + 1)) = w3 := ⟨_, rfl⟩
      rw [hw3] at HX ⊢
      have HTr := Lib.hid hTr
      clear hw3 hcr hc0 a0 b0 e0 ha2 hTr
      go_loopw [6, 7, 9] (fun vf vl vi wr => ∃ (k : Nat) (F L : Sli), k ≤ n ∧ vi = .int .i64 (k : Int) ∧ vf = .slice F.A F.n F.c ∧ vl = .slice L.A L.n L.c ∧ F.n ≤ k ∧ L.n ≤ k ∧ TickR w.heap.size w2.heap.size ga (w.heap.size + 1) (now + 1) W T F L ((((W.sl r).take k).filter (fun t => t.2 == now + 1)).map Prod.fst) (((W.sl r).take k).filter (fun t => t.2 != now + 1)) w wr) (fun _ _ vi _ => n - (intOf vi).toNat)
      case atStart => exact ⟨0, ⟨none, 0, 0⟩, ⟨none, 0, 0⟩, Nat.zero_le _, rfl, rfl, rfl, Nat.le_refl _, Nat.le_refl _, by simpa using HX.out⟩
      case round =>
        obtain ⟨k, F, L, hk, rfl, rfl, rfl, hFn, hLn, hR⟩ := hrel
        by_cases hkn : k < n
        · obtain ⟨g, rfl⟩ := hA0 (by omega)
          obtain ⟨⟨x, y⟩, hxy⟩ : ∃ t : Tm, (W.sl r)[k]? = some t := ⟨_, List.getElem?_eq_getElem (by rw [HLn.out]; exact hkn)⟩
          obtain ⟨b, o, hbo, hbl, hx, hy⟩ := (hR.ho.row r hr8).ts.two hxy
          rw [HTr.out] at hbo
          simp only [Option.some.injEq, Addr.mk.injEq, and_true] at hbo
          obtain ⟨rfl, rfl⟩ := hbo
          have hx : wr.cell? ⟨g, k * 2, none⟩ = some (.int .i64 x) := by simpa using hx
          have hy : wr.cell? ⟨g, k * 2 + 1, none⟩ = some (.int .i64 y) := by simpa using hy
          have hc0 := hR.ha.c 0 (v := .int .i64 (now + 1)) rfl
          have HTk : Hid ((W.sl r).take (k + 1) = (W.sl r).take k ++ [(x, y)]) := Lib.hid (by rw [List.take_add_one, hxy]; rfl)
          clear hxy
          have hkI : (k : Int) < (n : Int) := by omega
          have hk0 : (0 : Int) ≤ (k : Int) := by omega
          have hkIn : 0 ≤ (k : Int) ∧ (k : Int) < (n : Int) := ⟨hk0, hkI⟩
          go_wp2_with fail
          go_quiet (fail)
          have hR2 := hR.drewN nq
          have hx2 : (wr.drewN nq).cell? ⟨g, k * 2, none⟩ = some (.int .i64 x) := hx
          have hy2 : (wr.drewN nq).cell? ⟨g, k * 2 + 1, none⟩ = some (.int .i64 y) := hy
          clear hR hx hy hc0
          generalize wr.drewN nq = wd at *
          by_cases hdue : y = now + 1
          · subst hdue
            have HS1 : Hid ((((W.sl r).take (k + 1)).filter (fun t => t.2 == now + 1)).map Prod.fst = (((W.sl r).take k).filter (fun t => t.2 == now + 1)).map Prod.fst ++ [x]) := Lib.hid (by rw [HTk.out]; simp)
            have HS2 : Hid (((W.sl r).take (k + 1)).filter (fun t => t.2 != now + 1) = ((W.sl r).take k).filter (fun t => t.2 != now + 1)) := Lib.hid (by rw [HTk.out]; simp)
            obtain ⟨fs, hfs⟩ : ∃ fs, (((W.sl r).take k).filter (fun t => t.2 == now + 1)).map Prod.fst = fs := ⟨_, rfl⟩
            obtain ⟨ls, hls⟩ : ∃ ls, ((W.sl r).take k).filter (fun t => t.2 != now + 1) = ls := ⟨_, rfl⟩
            rw [hfs] at HS1
            rw [hls] at HS2
            rw [hfs, hls] at hR2
            clear hfs hls
            have HR2 := Lib.hid (hR2.alloc hB2 (.cells #[.int .i64 x] 3))
            have HSrc : Hid (Src (wd.alloc (.cells #[.int .i64 x] 3)) 1 (some ⟨wd.heap.size, 0, none⟩) 1 1 ([x].map (Value.int .i64))) := Lib.hid (by
              have hb := Box.new wd 3 #[.int .i64 x]
              refine .inr ⟨_, rfl, rfl, fun j u hu => ?_⟩
              rw [Addr.add_lit, Nat.zero_add]
              refine hb.c j ?_
              have : (#[Value.int .i64 x])[j]? = ([x].map (Value.int .i64))[j]? := by rw [← Array.getElem?_toList]; rfl
              rw [this]
              exact hu)
            have hBw : w.heap.size ≤ (wd.alloc (.cells #[.int .i64 x] 3)).heap.size := Nat.le_trans hB2 HR2.out.le
            clear hR2
            go_wp2_with (at_builtin; refine wpList_app _ rfl _ _ 37 rfl w.heap.size 3 i3 _ 1 8 (by decide) Try.underlying37 hi3 hz30 hz31 hz32 rfl (.slice F.A F.n F.c) F.n (fs.map (Value.int .i64)) rfl HR2.out.f (some ⟨wd.heap.size, 0, none⟩) 1 1 ([x].map (Value.int .i64)) rfl HSrc.out (one_iv _) ?_ ?_ hBw (F.n + 1) rfl ?_; (unfold maxLen; omega); omega; intro A' c' w' h1 h2 h3; refine Hid.out ?_)
            have HR3 := Lib.hid (HR2.out.fire hB2 (F' := ⟨A', F.n + 1, c'⟩) (x := x) (by show w'.ownsRow _ _ _ _ _ _; rw [List.map_append]; exact h1) h2)
            clear h1 h2 h3 HR2 HSrc
            refine Lib.hid ?_
            go_wp2
            refine ⟨⟨k + 1, ⟨A', F.n + 1, c'⟩, L, by omega, by go_num, rfl, rfl, by simp only; omega, by omega, by rw [HS1.out, HS2.out]; exact HR3.out⟩, by simp [intOf]; omega⟩
          · have HS1 : Hid ((((W.sl r).take (k + 1)).filter (fun t => t.2 == now + 1)).map Prod.fst = (((W.sl r).take k).filter (fun t => t.2 == now + 1)).map Prod.fst) := Lib.hid (by rw [HTk.out]; simp [hdue])
            have HS2 : Hid (((W.sl r).take (k + 1)).filter (fun t => t.2 != now + 1) = ((W.sl r).take k).filter (fun t => t.2 != now + 1) ++ [(x, y)]) := Lib.hid (by rw [HTk.out]; simp [hdue])
            obtain ⟨fs, hfs⟩ : ∃ fs, (((W.sl r).take k).filter (fun t => t.2 == now + 1)).map Prod.fst = fs := ⟨_, rfl⟩
            obtain ⟨ls, hls⟩ : ∃ ls, ((W.sl r).take k).filter (fun t => t.2 != now + 1) = ls := ⟨_, rfl⟩
            rw [hfs] at HS1
            rw [hls] at HS2
            rw [hfs, hls] at hR2
            clear hfs hls
            have HR2 := Lib.hid (hR2.alloc hB2 (.cells #[.int .i64 x, .int .i64 y] 34))
            have HSrc : Hid (Src (wd.alloc (.cells #[.int .i64 x, .int .i64 y] 34)) 2 (some ⟨wd.heap.size, 0, none⟩) 1 1 (tmcs [(x, y)])) := Lib.hid (by
              have hb := Box.new wd 34 #[.int .i64 x, .int .i64 y]
              refine .inr ⟨_, rfl, rfl, fun j u hu => ?_⟩
              rw [Addr.add_lit, Nat.zero_add]
              refine hb.c j ?_
              have : (#[Value.int .i64 x, Value.int .i64 y])[j]? = (tmcs [(x, y)])[j]? := by rw [← Array.getElem?_toList]; rfl
              rw [this]
              exact hu)
            have hBw : w2.heap.size ≤ (wd.alloc (.cells #[.int .i64 x, .int .i64 y] 34)).heap.size := HR2.out.le
            clear hR2
            go_wp2_with (at_builtin; refine wpList_app _ rfl _ _ 22 rfl w2.heap.size 34 i34 _ 2 16 (by decide) Try.underlying22 hi34 hz340 hz341 hz342 rfl (.slice L.A L.n L.c) L.n (tmcs ls) rfl HR2.out.l (some ⟨wd.heap.size, 0, none⟩) 1 1 (tmcs [(x, y)]) rfl HSrc.out (tmcs_one _) ?_ ?_ hBw (L.n + 1) rfl ?_; (unfold maxLen; omega); omega; intro A' c' w' h1 h2 h3; refine Hid.out ?_)
            have HR3 := Lib.hid (HR2.out.leave hB2 (L' := ⟨A', L.n + 1, c'⟩) (x := (x, y)) (by show w'.ownsRow _ _ _ _ _ _; rw [tmcs_app]; exact h1) h2)
            clear h1 h2 h3 HR2 HSrc
            refine Lib.hid ?_
            go_wp2
            refine ⟨⟨k + 1, F, ⟨A', L.n + 1, c'⟩, by omega, by go_num, rfl, rfl, by omega, by simp only; omega, by rw [HS1.out, HS2.out]; exact HR3.out⟩, by simp [intOf]; omega⟩
        · have hkn' : k = n := by omega
          subst hkn'
          have hall : (W.sl r).take k = W.sl r := List.take_of_length_le (Nat.le_of_eq HLn.out)
          rw [hall] at hR
          have hc0 := hR.ha.c 0 (v := .int .i64 (now + 1)) rfl
          have hcr := hR.ha.slot hr8
          have hfr := hR.ha.f (1 + r)
          have ha5 := hR.ha.putS hr8 L.A L.n L.c
          have hr5 := hR.hr.far (p := ⟨ga, 1 + r, none⟩) (by simp; omega) (.slice L.A L.n L.c)
          have hO5 : Own8 (wr.setCell ⟨ga, 1 + r, none⟩ (.slice L.A L.n L.c)) w.heap.size W.tick (putS T r L) := by
            have hnew : ∀ j, j < 8 → ∀ p q, L.A = some p → (T j).A = some q → p.block ≠ q.block := fun j hj p q hp hq => by
              have h1 := hR.old j hj q hq
              have h2 := (hR.l.blk p hp).1
              omega
            refine ⟨fun j hj => ?_, fun i j hi hj hij p q hp hq => ?_⟩
            · by_cases hjr : j = r
              · subst hjr
                rw [putS_same]
                have e : W.tick.sl j = (W.sl j).filter (fun t => t.2 != now + 1) := by simp [Wl.tick, HN.out, HR.out]
                rw [e]
                exact (hR.l.mono hB2).farB hR.ha (by decide) _ _
              · rw [putS_other _ hjr]
                have e : W.tick.sl j = W.sl j := by simp [Wl.tick, HN.out, HR.out, hjr]
                rw [e]
                exact (hR.ho.row j hj).farB hR.ha (by decide) _ _
            · by_cases hir : i = r
              · subst hir
                rw [putS_same] at hp
                rw [putS_other _ (Ne.symm hij)] at hq
                exact hnew j hj p q hp hq
              · rw [putS_other _ hir] at hp
                by_cases hjr : j = r
                · subst hjr
                  rw [putS_same] at hq
                  exact (hnew i hi q p hq hp).symm
                · rw [putS_other _ hjr] at hq
                  exact hR.ho.sep i j hi hj hij p q hp hq
          have hb5 := hR.hb.setCell (p := ⟨ga, 1 + r, none⟩) (by simp; omega) (.slice L.A L.n L.c)
          have hF5 := hR.f.farB hR.ha (1 + r) (.slice L.A L.n L.c)
          have HDu : Hid (W.due = ((W.sl r).filter (fun t => t.2 == now + 1)).map Prod.fst) := Lib.hid (by simp [Wl.due, HN.out, HR.out])
          obtain ⟨U, hU⟩ : ∃ U, putS T r L = U := ⟨_, rfl⟩
          rw [hU] at ha5 hO5
          have hnt : W.tick.now = now + 1 := by simp [Wl.tick, HN.out]
          have HNT := Lib.hid hnt
          have HF5 := Lib.hid (hF5.far9 hr5 (.int .i64 (now + 1)) (.slice (U 0).A (U 0).n (U 0).c) (.slice (U 1).A (U 1).n (U 1).c) (.slice (U 2).A (U 2).n (U 2).c) (.slice (U 3).A (U 3).n (U 3).c) (.slice (U 4).A (U 4).n (U 4).c) (.slice (U 5).A (U 5).n (U 5).c) (.slice (U 6).A (U 6).n (U 6).c) (.slice (U 7).A (U 7).n (U 7).c)).ints
          clear hU hnt hR hall hF5
          obtain ⟨c0, c1, c2, c3, c4, c5, c6, c7, c8⟩ := ha5.nine
          obtain ⟨d0, d1, d2, d3, d4, d5, d6, d7, d8⟩ := hr5.nine
          have f0 := hr5.f 0
          have f1 := hr5.f 1
          have f2 := hr5.f 2
          have f3 := hr5.f 3
          have f4 := hr5.f 4
          have f5 := hr5.f 5
          have f6 := hr5.f 6
          have f7 := hr5.f 7
          have f8 := hr5.f 8
          have HO := Lib.hid (hO5.far9 hr5 (by decide) (.int .i64 (now + 1)) (.slice (U 0).A (U 0).n (U 0).c) (.slice (U 1).A (U 1).n (U 1).c) (.slice (U 2).A (U 2).n (U 2).c) (.slice (U 3).A (U 3).n (U 3).c) (.slice (U 4).A (U 4).n (U 4).c) (.slice (U 5).A (U 5).n (U 5).c) (.slice (U 6).A (U 6).n (U 6).c) (.slice (U 7).A (U 7).n (U 7).c))
          have HB := Lib.hid (below_set9 hb5 (Nat.le_succ _) (.int .i64 (now + 1)) (.slice (U 0).A (U 0).n (U 0).c) (.slice (U 1).A (U 1).n (U 1).c) (.slice (U 2).A (U 2).n (U 2).c) (.slice (U 3).A (U 3).n (U 3).c) (.slice (U 4).A (U 4).n (U 4).c) (.slice (U 5).A (U 5).n (U 5).c) (.slice (U 6).A (U 6).n (U 6).c) (.slice (U 7).A (U 7).n (U 7).c))
          have hend : Box _ _ 25 (wcs (now + 1) U) := hr5.set9 (.int .i64 (now + 1)) (.slice (U 0).A (U 0).n (U 0).c) (.slice (U 1).A (U 1).n (U 1).c) (.slice (U 2).A (U 2).n (U 2).c) (.slice (U 3).A (U 3).n (U 3).c) (.slice (U 4).A (U 4).n (U 4).c) (.slice (U 5).A (U 5).n (U 5).c) (.slice (U 6).A (U 6).n (U 6).c) (.slice (U 7).A (U 7).n (U 7).c)
          have HEnd := Lib.hid hend.nine
          clear hend
          go_wp2
          obtain ⟨q0, q1, q2, q3, q4, q5, q6, q7, q8⟩ := HEnd.out
          refine bodyPost_ret (v := .tuple #[wv (now + 1) U, .slice F.A F.n F.c, .int .i64 0]) (by simp [results, Try.results17, go_sem, q0, q1, q2, q3, q4, q5, q6, q7, q8]) rfl ?_
          rw [HE.out]; exact ⟨U, F, by rw [HNT.out], HO.out, by rw [HDu.out]; exact HF5.out, HB.out⟩

end Go.Proofs.Ytncbfkoldllbpaa
