/-
  The walk of the document's own Cancel.
-/
import Derived.Test.YtncbfkoldllbpaaRefD
import Derived.Deep.RegionLaw
import Derived.Deep.Upon
import Derived.Deep.DeepCutAuto
namespace Go.Proofs.Ytncbfkoldllbpaa
open Go.RowKit

theorem filter_erase {id : Int} {xs : List Tm} {k : Nat} (hk : k < xs.length) (h : ∀ (l : Nat) (t : Tm), xs[l]? = some t → (t.1 = id ↔ l = k)) : xs.filter (fun t => t.1 != id) = xs.take k ++ xs.drop (k + 1) := by
  have e : xs = xs.take k ++ xs[k] :: xs.drop (k + 1) := by
    rw [List.getElem_cons_drop, List.take_append_drop]
  have h1 : (xs.take k).filter (fun t => t.1 != id) = xs.take k := by
    rw [List.filter_eq_self]
    intro t ht
    obtain ⟨l, hl, rfl⟩ := List.mem_iff_getElem.1 ht
    have hl' : l < k ∧ l < xs.length := by simp at hl; omega
    rw [List.getElem_take]
    have := (h l _ (List.getElem?_eq_getElem hl'.2)).1
    simp only [bne_iff_ne, ne_eq]
    intro he
    have := this he
    omega
  have h2 : (xs.drop (k + 1)).filter (fun t => t.1 != id) = xs.drop (k + 1) := by
    rw [List.filter_eq_self]
    intro t ht
    obtain ⟨l, hl, rfl⟩ := List.mem_iff_getElem.1 ht
    have hl' : k + 1 + l < xs.length := by simp at hl; omega
    rw [List.getElem_drop]
    have := (h (k + 1 + l) _ (List.getElem?_eq_getElem hl')).1
    simp only [bne_iff_ne, ne_eq]
    intro he
    have := this he
    omega
  have h3 : (xs[k].1 != id) = false := by
    have := (h k _ (List.getElem?_eq_getElem hk)).2 rfl
    simp [this]
  conv => lhs; rw [e]
  rw [List.filter_append, List.filter_cons, h1, h2, h3]
  simp

theorem drop_put {W : Wl} (ho : Ok W) {id : Int} {i k : Nat} (hp : Place W id i k) : ∀ j, j < 8 → (W.drop id).sl j = (W.put i ((W.sl i).take k ++ (W.sl i).drop (k + 1))).sl j := by
  intro j hj
  by_cases hji : j = i
  · subst hji
    obtain ⟨t, ht, he⟩ := hp.2
    simp only [Wl.drop, Wl.put, if_true]
    refine filter_erase (List.getElem?_eq_some_iff.1 ht).1 fun l u hu => ⟨fun h => ?_, fun h => ?_⟩
    · exact (ho.once id j l j k ⟨hj, u, hu, h⟩ hp).2
    · subst h
      have := Option.some.inj (hu.symm.trans ht)
      rw [this]
      exact he
  · simp only [Wl.drop, Wl.put, if_neg hji]
    rw [List.filter_eq_self]
    intro t ht
    obtain ⟨l, hl, rfl⟩ := List.mem_iff_getElem.1 ht
    simp only [bne_iff_ne, ne_eq]
    intro he
    exact hji (ho.once id j l i k ⟨hj, _, List.getElem?_eq_getElem hl, he⟩ hp).1
theorem Own8.same {w : World} {B : Nat} {W W' : Wl} {S : Nat → Sli} (h : Own8 w B W S) (he : ∀ j, j < 8 → W'.sl j = W.sl j) : Own8 w B W' S := ⟨fun i hi => by rw [he i hi]; exact h.row i hi, h.sep⟩

theorem el22 : Try.prog.underlying 22 = some (.slice (Try.prog.elem 22)) := by kernel_rfl
theorem size22 (w : World) : (sizeOf (Try.prog.elem 22)).run Try.prog w = .ok 2 w := by kernel_rfl
theorem add_none (g o k : Nat) : (⟨g, o, none⟩ : Addr).add k = ⟨g, o + k, none⟩ := Addr.add_lit ..

theorem sl_to (gi L c j : Nat) (hj : j ≤ c) (w : World) : (Instr.slice 22 (.slice (some ⟨gi, 0, none⟩) L c) none (some (.int .i64 (j : Int))) none).run Try.prog w = .ok (.slice (some ⟨gi, 0, none⟩) j c) w := by
  rw [run_slice_h w 22 _ L c el22 .i64 (j : Int) (by omega) (by omega), size22]
  simp only [Result.andThen, sliced, Nat.zero_mul, Int.toNat_natCast, Nat.sub_zero]
  split <;> simp [add_none]
theorem sl_from (gi L c j : Nat) (hj : j < L) (hc : c ≠ j + 1) (w : World) : (Instr.slice 22 (.slice (some ⟨gi, 0, none⟩) L c) (some (.int .i64 ((j : Int) + 1))) none none).run Try.prog w = .ok (.slice (some ⟨gi, (j + 1) * 2, none⟩) (L - (j + 1)) (c - (j + 1))) w := by
  have e : ((j : Int) + 1).toNat = j + 1 := by omega
  rw [run_slice_l w 22 _ L c el22 .i64 ((j : Int) + 1) (by omega) (by omega), size22]
  simp only [Result.andThen, sliced, e, if_neg hc, Option.map_some, add_none, Nat.zero_add]
theorem sl_from1 (gi j : Nat) (w : World) : (Instr.slice 22 (.slice (some ⟨gi, 0, none⟩) (j + 1) (j + 1)) (some (.int .i64 ((j : Int) + 1))) none none).run Try.prog w = .ok (.slice (some ⟨gi, 0, none⟩) 0 0) w := by
  have e : ((j : Int) + 1).toNat = j + 1 := by omega
  rw [run_slice_l w 22 _ (j + 1) (j + 1) el22 .i64 ((j : Int) + 1) (by omega) (by omega), size22]
  simp only [Result.andThen, sliced, e, if_true, Nat.sub_self]

theorem tmcs_take : ∀ (xs : List Tm) (k : Nat), tmcs (xs.take k) = (tmcs xs).take (k * 2)
  | [], k => by simp [tmcs]
  | x :: r, 0 => rfl
  | x :: r, k + 1 => by
    have e : tmcs (x :: r) = tmc x ++ tmcs r := rfl
    have e2 : tmcs ((x :: r).take (k + 1)) = tmc x ++ tmcs (r.take k) := rfl
    rw [e, e2, tmcs_take r k, show (k + 1) * 2 = (tmc x).length + k * 2 by simp [tmc]; omega, List.take_length_add_append]
/-- the first k of a row, and those behind -/
theorem TRow.take {w : World} {B g n c : Nat} {xs : List Tm} (h : TRow w B ⟨some ⟨g, 0, none⟩, n, c⟩ xs) {k : Nat} (hk : k ≤ n) : TRow w B ⟨some ⟨g, 0, none⟩, k, c⟩ (xs.take k) := by
  have hl := h.len
  refine ⟨by rw [tmcs_len, List.length_take]; simp only at hl ⊢; rw [hl, Nat.min_eq_left hk], ?_⟩
  rcases h.2 with ⟨h1, _⟩ | ⟨g', cap, cur, h1, hb, hg, hnc, hm, hcs, hv⟩
  · simp at h1
  · simp only [Value.slice.injEq] at h1
    obtain ⟨h1, _, rfl⟩ := h1
    refine .inr ⟨g', c, cur, by rw [h1], hb, hg, Nat.le_trans hk hnc, hm, hcs, ?_⟩
    rw [tmcs_take, ← hv, List.take_take, Nat.min_eq_left (by simp only; omega)]
theorem Ts.drop {w : World} {g : Nat} {xs : List Tm} (h : Ts w (some ⟨g, 0, none⟩) xs) (k : Nat) : Ts w (some ⟨g, k * 2, none⟩) (xs.drop k) := by
  intro hx
  have hkl : k < xs.length := by simp at hx; omega
  obtain ⟨b, o, hA, hb, hc⟩ := h (by omega)
  simp only [Option.some.injEq, Addr.mk.injEq, and_true] at hA
  obtain ⟨rfl, rfl⟩ := hA
  refine ⟨g, k * 2, rfl, hb, fun j hj => ?_⟩
  have := hc (k + j) (by simp at hj; omega)
  rw [List.getElem?_drop]
  rw [show 0 + (k + j) * 2 = k * 2 + j * 2 by omega] at this
  exact this

/-- the row that was cut, and the boxes beside it -/
structure CutA (B g gr i : Nat) (now : Int) (T : Nat → Sli) (W' : Wl) (s : Sli) (w w9 : World) : Prop where
  ha : Box w9 g 25 (wcs now T)
  hr : Box w9 gr 25 (wcs 0 (fun _ => ⟨none, 0, 0⟩))
  ho : Own8 w9 B W' (putS T i s)
  hb : Below B w w9

theorem cutA {B ga gr i k g n c n' c' : Nat} {now : Int} {T : Nat → Sli} {W : Wl} {A' : Option Addr} {w w3 w9 : World} (hi8 : i < 8) (ha : Box w3 ga 25 (wcs now T)) (hr : Box w3 gr 25 (wcs 0 (fun _ => ⟨none, 0, 0⟩))) (hO : Own8 w3 B W T) (hbel : Below B w w3) (hB : B ≤ w3.heap.size) (hTi : T i = ⟨some ⟨g, 0, none⟩, n, c⟩)
    (h1 : w9.ownsRow B 34 2 (.slice A' n' c') n' (tmcs ((W.sl i).take k) ++ tmcs ((W.sl i).drop (k + 1)))) (h2 : w3.grownBy w9 (some g)) (h3 : (Value.slice A' n' c').ownBlock = some g ∨ (Value.slice A' n' c').ownBlock = some w3.heap.size) :
    CutA B ga gr i now T (W.put i ((W.sl i).take k ++ (W.sl i).drop (k + 1))) ⟨A', n', c'⟩ w w9 := by
  have hrow := hO.row i hi8
  have e : (Value.slice (T i).A (T i).n (T i).c).ownBlock = some g := by rw [hTi]; rfl
  refine ⟨ha.grown hrow (by rw [e]; exact h2), hr.grown hrow (by rw [e]; exact h2), hO.grown hi8 (by show w9.ownsRow _ _ _ _ _ _; rw [tmcs_app]; exact h1) (by rw [e]; exact h2) (by rw [e]; exact h3), hbel.grown h2 hB fun j hj => ?_⟩
  obtain rfl := Option.some.inj hj
  exact (hrow.blk ⟨g, 0, none⟩ (by rw [hTi])).1

/-- what stands behind the removal -/
def CutC (B g gr : Nat) (now : Int) (W' : Wl) (w wc : World) : Prop := ∃ U, Box wc g 25 (wcs now U) ∧ Box wc gr 25 (wcs 0 (fun _ => ⟨none, 0, 0⟩)) ∧ Own8 wc B W' U ∧ Below B w wc
theorem CutA.cut {B ga gr i n' c' : Nat} {now : Int} {T : Nat → Sli} {W' W2 : Wl} {A' : Option Addr} {w w9 : World} (h : CutA B ga gr i now T W' ⟨A', n', c'⟩ w w9) (hi8 : i < 8) (hne : gr ≠ ga) (hB : B ≤ ga) (hW : ∀ j, j < 8 → W2.sl j = W'.sl j) : CutC B ga gr now W2 w (w9.setCell ⟨ga, 1 + i, none⟩ (.slice A' n' c')) :=
  ⟨_, h.ha.putS hi8 A' n' c', h.hr.far (p := ⟨ga, 1 + i, none⟩) hne _, (h.ho.farB h.ha (by decide) _ _).same hW, h.hb.setCell (p := ⟨ga, 1 + i, none⟩) hB _⟩

set_option maxRecDepth 100000 in
set_option maxHeartbeats 4000000 in
theorem rcancel_any (W : Wl) (S : Nat → Sli) (id : Int) (w : World) (h : At w W S) (hf : manyN W ≤ 1000000) : Calls Try.prog 16 #[wv W.now S, .int .i64 id] w (WhEnds (cancelN W id) w) := by
  have HOw := Lib.hid (fun W1 (hb : Below w.heap.size w W1) => own_any W S W1 (h.up hb) hf)
  have HRt := Lib.hid (fun W1 (hb : Below w.heap.size w W1) => rright_any W S W1 (h.up hb) hf)
  have HFd := Lib.hid (fun W1 (hb : Below w.heap.size w W1) => find_any W S id W1 (h.up hb))
  have HH := Lib.hid h
  clear h
  obtain ⟨now, hn⟩ : ∃ now, W.now = now := ⟨_, rfl⟩
  have HN := Lib.hid hn
  rw [hn] at HOw HRt HFd ⊢
  clear hn
  unfold wv at HOw HRt HFd ⊢
  go_enter Try.func16, Try.ntmps16
  go_wp2_with fail
  refine (HOw.out _ (ba2 _ _ _)).mono ?_
  rintro e w1 ⟨T, rfl, hO, hb1⟩
  rw [HN.out]
  have hbox := ((Box.new w 25 (wcs now S)).alloc (.cells (wcs 0 (fun _ => ⟨none, 0, 0⟩)) 25)).up hb1
  have hres := (Box.mk' (w.alloc (.cells (wcs now S) 25)) 25 (wcs 0 (fun _ => ⟨none, 0, 0⟩)) (w.heap.size + 1) (by simp)).up hb1
  have hbel := bon (ba2 w _ _) hb1
  have hO := hO.mono (B' := w.heap.size) (by simp; omega)
  clear hb1
  unfold wv
  have hboxA := hbox.alloc (.cells (wcs now T) 25)
  have hresA := hres.alloc (.cells (wcs now T) 25)
  have haA := Box.new w1 25 (wcs now T)
  have hOA := hO.up (ba1 w1 (.cells (wcs now T) 25))
  have hbelA := bon hbel (ba1 w1 (.cells (wcs now T) 25))
  obtain ⟨c0, c1, c2, c3, c4, c5, c6, c7, c8⟩ := hboxA.nine
  go_wp2_with fail
  refine (HRt.out _ hbelA).mono ?_
  rintro e w2 ⟨rfl, hb2⟩
  have hbox2 := hboxA.up hb2
  have hres2 := hresA.up hb2
  have ha2 := haA.up hb2
  have hO2 := hOA.up hb2
  have hbel2 := bon hbelA hb2
  obtain ⟨ga, hga⟩ : ∃ ga, w1.heap.size = ga := ⟨_, rfl⟩
  have hgw : w.heap.size + 1 < ga := by rw [← hga]; exact hres.lt
  rw [hga] at ha2 ⊢
  clear c0 c1 c2 c3 c4 c5 c6 c7 c8 hboxA hresA haA hOA hbelA hb2 hbox hres hO hbel hga
  cases hok : okB W with
  | false =>
    have HE : Hid (cancelN W id = (W, 1)) := Lib.hid (by rw [cancelN, if_pos hok])
    clear hok
    obtain ⟨c0, c1, c2, c3, c4, c5, c6, c7, c8⟩ := ha2.nine
    obtain ⟨d0, d1, d2, d3, d4, d5, d6, d7, d8⟩ := hres2.nine
    have f0 := hres2.f 0
    have f1 := hres2.f 1
    have f2 := hres2.f 2
    have f3 := hres2.f 3
    have f4 := hres2.f 4
    have f5 := hres2.f 5
    have f6 := hres2.f 6
    have f7 := hres2.f 7
    have f8 := hres2.f 8
    have HO := Lib.hid (hO2.far9 hres2 (by decide) (.int .i64 now) (.slice (T 0).A (T 0).n (T 0).c) (.slice (T 1).A (T 1).n (T 1).c) (.slice (T 2).A (T 2).n (T 2).c) (.slice (T 3).A (T 3).n (T 3).c) (.slice (T 4).A (T 4).n (T 4).c) (.slice (T 5).A (T 5).n (T 5).c) (.slice (T 6).A (T 6).n (T 6).c) (.slice (T 7).A (T 7).n (T 7).c))
    have HB := Lib.hid (below_set9 hbel2 (Nat.le_succ _) (.int .i64 now) (.slice (T 0).A (T 0).n (T 0).c) (.slice (T 1).A (T 1).n (T 1).c) (.slice (T 2).A (T 2).n (T 2).c) (.slice (T 3).A (T 3).n (T 3).c) (.slice (T 4).A (T 4).n (T 4).c) (.slice (T 5).A (T 5).n (T 5).c) (.slice (T 6).A (T 6).n (T 6).c) (.slice (T 7).A (T 7).n (T 7).c))
    have hend : Box _ _ 25 (wcs now T) := hres2.set9 (.int .i64 now) (.slice (T 0).A (T 0).n (T 0).c) (.slice (T 1).A (T 1).n (T 1).c) (.slice (T 2).A (T 2).n (T 2).c) (.slice (T 3).A (T 3).n (T 3).c) (.slice (T 4).A (T 4).n (T 4).c) (.slice (T 5).A (T 5).n (T 5).c) (.slice (T 6).A (T 6).n (T 6).c) (.slice (T 7).A (T 7).n (T 7).c)
    have HEnd := Lib.hid hend.nine
    clear hend
    go_wp2
    obtain ⟨q0, q1, q2, q3, q4, q5, q6, q7, q8⟩ := HEnd.out
    refine bodyPost_ret (v := .tuple #[wv now T, .int .i64 1]) (by simp [results, Try.results16, go_sem, q0, q1, q2, q3, q4, q5, q6, q7, q8]) rfl ?_
    rw [HE.out]; exact ⟨T, by rw [HN.out], HO.out, HB.out⟩
  | true =>
    have HS1 : Hid (cancelN W id = if hasB W id then (W.drop id, 0) else (W, 5)) := Lib.hid (by rw [cancelN, if_neg (by rw [hok]; simp)])
    have HOk := Lib.hid (ok_iff.1 hok)
    clear hok
    obtain ⟨c0, c1, c2, c3, c4, c5, c6, c7, c8⟩ := hbox2.nine
    go_wp2_with fail
    refine (HFd.out _ hbel2).mono ?_
    rintro e w3 ⟨rfl, hb3⟩
    have hres3 := hres2.up hb3
    have ha3 := ha2.up hb3
    have hO3 := hO2.up hb3
    have hbel3 := bon hbel2 hb3
    clear c0 c1 c2 c3 c4 c5 c6 c7 c8 hbox2 hres2 ha2 hO2 hbel2 hb3
    rcases find_cases W id with ⟨i, k, hp, he⟩ | ⟨hnh, he⟩
    · have HE : Hid (cancelN W id = (W.drop id, 0)) := Lib.hid (by rw [HS1.out, if_pos (has_iff.2 ⟨i, k, hp⟩)])
      rw [he]
      have hi8 : i < 8 := hp.1
      have hrow := hO3.row i hi8
      have hkl : k < (W.sl i).length := by obtain ⟨t, ht, _⟩ := hp.2; exact (List.getElem?_eq_some_iff.1 ht).1
      have hlen := hrow.len
      have hn1 : (T i).n ≤ 64 := by have := len_le W hi8; have := HOk.out.few; omega
      obtain ⟨g, hTA⟩ : ∃ g, (T i).A = some ⟨g, 0, none⟩ := by
        rcases hrow.2 with ⟨_, h2⟩ | ⟨g, cap, cur, h1, _⟩
        · omega
        · simp only [Value.slice.injEq] at h1
          exact ⟨g, h1.1⟩
      obtain ⟨n, c, hTi⟩ : ∃ n c, T i = ⟨some ⟨g, 0, none⟩, n, c⟩ := ⟨(T i).n, (T i).c, by rw [← hTA]⟩
      rw [hTi] at hrow hlen hn1
      simp only at hlen hn1
      have hle : n ≤ c := (hO3.at.le i hi8).1 |> fun q => by rw [hTi] at q; exact q
      have HD := Lib.hid (drop_put HOk.out hp)
      have hc := ha3.slot hi8
      rw [hTi] at hc
      simp only at hc
      have hfz := ha3.f (1 + i)
      obtain ⟨i0, hi, hz0, hz1, hz2⟩ := info_parts info34
      have hkn : k < n := by omega
      have HTk := Lib.hid (hrow.take (k := k) (by omega))
      have HTs := Lib.hid hrow.ts
      have HL := Lib.hid hlen
      have hq1 := sl_to g n c k (by omega)
      have hj5 : IntKind.i64.wrap ((k : Int) + 1) = (k : Int) + 1 := IntWalk.i64_in _ (by omega)
      clear hp he hkl hTA hlen HS1 hrow
      go_wp2_with fail
      go_cut [] (CutC w.heap.size ga (w.heap.size + 1) now (W.drop id) w)
      case first =>
        have hBw : w.heap.size ≤ w3.heap.size := hbel3.size
        have hO3d : Own8 w3.drew w.heap.size W T := hO3.up (Below.refl _ _).drew
        have hI8 : (i : Int) < 8 := by omega
        have hI0 : (0 : Int) ≤ (i : Int) := by omega
        have hIn : 0 ≤ (i : Int) ∧ (i : Int) < 8 := ⟨hI0, hI8⟩
        by_cases hck : c = k + 1
        · subst hck
          obtain rfl : n = k + 1 := by omega
          have hq2 := sl_from1 g k
          have HSrc : Hid (Src w3 2 (some ⟨g, 0, none⟩) 0 0 (tmcs ((W.sl i).drop (k + 1)))) := Lib.hid (by
            have e : (W.sl i).drop (k + 1) = [] := List.drop_of_length_le (Nat.le_of_eq HL.out)
            rw [e]
            exact .inr ⟨_, rfl, rfl, fun j u hu => by simp [tmcs] at hu⟩)
          go_region_law (first | (refine step_app _ (by rfl) _ _ 22 (by rfl) w.heap.size 34 i0 _ 2 16 (by decide) Try.underlying22 hi hz0 hz1 hz2 rfl (.slice (some ⟨g, 0, none⟩) k (k + 1)) k (tmcs ((W.sl i).take k)) (by rfl) HTk.out (some ⟨g, 0, none⟩) 0 0 (tmcs ((W.sl i).drop (k + 1))) (by rfl) HSrc.out (tmcs_one _) ?_ ?_ ?_ k ?_ ?_; (unfold maxLen; omega); omega; exact hBw; omega; intro A9 c9 w9 h1 h2 h3; have hA := cutA (w3 := w3.drew) hi8 ha3 hres3 hO3d hbel3.drew hBw hTi h1 h2 h3; have hc9 := hA.ha.slot hi8; have hf9 := hA.ha.f (1 + i)))
          all_goals (go_wp2_with fail; go_meet; exact hA.cut hi8 (by omega) (by omega) HD.out)
        · have hq2 := sl_from g n c k hkn hck
          have HSrc : Hid (Src w3 2 (some ⟨g, (k + 1) * 2, none⟩) (n - (k + 1)) (c - (k + 1)) (tmcs ((W.sl i).drop (k + 1)))) := Lib.hid ((HTs.out.drop (k + 1)).src (by rw [List.length_drop, HL.out]) (fun h => by cases h))
          go_region_law (first | (refine step_app _ (by rfl) _ _ 22 (by rfl) w.heap.size 34 i0 _ 2 16 (by decide) Try.underlying22 hi hz0 hz1 hz2 rfl (.slice (some ⟨g, 0, none⟩) k c) k (tmcs ((W.sl i).take k)) (by rfl) HTk.out (some ⟨g, (k + 1) * 2, none⟩) (n - (k + 1)) (c - (k + 1)) (tmcs ((W.sl i).drop (k + 1))) (by rfl) HSrc.out (tmcs_one _) ?_ ?_ ?_ (n - 1) ?_ ?_; (unfold maxLen; omega); omega; exact hBw; omega; intro A9 c9 w9 h1 h2 h3; have hA := cutA (w3 := w3.drew) hi8 ha3 hres3 hO3d hbel3.drew hBw hTi h1 h2 h3; have hc9 := hA.ha.slot hi8; have hf9 := hA.ha.f (1 + i)))
          all_goals (go_wp2_with fail; go_meet; exact hA.cut hi8 (by omega) (by omega) HD.out)
      case rest =>
        obtain ⟨U, haU, hrU, hOU, hbU⟩ := hcut
        have hnd : (W.drop id).now = now := HN.out
        have HND := Lib.hid hnd
        clear hnd hc hfz HTk HTs HL hq1 hj5 ha3 hres3 hO3 hbel3 HD hTi hi
        obtain ⟨c0, c1, c2, c3, c4, c5, c6, c7, c8⟩ := haU.nine
        obtain ⟨d0, d1, d2, d3, d4, d5, d6, d7, d8⟩ := hrU.nine
        have f0 := hrU.f 0
        have f1 := hrU.f 1
        have f2 := hrU.f 2
        have f3 := hrU.f 3
        have f4 := hrU.f 4
        have f5 := hrU.f 5
        have f6 := hrU.f 6
        have f7 := hrU.f 7
        have f8 := hrU.f 8
        have HO := Lib.hid (hOU.far9 hrU (by decide) (.int .i64 now) (.slice (U 0).A (U 0).n (U 0).c) (.slice (U 1).A (U 1).n (U 1).c) (.slice (U 2).A (U 2).n (U 2).c) (.slice (U 3).A (U 3).n (U 3).c) (.slice (U 4).A (U 4).n (U 4).c) (.slice (U 5).A (U 5).n (U 5).c) (.slice (U 6).A (U 6).n (U 6).c) (.slice (U 7).A (U 7).n (U 7).c))
        have HB := Lib.hid (below_set9 hbU (Nat.le_succ _) (.int .i64 now) (.slice (U 0).A (U 0).n (U 0).c) (.slice (U 1).A (U 1).n (U 1).c) (.slice (U 2).A (U 2).n (U 2).c) (.slice (U 3).A (U 3).n (U 3).c) (.slice (U 4).A (U 4).n (U 4).c) (.slice (U 5).A (U 5).n (U 5).c) (.slice (U 6).A (U 6).n (U 6).c) (.slice (U 7).A (U 7).n (U 7).c))
        have hend : Box _ _ 25 (wcs now U) := hrU.set9 (.int .i64 now) (.slice (U 0).A (U 0).n (U 0).c) (.slice (U 1).A (U 1).n (U 1).c) (.slice (U 2).A (U 2).n (U 2).c) (.slice (U 3).A (U 3).n (U 3).c) (.slice (U 4).A (U 4).n (U 4).c) (.slice (U 5).A (U 5).n (U 5).c) (.slice (U 6).A (U 6).n (U 6).c) (.slice (U 7).A (U 7).n (U 7).c)
        have HEnd := Lib.hid hend.nine
        clear hend
        go_wp2
        obtain ⟨q0, q1, q2, q3, q4, q5, q6, q7, q8⟩ := HEnd.out
        refine bodyPost_ret (v := .tuple #[wv now U, .int .i64 0]) (by simp [results, Try.results16, go_sem, q0, q1, q2, q3, q4, q5, q6, q7, q8]) rfl ?_
        rw [HE.out]; exact ⟨U, by rw [HND.out], HO.out, HB.out⟩
    · have HE : Hid (cancelN W id = (W, 5)) := Lib.hid (by rw [HS1.out, if_neg (by rw [has_not.2 hnh]; simp)])
      rw [he]
      clear hnh he HS1
      obtain ⟨c0, c1, c2, c3, c4, c5, c6, c7, c8⟩ := ha3.nine
      obtain ⟨d0, d1, d2, d3, d4, d5, d6, d7, d8⟩ := hres3.nine
      have f0 := hres3.f 0
      have f1 := hres3.f 1
      have f2 := hres3.f 2
      have f3 := hres3.f 3
      have f4 := hres3.f 4
      have f5 := hres3.f 5
      have f6 := hres3.f 6
      have f7 := hres3.f 7
      have f8 := hres3.f 8
      have HO := Lib.hid (hO3.far9 hres3 (by decide) (.int .i64 now) (.slice (T 0).A (T 0).n (T 0).c) (.slice (T 1).A (T 1).n (T 1).c) (.slice (T 2).A (T 2).n (T 2).c) (.slice (T 3).A (T 3).n (T 3).c) (.slice (T 4).A (T 4).n (T 4).c) (.slice (T 5).A (T 5).n (T 5).c) (.slice (T 6).A (T 6).n (T 6).c) (.slice (T 7).A (T 7).n (T 7).c))
      have HB := Lib.hid (below_set9 hbel3 (Nat.le_succ _) (.int .i64 now) (.slice (T 0).A (T 0).n (T 0).c) (.slice (T 1).A (T 1).n (T 1).c) (.slice (T 2).A (T 2).n (T 2).c) (.slice (T 3).A (T 3).n (T 3).c) (.slice (T 4).A (T 4).n (T 4).c) (.slice (T 5).A (T 5).n (T 5).c) (.slice (T 6).A (T 6).n (T 6).c) (.slice (T 7).A (T 7).n (T 7).c))
      have hend : Box _ _ 25 (wcs now T) := hres3.set9 (.int .i64 now) (.slice (T 0).A (T 0).n (T 0).c) (.slice (T 1).A (T 1).n (T 1).c) (.slice (T 2).A (T 2).n (T 2).c) (.slice (T 3).A (T 3).n (T 3).c) (.slice (T 4).A (T 4).n (T 4).c) (.slice (T 5).A (T 5).n (T 5).c) (.slice (T 6).A (T 6).n (T 6).c) (.slice (T 7).A (T 7).n (T 7).c)
      have HEnd := Lib.hid hend.nine
      clear hend
      go_wp2
      obtain ⟨q0, q1, q2, q3, q4, q5, q6, q7, q8⟩ := HEnd.out
      refine bodyPost_ret (v := .tuple #[wv now T, .int .i64 5]) (by simp [results, Try.results16, go_sem, q0, q1, q2, q3, q4, q5, q6, q7, q8]) rfl ?_
      rw [HE.out]; exact ⟨T, by rw [HN.out], HO.out, HB.out⟩

end Go.Proofs.Ytncbfkoldllbpaa
