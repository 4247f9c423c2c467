/-
  The walks of head's own parseFields, firstLines and Parse.
-/
import Derived.Test.YteefjcllbnmegaaGreatDoorHdG
namespace Go.Proofs.YteefjcllbnmegaaGreatDoor
open Go.RowKit

/-! the map of first lines -/
theorem push_set {α : Type} (a : Array α) (o o' : α) : (a.push o).setIfInBounds a.size o' = a.push o' := by
  apply Array.ext_getElem?
  intro i
  rw [Array.getElem?_setIfInBounds, Array.getElem?_push, Array.getElem?_push]
  by_cases h : a.size = i
  · subst h; simp
  · rw [if_neg h, if_neg (fun e => h e.symm), if_neg (fun e => h e.symm)]
theorem alloc_set (w : World) (o o' : Obj) : { (w.alloc o) with heap := (w.alloc o).heap.setIfInBounds w.heap.size o' } = w.alloc o' := by
  unfold World.alloc
  show World.mk _ _ _ _ _ = World.mk _ _ _ _ _
  rw [push_set]
theorem mu1 (w : World) (v : Value) : (Instr.mapUpdate 53 (.map (some w.heap.size)) (.bool false) v).run Tryz.prog (w.alloc (.map #[] 0)) = .ok () (w.alloc (.map #[{ key := .bool false, val := v, born := 0 }] 1)) := by
  have hb : (w.alloc (.map #[] 0)).heap[w.heap.size]? = some (.map #[] 0) := heap_alloc_new w _
  have hf : Instr.findNow .bool (.bool false) ([] : List MapEntry) 0 = some none := rfl
  have hc : (Instr.checkKey false 10000 4 (.bool false)).run Tryz.prog (w.alloc (.map #[] 0)) = .ok () (w.alloc (.map #[] 0)) := MapKept.run_checkKey (k := .bool false) Tryz.underlying4 (by simp [MapKept.IsKey]) false 9999
  simp [Instr.mapUpdate, run_underlying Tryz.underlying53, MapKept.run_getObj_map hb, hc, MapKept.run_findKey Tryz.underlying4 hf, MapKept.run_setObj_map _ hb, Result.andThen]
  exact alloc_set _ _ _
theorem mu2 (w : World) (v u : Value) : (Instr.mapUpdate 53 (.map (some w.heap.size)) (.bool true) u).run Tryz.prog (w.alloc (.map #[{ key := .bool false, val := v, born := 0 }] 1)) = .ok () (w.alloc (.map #[{ key := .bool false, val := v, born := 0 }, { key := .bool true, val := u, born := 1 }] 2)) := by
  have hb : (w.alloc (.map #[{ key := .bool false, val := v, born := 0 }] 1)).heap[w.heap.size]? = some (.map #[{ key := .bool false, val := v, born := 0 }] 1) := heap_alloc_new w _
  have hf : Instr.findNow .bool (.bool true) [{ key := .bool false, val := v, born := 0 }] 0 = some none := rfl
  have hc : (Instr.checkKey false 10000 4 (.bool true)).run Tryz.prog (w.alloc (.map #[{ key := .bool false, val := v, born := 0 }] 1)) = .ok () (w.alloc (.map #[{ key := .bool false, val := v, born := 0 }] 1)) := MapKept.run_checkKey (k := .bool true) Tryz.underlying4 (by simp [MapKept.IsKey]) false 9999
  simp [Instr.mapUpdate, run_underlying Tryz.underlying53, MapKept.run_getObj_map hb, hc, MapKept.run_findKey Tryz.underlying4 hf, MapKept.run_setObj_map _ hb, Result.andThen]
  exact alloc_set _ _ _
/-- the map of what first lines mean -/
def Fl (W : World) (g : Nat) (v u : Value) : Prop := W.heap[g]? = some (.map #[{ key := .bool false, val := v, born := 0 }, { key := .bool true, val := u, born := 1 }] 2)
theorem lk0 {W : World} {g : Nat} {v u : Value} (h : Fl W g v u) (a : Bool) : (Instr.lookup 53 (.map (some g)) (.bool a) false).run Tryz.prog W = .ok (if a = true then u else v) W := by
  have hc : ∀ e, (Instr.checkKey e 10000 4 (.bool a)).run Tryz.prog W = .ok () W := fun e => MapKept.run_checkKey (k := .bool a) Tryz.underlying4 (by simp [MapKept.IsKey]) e 9999
  cases a with
  | false =>
    have hf : Instr.findNow .bool (.bool false) [{ key := .bool false, val := v, born := 0 }, { key := .bool true, val := u, born := 1 }] 0 = some (some (0, v)) := rfl
    simp [Instr.lookup, run_underlying Tryz.underlying53, MapKept.run_getObj_map h, hc, MapKept.run_findKey Tryz.underlying4 hf, Result.andThen]
  | true =>
    have hf : Instr.findNow .bool (.bool true) [{ key := .bool false, val := v, born := 0 }, { key := .bool true, val := u, born := 1 }] 0 = some (some (1, u)) := rfl
    simp [Instr.lookup, run_underlying Tryz.underlying53, MapKept.run_getObj_map h, hc, MapKept.run_findKey Tryz.underlying4 hf, Result.andThen]


/-- the map is handed back -/
def FlEnds (w : World) (e : Ending) (w' : World) : Prop := e = .returned (.map (some w.heap.size)) ∧ Fl w' w.heap.size (.func (.func 42) #[] #[]) (.func (.func 43) #[] #[]) ∧ Below w.heap.size w w'
set_option maxRecDepth 100000 in
theorem fl_any (w : World) : Calls Tryz.prog 22 #[] w (FlEnds w) := by
  have hmm := @run_makeMap Tryz.prog
  have m1 := mu1 w
  have m2 := mu2 w
  go_enter Tryz.func22, Tryz.ntmps22
  go_wp2
  go_ret
  exact ⟨rfl, heap_alloc_new w _, ba1 _ _⟩

/-! lines -/
theorem lines_any (s : ByteArray) (hs : s.size ≤ 2000) (w : World) (hM : Mx w) : Calls Tryz.prog 21 #[.string s, .string ⟨#[13, 10]⟩] w (StrsEnds (linesL (dl s)) w) := by
  refine (sh_Split s ⟨#[13, 10]⟩ w hM (by omega) (by decide)).mono ?_
  rintro e w' ⟨rfl, rfl⟩
  have hlen := Lib.splitB_all ⟨#[13, 10]⟩ (by decide) 0 _ s rfl
  have hd := Lib.splitB_data ⟨#[13, 10]⟩ 0 (Lib.countB s ⟨#[13, 10]⟩) s
  have hl : Lib.splitK crlf 0 (Lib.count (dl s) crlf) (dl s) = linesL (dl s) := split_lines (dl s)
  have hc : Lib.countB s ⟨#[13, 10]⟩ ≤ s.size + 1 := by
    have := Lib.count_le (dl s) crlf
    rw [dl_len] at this
    exact this
  refine ⟨⟨some ⟨w.heap.size, 0, none⟩, Lib.countB s ⟨#[13, 10]⟩ + 1, Lib.countB s ⟨#[13, 10]⟩ + 1⟩, Lib.splitB ⟨#[13, 10]⟩ 0 (Lib.countB s ⟨#[13, 10]⟩) s, rfl, hd.trans hl, ?_, ba1 _ _⟩
  exact Ss.new w _ _ hlen (by omega)
theorem ss_tail {w : World} {S : Sli} {x : ByteArray} {xs : List ByteArray} (h : Ss w S (x :: xs)) : ∃ T : Sli, (∀ W, (Instr.slice 25 (.slice S.A S.n S.c) (some (.int .i64 1)) none none).run Tryz.prog W = .ok (.slice T.A T.n T.c) W) ∧ Ss w T xs ∧ T.n ≤ S.n := by
  obtain ⟨A, n, c⟩ := S
  obtain ⟨b, o, hA, hb, hc⟩ := h.rd (by simp [svs])
  simp only at hA
  subst hA
  have hl := h.len
  have hle := h.le
  simp only [List.length_cons] at hl hle
  have el : Tryz.prog.underlying 25 = some (.slice (Tryz.prog.elem 25)) := by kernel_rfl
  have sz : ∀ W, (sizeOf (Tryz.prog.elem 25)).run Tryz.prog W = .ok 1 W := fun W => by kernel_rfl
  by_cases h1 : c = 1
  · refine ⟨⟨some ⟨b, o, none⟩, n - 1, c - 1⟩, fun W => ?_, ⟨?_, ?_, (fun e => by cases e), ?_⟩, by simp only; omega⟩
    · rw [run_slice_l W 25 _ n c el .i64 (1 : Int) (by omega) (by omega), sz]
      simp only [Result.andThen, sliced]
      rw [if_pos (by simpa using h1)]
      rfl
    · simp only; omega
    · intro hp
      have : xs.length = 0 := by omega
      simp [svs, this] at hp
    · simp only; omega
  · refine ⟨⟨some ⟨b, o + 1, none⟩, n - 1, c - 1⟩, fun W => ?_, ⟨?_, ?_, (fun e => by cases e), ?_⟩, by simp only; omega⟩
    · rw [run_slice_l W 25 _ n c el .i64 (1 : Int) (by omega) (by omega), sz]
      simp only [Result.andThen, sliced]
      rw [if_neg (by simpa using h1)]
      rfl
    · simp only; omega
    · intro _
      refine ⟨b, o + 1, rfl, hb, fun j u hu => ?_⟩
      have := hc (j + 1) u (by simpa [svs] using hu)
      rw [show o + 1 + j = o + (j + 1) by omega]
      exact this
    · simp only; omega

/-! the fields -/
theorem src_two (w1 : World) (o : Obj) (f v : ByteArray) : Src ((w1.alloc o).alloc (.cells #[.string f, .string v] 36)) 2 (some ⟨w1.heap.size + 1, 0, none⟩) 1 1 (fvs [(f, v)]) := by
  have := src_one (w1.alloc o) 36 (fvs [(f, v)]) 1 2 rfl
  rw [show (w1.alloc o).heap.size = w1.heap.size + 1 by simp] at this
  exact this
/-- the slice lies in memory that the call made -/
def Fresh (w : World) (S : Sli) : Prop := ∀ ad, S.A = some ad → w.heap.size ≤ ad.block
theorem fresh_nil (w : World) : Fresh w ⟨none, 0, 0⟩ := fun _ h => by cases h
theorem Row.fresh {w wr : World} {e : TypeId} {sz : Nat} {S : Sli} {cs : List Value} (h : Row wr w.heap.size e sz S cs) : Fresh w S := by
  intro ad hA
  rcases h.2 with ⟨h1, _⟩ | ⟨g, cap, cur, h1, hb, _⟩
  · simp only [Value.slice.injEq] at h1
    rw [h1.1] at hA
    cases hA
  · simp only [Value.slice.injEq] at h1
    rw [h1.1] at hA
    obtain rfl := Option.some.inj hA
    exact hb
/-- fields and an error are handed back -/
def PfEnds (q : List (Bs × Bs) × Int) (w : World) (e : Ending) (w' : World) : Prop :=
  ∃ (S : Sli) (fs : List Fd), e = .returned (.tuple #[.slice S.A S.n S.c, .int .i64 q.2]) ∧ dls fs = q.1 ∧ Fs w' S fs ∧ Fresh w S ∧ Below w.heap.size w w'
theorem fs_nil (w : World) : Fs w ⟨none, 0, 0⟩ [] := ⟨rfl, fun h => absurd h (by simp [fvs]), fun _ => rfl, Nat.le_refl _, Nat.zero_le _⟩
theorem dls_app (fs : List Fd) (x y : ByteArray) : dls (fs ++ [(x, y)]) = dls fs ++ [(dl x, dl y)] := by simp [dls]
/-- texts of no more than so many bytes -/
def FewS (xs : List ByteArray) : Prop := ∀ x ∈ xs, x.size ≤ 4096
theorem map_drop {xs : List ByteArray} {k : Nat} {x : ByteArray} (h : xs[k]? = some x) : (xs.drop k).map dl = dl x :: (xs.drop (k + 1)).map dl := by
  obtain ⟨h1, h2⟩ := List.getElem?_eq_some_iff.1 h
  rw [List.drop_eq_getElem_cons h1, h2]
  rfl

set_option maxRecDepth 100000 in
set_option maxHeartbeats 2000000 in
theorem pf_any (A : Option Addr) (n c : Nat) (xs : List ByteArray) (w : World) (hL : Ss w ⟨A, n, c⟩ xs) (hn : n ≤ 4096) (hf : FewS xs) : Calls Tryz.prog 23 #[.slice A n c] w (PfEnds (pfL [] (xs.map dl)) w) := by
  obtain ⟨i32, hi, hz0, hz1, hz2⟩ := info_parts info32
  have HF := Lib.hid hf
  have HL := Lib.hid hL
  have hlen : Hid (xs.length = n) := Lib.hid hL.len
  clear hf hL
  go_enter Tryz.func23, Tryz.ntmps23
  go_wp2_with fail
  go_loopw [11, 4] (fun i o wr => ∃ (k : Nat) (O : Sli) (fs : List Fd), k ≤ n ∧ k ≤ 20 ∧ O.n = k ∧ i = .int .i64 (k : Int) ∧ o = .slice O.A O.n O.c ∧ Hid (fs.length = k ∧ pfL [] (xs.map dl) = pfL (dls fs) ((xs.drop k).map dl)) ∧ Hid (Out 36 2 w wr O (fvs fs))) (fun i _ _ => n - (intOf i).toNat)
  case atStart => exact ⟨0, ⟨none, 0, 0⟩, [], Nat.zero_le _, by omega, rfl, rfl, rfl, Lib.hid ⟨rfl, rfl⟩, Lib.hid (Out.nil _ _ _ _ (Below.refl _ _))⟩
  case round =>
    obtain ⟨k, O, fs, hk, hk20, hO, rfl, rfl, HX, HO⟩ := hrel
    obtain ⟨OA, On, Oc⟩ := O
    simp only at hO
    subst hO
    by_cases hlt : On < n
    · obtain ⟨b, o, x, hA, hb, hx, c1⟩ := (HL.out.up HO.out.hb).cell (k := On) hlt
      simp only at hA
      subst hA
      have HP := Lib.hid (fun W => parse_any x (HF.out _ (List.mem_of_getElem? hx)) W)
      have HS : Hid (pfL [] (xs.map dl) = if (dls fs).length = 20 then ([], 2) else if (parse3 (dl x)).2.2 = 0 then pfL (dls fs ++ [((parse3 (dl x)).1, (parse3 (dl x)).2.1)]) ((xs.drop (On + 1)).map dl) else ([], (parse3 (dl x)).2.2)) := Lib.hid (by rw [HX.out.2, map_drop hx, pfL])
      clear hx
      have hki : (On : Int) < (n : Int) := by omega
      have hk0 : (0 : Int) ≤ (On : Int) := by omega
      by_cases h20 : On = 20
      · have HE : Hid (pfL [] (xs.map dl) = ([], 2)) := Lib.hid (by rw [HS.out, if_pos (by rw [List.length_map, HX.out.1]; exact h20)])
        subst h20
        clear HS
        go_wp2
        refine bodyPost_ret (v := .tuple #[.slice none 0 0, .int .i64 2]) (by simp [results, Tryz.results23, go_sem]) rfl ?_
        exact ⟨⟨none, 0, 0⟩, [], by rw [HE.out], by rw [HE.out]; rfl, fs_nil _, fresh_nil _, HO.out.hb⟩
      · have e20 : ((On : Int) == 20) = false := beq_eq_false_iff_ne.2 (by omega)
        have HS2 : Hid (pfL [] (xs.map dl) = if (parse3 (dl x)).2.2 = 0 then pfL (dls fs ++ [((parse3 (dl x)).1, (parse3 (dl x)).2.1)]) ((xs.drop (On + 1)).map dl) else ([], (parse3 (dl x)).2.2)) := Lib.hid (by rw [HS.out, if_neg (by rw [List.length_map, HX.out.1]; exact h20)])
        clear HS
        go_wp2_with fail
        refine (HP.out _).mono ?_
        rintro e w1 ⟨f, v, ce, rfl, hfv, hvv, hce, hb1⟩
        rw [← hfv, ← hvv, ← hce] at HS2
        clear hfv hvv hce
        have HO1 := Lib.hid (HO.out.up (bon hb1 (ba1 w1 (.cells #[.string f, .string v] 36))))
        clear HO hb1
        by_cases hc0 : ce = 0
        · subst hc0
          have HS3 : Hid (pfL [] (xs.map dl) = pfL (dls (fs ++ [(f, v)])) ((xs.drop (On + 1)).map dl)) := Lib.hid (by rw [HS2.out, if_pos rfl, dls_app])
          clear HS2
          have HSrc : Hid (Src ((w1.alloc (.cells #[.string f, .string v] 36)).alloc (.cells #[.string f, .string v] 36)) 2 (some ⟨w1.heap.size + 1, 0, none⟩) 1 1 (fvs [(f, v)])) := Lib.hid (src_two w1 _ f v)
          have HO2 := Lib.hid (HO1.out.up (ba1 (w1.alloc (.cells #[.string f, .string v] 36)) (.cells #[.string f, .string v] 36)))
          have hBw : w.heap.size ≤ ((w1.alloc (.cells #[.string f, .string v] 36)).alloc (.cells #[.string f, .string v] 36)).heap.size := HO2.out.le
          clear HO1
          go_wp2_with (at_builtin; refine wpList_app _ rfl _ _ 28 rfl w.heap.size 36 i32 _ 2 32 (by decide) Tryz.underlying28 hi hz0 hz1 hz2 rfl (.slice OA On Oc) On (fvs fs) rfl HO2.out.row (some ⟨w1.heap.size + 1, 0, none⟩) 1 1 (fvs [(f, v)]) rfl HSrc.out (fvs_one _) ?_ ?_ hBw (On + 1) rfl ?_; (unfold maxLen; omega); omega; intro A' c' w3 h1 h2 h3; refine Hid.out ?_)
          have HO3 := Lib.hid (HO2.out.app (cs' := fvs (fs ++ [(f, v)])) (by rw [fvs_app]; exact h1) h2)
          clear h1 h2 h3 HO2 HSrc
          refine Lib.hid ?_
          go_wp2
          go_roundw
          case rel => exact ⟨On + 1, ⟨A', On + 1, c'⟩, fs ++ [(f, v)], by omega, by omega, rfl, by go_num, rfl, Lib.hid ⟨by rw [List.length_append, HX.out.1]; rfl, HS3.out⟩, HO3⟩
          case measure => simp [intOf]; omega
        · have HE : Hid (pfL [] (xs.map dl) = ([], ce)) := Lib.hid (by rw [HS2.out, if_neg hc0])
          have e0 : (ce != 0) = true := bne_iff_ne.2 hc0
          clear hc0 HS2
          go_wp2
          refine bodyPost_ret (v := .tuple #[.slice none 0 0, .int .i64 ce]) (by simp [results, Tryz.results23, go_sem]) rfl ?_
          exact ⟨⟨none, 0, 0⟩, [], by rw [HE.out], by rw [HE.out]; rfl, fs_nil _, fresh_nil _, HO1.out.hb⟩
    · obtain rfl : On = n := by omega
      have HE : Hid (pfL [] (xs.map dl) = (dls fs, 0)) := Lib.hid (by rw [HX.out.2, List.drop_of_length_le (by rw [hlen.out]; exact Nat.le_refl _)]; rfl)
      go_wp2
      refine bodyPost_ret (v := .tuple #[.slice OA On Oc, .int .i64 0]) (by simp [results, Tryz.results23, go_sem]) rfl ?_
      exact ⟨⟨OA, On, Oc⟩, fs, by rw [HE.out], by rw [HE.out], HO.out.row.fs, HO.out.row.fresh, HO.out.hb⟩

end Go.Proofs.YteefjcllbnmegaaGreatDoor
