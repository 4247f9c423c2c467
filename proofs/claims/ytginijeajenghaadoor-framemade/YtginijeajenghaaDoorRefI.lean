/-
  The walks of the document's own Items and Get.
-/
import Derived.Test.YtginijeajenghaaDoorHdU
namespace Go.Proofs.YtginijeajenghaaDoor
open Go.RowKit

/-- what Items has still to tell -/
def restI (s : ByteArray) (f k : Nat) : List Bs := if k ≤ s.size then itemsP (splitA (dl (s.extract f k)) ((dl s).drop k)) else []
theorem rest_start (s : ByteArray) : restI s 0 0 = itemsL (dl s) := by
  rw [restI, if_pos (Nat.zero_le _), dl_ext]
  rfl
theorem rest_step {s : ByteArray} {f k : Nat} (hf : f ≤ k) (hk : k < s.size) (h : s[k] ≠ 44) : restI s f k = restI s f (k + 1) := by
  rw [restI, restI, if_pos (Nat.le_of_lt hk), if_pos (show k + 1 ≤ s.size from hk), drop_cons hk, splitA, if_neg h, ext_succ hf hk]
theorem rest_cut {s : ByteArray} {f k : Nat} (hk : k ≤ s.size) (h : ∀ hlt : k < s.size, s[k] = 44) : restI s f k = itemsP [dl (s.extract f k)] ++ restI s (k + 1) (k + 1) := by
  by_cases hlt : k < s.size
  · rw [restI, restI, if_pos hk, if_pos (show k + 1 ≤ s.size from hlt), drop_cons hlt, splitA, if_pos (h hlt), itemsP_cons]
    congr 3
    rw [dl_ext, List.drop_take]
    simp
  · obtain rfl : k = s.size := by omega
    rw [restI, restI, if_pos hk, if_neg (by omega), List.drop_of_length_le (by rw [dl_len]; exact Nat.le_refl _), splitA, List.append_nil]
theorem itemsP_one (p : Bs) : itemsP [p] = if lowerL (trimL p) = [] then [] else [lowerL (trimL p)] := by
  unfold itemsP
  cases h : lowerL (trimL p) with
  | nil => simp [h]
  | cons a r => simp [h]

set_option maxRecDepth 100000 in
set_option maxHeartbeats 4000000 in
theorem ritems_any (s : ByteArray) (hs : s.size ≤ 4096) (w : World) : Calls Tryd.prog 31 #[.string s] w (StrsEnds (itemsL (dl s)) w) := by
  obtain ⟨i9, hi, hz0, hz1, hz2⟩ := info_parts info9
  go_enter Tryd.func31, Tryd.ntmps31
  go_wp2_with fail
  go_loopw [5, 4, 3] (fun i f o wr => ∃ (k m : Nat) (O : Sli) (xs : List ByteArray), k ≤ s.size + 1 ∧ m ≤ k ∧ O.n ≤ k ∧ i = .int .i64 (k : Int) ∧ f = .int .i64 (m : Int) ∧ o = .slice O.A O.n O.c ∧ Hid (itemsL (dl s) = xs.map dl ++ restI s m k) ∧ Hid (Out 9 1 w wr O (svs xs))) (fun i _ _ _ => s.size + 1 - (intOf i).toNat)
  case atStart => exact ⟨0, 0, ⟨none, 0, 0⟩, [], by omega, by omega, Nat.le_refl _, rfl, rfl, rfl, Lib.hid (by rw [rest_start]; rfl), Lib.hid (Out.nil _ _ _ _ (Below.refl _ _))⟩
  case round =>
    obtain ⟨k, m, O, xs, hk, hm, hn, rfl, rfl, rfl, HX, HO⟩ := hrel
    by_cases hle : k ≤ s.size
    · by_cases hgo : ∃ hlt : k < s.size, s[k] ≠ 44
      · obtain ⟨hlt, hne⟩ := hgo
        have HN : Hid (itemsL (dl s) = xs.map dl ++ restI s m (k + 1)) := Lib.hid (by rw [HX.out, rest_step hm hlt hne])
        have e1 : (((s[k]).toNat : Int) != 44) = true := bne_iff_ne.2 (fun he => hne (UInt8.toNat_inj.1 (by
          have h44 : (44 : UInt8).toNat = 44 := rfl
          omega)))
        obtain ⟨n, hn'⟩ : ∃ n, (s[k]).toNat = n := ⟨_, rfl⟩
        rw [hn'] at e1
        clear hne
        go_wp2
        go_roundw
        case rel => exact ⟨k + 1, m, O, xs, by omega, by omega, by omega, by go_num, rfl, rfl, HN, HO⟩
        case measure => simp [intOf]; omega
      · have HC := Lib.hid (rest_cut (f := m) hle (fun hlt => Classical.not_not.1 (fun hne => hgo ⟨hlt, hne⟩)))
        have HTr := Lib.hid (fun W => rtrim_any (s.extract m k) (by rw [ByteArray.size_extract]; omega) W)
        have hgo' : ¬ k < s.size ∨ ∃ hlt : k < s.size, (s[k]).toNat = 44 := by
          by_cases hlt : k < s.size
          · exact .inr ⟨hlt, by rw [Classical.not_not.1 (fun hne => hgo ⟨hlt, hne⟩)]; rfl⟩
          · exact .inl hlt
        clear hgo
        have hki : (m : Int) ≤ (k : Int) := by omega
        rcases hgo' with hlt | ⟨hlt, h44⟩
        all_goals
          go_wp2_with fail
          refine (HTr.out _).mono ?_
          rintro e w' ⟨t, rfl, ht, rfl⟩
          have hts : t.size ≤ 4096 := by
            have h1 := trim_len (dl (s.extract m k))
            rw [← ht, dl_len, dl_len, ByteArray.size_extract] at h1
            omega
          have HT := Lib.hid ht
          clear ht
          go_wp2_with fail
          refine (rlower_any t hts _).mono ?_
          rintro e w1 ⟨x, rfl, hx, hb1⟩
          have HI : Hid (itemsP [dl (s.extract m k)] = if dl x = [] then [] else [dl x]) := Lib.hid (by rw [itemsP_one, hx, HT.out])
          have HO1 := Lib.hid (HO.out.up hb1)
          clear hx hb1 HO
          have hemp := isEmp (s := x)
          by_cases h0 : x.size = 0
          · rw [decide_eq_true h0] at hemp
            have HN : Hid (itemsL (dl s) = xs.map dl ++ restI s (k + 1) (k + 1)) := Lib.hid (by rw [HX.out, HC.out, HI.out, if_pos (dl_nil h0)]; rfl)
            go_wp2
            go_roundw
            case rel => exact ⟨k + 1, k + 1, O, xs, by omega, by omega, by omega, by go_num, by go_num, rfl, HN, HO1⟩
            case measure => simp [intOf]; omega
          · rw [decide_eq_false h0] at hemp
            have HN : Hid (itemsL (dl s) = (xs ++ [x]).map dl ++ restI s (k + 1) (k + 1)) := Lib.hid (by
              rw [HX.out, HC.out, HI.out, if_neg (fun h => h0 (by rw [← dl_len, h]; rfl))]
              simp)
            have HSrc := Lib.hid (src_one w1 9 (svs [x]) 1 1 rfl)
            have HO2 := Lib.hid (HO1.out.up (ba1 w1 (.cells #[.string x] 9)))
            have hBw : w.heap.size ≤ (w1.alloc (.cells #[.string x] 9)).heap.size := HO2.out.le
            go_wp2_with (at_builtin; refine wpList_app _ rfl _ _ 27 rfl w.heap.size 9 i9 _ 1 16 (by decide) Tryd.underlying27 hi hz0 hz1 hz2 rfl (.slice O.A O.n O.c) O.n (svs xs) rfl HO2.out.row (some ⟨w1.heap.size, 0, none⟩) 1 1 (svs [x]) rfl HSrc.out (svs_one _) ?_ ?_ hBw (O.n + 1) rfl ?_; (unfold maxLen; omega); omega; intro A' c' w2 h1 h2 h3; refine Hid.out ?_)
            have HO3 := Lib.hid (HO2.out.app (cs' := svs (xs ++ [x])) (by rw [svs, List.map_append]; exact h1) h2)
            clear h1 h2 h3 HO2 HSrc HO1
            refine Lib.hid ?_
            go_wp2
            go_roundw
            case rel => exact ⟨k + 1, k + 1, ⟨A', O.n + 1, c'⟩, xs ++ [x], by omega, by omega, by simp only; omega, by go_num, by go_num, rfl, HN, HO3⟩
            case measure => simp [intOf]; omega
    · obtain rfl : k = s.size + 1 := by omega
      have HE : Hid (xs.map dl = itemsL (dl s)) := Lib.hid (by rw [HX.out, restI, if_neg (by omega), List.append_nil])
      go_wp2
      go_ret
      exact ⟨O, xs, rfl, HE.out, HO.out.row.ss, HO.out.hb⟩

/-- the values of the fields of that name -/
def getL (fs : List Fd) (name : ByteArray) : List ByteArray := (fs.filter fun f => decide (lowerL (dl f.1) = lowerL (dl name))).map (·.2)
theorem getL_succ {fs : List Fd} {name : ByteArray} {k : Nat} {x y : ByteArray} (h : fs[k]? = some (x, y)) : getL (fs.take (k + 1)) name = if lowerL (dl x) = lowerL (dl name) then getL (fs.take k) name ++ [y] else getL (fs.take k) name := by
  rw [List.take_add_one, h, getL, getL]
  simp only [Option.toList_some, List.filter_append, List.map_append]
  by_cases hq : lowerL (dl x) = lowerL (dl name)
  · simp [hq]
  · simp [hq]
/-- texts that are just these are handed back -/
def SsEnds (xs : List ByteArray) (w : World) (e : Ending) (w' : World) : Prop := ∃ s : Sli, e = .returned (.slice s.A s.n s.c) ∧ Ss w' s xs ∧ Below w.heap.size w w'

set_option maxRecDepth 100000 in
set_option maxHeartbeats 4000000 in
theorem rget_any (L : Sli) (fs : List Fd) (name : ByteArray) (w : World) (hL : Fs w L fs) (hn : L.n ≤ 4096) (hf : ∀ f ∈ fs, f.1.size ≤ 4096) (hm : name.size ≤ 4096) : Calls Tryd.prog 13 #[L.v, .string name] w (SsEnds (getL fs name) w) := by
  obtain ⟨i9, hi, hz0, hz1, hz2⟩ := info_parts info9
  have HF := Lib.hid hf
  have HL := Lib.hid hL
  obtain ⟨A, n, c⟩ := L
  simp only [Sli.v] at hn ⊢
  have hlen : Hid (fs.length = n) := Lib.hid hL.len
  clear hf hL
  have HLN := Lib.hid (fun W => rlower_any name hm W)
  go_enter Tryd.func13, Tryd.ntmps13
  go_wp2_with fail
  go_loopw [6, 5] (fun i o wr => ∃ (k : Nat) (O : Sli), k ≤ n ∧ O.n ≤ k ∧ i = .int .i64 (k : Int) ∧ o = .slice O.A O.n O.c ∧ Hid (Out 9 1 w wr O (svs (getL (fs.take k) name)))) (fun i _ _ => n - (intOf i).toNat)
  case atStart => exact ⟨0, ⟨none, 0, 0⟩, by omega, Nat.le_refl _, rfl, rfl, Lib.hid (Out.nil _ _ _ _ (Below.refl _ _))⟩
  case round =>
    obtain ⟨k, O, hk, hOn, rfl, rfl, HO⟩ := hrel
    by_cases hlt : k < n
    · obtain ⟨b, o, x, y, hA, hb, hx, c1, d1⟩ := (HL.out.up HO.out.hb).cell (k := k) hlt
      simp only at hA
      subst hA
      have HLX := Lib.hid (fun W => rlower_any x (HF.out _ (List.mem_of_getElem? hx)) W)
      have HS := Lib.hid (getL_succ (name := name) hx)
      clear hx
      have hki : (k : Int) < (n : Int) := by omega
      have hk0 : (0 : Int) ≤ (k : Int) := by omega
      go_wp2_with fail
      refine (HLX.out _).mono ?_
      rintro e w1 ⟨r1, rfl, hr1, hb1⟩
      go_wp2_with fail
      refine (HLN.out _).mono ?_
      rintro e w2 ⟨r2, rfl, hr2, hb2⟩
      have HO2 := Lib.hid (HO.out.up (bon hb1 hb2))
      have d2 := cell_up (bon hb1 hb2) d1
      clear HO c1 d1 hb1 hb2
      by_cases hq : r1 = r2
      · have HS2 : Hid (getL (fs.take (k + 1)) name = getL (fs.take k) name ++ [y]) := Lib.hid (by rw [HS.out, if_pos (by rw [← hr1, ← hr2, hq])])
        subst hq
        clear hr1 hr2
        have HSrc := Lib.hid (src_one w2 9 (svs [y]) 1 1 rfl)
        have HO3 := Lib.hid (HO2.out.up (ba1 w2 (.cells #[.string y] 9)))
        have hBw : w.heap.size ≤ (w2.alloc (.cells #[.string y] 9)).heap.size := HO3.out.le
        clear HO2
        go_wp2_with (at_builtin; refine wpList_app _ rfl _ _ 27 rfl w.heap.size 9 i9 _ 1 16 (by decide) Tryd.underlying27 hi hz0 hz1 hz2 rfl (.slice O.A O.n O.c) O.n (svs (getL (fs.take k) name)) rfl HO3.out.row (some ⟨w2.heap.size, 0, none⟩) 1 1 (svs [y]) rfl HSrc.out (svs_one _) ?_ ?_ hBw (O.n + 1) rfl ?_; (unfold maxLen; omega); omega; intro A' c' w3 h1 h2 h3; refine Hid.out ?_)
        have HO4 := Lib.hid (HO3.out.app (cs' := svs (getL (fs.take (k + 1)) name)) (by rw [HS2.out, svs, List.map_append]; exact h1) h2)
        clear h1 h2 h3 HO3 HSrc
        refine Lib.hid ?_
        go_wp2
        go_roundw
        case rel => exact ⟨k + 1, ⟨A', O.n + 1, c'⟩, by omega, by simp only; omega, by go_num, rfl, HO4⟩
        case measure => simp [intOf]; omega
      · have HS2 : Hid (getL (fs.take (k + 1)) name = getL (fs.take k) name) := Lib.hid (by rw [HS.out, if_neg (by rw [← hr1, ← hr2]; exact fun h => hq (dl_inj h))])
        have hrs : (r1.toList == r2.toList) = false := tl_ne hq
        clear hr1 hr2
        go_wp2
        go_roundw
        case rel => exact ⟨k + 1, O, by omega, by omega, by go_num, rfl, by rw [HS2.out]; exact HO2⟩
        case measure => simp [intOf]; omega
    · obtain rfl : k = n := by omega
      have HE : Hid (fs.take k = fs) := Lib.hid (List.take_of_length_le (by rw [hlen.out]; exact Nat.le_refl _))
      rw [HE.out] at HO
      go_wp2
      go_ret
      exact ⟨O, rfl, HO.out.row.ss, HO.out.hb⟩

end Go.Proofs.YtginijeajenghaaDoor
