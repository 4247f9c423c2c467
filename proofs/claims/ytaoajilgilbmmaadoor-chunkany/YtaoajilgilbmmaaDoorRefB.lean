/-
  The walks of the document's own Trim, Lower and Value.
-/
import Derived.Test.YtaoajilgilbmmaaDoorRefA
namespace Go.Proofs.YtaoajilgilbmmaaDoor
open Go.RowKit

theorem dl_cons {t : ByteArray} (h : 0 < t.size) : dl t = t[0] :: dl (t.extract 1 t.size) := by
  rw [dl_ext, List.take_of_length_le (by rw [dl_len]; exact Nat.le_refl _)]
  have h1 := dl_at h
  cases hd : dl t with
  | nil => rw [hd] at h1; cases h1
  | cons x r =>
    rw [hd] at h1
    simp at h1
    simp [h1]
theorem dl_snoc {t : ByteArray} (h : 0 < t.size) : dl t = dl (t.extract 0 (t.size - 1)) ++ [t[t.size - 1]'(by omega)] := by
  have hk : t.size - 1 < t.size := by omega
  have h1 := dl_at hk
  rw [dl_ext, List.drop_zero]
  have h2 : (dl t).take (t.size - 1 + 1) = (dl t).take (t.size - 1) ++ ((dl t)[t.size - 1]?).toList := List.take_add_one
  rw [h1, List.take_of_length_le (by rw [dl_len]; omega)] at h2
  exact h2
theorem ext1_size {t : ByteArray} (h : 0 < t.size) : (t.extract 1 t.size).size = t.size - 1 := by
  rw [ByteArray.size_extract]; omega
theorem ext0_size {t : ByteArray} (h : 0 < t.size) : (t.extract 0 (t.size - 1)).size = t.size - 1 := by
  rw [ByteArray.size_extract]; omega
theorem rdrop_snoc (l : Bs) (x : UInt8) : rdrop (l ++ [x]) = if bl x = true then rdrop l else l ++ [x] := by
  unfold rdrop
  rw [List.reverse_append]
  show ((x :: l.reverse).dropWhile bl).reverse = _
  split
  · next h => rw [List.dropWhile_cons_of_pos h]
  · next h => rw [List.dropWhile_cons_of_neg h]; simp

set_option maxRecDepth 100000 in
set_option maxHeartbeats 2000000 in
theorem rtrim_any (s : ByteArray) (hs : s.size ≤ 4096) (w : World) : Calls Tryd.prog 36 #[.string s] w (fun e w' => ∃ r, e = .returned (.string r) ∧ dl r = trimL (dl s) ∧ w' = w) := by
  go_enter Tryd.func36, Tryd.ntmps36
  go_wp2_with fail
  go_loopw [0] (fun v wr => ∃ t : ByteArray, t.size ≤ s.size ∧ v = .string t ∧ Hid ((dl t).dropWhile bl = (dl s).dropWhile bl) ∧ w = wr) (fun v _ => szOf v)
  case atStart => exact ⟨s, Nat.le_refl _, rfl, Lib.hid rfl, rfl⟩
  case round =>
    obtain ⟨t, ht, rfl, HT, rfl⟩ := hrel
    by_cases h0 : 0 < t.size
    · have HC := Lib.hid (fun W => blank_any t[0] W)
      obtain ⟨b, hb⟩ : ∃ b, bl t[0] = b := ⟨_, rfl⟩
      rw [hb] at HC
      have HB := Lib.hid hb
      clear hb
      have HD := Lib.hid (dl_cons h0)
      cases b with
      | true =>
        go_wp2_with fail
        refine (HC.out _).mono ?_
        rintro e w' ⟨rfl, rfl⟩
        go_wp2
        go_roundw
        case rel =>
          refine ⟨t.extract 1 t.size, by rw [ext1_size h0]; omega, rfl, Lib.hid ?_, trivial⟩
          rw [← HT.out, HD.out, List.dropWhile_cons_of_pos HB.out]
        case measure => simp only [szOf, go_sem]; simp; omega
      | false =>
        have HT2 : Hid (dl t = (dl s).dropWhile bl) := Lib.hid (by rw [← HT.out, HD.out, List.dropWhile_cons_of_neg (by simp [HB.out])])
        go_wp2_with fail
        refine (HC.out _).mono ?_
        rintro e w' ⟨rfl, rfl⟩
        go_wp2_with fail
        clear HT HC HD HB
        go_loopw [0] (fun v wr => ∃ u : ByteArray, u.size ≤ t.size ∧ v = .string u ∧ Hid (rdrop (dl u) = rdrop (dl t)) ∧ w' = wr) (fun v _ => szOf v)
        case atStart => exact ⟨t, Nat.le_refl _, rfl, Lib.hid rfl, rfl⟩
        case round =>
          obtain ⟨u, hu, rfl, HU, rfl⟩ := hrel
          by_cases h1 : 0 < u.size
          · have HC := Lib.hid (fun W => blank_any (u[u.size - 1]'(by omega)) W)
            obtain ⟨b, hb⟩ : ∃ b, bl (u[u.size - 1]'(by omega)) = b := ⟨_, rfl⟩
            rw [hb] at HC
            have HB := Lib.hid hb
            clear hb
            have HD := Lib.hid (dl_snoc h1)
            have HR := Lib.hid (rdrop_snoc (dl (u.extract 0 (u.size - 1))) (u[u.size - 1]'(by omega)))
            have ei : ((u.size : Int) - 1).toNat = u.size - 1 := by omega
            cases b with
            | true =>
              go_wp2_with fail
              refine (HC.out _).mono ?_
              rintro e w' ⟨rfl, rfl⟩
              go_wp2
              go_roundw
              case rel =>
                refine ⟨u.extract 0 (u.size - 1), by rw [ext0_size h1]; omega, rfl, Lib.hid ?_, trivial⟩
                have h3 := HR.out
                rw [← HD.out, if_pos HB.out] at h3
                rw [← HU.out, h3]
              case measure => simp only [szOf, go_sem]; simp; omega
            | false =>
              have HE : Hid (dl u = trimL (dl s)) := Lib.hid (by
                have h3 := HR.out
                rw [← HD.out, if_neg (by simp [HB.out])] at h3
                rw [trim_eq', ← HT2.out, ← HU.out, h3])
              go_wp2_with fail
              refine (HC.out _).mono ?_
              rintro e w' ⟨rfl, rfl⟩
              go_wp2
              go_ret
              exact ⟨_, rfl, HE.out, rfl⟩
          · have HE : Hid (dl u = trimL (dl s)) := Lib.hid (by
              have h3 := dl_nil (s := u) (by omega)
              have h4 := HU.out
              rw [h3] at h4 ⊢
              rw [trim_eq', ← HT2.out, ← h4]
              rfl)
            go_wp2
            go_ret
            exact ⟨_, rfl, HE.out, rfl⟩
    · have HT2 : Hid (dl t = (dl s).dropWhile bl) := Lib.hid (by
        have h3 := dl_nil (s := t) (by omega)
        have h4 := HT.out
        rw [h3] at h4 ⊢
        rw [← h4]; try rfl)
      go_wp2_with fail
      clear HT
      go_loopw [0] (fun v wr => ∃ u : ByteArray, u.size ≤ t.size ∧ v = .string u ∧ Hid (rdrop (dl u) = rdrop (dl t)) ∧ w = wr) (fun v _ => szOf v)
      case atStart => exact ⟨t, Nat.le_refl _, rfl, Lib.hid rfl, rfl⟩
      case round =>
        obtain ⟨u, hu, rfl, HU, rfl⟩ := hrel
        by_cases h1 : 0 < u.size
        · exfalso; omega
        · have HE : Hid (dl u = trimL (dl s)) := Lib.hid (by
            have h3 := dl_nil (s := u) (by omega)
            have h4 := HU.out
            rw [h3] at h4 ⊢
            rw [trim_eq', ← HT2.out, ← h4]; try rfl)
          go_wp2
          go_ret
          exact ⟨_, rfl, HE.out, rfl⟩

/-- a byte of small letters -/
theorem lowC_nat (c : UInt8) : ((lowC c).toNat : Int) = if 65 ≤ c.toNat ∧ c.toNat ≤ 90 then (c.toNat : Int) + 32 else (c.toNat : Int) := by
  have h : ∀ n : Fin 256, ((lowC (UInt8.ofNat n.1)).toNat : Int) = if 65 ≤ (UInt8.ofNat n.1).toNat ∧ (UInt8.ofNat n.1).toNat ≤ 90 then ((UInt8.ofNat n.1).toNat : Int) + 32 else ((UInt8.ofNat n.1).toNat : Int) := by decide +kernel
  have := h ⟨c.toNat, c.toNat_lt⟩
  simpa using this
theorem conv1 (W : World) (x : UInt8) : (convert 26 9 (.slice (some ⟨W.heap.size, 0, none⟩) 1 1)).run Tryd.prog (W.alloc (.cells #[.int .u8 (x.toNat : Int)] 5)) = .ok (.string ⟨#[x]⟩) (W.alloc (.cells #[.int .u8 (x.toNat : Int)] 5)) := by
  have h := run_convert_bytes_back (P := Tryd.prog) (W.alloc (.cells #[.int .u8 (x.toNat : Int)] 5)) 26 9 5 ⟨W.heap.size, 0, none⟩ 1 [x] Tryd.underlying26 Tryd.underlying5 Tryd.underlying9 (fun j hj => by
    obtain rfl : j = 0 := by simpa using hj
    exact (Box.new W 5 #[.int .u8 (x.toNat : Int)]).c 0 rfl)
  simpa using h

theorem tl_dl {a b : ByteArray} (h : a.toList = b.toList) : dl a = dl b := by
  rw [Go.ByteArray.toList_eq, Go.ByteArray.toList_eq] at h
  exact h
theorem tl_ne {a b : ByteArray} (h : a ≠ b) : (a.toList == b.toList) = false := beq_eq_false_iff_ne.2 fun e => h (dl_inj (tl_dl e))
theorem valC_eq (c : UInt8) : valC c = (decide (c.toNat = 9) || (decide (32 ≤ c.toNat) && decide (c.toNat ≤ 126))) := by
  unfold valC
  rw [Bool.eq_iff_iff]
  simp
theorem all_noV {s : ByteArray} {k : Nat} (h : (dl s)[k]?.all valC = false) : valueB (dl s) = false := by
  cases hx : (dl s)[k]? with
  | none => rw [hx] at h; cases h
  | some x =>
    rw [hx] at h
    have hm := List.mem_of_getElem? hx
    have : (dl s).all valC = false := by
      rw [List.all_eq_false]
      exact ⟨x, hm, by simpa using h⟩
    rw [valueB, this, Bool.and_false]

set_option maxRecDepth 100000 in
set_option maxHeartbeats 2000000 in
theorem rvalue_any (s : ByteArray) (hs : s.size ≤ 4096) (w : World) : Calls Tryd.prog 38 #[.string s] w (fun e w' => e = .returned (.bool (valueB (dl s))) ∧ w' = w) := by
  go_enter Tryd.func38, Tryd.ntmps38
  go_wp2_with fail
  go_loopw [3] (fun i wr => ∃ k : Nat, k ≤ s.size ∧ i = .int .i64 (k : Int) ∧ Hid (∀ j, j < k → (dl s)[j]?.all valC = true) ∧ w = wr) (fun i _ => s.size - (intOf i).toNat)
  case atStart => exact ⟨0, Nat.zero_le _, rfl, Lib.hid (fun j hj => absurd hj (by omega)), rfl⟩
  case round =>
    obtain ⟨k, hk, rfl, HK, rfl⟩ := hrel
    by_cases hlt : k < s.size
    · have HA : Hid ((dl s)[k]?.all valC = valC s[k]) := Lib.hid (by rw [dl_at hlt]; rfl)
      have HV := Lib.hid (valC_eq s[k])
      have hc := (s[k]).toNat_lt
      obtain ⟨n, hn⟩ : ∃ n, (s[k]).toNat = n := ⟨_, rfl⟩
      rw [hn] at hc HV
      by_cases hg : n = 9 ∨ (32 ≤ n ∧ n ≤ 126)
      · have HY : Hid ((dl s)[k]?.all valC = true) := Lib.hid (by rw [HA.out, HV.out]; simp; omega)
        have HR : Hid (∀ j, j < k + 1 → (dl s)[j]?.all valC = true) := Lib.hid (fun j hj => by
          by_cases hjk : j < k
          · exact HK.out j hjk
          · obtain rfl : j = k := by omega
            exact HY.out)
        clear HA HV HK
        rcases hg with rfl | ⟨h1, h2⟩
        · go_wp2
          go_roundw
          case rel => exact ⟨k + 1, by omega, by go_num, HR, trivial⟩
          case measure => simp [intOf]; omega
        · have e1 : ((n : Int) != 9) = true := bne_iff_ne.2 (by omega)
          go_wp2
          go_roundw
          case rel => exact ⟨k + 1, by omega, by go_num, HR, trivial⟩
          case measure => simp [intOf]; omega
      · have HE : Hid (valueB (dl s) = false) := Lib.hid (all_noV (k := k) (by rw [HA.out, HV.out]; simp; omega))
        have e1 : ((n : Int) != 9) = true := bne_iff_ne.2 (by omega)
        have hcase : n < 32 ∨ (32 ≤ n ∧ 126 < n) := by omega
        clear hg
        rcases hcase with h1 | ⟨h1, h2⟩
        all_goals
          go_wp2
          go_ret
          exact ⟨ret_bool HE.out.symm, rfl⟩
    · obtain rfl : k = s.size := by omega
      have HE : Hid (valueB (dl s) = (decide (s.size ≤ 200) && decide (trimL (dl s) = dl s))) := Lib.hid (by rw [valueB, all_yes HK.out, dl_len, Bool.and_true])
      clear HK
      by_cases h2 : s.size ≤ 200
      · go_wp2_with fail
        refine (rtrim_any s hs _).mono ?_
        rintro e w' ⟨r, rfl, hr, rfl⟩
        by_cases hq : r = s
        · subst hq
          have HE2 : Hid (valueB (dl r) = true) := Lib.hid (by rw [HE.out, ← hr]; simp [h2])
          clear hr
          go_wp2
          go_ret
          exact ⟨ret_bool (by rw [HE2.out]; try simp), rfl⟩
        · have hrs : (r.toList == s.toList) = false := tl_ne hq
          have HE2 : Hid (valueB (dl s) = false) := Lib.hid (by rw [HE.out, decide_eq_false (p := trimL (dl s) = dl s) (fun h => hq (dl_inj (hr.trans h))), Bool.and_false])
          clear hr
          go_wp2
          go_ret
          exact ⟨ret_bool HE2.out.symm, rfl⟩
      · have HE2 : Hid (valueB (dl s) = false) := Lib.hid (by rw [HE.out, decide_eq_false h2]; rfl)
        go_wp2
        go_ret
        exact ⟨ret_bool HE2.out.symm, rfl⟩

theorem lower_succ {s : ByteArray} {k : Nat} (hk : k < s.size) : lowerL ((dl s).take (k + 1)) = lowerL ((dl s).take k) ++ [lowC s[k]] := by
  rw [List.take_add_one, dl_at hk]
  simp [lowerL]

end Go.Proofs.YtaoajilgilbmmaaDoor
