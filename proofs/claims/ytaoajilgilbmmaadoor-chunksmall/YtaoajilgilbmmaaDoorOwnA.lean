/-
  The walks of field's own calls on texts: inName, inValue, Name, Trim, Value.
-/
import Derived.Test.YtaoajilgilbmmaaDoorRefB
import Derived.Test.YtaoajilgilbmmaaDoorShelf
import Derived.Lib.IndexAny
namespace Go.Proofs.YtaoajilgilbmmaaDoor
open Go.RowKit

theorem u8_of (c : UInt8) : ((c.toNat : Int)).toNat.toUInt8 = c := by simp

set_option maxRecDepth 100000 in
set_option maxHeartbeats 1000000 in
theorem inName_any (c : UInt8) (w : World) : Calls Tryd.prog 80 #[.int .u8 (c.toNat : Int)] w (fun e w' => e = .returned (.bool (nameC c)) ∧ w' = w) := by
  have hc := c.toNat_lt
  obtain ⟨z, hz⟩ : ∃ z, Lib.indexByte marks c = z := ⟨_, rfl⟩
  have HX : Hid (∀ W, Calls Tryd.prog 90 #[.string ⟨#[33, 35, 36, 37, 38, 39, 42, 43, 45, 46, 94, 95, 96, 124, 126]⟩, .int .u8 (c.toNat : Int)] W fun e w' => e = .returned (.int .i64 z) ∧ w' = W) := Lib.hid (fun W => by
    have := sh_IndexByte ⟨#[33, 35, 36, 37, 38, 39, 42, 43, 45, 46, 94, 95, 96, 124, 126]⟩ (c.toNat : Int) W
    rw [u8_of] at this
    rw [← hz]
    exact this)
  have HM : Hid (marks.contains c = decide (0 ≤ z)) := Lib.hid (by rw [← hz]; exact Lib.contains_iff_indexByte _ _)
  clear hz
  obtain ⟨n, hn⟩ : ∃ n, c.toNat = n := ⟨_, rfl⟩
  by_cases ha : alnum n = true
  · have HE : Hid (nameC c = true) := Lib.hid (by rw [nameC, hn, ha]; rfl)
    rw [hn] at hc ⊢
    clear hn HX HM
    have ha' : (48 ≤ n ∧ n ≤ 57) ∨ (97 ≤ n ∧ n ≤ 122) ∨ (65 ≤ n ∧ n ≤ 90) := by
      unfold alnum at ha
      simp only [decide_eq_true_eq] at ha
      omega
    clear ha
    rcases ha' with ⟨h1, h2⟩ | ⟨h1, h2⟩ | ⟨h1, h2⟩
    all_goals
      go_enter Tryd.func80, Tryd.ntmps80
      go_wp2
      go_ret
      exact ⟨ret_bool HE.out.symm, rfl⟩
  · have HE : Hid (nameC c = decide (0 ≤ z)) := Lib.hid (by rw [nameC, hn, Bool.eq_false_iff.2 ha, Bool.false_or, HM.out])
    rw [hn] at hc HX ⊢
    clear hn HM
    have ha' : n < 48 ∨ (57 < n ∧ n < 65) ∨ (90 < n ∧ n < 97) ∨ 122 < n := by
      unfold alnum at ha
      simp only [decide_eq_true_eq] at ha
      omega
    clear ha
    rcases ha' with h1 | ⟨h1, h2⟩ | ⟨h1, h2⟩ | h1
    all_goals
      go_enter Tryd.func80, Tryd.ntmps80
      go_wp2_with fail
      refine (HX.out _).mono ?_
      rintro e w' ⟨rfl, rfl⟩
      go_wp2
      go_ret
      exact ⟨ret_bool (by first | exact HE.out.symm | (rw [HE.out, Bool.eq_iff_iff]; simp; omega)), rfl⟩

set_option maxHeartbeats 400000 in
theorem inValue_any (c : UInt8) (w : World) : Calls Tryd.prog 81 #[.int .u8 (c.toNat : Int)] w (fun e w' => e = .returned (.bool (valC c)) ∧ w' = w) := by
  have HV := Lib.hid (valC_eq c)
  have hc := c.toNat_lt
  obtain ⟨n, hn⟩ : ∃ n, c.toNat = n := ⟨_, rfl⟩
  rw [hn] at hc HV ⊢
  clear hn
  by_cases h9 : n = 9
  · subst h9
    go_enter Tryd.func81, Tryd.ntmps81
    go_wp2
    go_ret
    exact ⟨ret_bool (by rw [HV.out]; rfl), rfl⟩
  · have e1 : ((n : Int) == 9) = false := beq_eq_false_iff_ne.2 (by omega)
    by_cases h1 : 32 ≤ n
    · go_enter Tryd.func81, Tryd.ntmps81
      go_wp2
      go_ret
      exact ⟨ret_bool (by rw [HV.out, decide_eq_false h9, decide_eq_true h1]; simp; omega), rfl⟩
    · go_enter Tryd.func81, Tryd.ntmps81
      go_wp2
      go_ret
      exact ⟨ret_bool (by rw [HV.out, decide_eq_false h9, decide_eq_false h1]; rfl), rfl⟩

set_option maxHeartbeats 1000000 in
theorem name_any (s : ByteArray) (hs : s.size ≤ 4096) (w : World) : Calls Tryd.prog 68 #[.string s] w (fun e w' => e = .returned (.bool (nameB (dl s))) ∧ w' = w) := by
  by_cases hz : s.size < 1 ∨ (1 ≤ s.size ∧ 40 < s.size)
  · have HE : Hid (nameB (dl s) = false) := Lib.hid (by
      rw [nameB, dl_len]
      rcases hz with h | ⟨_, h⟩
      · rw [decide_eq_false (by omega)]; rfl
      · rw [decide_eq_false (p := s.size ≤ 40) (by omega), Bool.and_false]; rfl)
    rcases hz with h | ⟨h, h'⟩
    all_goals
      go_enter Tryd.func68, Tryd.ntmps68
      go_wp2
      go_ret
      exact ⟨ret_bool HE.out.symm, rfl⟩
  · have h1 : 1 ≤ s.size := by omega
    have h40 : s.size ≤ 40 := by omega
    clear hz
    go_enter Tryd.func68, Tryd.ntmps68
    go_wp2_with fail
    go_loopw [14] (fun i wr => ∃ k : Nat, k ≤ s.size ∧ i = .int .i64 (k : Int) ∧ Hid (∀ j, j < k → (dl s)[j]?.all nameC = true) ∧ w = wr) (fun i _ => s.size - (intOf i).toNat)
    case atStart => exact ⟨0, Nat.zero_le _, rfl, Lib.hid (fun j hj => absurd hj (by omega)), rfl⟩
    case round =>
      obtain ⟨k, hk, rfl, HK, rfl⟩ := hrel
      by_cases hlt : k < s.size
      · have HC := Lib.hid (fun W => inName_any s[k] W)
        have HA : Hid ((dl s)[k]?.all nameC = nameC s[k]) := Lib.hid (by rw [dl_at hlt]; rfl)
        obtain ⟨b, hb⟩ : ∃ b, nameC s[k] = b := ⟨_, rfl⟩
        rw [hb] at HC HA
        clear hb
        go_wp2_with fail
        refine (HC.out _).mono ?_
        rintro e w' ⟨rfl, rfl⟩
        cases b with
        | false =>
          have HE : Hid (nameB (dl s) = false) := Lib.hid (all_no HA.out)
          go_wp2
          go_ret
          exact ⟨ret_bool HE.out.symm, rfl⟩
        | true =>
          go_wp2
          go_roundw
          case rel =>
            refine ⟨k + 1, by omega, by go_num, Lib.hid (fun j hj => ?_), trivial⟩
            by_cases hjk : j < k
            · exact HK.out j hjk
            · obtain rfl : j = k := by omega
              exact HA.out
          case measure => simp [intOf]; omega
      · obtain rfl : k = s.size := by omega
        have HE : Hid (nameB (dl s) = true) := Lib.hid (by rw [nameB, all_yes HK.out, dl_len, decide_eq_true h1, decide_eq_true h40]; rfl)
        go_wp2
        go_ret
        exact ⟨ret_bool HE.out.symm, rfl⟩

theorem trim_any (s : ByteArray) (hs : s.size ≤ 4096) (w : World) : Calls Tryd.prog 57 #[.string s] w (TextEnds (trimL (dl s)) w) := by
  have HC := Lib.hid (fun W => sh_Trim s ⟨#[32, 9]⟩ W (by omega) (by decide) (ascii_of_all (by decide)))
  go_enter Tryd.func57, Tryd.ntmps57
  go_wp2_with fail
  refine (HC.out _).mono ?_
  rintro e w' ⟨rfl, hb⟩
  go_wp2
  go_ret
  exact ⟨_, rfl, dl_mk _, hb⟩

set_option maxHeartbeats 1000000 in
theorem value_any (s : ByteArray) (hs : s.size ≤ 4096) (w : World) : Calls Tryd.prog 69 #[.string s] w (BoolEnds (valueB (dl s)) w) := by
  by_cases h2 : s.size ≤ 200
  · have HC := Lib.hid (fun W => trim_any s hs W)
    go_enter Tryd.func69, Tryd.ntmps69
    go_wp2_with fail
    refine (HC.out _).mono ?_
    rintro e w1 ⟨r, rfl, hr, hb1⟩
    by_cases hq : r = s
    · subst hq
      have HT : Hid (trimL (dl r) = dl r) := Lib.hid hr.symm
      clear hr
      go_wp2_with fail
      go_loopw [15] (fun i wr => ∃ k : Nat, k ≤ r.size ∧ i = .int .i64 (k : Int) ∧ Hid (∀ j, j < k → (dl r)[j]?.all valC = true) ∧ w1 = wr) (fun i _ => r.size - (intOf i).toNat)
      case atStart => exact ⟨0, Nat.zero_le _, rfl, Lib.hid (fun j hj => absurd hj (by omega)), rfl⟩
      case round =>
        obtain ⟨k, hk, rfl, HK, rfl⟩ := hrel
        by_cases hlt : k < r.size
        · have HC := Lib.hid (fun W => inValue_any r[k] W)
          have HA : Hid ((dl r)[k]?.all valC = valC r[k]) := Lib.hid (by rw [dl_at hlt]; rfl)
          obtain ⟨b, hb⟩ : ∃ b, valC r[k] = b := ⟨_, rfl⟩
          rw [hb] at HC HA
          clear hb
          go_wp2_with fail
          refine (HC.out _).mono ?_
          rintro e w' ⟨rfl, rfl⟩
          cases b with
          | false =>
            have HE : Hid (valueB (dl r) = false) := Lib.hid (all_noV HA.out)
            go_wp2
            go_ret
            exact ⟨ret_bool HE.out.symm, hb1⟩
          | true =>
            go_wp2
            go_roundw
            case rel =>
              refine ⟨k + 1, by omega, by go_num, Lib.hid (fun j hj => ?_), trivial⟩
              by_cases hjk : j < k
              · exact HK.out j hjk
              · obtain rfl : j = k := by omega
                exact HA.out
            case measure => simp [intOf]; omega
        · obtain rfl : k = r.size := by omega
          have HE : Hid (valueB (dl r) = true) := Lib.hid (by rw [valueB, all_yes HK.out, dl_len, decide_eq_true h2, decide_eq_true HT.out]; rfl)
          go_wp2
          go_ret
          exact ⟨ret_bool HE.out.symm, hb1⟩
    · have HE : Hid (valueB (dl s) = false) := Lib.hid (by
        rw [valueB, decide_eq_false (p := trimL (dl s) = dl s) (fun h => hq (dl_inj (hr.trans h))), Bool.and_false]; rfl)
      have hrs : (r.toList == s.toList) = false := tl_ne hq
      clear hr
      go_wp2
      go_ret
      exact ⟨ret_bool HE.out.symm, hb1⟩
  · have HE : Hid (valueB (dl s) = false) := Lib.hid (by rw [valueB, dl_len, decide_eq_false h2]; rfl)
    go_enter Tryd.func69, Tryd.ntmps69
    go_wp2
    go_ret
    exact ⟨ret_bool HE.out.symm, Below.refl _ _⟩

end Go.Proofs.YtaoajilgilbmmaaDoor
