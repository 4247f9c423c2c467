/-
  The walks of the document's own calls on texts: tchar, Name, blank, Trim, Lower, Value.
-/
import Derived.Test.YtaoajilgilbmmaaDoorWords
namespace Go.Proofs.YtaoajilgilbmmaaDoor
open Go.RowKit

theorem marks_iff (c : UInt8) : marks.contains c = true ↔ ∃ k, k < 15 ∧ ((⟨#[33, 35, 36, 37, 38, 39, 42, 43, 45, 46, 94, 95, 96, 124, 126]⟩ : ByteArray).data[k]?.getD 0) = c := by
  constructor
  · intro h
    rw [List.contains_iff_mem] at h
    obtain ⟨k, hk, rfl⟩ := List.mem_iff_getElem.1 h
    refine ⟨k, by simpa [marks] using hk, ?_⟩
    have : ∀ k : Fin 15, ((⟨#[33, 35, 36, 37, 38, 39, 42, 43, 45, 46, 94, 95, 96, 124, 126]⟩ : ByteArray).data[k.1]?.getD 0) = marks[k.1]'(k.2) := by decide
    exact this ⟨k, by simpa [marks] using hk⟩
  · rintro ⟨k, hk, rfl⟩
    rw [List.contains_iff_mem]
    have : ∀ k : Fin 15, ((⟨#[33, 35, 36, 37, 38, 39, 42, 43, 45, 46, 94, 95, 96, 124, 126]⟩ : ByteArray).data[k.1]?.getD 0) ∈ marks := by decide
    exact this ⟨k, hk⟩

theorem dl_getD {s : ByteArray} {k : Nat} (hk : k < s.size) : s.data[k]?.getD 0 = s[k] := by
  rw [Array.getElem?_eq_getElem (xs := s.data) hk]
  rfl
theorem getD_eq {s : ByteArray} {k n : Nat} {c : UInt8} (hk : k < s.size) (h : (((s[k].toNat : Nat) : Int) == (n : Int)) = true) (hn : c.toNat = n) : s.data[k]?.getD 0 = c := by
  rw [dl_getD hk]
  rw [beq_iff_eq] at h
  exact UInt8.toNat_inj.1 (by omega)
theorem getD_ne {s : ByteArray} {k n : Nat} {c : UInt8} (hk : k < s.size) (h : (((s[k].toNat : Nat) : Int) == (n : Int)) = false) (hn : c.toNat = n) : s.data[k]?.getD 0 ≠ c := by
  rw [dl_getD hk]
  rw [beq_eq_false_iff_ne] at h
  intro he
  rw [he] at h
  omega
theorem all_no {s : ByteArray} {k : Nat} (h : (dl s)[k]?.all nameC = false) : nameB (dl s) = false := by
  cases hx : (dl s)[k]? with
  | none => rw [hx] at h; cases h
  | some x =>
    rw [hx] at h
    have hm := List.mem_of_getElem? hx
    have : (dl s).all nameC = false := by
      rw [List.all_eq_false]
      exact ⟨x, hm, by simpa using h⟩
    rw [nameB, this, Bool.and_false]
theorem all_yes {s : ByteArray} {f : UInt8 → Bool} (h : ∀ j, j < s.size → (dl s)[j]?.all f = true) : (dl s).all f = true := by
  rw [List.all_eq_true]
  intro x hx
  obtain ⟨k, hk, rfl⟩ := List.mem_iff_getElem.1 hx
  have := h k (by rw [← dl_len]; exact hk)
  rw [List.getElem?_eq_getElem hk] at this
  exact this

set_option maxRecDepth 100000 in
set_option maxHeartbeats 1000000 in
theorem tchar_any (c : UInt8) (w : World) : Calls Tryd.prog 49 #[.int .u8 (c.toNat : Int)] w (fun e w' => e = .returned (.bool (nameC c)) ∧ w' = w) := by
  have hc := c.toNat_lt
  obtain ⟨n, hn⟩ : ∃ n, c.toNat = n := ⟨_, rfl⟩
  have HN := Lib.hid hn
  by_cases ha : alnum n = true
  · have HE : Hid (nameC c = true) := Lib.hid (by rw [nameC, hn, ha]; rfl)
    rw [hn] at hc ⊢
    clear hn
    have ha' : (48 ≤ n ∧ n ≤ 57) ∨ (97 ≤ n ∧ n ≤ 122) ∨ (65 ≤ n ∧ n ≤ 90) := by
      unfold alnum at ha
      simp only [decide_eq_true_eq] at ha
      omega
    clear ha
    rcases ha' with ⟨h1, h2⟩ | ⟨h1, h2⟩ | ⟨h1, h2⟩
    all_goals
      go_enter Tryd.func49, Tryd.ntmps49
      go_wp2
      go_ret
      exact ⟨ret_bool HE.out.symm, rfl⟩
  · have HE : Hid (nameC c = marks.contains c) := Lib.hid (by rw [nameC, hn, Bool.eq_false_iff.2 ha]; rfl)
    rw [hn] at hc ⊢
    clear hn
    have ha' : n < 48 ∨ (57 < n ∧ n < 65) ∨ (90 < n ∧ n < 97) ∨ 122 < n := by
      unfold alnum at ha
      simp only [decide_eq_true_eq] at ha
      omega
    clear ha
    rcases ha' with h1 | ⟨h1, h2⟩ | ⟨h1, h2⟩ | h1
    all_goals
      go_enter Tryd.func49, Tryd.ntmps49
      go_wp2_with fail
      go_loopw [3] (fun i wr => ∃ k : Nat, k ≤ 15 ∧ i = .int .i64 (k : Int) ∧ Hid (∀ j, j < k → ((⟨#[33, 35, 36, 37, 38, 39, 42, 43, 45, 46, 94, 95, 96, 124, 126]⟩ : ByteArray).data[j]?.getD 0) ≠ c) ∧ w = wr) (fun i _ => 15 - (intOf i).toNat)
      case atStart => exact ⟨0, Nat.zero_le _, rfl, Lib.hid (fun j hj => absurd hj (by omega)), rfl⟩
      case round =>
        obtain ⟨k, hk, rfl, HK, rfl⟩ := hrel
        by_cases hlt : k < 15
        · go_wp2
          · rename_i hq
            go_ret
            exact ⟨ret_bool (by rw [HE.out, eq_comm, marks_iff]; exact ⟨k, hlt, getD_eq hlt hq HN.out⟩), rfl⟩
          · rename_i hq
            go_roundw
            case rel =>
              refine ⟨k + 1, by omega, by go_num, Lib.hid (fun j hj => ?_), trivial⟩
              by_cases hjk : j < k
              · exact HK.out j hjk
              · obtain rfl : j = k := by omega
                exact getD_ne hlt hq HN.out
            case measure => simp [intOf]; omega
        · obtain rfl : k = 15 := by omega
          go_wp2
          go_ret
          refine ⟨ret_bool ?_, rfl⟩
          rw [HE.out, eq_comm, Bool.eq_false_iff, ne_eq, marks_iff]
          rintro ⟨j, hj, he⟩
          exact HK.out j hj he

set_option maxHeartbeats 1000000 in
theorem rname_any (s : ByteArray) (hs : s.size ≤ 4096) (w : World) : Calls Tryd.prog 37 #[.string s] w (fun e w' => e = .returned (.bool (nameB (dl s))) ∧ w' = w) := by
  go_enter Tryd.func37, Tryd.ntmps37
  go_wp2_with fail
  go_loopw [3] (fun i wr => ∃ k : Nat, k ≤ s.size ∧ i = .int .i64 (k : Int) ∧ Hid (∀ j, j < k → (dl s)[j]?.all nameC = true) ∧ w = wr) (fun i _ => s.size - (intOf i).toNat)
  case atStart => exact ⟨0, Nat.zero_le _, rfl, Lib.hid (fun j hj => absurd hj (by omega)), rfl⟩
  case round =>
    obtain ⟨k, hk, rfl, HK, rfl⟩ := hrel
    by_cases hlt : k < s.size
    · have HC := Lib.hid (fun W => tchar_any s[k] W)
      have HA : Hid ((dl s)[k]?.all nameC = nameC s[k]) := Lib.hid (by rw [dl_at hlt]; rfl)
      obtain ⟨b, hb⟩ : ∃ b, nameC s[k] = b := ⟨_, rfl⟩
      rw [hb] at HC HA
      clear hb
      go_wp2_with fail
      refine (HC.out _).mono ?_
      rintro e w' ⟨rfl, rfl⟩
      cases b with
      | false =>
        have HE : Hid (nameB (dl s) = false) := Lib.hid (all_no HA.out)
        go_wp2
        go_ret
        exact ⟨ret_bool HE.out.symm, rfl⟩
      | true =>
        go_wp2
        go_roundw
        case rel =>
          refine ⟨k + 1, by omega, by go_num, Lib.hid (fun j hj => ?_), trivial⟩
          by_cases hjk : j < k
          · exact HK.out j hjk
          · obtain rfl : j = k := by omega
            exact HA.out
        case measure => simp [intOf]; omega
    · obtain rfl : k = s.size := by omega
      have HE : Hid (nameB (dl s) = (decide (1 ≤ s.size) && decide (s.size ≤ 40))) := Lib.hid (by rw [nameB, all_yes HK.out, dl_len, Bool.and_true])
      have hemp := isEmp (s := s)
      clear HK
      by_cases h0 : s.size = 0
      · rw [decide_eq_true h0] at hemp
        have HE2 : Hid (nameB (dl s) = false) := Lib.hid (by rw [HE.out]; simp [h0])
        go_wp2
        go_ret
        exact ⟨ret_bool HE2.out.symm, rfl⟩
      · rw [decide_eq_false h0] at hemp
        have HE2 : Hid (nameB (dl s) = decide (s.size ≤ 40)) := Lib.hid (by rw [HE.out, decide_eq_true (show 1 ≤ s.size by omega), Bool.true_and])
        go_wp2
        go_ret
        refine ⟨ret_bool (by rw [HE2.out, decide_eq_decide]; omega), rfl⟩

theorem bl_eq (c : UInt8) : bl c = (decide (c.toNat = 32) || decide (c.toNat = 9)) := by
  have h : ∀ n : Fin 256, bl (UInt8.ofNat n.1) = (decide ((UInt8.ofNat n.1).toNat = 32) || decide ((UInt8.ofNat n.1).toNat = 9)) := by decide +kernel
  have := h ⟨c.toNat, c.toNat_lt⟩
  simpa using this
set_option maxHeartbeats 400000 in
theorem blank_any (c : UInt8) (w : World) : Calls Tryd.prog 48 #[.int .u8 (c.toNat : Int)] w (fun e w' => e = .returned (.bool (bl c)) ∧ w' = w) := by
  have HE := Lib.hid (bl_eq c)
  obtain ⟨n, hn⟩ : ∃ n, c.toNat = n := ⟨_, rfl⟩
  rw [hn] at HE ⊢
  clear hn
  by_cases h1 : n = 32
  · subst h1
    go_enter Tryd.func48, Tryd.ntmps48
    go_wp2
    go_ret
    exact ⟨ret_bool (by rw [HE.out]; rfl), rfl⟩
  · by_cases h2 : n = 9
    · subst h2
      go_enter Tryd.func48, Tryd.ntmps48
      go_wp2
      go_ret
      exact ⟨ret_bool (by rw [HE.out]; rfl), rfl⟩
    · have e1 : ((n : Int) == 32) = false := beq_eq_false_iff_ne.2 (by omega)
      have e2 : ((n : Int) == 9) = false := beq_eq_false_iff_ne.2 (by omega)
      go_enter Tryd.func48, Tryd.ntmps48
      go_wp2
      go_ret
      exact ⟨ret_bool (by rw [HE.out, decide_eq_false h1, decide_eq_false h2]; rfl), rfl⟩

end Go.Proofs.YtaoajilgilbmmaaDoor
