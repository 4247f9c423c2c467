/-
  The walks of the document's own cut, digit and version.
-/
import Derived.Test.YteefjcllbnmegaaGreatDoorHdC
namespace Go.Proofs.YteefjcllbnmegaaGreatDoor
open Go.RowKit

set_option maxRecDepth 100000 in
set_option maxHeartbeats 2000000 in
theorem rcut_any (s : ByteArray) (hs : s.size ≤ 4096) (w : World) : Calls Tryz.prog 48 #[.string s] w (CutEnds 32 (dl s) w) := by
  go_enter Tryz.func48, Tryz.ntmps48
  go_wp2_with fail
  go_loopw [5] (fun i wr => ∃ k : Nat, k ≤ s.size ∧ i = .int .i64 (k : Int) ∧ Hid (∀ j, j < k → (dl s)[j]? ≠ some 32) ∧ w = wr) (fun i _ => s.size - (intOf i).toNat)
  case atStart => exact ⟨0, Nat.zero_le _, rfl, Lib.hid (fun j hj => absurd hj (by omega)), rfl⟩
  case round =>
    obtain ⟨k, hk, rfl, HK, rfl⟩ := hrel
    by_cases hlt : k < s.size
    · have hc := (s[k]).toNat_lt
      obtain ⟨n, hn⟩ : ∃ n, (s[k]).toNat = n := ⟨_, rfl⟩
      rw [hn] at hc
      by_cases h32 : n = 32
      · have HX := Lib.hid (cut_at (c := 32) (l := dl s) (k := k) (by rw [dl_at hlt]; exact congrArg some (UInt8.toNat_inj.1 (by rw [hn, h32]; rfl))) HK.out)
        subst h32
        have he1 : (0 : Int) ≤ (k : Int) := by omega
        have he2 : (k : Int) ≤ (s.size : Int) := by omega
        have he3 : (k : Int) + 1 ≤ (s.size : Int) := by omega
        have he4 : (0 : Int) ≤ (k : Int) + 1 := by omega
        have he5 : ((k : Int) + 1).toNat = k + 1 := by omega
        have he6 : k + 1 ≤ s.size := by omega
        have he7 : IntKind.i64.wrap ((k : Int) + 1) = (k : Int) + 1 := IntWalk.i64_in _ (by omega)
        go_wp2_with fail
        go_quiet (fail)
        go_wp2
        refine bodyPost_ret (v := .tuple #[.string (s.extract 0 k), .string (s.extract (k + 1) s.size), .bool true]) (by simp [results, Tryz.results48, go_sem]) rfl ?_
        refine ⟨s.extract 0 k, s.extract (k + 1) s.size, by rw [HX.out.2.2], ?_, ?_, below_drewN (Below.refl _ _) _⟩
        · rw [dl_ext, HX.out.1, List.drop_zero]
        · rw [dl_ext, HX.out.2.1, List.take_of_length_le (by rw [dl_len]; exact Nat.le_refl _)]
      · have e1 : ((n : Int) == 32) = false := beq_eq_false_iff_ne.2 (by omega)
        have HN : Hid (∀ j, j < k + 1 → (dl s)[j]? ≠ some 32) := Lib.hid (fun j hj => by
          by_cases hjk : j < k
          · exact HK.out j hjk
          · obtain rfl : j = k := by omega
            rw [dl_at hlt]
            intro he
            have : s[j] = 32 := Option.some.inj he
            rw [this] at hn
            exact h32 hn.symm)
        go_wp2
        go_roundw
        case rel => exact ⟨k + 1, by omega, by go_num, HN, trivial⟩
        case measure => simp [intOf]; omega
    · obtain rfl : k = s.size := by omega
      have HX := Lib.hid (cut_none (c := 32) (l := dl s) (by rw [dl_len]; exact HK.out))
      go_wp2
      refine bodyPost_ret (v := .tuple #[.string s, .string ⟨#[]⟩, .bool false]) (by simp [results, Tryz.results48, go_sem]) rfl ?_
      exact ⟨s, ⟨#[]⟩, by rw [HX.out.2.2], HX.out.1.symm, HX.out.2.1.symm, Below.refl _ _⟩

theorem digC_eq (c : UInt8) : digC c = (decide (48 ≤ c.toNat) && decide (c.toNat ≤ 57)) := by
  unfold digC
  rw [Bool.eq_iff_iff]
  simp
set_option maxHeartbeats 400000 in
theorem rdigit_any (c : UInt8) (w : World) : Calls Tryz.prog 50 #[.int .u8 (c.toNat : Int)] w (fun e w' => e = .returned (.bool (digC c)) ∧ w' = w) := by
  have HV := Lib.hid (digC_eq c)
  have hc := c.toNat_lt
  obtain ⟨n, hn⟩ : ∃ n, c.toNat = n := ⟨_, rfl⟩
  rw [hn] at hc HV ⊢
  clear hn
  by_cases h : 48 ≤ n
  · go_enter Tryz.func50, Tryz.ntmps50
    go_wp2
    go_ret
    exact ⟨ret_bool (by rw [HV.out, decide_eq_true h]; simp; omega), rfl⟩
  · go_enter Tryz.func50, Tryz.ntmps50
    go_wp2
    go_ret
    exact ⟨ret_bool (by rw [HV.out, decide_eq_false h]; rfl), rfl⟩

theorem dl_gd {s : ByteArray} {k : Nat} (h : k < s.size) : (dl s).getD k 0 = s[k] := by
  rw [List.getD_eq_getElem?_getD, dl_at h]
  rfl
/-- the version's letters -/
abbrev httpB : ByteArray := ⟨#[72, 84, 84, 80, 47]⟩
theorem http_l : httpB.toList = [72, 84, 84, 80, 47] := by rw [Go.ByteArray.toList_eq]
theorem vers_eq {s : ByteArray} (h8 : s.size = 8) : versL (dl s) = if s.extract 0 5 = httpB ∧ digC (s[5]'(by omega)) = true ∧ (s[6]'(by omega)).toNat = 46 ∧ digC (s[7]'(by omega)) = true then (if (s[5]'(by omega)).toNat = 49 ∧ (s[7]'(by omega)).toNat ≤ 49 then (((s[7]'(by omega)).toNat : Int) - 48, 0) else (0, 24)) else (0, 20) := by
  have e5 := dl_gd (s := s) (k := 5) (by omega)
  have e6 := dl_gd (s := s) (k := 6) (by omega)
  have e7 := dl_gd (s := s) (k := 7) (by omega)
  have ht : (s.extract 0 5 = httpB) ↔ (dl s).take 5 = [72, 84, 84, 80, 47] := by
    have : dl (s.extract 0 5) = (dl s).take 5 := by rw [dl_ext, List.drop_zero]
    constructor
    · intro h; rw [← this, h]
    · intro h; exact dl_inj (by rw [this, h])
  have h46 : ∀ c : UInt8, c = 46 ↔ c.toNat = 46 := fun c => ⟨fun h => by rw [h]; rfl, fun h => UInt8.toNat_inj.1 h⟩
  have h49 : ∀ c : UInt8, c = 49 ↔ c.toNat = 49 := fun c => ⟨fun h => by rw [h]; rfl, fun h => UInt8.toNat_inj.1 h⟩
  unfold versL
  rw [e5, e6, e7, dl_len]
  simp only [h8, true_and, ht, h46, h49]
theorem vers_no {s : ByteArray} (h8 : s.size ≠ 8) : versL (dl s) = (0, 20) := by
  unfold versL
  rw [if_neg (fun h => h8 (by rw [← dl_len]; exact h.1))]

/-- two numbers are handed back, the world stands -/
def NumEnds (q : Int × Int) (w : World) (e : Ending) (w' : World) : Prop := e = .returned (.tuple #[.int .i64 q.1, .int .i64 q.2]) ∧ w' = w

set_option maxRecDepth 100000 in
set_option maxHeartbeats 2000000 in
theorem rversion_any (s : ByteArray) (w : World) : Calls Tryz.prog 49 #[.string s] w (NumEnds (versL (dl s)) w) := by
  by_cases h8 : s.size = 8
  case neg =>
    have HE := Lib.hid (vers_no h8)
    have e1 : ((s.size : Int) != 8) = true := bne_iff_ne.2 (by omega)
    have e2 : ((s.size) != 8) = true := bne_iff_ne.2 (by omega)
    go_enter Tryz.func49, Tryz.ntmps49
    go_wp2
    refine bodyPost_ret (v := .tuple #[.int .i64 0, .int .i64 20]) (by simp [results, Tryz.results49, go_sem]) rfl ?_
    exact ⟨by rw [HE.out], rfl⟩
  have HE := Lib.hid (vers_eq h8)
  have H5 := Lib.hid (fun W => rdigit_any (s[5]'(by omega)) W)
  have H7 := Lib.hid (fun W => rdigit_any (s[7]'(by omega)) W)
  have hb5 := (s[5]'(by omega)).toNat_lt
  have hb7 := (s[7]'(by omega)).toNat_lt
  have HD7 := Lib.hid (digC_eq (s[7]'(by omega)))
  by_cases hq : s.extract 0 5 = httpB
  case neg =>
    have HV : Hid (versL (dl s) = (0, 20)) := Lib.hid (by rw [HE.out, if_neg (fun h => hq h.1)])
    have hrs : ((s.extract 0 5).toList == [72, 84, 84, 80, 47]) = false := by rw [← http_l]; exact tl_ne hq
    go_enter Tryz.func49, Tryz.ntmps49
    go_wp2_with fail
    go_wp2
    refine bodyPost_ret (v := .tuple #[.int .i64 0, .int .i64 20]) (by simp [results, Tryz.results49, go_sem]) rfl ?_
    exact ⟨by rw [HV.out], rfl⟩
  have hrs : ((s.extract 0 5).toList == [72, 84, 84, 80, 47]) = true := by rw [hq, http_l]; rfl
  have HE1 : Hid (versL (dl s) = if digC (s[5]'(by omega)) = true ∧ (s[6]'(by omega)).toNat = 46 ∧ digC (s[7]'(by omega)) = true then (if (s[5]'(by omega)).toNat = 49 ∧ (s[7]'(by omega)).toNat ≤ 49 then (((s[7]'(by omega)).toNat : Int) - 48, 0) else (0, 24)) else (0, 20)) := Lib.hid (by rw [HE.out]; simp only [hq, true_and])
  clear HE hq
  generalize hn5 : (s[5]'(by omega)).toNat = n5 at *
  generalize hn6 : (s[6]'(by omega)).toNat = n6 at *
  generalize hn7 : (s[7]'(by omega)).toNat = n7 at *
  generalize digC (s[5]'(by omega)) = d5 at *
  generalize digC (s[7]'(by omega)) = d7 at *
  cases d5 with
  | false =>
    have HV : Hid (versL (dl s) = (0, 20)) := Lib.hid (by rw [HE1.out]; simp)
    go_enter Tryz.func49, Tryz.ntmps49
    go_wp2_with fail
    refine (H5.out _).mono ?_
    rintro e w' ⟨rfl, rfl⟩
    go_wp2
    refine bodyPost_ret (v := .tuple #[.int .i64 0, .int .i64 20]) (by simp [results, Tryz.results49, go_sem]) rfl ?_
    exact ⟨by rw [HV.out], rfl⟩
  | true =>
    by_cases h46 : n6 = 46
    case neg =>
      have HV : Hid (versL (dl s) = (0, 20)) := Lib.hid (by rw [HE1.out]; simp [h46])
      have e6 : ((n6 : Int) != 46) = true := bne_iff_ne.2 (by omega)
      clear h46
      go_enter Tryz.func49, Tryz.ntmps49
      go_wp2_with fail
      refine (H5.out _).mono ?_
      rintro e w' ⟨rfl, rfl⟩
      go_wp2
      refine bodyPost_ret (v := .tuple #[.int .i64 0, .int .i64 20]) (by simp [results, Tryz.results49, go_sem]) rfl ?_
      exact ⟨by rw [HV.out], rfl⟩
    subst h46
    cases d7 with
    | false =>
      have HV : Hid (versL (dl s) = (0, 20)) := Lib.hid (by rw [HE1.out]; simp)
      go_enter Tryz.func49, Tryz.ntmps49
      go_wp2_with fail
      refine (H5.out _).mono ?_
      rintro e w' ⟨rfl, rfl⟩
      go_wp2_with fail
      refine (H7.out _).mono ?_
      rintro e w' ⟨rfl, rfl⟩
      go_wp2
      refine bodyPost_ret (v := .tuple #[.int .i64 0, .int .i64 20]) (by simp [results, Tryz.results49, go_sem]) rfl ?_
      exact ⟨by rw [HV.out], rfl⟩
    | true =>
      have h48 : 48 ≤ n7 := by
        have := HD7.out
        simp only [Bool.and_eq_true, decide_eq_true_eq, eq_comm (a := true)] at this
        omega
      by_cases h49 : n5 = 49
      case neg =>
        have HV : Hid (versL (dl s) = (0, 24)) := Lib.hid (by rw [HE1.out]; simp [h49])
        have e5 : ((n5 : Int) != 49) = true := bne_iff_ne.2 (by omega)
        clear h49
        go_enter Tryz.func49, Tryz.ntmps49
        go_wp2_with fail
        refine (H5.out _).mono ?_
        rintro e w' ⟨rfl, rfl⟩
        go_wp2_with fail
        refine (H7.out _).mono ?_
        rintro e w' ⟨rfl, rfl⟩
        go_wp2
        refine bodyPost_ret (v := .tuple #[.int .i64 0, .int .i64 24]) (by simp [results, Tryz.results49, go_sem]) rfl ?_
        exact ⟨by rw [HV.out], rfl⟩
      subst h49
      by_cases hle : n7 ≤ 49
      · have HV : Hid (versL (dl s) = ((n7 : Int) - 48, 0)) := Lib.hid (by rw [HE1.out]; simp [hle])
        go_enter Tryz.func49, Tryz.ntmps49
        go_wp2_with fail
        refine (H5.out _).mono ?_
        rintro e w' ⟨rfl, rfl⟩
        go_wp2_with fail
        refine (H7.out _).mono ?_
        rintro e w' ⟨rfl, rfl⟩
        go_wp2
        refine bodyPost_ret (v := .tuple #[.int .i64 ((n7 : Int) - 48), .int .i64 0]) (by simp [results, Tryz.results49, go_sem]) rfl ?_
        exact ⟨by rw [HV.out], rfl⟩
      · have HV : Hid (versL (dl s) = (0, 24)) := Lib.hid (by rw [HE1.out]; simp [hle])
        go_enter Tryz.func49, Tryz.ntmps49
        go_wp2_with fail
        refine (H5.out _).mono ?_
        rintro e w' ⟨rfl, rfl⟩
        go_wp2_with fail
        refine (H7.out _).mono ?_
        rintro e w' ⟨rfl, rfl⟩
        go_wp2
        refine bodyPost_ret (v := .tuple #[.int .i64 0, .int .i64 24]) (by simp [results, Tryz.results49, go_sem]) rfl ?_
        exact ⟨by rw [HV.out], rfl⟩
end Go.Proofs.YteefjcllbnmegaaGreatDoor
