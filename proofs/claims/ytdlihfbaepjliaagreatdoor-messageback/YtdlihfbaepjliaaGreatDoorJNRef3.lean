/-
  The walk of the document's own Text.
-/
import Derived.Test.YtdlihfbaepjliaaGreatDoorNRef
import Derived.Test.YtdlihfbaepjliaaGreatDoorProg
import Derived.Lib.SlTrimSet
import Derived.WalkKit
import Derived.Lib.Split
import Derived.WalkSpells
import Derived.WalkLawsBesides
import Derived.WalkSmall
import Derived.Lib.Hide
import Derived.IntWalk
import Derived.BigQuiet
import Derived.Laws.OwnMore
import Derived.Deep.AppendLies
import Derived.Deep.RegionLaw
import Derived.Deep.Upon
import Derived.Deep.DeepCutAuto
import Derived.Lib.IndexLaws
import Derived.Shelf.LaysM
import Derived.Shelf.Small.Strs
import Derived.Shelf.Small.Wraps
import Derived.Shelf.Strings.Search1
import Derived.Shelf.Strings.Search2
import Derived.Shelf.Strings.SlTrimAscii
import Derived.Shelf.Strings.Split
import Derived.Shelf.Strings.Prefix
import Derived.Shelf.Strconv.Itoa4
import Derived.Lib.SmallJoins
import Derived.Test.YtdlihfbaepjliaaGreatDoorNRef2
import Derived.Test.YtdlihfbaepjliaaGreatDoorNOwn
namespace Go.Proofs.YtdlihfbaepjliaaGreatDoor.Nm
open Go.RowKit

theorem bon' {w w1 w2 : World} (h : Below w.heap.size w w1) (k : Below w1.heap.size w1 w2) : Below w.heap.size w w2 := h.trans (k.mono h.size)

/-- what Text hands back -/
def TextEnds (t : List UInt8) (w : World) (e : Ending) (w' : World) : Prop := ∃ s : ByteArray, e = .returned (.string s) ∧ s.data.toList = t ∧ Below w.heap.size w w'

/-- the text of the sixteen digits -/
def hexd : ByteArray := ⟨#[48, 49, 50, 51, 52, 53, 54, 55, 56, 57, 97, 98, 99, 100, 101, 102]⟩
theorem one_ch : ∀ r : Nat, r < 16 → (hexd.extract r (r + 1)).data.toList = [chN r] := by decide +kernel
theorem dgs_len (b n : Nat) : (dgs b n).length ≤ n + 1 := by
  induction n using Nat.strongRecOn with
  | ind n ih =>
    rw [dgs]
    split
    · simp
    · next h =>
      have hlt : n / b < n := Nat.div_lt_self (by omega) (by omega)
      have := ih (n / b) hlt
      simp
      omega
theorem app_data (a b : ByteArray) : (a ++ b).data.toList = a.data.toList ++ b.data.toList := by simp

set_option maxRecDepth 100000 in
set_option maxHeartbeats 4000000 in
theorem rtext_good (b : Nat) (hb : b = 10 ∨ b = 16) : ∀ n : Nat, n ≤ 9007199254740992 → ∀ w, Calls Tryz.prog 36 #[.int .i64 (n : Int), .int .i64 (b : Int)] w (TextEnds (dgs b n) w) := by
  intro n
  induction n using Nat.strongRecOn with
  | ind n ih =>
    intro hn w
    have HI : Hid (b ≤ n → ∀ W, Calls Tryz.prog 36 #[.int .i64 ((n / b : Nat) : Int), .int .i64 (b : Int)] W (TextEnds (dgs b (n / b)) W)) := Lib.hid (fun hbn W => ih (n / b) (Nat.div_lt_self (by omega) (by omega)) (Nat.le_trans (Nat.div_le_self _ _) hn) W)
    clear ih
    have hf : fitN (n : Int) = true := fit_iff.2 (by omega)
    have hb10 : 10 ≤ b := by omega
    have hb16 : b ≤ 16 := by omega
    have HB := Lib.hid hb
    obtain ⟨r, hr⟩ : ∃ r, n % b = r := ⟨_, rfl⟩
    have hrb : r < b := by rw [← hr]; exact Nat.mod_lt _ (by omega)
    have t1 : (n : Int).tmod (b : Int) = (r : Int) := by rw [Int.tmod_eq_emod_of_nonneg (by omega), ← hr]; simp
    have t2 : (n : Int) % (b : Int) = (r : Int) := by rw [← hr]; simp
    have HR := Lib.hid hr
    clear hr
    have hc : ((b : Int) != 10) = false ∨ (((b : Int) != 10) = true ∧ ((b : Int) != 16) = false) := by
      rcases hb with rfl | rfl
      · exact .inl rfl
      · exact .inr ⟨rfl, rfl⟩
    clear hb
    rcases hc with hc | ⟨hc, hc'⟩
    all_goals
      go_enter Tryz.func36, Tryz.ntmps36
      go_wp2_with fail
      refine (rfits_any (n : Int) _).mono ?_
      rintro e w' ⟨rfl, rfl⟩
      rw [hf]
      go_wp2_with fail
      have t3 : IntKind.i64.wrap ((r : Int) + 1) = (r : Int) + 1 := IntWalk.i64_in _ (by omega)
      have hr0 : (0 : Int) ≤ (r : Int) := by omega
      have hr1 : (r : Int) ≤ (r : Int) + 1 := by omega
      have hr2 : (r : Int) + 1 ≤ 16 := by omega
      have hr3 : r + 1 ≤ 16 := by omega
      have hbz : ¬ (b : Int) = 0 := by omega
      go_quiet (fail)
      by_cases hlt : n < b
      · have HE : Hid (dgs b n = [chN r]) := Lib.hid (by rw [dgs_small hlt, ← HR.out, Nat.mod_eq_of_lt hlt])
        go_wp2_with fail
        go_ret
        exact ⟨_, rfl, by rw [HE.out]; exact one_ch r (by omega), below_drewN (Below.refl _ _) _⟩
      · have HE : Hid (dgs b n = dgs b (n / b) ++ [chN r]) := Lib.hid (by rw [dgs_big (by omega) (by omega), HR.out])
        have t5 : (n : Int).tdiv (b : Int) = ((n / b : Nat) : Int) := by rw [Int.tdiv_eq_ediv_of_nonneg (by omega)]; simp
        have t6 : (n : Int) / (b : Int) = ((n / b : Nat) : Int) := by simp
        have hq : n / b ≤ n := Nat.div_le_self _ _
        have HC := Lib.hid (HI.out (by omega))
        clear HI
        generalize n / b = q at *
        have t7 : IntKind.i64.wrap (q : Int) = (q : Int) := IntWalk.i64_in _ (by omega)
        go_wp2_with fail
        refine (HC.out _).mono ?_
        rintro e w5 ⟨s, rfl, hs, hb5⟩
        have HS := Lib.hid hs
        clear hs
        have hsz : s.size ≤ q + 1 := by
          have h1 : s.size = s.data.toList.length := (Array.length_toList (xs := s.data)).symm
          rw [h1, HS.out]
          exact dgs_len _ _
        go_wp2
        go_ret
        exact ⟨_, rfl, by rw [app_data, HS.out, HE.out, ← one_ch r (by omega)]; rfl, bon' (below_drewN (Below.refl _ _) _) hb5⟩

set_option maxHeartbeats 1000000 in
theorem rtext_bad (n base : Int) (w : World) (h : ¬ (fitN n = true ∧ (base = 10 ∨ base = 16))) : Calls Tryz.prog 36 #[.int .i64 n, .int .i64 base] w (TextEnds [] w) := by
  have hcase : fitN n = false ∨ (fitN n = true ∧ (base != 10) = true ∧ (base != 16) = true) := by
    cases hf : fitN n with
    | false => exact .inl rfl
    | true =>
      refine .inr ⟨rfl, ?_, ?_⟩
      · simp only [bne_iff_ne, ne_eq]
        exact fun e => h ⟨hf, .inl e⟩
      · simp only [bne_iff_ne, ne_eq]
        exact fun e => h ⟨hf, .inr e⟩
  clear h
  rcases hcase with h1 | ⟨h1, h2, h3⟩
  all_goals
    go_enter Tryz.func36, Tryz.ntmps36
    go_wp2_with fail
    refine (rfits_any n _).mono ?_
    rintro e w' ⟨rfl, rfl⟩
    rw [h1]
    go_wp2_with fail
    go_ret
    exact ⟨_, rfl, rfl, Below.refl _ _⟩

theorem rtext_any (n base : Int) (w : World) : Calls Tryz.prog 36 #[.int .i64 n, .int .i64 base] w (TextEnds (textN n base) w) := by
  by_cases h : fitN n = true ∧ (base = 10 ∨ base = 16)
  · obtain ⟨h0, h1⟩ := fit_iff.1 h.1
    obtain ⟨m, rfl⟩ := Int.eq_ofNat_of_zero_le h0
    obtain ⟨b, rfl⟩ := Int.eq_ofNat_of_zero_le (show 0 ≤ base by omega)
    rw [textN, if_pos h]
    simp only [Int.toNat_natCast]
    exact rtext_good b (by omega) m (by omega) w
  · rw [textN, if_neg h]
    exact rtext_bad n base w h

end Go.Proofs.YtdlihfbaepjliaaGreatDoor.Nm

/-
  The walk of num's own Parse.
-/
namespace Go.Proofs.YtdlihfbaepjliaaGreatDoor.Nm
open Go.RowKit

/-- a number that is held where it is too big -/
def capN (n : Int) : Int := if n ≤ 9007199254740992 then n else 9007199254740993

theorem cap_step {n v base : Int} (hv : 0 ≤ v) (hb : 1 ≤ base) : capN (capN n * base + v) = capN (n * base + v) := by
  unfold capN
  by_cases h : n ≤ 9007199254740992
  · rw [if_pos h]
  · rw [if_neg h]
    have h1 : 9007199254740993 * base ≤ n * base := Int.mul_le_mul_of_nonneg_right (by omega) (by omega)
    have h2 : 9007199254740993 * 1 ≤ 9007199254740993 * base := Int.mul_le_mul_of_nonneg_left hb (by omega)
    rw [if_neg (by omega), if_neg (by omega)]
theorem cap_bd {n : Int} (h0 : 0 ≤ n) : 0 ≤ capN n ∧ capN n ≤ 9007199254740993 := by unfold capN; split <;> omega
theorem bound_cap {n : Int} (h0 : 0 ≤ n) : boundN (capN n) = if n ≤ 9007199254740992 then (n, 0) else (0, 3) := by
  unfold capN
  split
  · rw [boundN, if_pos (fit_iff.2 (by omega))]
  · rw [boundN, if_neg (by rw [fit_iff]; omega)]

set_option maxHeartbeats 1000000 in
theorem parse_bad' (s : ByteArray) (base : Int) (w : World) (hbad : baseN base = false ∨ (baseN base = true ∧ s.toList.isEmpty = true)) : Calls Tryz.prog 163 #[.string s, .int .i64 base] w fun e w' => e = .returned (.tuple #[.int .i64 0, .int .i64 1]) ∧ w' = w := by
  rcases hbad with h1 | ⟨h1, h2⟩
  all_goals
    go_enter Tryz.func163, Tryz.ntmps163
    go_wp2_with fail
    refine (isBase_any base _).mono ?_
    rintro e w' ⟨rfl, rfl⟩
    rw [h1]
    go_wp2
    refine bodyPost_ret (v := .tuple #[.int .i64 0, .int .i64 1]) (by simp [results, Tryz.results163, go_sem]) rfl ?_
    exact ⟨rfl, rfl⟩

set_option maxRecDepth 100000 in
set_option maxHeartbeats 4000000 in
theorem parse_good' (s : ByteArray) (base : Int) (w : World) (hs : s.size ≤ maxLen) (hne : s.toList.isEmpty = false) (hb : baseN base = true) (hb1 : 1 ≤ base) (hb2 : base ≤ 16) (hsp : parseN s.data.toList base = if digsN base s.data.toList = true then (if numN base 0 s.data.toList ≤ 9007199254740992 then (numN base 0 s.data.toList, 0) else (0, 3)) else (0, 1)) :
    Calls Tryz.prog 163 #[.string s, .int .i64 base] w fun e w' => e = .returned (.tuple #[.int .i64 (parseN s.data.toList base).1, .int .i64 (parseN s.data.toList base).2]) ∧ w' = w := by
  unfold maxLen at hs
  have HSP := Lib.hid hsp
  clear hsp
  go_enter Tryz.func163, Tryz.ntmps163
  go_wp2_with fail
  refine (isBase_any base _).mono ?_
  rintro e w1 ⟨rfl, rfl⟩
  rw [hb]
  go_wp2_with fail
  go_loopw [19, 6] (fun i m wr => ∃ (k : Nat) (n : Int), k ≤ s.size ∧ i = .int .i64 (k : Int) ∧ m = .int .i64 n ∧ 0 ≤ n ∧ n ≤ 9007199254740993 ∧ Hid ((∀ j, j < k → 0 ≤ valN (by_ s j) base) ∧ 0 ≤ numN base 0 (s.data.toList.take k) ∧ n = capN (numN base 0 (s.data.toList.take k))) ∧ w1 = wr) (fun i _ _ => s.size - (intOf i).toNat)
  case atStart => exact ⟨0, 0, Nat.zero_le _, rfl, rfl, by omega, by omega, Lib.hid ⟨fun j hj => absurd hj (by omega), by simp [numN], rfl⟩, rfl⟩
  case round =>
    obtain ⟨k, n, hk, rfl, rfl, hn0, hn1, HN, rfl⟩ := hrel
    by_cases hlt : k < s.size
    · have hby := at_by hlt
      obtain ⟨v, hv⟩ : ∃ v, valN (by_ s k) base = v := ⟨_, rfl⟩
      have HC : Hid (∀ W, Calls Tryz.prog 176 #[.int .u8 (s[k].toNat : Int), .int .i64 base] W (DigEnds v W)) := Lib.hid (fun W => by have := digit_any s[k].toNat base W (UInt8.toNat_lt _); rw [hby, hv] at this; rw [hby]; exact this)
      have hv1 : v < base := by rw [← hv]; exact (val_lt (by omega)).2
      have HV := Lib.hid hv
      clear hv hby
      by_cases hneg : v < 0
      · have HE : Hid (parseN s.data.toList base = (0, 1)) := Lib.hid (by rw [HSP.out, if_neg]; rw [digs_iff]; intro hh; have := hh k hlt; rw [HV.out] at this; omega)
        go_wp2_with fail
        refine (HC.out _).mono ?_
        rintro e w' ⟨rfl, rfl⟩
        rw [if_pos (by omega), decide_eq_false (by omega)]
        go_wp2
        refine bodyPost_ret (v := .tuple #[.int .i64 0, .int .i64 1]) (by simp [results, Tryz.results163, go_sem]) rfl ?_
        exact ⟨ret_two HE.out, rfl⟩
      · have hp0 : 0 ≤ n * base := Int.mul_nonneg hn0 (by omega)
        have hp1 : n * base ≤ 9007199254740993 * 16 := Int.le_trans (Int.mul_le_mul_of_nonneg_left hb2 hn0) (Int.mul_le_mul_of_nonneg_right hn1 (by omega))
        have HT : Hid (numN base 0 (s.data.toList.take (k + 1)) = numN base 0 (s.data.toList.take k) * base + v) := Lib.hid (by
          rw [take_succ hlt, num_app]
          show numN base 0 (s.data.toList.take k) * base + valN (by_ s k) base = _
          rw [HV.out])
        have HM : Hid (capN (n * base + v) = capN (numN base 0 (s.data.toList.take (k + 1)))) := Lib.hid (by
          rw [HT.out, HN.out.2.2]
          exact cap_step (by omega) hb1)
        have HP : Hid (0 ≤ numN base 0 (s.data.toList.take (k + 1))) := Lib.hid (by
          rw [HT.out]
          have := Int.mul_nonneg HN.out.2.1 (show 0 ≤ base by omega)
          omega)
        go_wp2_with fail
        refine (HC.out _).mono ?_
        rintro e w' ⟨rfl, rfl⟩
        rw [if_neg (by omega), decide_eq_true (by omega)]
        have hc := cap_bd (n := n * base + v) (by omega)
        have HW : Hid ((if 9007199254740993 < n * base + v then 9007199254740993 else n * base + v) = capN (n * base + v)) := Lib.hid (by
          rw [capN]
          split <;> split <;> omega)
        have HW2 : Hid (min (n * base + v) 9007199254740993 = capN (n * base + v)) := Lib.hid (by
          rw [capN]
          split <;> omega)
        go_wp2
        refine ⟨⟨k + 1, capN (n * base + v), by omega, by go_num, by first | rw [HW.out] | rw [HW2.out], hc.1, hc.2, Lib.hid ⟨fun j hj => ?_, HP.out, HM.out⟩, trivial⟩, by simp [intOf]; omega⟩
        by_cases hjk : j < k
        · exact HN.out.1 j hjk
        · have : j = k := by omega
          subst this
          rw [HV.out]
          omega
    · have : k = s.size := by omega
      subst this
      have hall : s.data.toList.take s.size = s.data.toList := List.take_of_length_le (by simp)
      have HE : Hid (parseN s.data.toList base = boundN n) := Lib.hid (by
        obtain ⟨h1, h2, h3⟩ := HN.out
        rw [hall] at h2 h3
        rw [HSP.out, if_pos (digs_iff.2 h1), h3, bound_cap h2])
      clear hall
      go_wp2_with fail
      refine (bounded_any n _).mono ?_
      rintro e w' ⟨rfl, rfl⟩
      go_wp2
      refine bodyPost_ret (v := .tuple #[.int .i64 (boundN n).1, .int .i64 (boundN n).2]) (by simp [results, Tryz.results163, go_sem]) rfl ?_
      exact ⟨ret_two HE.out, rfl⟩

theorem parse_any (s : ByteArray) (base : Int) (w : World) (hs : s.size ≤ maxLen) : Calls Tryz.prog 163 #[.string s, .int .i64 base] w fun e w' => e = .returned (.tuple #[.int .i64 (parseN s.data.toList base).1, .int .i64 (parseN s.data.toList base).2]) ∧ w' = w := by
  by_cases hg : (base = 10 ∨ base = 16) ∧ s.toList.isEmpty = false
  · refine parse_good' s base w hs hg.2 (by rcases hg.1 with rfl | rfl <;> rfl) (by omega) (by omega) ?_
    have hne : s.data.toList ≠ [] := by
      intro e
      have h2 := hg.2
      rw [Go.ByteArray.toList_eq, e] at h2
      cases h2
    rw [parseN]
    by_cases hd : digsN base s.data.toList = true
    · rw [if_pos ⟨hg.1, hne, hd⟩, if_pos hd]
    · rw [if_neg (fun hh => hd hh.2.2), if_neg hd]
  · have he : parseN s.data.toList base = (0, 1) := by
      rw [parseN, if_neg]
      rintro ⟨h1, h2, _⟩
      refine hg ⟨h1, ?_⟩
      rw [Go.ByteArray.toList_eq]
      cases hd : s.data.toList with
      | nil => exact absurd hd h2
      | cons x r => rfl
    rw [he]
    refine parse_bad' s base w ?_
    cases hb : baseN base with
    | false => exact .inl rfl
    | true =>
      refine .inr ⟨rfl, ?_⟩
      cases hi : s.toList.isEmpty with
      | true => rfl
      | false => exact absurd ⟨by simpa [baseN] using hb, hi⟩ hg

end Go.Proofs.YtdlihfbaepjliaaGreatDoor.Nm
