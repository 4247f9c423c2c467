/-
  The walk of the document's own Parse.
-/
import Derived.Test.YtdlihfbaepjliaaGreatDoorJRefS
import Derived.Test.YtdlihfbaepjliaaGreatDoorNRef
import Derived.Test.YtdlihfbaepjliaaGreatDoorProg
import Derived.Lib.SlTrimSet
import Derived.WalkKit
import Derived.Lib.Split
import Derived.WalkSpells
import Derived.WalkLawsBesides
import Derived.WalkSmall
import Derived.Lib.Hide
import Derived.IntWalk
import Derived.BigQuiet
import Derived.Laws.OwnMore
import Derived.Deep.AppendLies
import Derived.Deep.RegionLaw
import Derived.Deep.Upon
import Derived.Deep.DeepCutAuto
import Derived.Lib.IndexLaws
import Derived.Shelf.LaysM
import Derived.Shelf.Small.Strs
import Derived.Shelf.Small.Wraps
import Derived.Shelf.Strings.Search1
import Derived.Shelf.Strings.Search2
import Derived.Shelf.Strings.SlTrimAscii
import Derived.Shelf.Strings.Split
import Derived.Shelf.Strings.Prefix
import Derived.Shelf.Strconv.Itoa4
import Derived.Lib.SmallJoins
namespace Go.Proofs.YtdlihfbaepjliaaGreatDoor.Nm
open Go.RowKit

/-- the byte at a place -/
abbrev by_ (s : ByteArray) (k : Nat) : Nat := (s.data[k]?.getD 0).toNat

theorem digs_iff {s : ByteArray} {base : Int} : digsN base s.data.toList = true ↔ ∀ k, k < s.size → 0 ≤ valN (by_ s k) base := by
  unfold digsN
  rw [List.all_eq_true]
  constructor
  · intro h k hk
    have hk' : k < s.data.toList.length := by simpa using hk
    have := h _ (List.getElem_mem hk')
    simp only [decide_eq_true_eq] at this
    have e : s.data[k]?.getD 0 = s.data.toList[k] := by
      rw [← Array.getElem?_toList, List.getElem?_eq_getElem hk']
      rfl
    rw [by_, e]
    exact this
  · intro h c hc
    obtain ⟨k, hk, rfl⟩ := List.mem_iff_getElem.1 hc
    have := h k (by simpa using hk)
    have e : s.data[k]?.getD 0 = s.data.toList[k] := by
      rw [← Array.getElem?_toList, List.getElem?_eq_getElem hk]
      rfl
    rw [by_, e] at this
    simpa using this

theorem take_succ {s : ByteArray} {k : Nat} (hk : k < s.size) : s.data.toList.take (k + 1) = s.data.toList.take k ++ [s.data[k]?.getD 0] := by
  have hk' : k < s.data.toList.length := by simpa using hk
  rw [List.take_add_one, List.getElem?_eq_getElem hk', ← Array.getElem?_toList, List.getElem?_eq_getElem hk']
  rfl

/-- the number of the first bytes is no more than that of all -/
theorem num_le {s : ByteArray} {base : Int} (hb : 1 ≤ base) (hd : digsN base s.data.toList = true) (k : Nat) : 0 ≤ numN base 0 (s.data.toList.take k) ∧ numN base 0 (s.data.toList.take k) ≤ numN base 0 s.data.toList := by
  have h : digsN base (s.data.toList.take k ++ s.data.toList.drop k) = true := by rw [List.take_append_drop]; exact hd
  rw [digs_app, Bool.and_eq_true] at h
  have h1 := num_ge hb _ 0 (by omega) h.1
  refine ⟨h1, ?_⟩
  have h2 := num_ge hb _ _ h1 h.2
  rw [← num_app, List.take_append_drop] at h2
  exact h2

theorem at_by {s : ByteArray} {k : Nat} (hk : k < s.size) : s[k].toNat = by_ s k := by
  have hk' : k < s.data.size := hk
  rw [by_, Array.getElem?_eq_getElem hk']
  rfl

theorem parse_bad (s : ByteArray) (base : Int) (w : World) (hbad : ¬ ((base = 10 ∨ base = 16) ∧ s.toList.isEmpty = false)) : Calls Tryz.prog 118 #[.string s, .int .i64 base] w fun e w' => e = .returned (.tuple #[.int .i64 0, .int .i64 1]) ∧ w' = w := by
  have hcase : s.toList.isEmpty = true ∨ (s.toList.isEmpty = false ∧ (base != 10) = true ∧ (base != 16) = true) := by
    cases he : s.toList.isEmpty with
    | true => exact .inl rfl
    | false =>
      refine .inr ⟨rfl, ?_, ?_⟩
      · simp only [bne_iff_ne, ne_eq]
        exact fun e => hbad ⟨.inl e, he⟩
      · simp only [bne_iff_ne, ne_eq]
        exact fun e => hbad ⟨.inr e, he⟩
  clear hbad
  rcases hcase with h1 | ⟨h1, h2, h3⟩
  all_goals
    go_enter Tryz.func118, Tryz.ntmps118
    go_wp2
    refine bodyPost_ret (v := .tuple #[.int .i64 0, .int .i64 1]) (by simp [results, Tryz.results118, go_sem]) rfl ?_
    exact ⟨rfl, rfl⟩

set_option maxRecDepth 100000 in
set_option maxHeartbeats 4000000 in
theorem parse_good (s : ByteArray) (base : Int) (w : World) (hs : s.size ≤ maxLen) (hne : s.toList.isEmpty = false) (hb : ((base != 10) = false) ∨ ((base != 10) = true ∧ (base != 16) = false)) (hb1 : 1 ≤ base) (hb2 : base ≤ 16) (hsp : parseN s.data.toList base = if digsN base s.data.toList = true then (if numN base 0 s.data.toList ≤ 9007199254740992 then (numN base 0 s.data.toList, 0) else (0, 3)) else (0, 1)) :
    Calls Tryz.prog 118 #[.string s, .int .i64 base] w fun e w' => e = .returned (.tuple #[.int .i64 (parseN s.data.toList base).1, .int .i64 (parseN s.data.toList base).2]) ∧ w' = w := by
  unfold maxLen at hs
  have HSP := Lib.hid hsp
  clear hsp
  rcases hb with hb | ⟨hb, hb'⟩
  all_goals
    go_enter Tryz.func118, Tryz.ntmps118
    go_wp2_with fail
    go_loopw [6] (fun i wr => ∃ k : Nat, k ≤ s.size ∧ i = .int .i64 (k : Int) ∧ Hid (∀ j, j < k → 0 ≤ valN (by_ s j) base) ∧ w = wr) (fun i _ => s.size - (intOf i).toNat)
    case atStart => exact ⟨0, Nat.zero_le _, rfl, Lib.hid (fun j hj => absurd hj (by omega)), rfl⟩
    case round =>
      obtain ⟨k, hk, rfl, HK, rfl⟩ := hrel
      by_cases hlt : k < s.size
      · have hby := at_by hlt
        obtain ⟨v, hv⟩ : ∃ v, valN (by_ s k) base = v := ⟨_, rfl⟩
        have HC : Hid (∀ W, Calls Tryz.prog 135 #[.int .u8 (s[k].toNat : Int), .int .i64 base] W fun e w' => e = .returned (.int .i64 v) ∧ w' = W) := Lib.hid (fun W => by have := rvalue_any s[k].toNat base W (UInt8.toNat_lt _); rw [hby, hv] at this; rw [hby]; exact this)
        have HV := Lib.hid hv
        clear hv hby
        by_cases hneg : v < 0
        · have HE : Hid (parseN s.data.toList base = (0, 1)) := Lib.hid (by rw [HSP.out, if_neg]; rw [digs_iff]; intro hh; have := hh k hlt; rw [HV.out] at this; omega)
          go_wp2_with fail
          refine (HC.out _).mono ?_
          rintro e w' ⟨rfl, rfl⟩
          go_wp2
          refine bodyPost_ret (v := .tuple #[.int .i64 0, .int .i64 1]) (by simp [results, Tryz.results118, go_sem]) rfl ?_
          exact ⟨ret_two HE.out, rfl⟩
        · go_wp2_with fail
          refine (HC.out _).mono ?_
          rintro e w' ⟨rfl, rfl⟩
          go_wp2
          go_roundw
          case rel =>
            refine ⟨k + 1, by omega, by go_num, Lib.hid (fun j hj => ?_), trivial⟩
            by_cases hjk : j < k
            · exact HK.out j hjk
            · have : j = k := by omega
              subst this
              rw [HV.out]
              omega
          case measure => simp [intOf]; omega
      · have : k = s.size := by omega
        subst this
        have HD : Hid (digsN base s.data.toList = true) := Lib.hid (digs_iff.2 HK.out)
        have HS2 : Hid (parseN s.data.toList base = if numN base 0 s.data.toList ≤ 9007199254740992 then (numN base 0 s.data.toList, 0) else (0, 3)) := Lib.hid (by rw [HSP.out, if_pos HD.out])
        clear HSP
        go_wp2_with fail
        go_loopw [8, 7] (fun i m wr => ∃ (k : Nat) (n : Int), k ≤ s.size ∧ i = .int .i64 (k : Int) ∧ m = .int .i64 n ∧ 0 ≤ n ∧ n ≤ 9007199254740992 ∧ Hid (numN base 0 (s.data.toList.take k) = n) ∧ w = wr) (fun i _ _ => s.size - (intOf i).toNat)
        case atStart => exact ⟨0, 0, Nat.zero_le _, rfl, rfl, by omega, by omega, Lib.hid rfl, rfl⟩
        case round =>
          obtain ⟨k, n, hk, rfl, rfl, hn0, hn1, HN, rfl⟩ := hrel
          by_cases hlt : k < s.size
          · have hby := at_by hlt
            obtain ⟨v, hv⟩ : ∃ v, valN (by_ s k) base = v := ⟨_, rfl⟩
            have HC : Hid (∀ W, Calls Tryz.prog 135 #[.int .u8 (s[k].toNat : Int), .int .i64 base] W fun e w' => e = .returned (.int .i64 v) ∧ w' = W) := Lib.hid (fun W => by have := rvalue_any s[k].toNat base W (UInt8.toNat_lt _); rw [hby, hv] at this; rw [hby]; exact this)
            have hv0 : 0 ≤ v := by rw [← hv]; exact HK.out k hlt
            have hv1 : v < base := by rw [← hv]; exact (val_lt (by omega)).2
            have HT : Hid (numN base 0 (s.data.toList.take (k + 1)) = n * base + v) := Lib.hid (by
              rw [take_succ hlt, num_app, HN.out]
              show n * base + valN (by_ s k) base = _
              rw [hv])
            have hle := (num_le hb1 HD.out (k + 1)).2
            rw [HT.out] at hle
            have hp0 : 0 ≤ n * base := Int.mul_nonneg hn0 (by omega)
            clear hv hby
            by_cases hp : n * base ≤ 9007199254740992
            · have HM : Hid (∀ W, Calls Tryz.prog 136 #[.int .i64 n, .int .i64 base] W fun e w' => e = .returned (.tuple #[.int .i64 (n * base), .int .i64 0]) ∧ w' = W) := Lib.hid (fun W => by
                have := rmul_any n base W
                rw [show mulN n base = (n * base, 0) by rw [mulN, if_pos (by simp [fitN]; omega), if_pos hp]] at this
                exact this)
              by_cases hq : n * base + v ≤ 9007199254740992
              · have HA : Hid (∀ W, Calls Tryz.prog 137 #[.int .i64 (n * base), .int .i64 v] W fun e w' => e = .returned (.tuple #[.int .i64 (n * base + v), .int .i64 0]) ∧ w' = W) := Lib.hid (fun W => by
                  have := radd_any (n * base) v W
                  rw [show addN (n * base) v = (n * base + v, 0) by rw [addN, if_pos (by simp [fitN]; omega), if_pos hq]] at this
                  exact this)
                generalize n * base = p at *
                go_wp2_with fail
                refine (HM.out _).mono ?_
                rintro e w' ⟨rfl, rfl⟩
                go_wp2_with fail
                refine (HC.out _).mono ?_
                rintro e w' ⟨rfl, rfl⟩
                go_wp2_with fail
                refine (HA.out _).mono ?_
                rintro e w' ⟨rfl, rfl⟩
                go_wp2
                go_roundw
                case rel => exact ⟨k + 1, p + v, by omega, by go_num, rfl, by omega, hq, HT, trivial⟩
                case measure => simp [intOf]; omega
              · have HE : Hid (parseN s.data.toList base = (0, 3)) := Lib.hid (by rw [HS2.out, if_neg (by omega)])
                have HA : Hid (∀ W, Calls Tryz.prog 137 #[.int .i64 (n * base), .int .i64 v] W fun e w' => e = .returned (.tuple #[.int .i64 0, .int .i64 3]) ∧ w' = W) := Lib.hid (fun W => by
                  have := radd_any (n * base) v W
                  rw [show addN (n * base) v = (0, 3) by rw [addN, if_pos (by simp [fitN]; omega), if_neg hq]] at this
                  exact this)
                generalize n * base = p at *
                go_wp2_with fail
                refine (HM.out _).mono ?_
                rintro e w' ⟨rfl, rfl⟩
                go_wp2_with fail
                refine (HC.out _).mono ?_
                rintro e w' ⟨rfl, rfl⟩
                go_wp2_with fail
                refine (HA.out _).mono ?_
                rintro e w' ⟨rfl, rfl⟩
                go_wp2
                refine bodyPost_ret (v := .tuple #[.int .i64 0, .int .i64 3]) (by simp [results, Tryz.results118, go_sem]) rfl ?_
                exact ⟨ret_two HE.out, rfl⟩
            · have HE : Hid (parseN s.data.toList base = (0, 3)) := Lib.hid (by rw [HS2.out, if_neg (by omega)])
              have HM : Hid (∀ W, Calls Tryz.prog 136 #[.int .i64 n, .int .i64 base] W fun e w' => e = .returned (.tuple #[.int .i64 0, .int .i64 3]) ∧ w' = W) := Lib.hid (fun W => by
                have := rmul_any n base W
                rw [show mulN n base = (0, 3) by rw [mulN, if_pos (by simp [fitN]; omega), if_neg hp]] at this
                exact this)
              have HA : Hid (∀ W, Calls Tryz.prog 137 #[.int .i64 0, .int .i64 v] W fun e w' => e = .returned (.tuple #[.int .i64 v, .int .i64 0]) ∧ w' = W) := Lib.hid (fun W => by
                have := radd_any 0 v W
                rw [show addN 0 v = (v, 0) by rw [addN, if_pos (by simp [fitN]; omega), if_pos (by omega)]; simp] at this
                exact this)
              go_wp2_with fail
              refine (HM.out _).mono ?_
              rintro e w' ⟨rfl, rfl⟩
              go_wp2_with fail
              refine (HC.out _).mono ?_
              rintro e w' ⟨rfl, rfl⟩
              go_wp2_with fail
              refine (HA.out _).mono ?_
              rintro e w' ⟨rfl, rfl⟩
              go_wp2
              refine bodyPost_ret (v := .tuple #[.int .i64 0, .int .i64 3]) (by simp [results, Tryz.results118, go_sem]) rfl ?_
              exact ⟨ret_two HE.out, rfl⟩
          · have : k = s.size := by omega
            subst this
            have hall : s.data.toList.take s.size = s.data.toList := List.take_of_length_le (by simp)
            have HE : Hid (parseN s.data.toList base = (n, 0)) := Lib.hid (by
              have := HN.out
              rw [hall] at this
              rw [HS2.out, this, if_pos hn1])
            clear hall
            go_wp2
            refine bodyPost_ret (v := .tuple #[.int .i64 n, .int .i64 0]) (by simp [results, Tryz.results118, go_sem]) rfl ?_
            exact ⟨ret_two HE.out, rfl⟩

theorem rparse_any (s : ByteArray) (base : Int) (w : World) (hs : s.size ≤ maxLen) : Calls Tryz.prog 118 #[.string s, .int .i64 base] w fun e w' => e = .returned (.tuple #[.int .i64 (parseN s.data.toList base).1, .int .i64 (parseN s.data.toList base).2]) ∧ w' = w := by
  by_cases hg : (base = 10 ∨ base = 16) ∧ s.toList.isEmpty = false
  · refine parse_good s base w hs hg.2 ?_ (by omega) (by omega) ?_
    · rcases hg.1 with rfl | rfl
      · exact .inl rfl
      · exact .inr ⟨rfl, rfl⟩
    · have hne : s.data.toList ≠ [] := by
        intro e
        have h2 := hg.2
        rw [Go.ByteArray.toList_eq, e] at h2
        cases h2
      rw [parseN]
      by_cases hd : digsN base s.data.toList = true
      · rw [if_pos ⟨hg.1, hne, hd⟩, if_pos hd]
      · rw [if_neg (fun hh => hd hh.2.2), if_neg hd]
  · have he : parseN s.data.toList base = (0, 1) := by
      rw [parseN, if_neg]
      rintro ⟨h1, h2, _⟩
      refine hg ⟨h1, ?_⟩
      rw [Go.ByteArray.toList_eq]
      cases hd : s.data.toList with
      | nil => exact absurd hd h2
      | cons x r => rfl
    rw [he]
    exact parse_bad s base w hg

end Go.Proofs.YtdlihfbaepjliaaGreatDoor.Nm
