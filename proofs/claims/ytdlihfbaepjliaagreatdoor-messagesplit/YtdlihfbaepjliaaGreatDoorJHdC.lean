/-
  The walks of head's own rightTarget, rightReason, rightFields, rightStatus and Right.
-/
import Derived.Test.YtdlihfbaepjliaaGreatDoorJOwnA
import Derived.Test.YtdlihfbaepjliaaGreatDoorJHdU
import Derived.Test.YtdlihfbaepjliaaGreatDoorHdB
import Derived.Test.YtdlihfbaepjliaaGreatDoorProg
import Derived.Lib.SlTrimSet
import Derived.WalkKit
import Derived.Lib.Split
import Derived.WalkSpells
import Derived.WalkLawsBesides
import Derived.WalkSmall
import Derived.Lib.Hide
import Derived.IntWalk
import Derived.BigQuiet
import Derived.Laws.OwnMore
import Derived.Deep.AppendLies
import Derived.Deep.RegionLaw
import Derived.Deep.Upon
import Derived.Deep.DeepCutAuto
import Derived.Lib.IndexLaws
import Derived.Shelf.LaysM
import Derived.Shelf.Small.Strs
import Derived.Shelf.Small.Wraps
import Derived.Shelf.Strings.Search1
import Derived.Shelf.Strings.Search2
import Derived.Shelf.Strings.SlTrimAscii
import Derived.Shelf.Strings.Split
import Derived.Shelf.Strings.Prefix
import Derived.Shelf.Strconv.Itoa4
import Derived.Lib.SmallJoins
import Derived.Lib.LaidTab
import Derived.Lib.AppendIntMem
import Derived.Lib.IndexAny
import Derived.RangeFuncNested
import Derived.RangeFuncBound
import Derived.RangeFuncCalls
import Derived.RangeFuncLeaves
import Derived.Shelf.Abstract
import Derived.Shelf.RegionOpen
import Derived.OwnWalkIn
import Derived.TacticsInMore
import Derived.LoopNIn
import Derived.LoopIn
import Derived.Maps.AppendAt
import Derived.Test.YtdlihfbaepjliaaGreatDoorHdE
namespace Go.Proofs.YtdlihfbaepjliaaGreatDoor
open Go.RowKit

set_option maxRecDepth 100000 in
set_option maxHeartbeats 2000000 in
theorem target_any (s : ByteArray) (hs : s.size ≤ 4096) (w : World) : Calls Tryz.prog 73 #[.string s] w (fun e w' => e = .returned (.bool (targetB (dl s))) ∧ w' = w) := by
  have hcase : s.size < 1 ∨ (1 ≤ s.size ∧ 200 < s.size) ∨ (1 ≤ s.size ∧ s.size ≤ 200) := by omega
  rcases hcase with h | ⟨h, h'⟩ | ⟨h1, h2⟩
  · have HE : Hid (targetB (dl s) = false) := Lib.hid (by rw [targetB, dl_len, decide_eq_false (by omega)]; rfl)
    go_enter Tryz.func73, Tryz.ntmps73
    go_wp2
    go_ret
    exact ⟨ret_bool HE.out.symm, rfl⟩
  · have HE : Hid (targetB (dl s) = false) := Lib.hid (by rw [targetB, dl_len, decide_eq_false (p := s.size ≤ 200) (by omega), Bool.and_false]; rfl)
    go_enter Tryz.func73, Tryz.ntmps73
    go_wp2
    go_ret
    exact ⟨ret_bool HE.out.symm, rfl⟩
  go_enter Tryz.func73, Tryz.ntmps73
  go_wp2_with fail
  go_loopw [14] (fun i wr => ∃ k : Nat, k ≤ s.size ∧ i = .int .i64 (k : Int) ∧ Hid (∀ j, j < k → (dl s)[j]?.all tgtC = true) ∧ w = wr) (fun i _ => s.size - (intOf i).toNat)
  case atStart => exact ⟨0, Nat.zero_le _, rfl, Lib.hid (fun j hj => absurd hj (by omega)), rfl⟩
  case round =>
    obtain ⟨k, hk, rfl, HK, rfl⟩ := hrel
    by_cases hlt : k < s.size
    · have HA : Hid ((dl s)[k]?.all tgtC = tgtC s[k]) := Lib.hid (by rw [dl_at hlt]; rfl)
      have HV := Lib.hid (tgtC_eq s[k])
      have hc := (s[k]).toNat_lt
      obtain ⟨n, hn⟩ : ∃ n, (s[k]).toNat = n := ⟨_, rfl⟩
      rw [hn] at hc HV
      by_cases hg : 32 < n ∧ n ≤ 126
      · have HY : Hid ((dl s)[k]?.all tgtC = true) := Lib.hid (by rw [HA.out, HV.out]; simp; omega)
        have HR : Hid (∀ j, j < k + 1 → (dl s)[j]?.all tgtC = true) := Lib.hid (fun j hj => by
          by_cases hjk : j < k
          · exact HK.out j hjk
          · obtain rfl : j = k := by omega
            exact HY.out)
        clear HA HV HK
        obtain ⟨h1, h2⟩ := hg
        go_wp2
        go_roundw
        case rel => exact ⟨k + 1, by omega, by go_num, HR, trivial⟩
        case measure => simp [intOf]; omega
      · have HE : Hid (targetB (dl s) = false) := Lib.hid (by rw [targetB, all_noP (f := tgtC) (k := k) (by rw [HA.out, HV.out]; simp; omega), Bool.and_false])
        have hcase : n ≤ 32 ∨ (32 < n ∧ 126 < n) := by omega
        clear hg
        rcases hcase with h1 | ⟨h1, h2⟩
        all_goals
          go_wp2
          go_ret
          exact ⟨ret_bool HE.out.symm, rfl⟩
    · obtain rfl : k = s.size := by omega
      have HE : Hid (targetB (dl s) = true) := Lib.hid (by rw [targetB, all_yes HK.out, dl_len, decide_eq_true h1, decide_eq_true h2]; rfl)
      clear HK
      go_wp2
      go_ret
      exact ⟨ret_bool HE.out.symm, rfl⟩

set_option maxRecDepth 100000 in
set_option maxHeartbeats 2000000 in
theorem reason_any (s : ByteArray) (hs : s.size ≤ 4096) (w : World) : Calls Tryz.prog 71 #[.string s] w (fun e w' => e = .returned (.bool (reasonB (dl s))) ∧ w' = w) := by
  by_cases h2 : s.size ≤ 200
  case neg =>
    have HE : Hid (reasonB (dl s) = false) := Lib.hid (by rw [reasonB, dl_len, decide_eq_false h2]; rfl)
    go_enter Tryz.func71, Tryz.ntmps71
    go_wp2
    go_ret
    exact ⟨ret_bool HE.out.symm, rfl⟩
  go_enter Tryz.func71, Tryz.ntmps71
  go_wp2_with fail
  go_loopw [9] (fun i wr => ∃ k : Nat, k ≤ s.size ∧ i = .int .i64 (k : Int) ∧ Hid (∀ j, j < k → (dl s)[j]?.all valC = true) ∧ w = wr) (fun i _ => s.size - (intOf i).toNat)
  case atStart => exact ⟨0, Nat.zero_le _, rfl, Lib.hid (fun j hj => absurd hj (by omega)), rfl⟩
  case round =>
    obtain ⟨k, hk, rfl, HK, rfl⟩ := hrel
    by_cases hlt : k < s.size
    · have HA : Hid ((dl s)[k]?.all valC = valC s[k]) := Lib.hid (by rw [dl_at hlt]; rfl)
      have HV := Lib.hid (valC_eq s[k])
      have hc := (s[k]).toNat_lt
      obtain ⟨n, hn⟩ : ∃ n, (s[k]).toNat = n := ⟨_, rfl⟩
      rw [hn] at hc HV
      by_cases hg : n = 9 ∨ (32 ≤ n ∧ n ≤ 126)
      · have HY : Hid ((dl s)[k]?.all valC = true) := Lib.hid (by rw [HA.out, HV.out]; simp; omega)
        have HR : Hid (∀ j, j < k + 1 → (dl s)[j]?.all valC = true) := Lib.hid (fun j hj => by
          by_cases hjk : j < k
          · exact HK.out j hjk
          · obtain rfl : j = k := by omega
            exact HY.out)
        clear HA HV HK
        rcases hg with rfl | ⟨h1, h2⟩
        · go_wp2
          go_roundw
          case rel => exact ⟨k + 1, by omega, by go_num, HR, trivial⟩
          case measure => simp [intOf]; omega
        · have e1 : ((n : Int) != 9) = true := bne_iff_ne.2 (by omega)
          go_wp2
          go_roundw
          case rel => exact ⟨k + 1, by omega, by go_num, HR, trivial⟩
          case measure => simp [intOf]; omega
      · have HE : Hid (reasonB (dl s) = false) := Lib.hid (by rw [reasonB, all_noP (f := valC) (k := k) (by rw [HA.out, HV.out]; simp; omega), Bool.and_false])
        have e1 : ((n : Int) != 9) = true := bne_iff_ne.2 (by omega)
        have hcase : n < 32 ∨ (32 ≤ n ∧ 126 < n) := by omega
        clear hg
        rcases hcase with h1 | ⟨h1, h2⟩
        all_goals
          go_wp2
          go_ret
          exact ⟨ret_bool HE.out.symm, rfl⟩
    · obtain rfl : k = s.size := by omega
      have HE : Hid (reasonB (dl s) = true) := Lib.hid (by rw [reasonB, all_yes HK.out, dl_len, decide_eq_true h2]; rfl)
      clear HK
      go_wp2
      go_ret
      exact ⟨ret_bool HE.out.symm, rfl⟩

set_option maxHeartbeats 1000000 in
theorem status_any (st : Int) (w : World) : Calls Tryz.prog 70 #[.int .i64 st] w (fun e w' => e = .returned (.bool (statB st)) ∧ w' = w) := by
  by_cases h : 100 ≤ st
  · have HE : Hid (statB st = decide (st ≤ 599)) := Lib.hid (by rw [statB, decide_eq_true h, Bool.true_and])
    go_enter Tryz.func70, Tryz.ntmps70
    go_wp2
    go_ret
    exact ⟨ret_bool HE.out.symm, rfl⟩
  · have HE : Hid (statB st = false) := Lib.hid (by rw [statB, decide_eq_false h, Bool.false_and])
    go_enter Tryz.func70, Tryz.ntmps70
    go_wp2
    go_ret
    exact ⟨ret_bool HE.out.symm, rfl⟩

set_option maxRecDepth 100000 in
set_option maxHeartbeats 2000000 in
theorem fields_any (A : Option Addr) (n c : Nat) (fs : List Fd) (w : World) (hL : Fs w ⟨A, n, c⟩ fs) (hn : n ≤ 4096) (hf : Few fs) : Calls Tryz.prog 69 #[.slice A n c] w (BoolEnds (fieldsB (dls fs)) w) := by
  have HF := Lib.hid hf
  have HL := Lib.hid hL
  have hlen : Hid (fs.length = n) := Lib.hid hL.len
  clear hf hL
  by_cases h20 : n ≤ 20
  case neg =>
    have HE : Hid (fieldsB (dls fs) = false) := Lib.hid (by rw [fieldsB, List.length_map, hlen.out, decide_eq_false h20]; rfl)
    go_enter Tryz.func69, Tryz.ntmps69
    go_wp2
    go_ret
    exact ⟨ret_bool HE.out.symm, Below.refl _ _⟩
  go_enter Tryz.func69, Tryz.ntmps69
  go_wp2_with fail
  go_loopw [10] (fun i wr => ∃ k : Nat, k ≤ n ∧ i = .int .i64 (k : Int) ∧ Hid (∀ j x y, j < k → fs[j]? = some (x, y) → (nameB (dl x) && valueB (dl y)) = true) ∧ Below w.heap.size w wr) (fun i _ => n - (intOf i).toNat)
  case atStart => exact ⟨0, Nat.zero_le _, rfl, Lib.hid (fun j _ _ hj => absurd hj (by omega)), Below.refl _ _⟩
  case round =>
    obtain ⟨k, hk, rfl, HK, hbw⟩ := hrel
    by_cases hlt : k < n
    · obtain ⟨b, o, x, y, hA, hb, hx, c1, d1⟩ := (HL.out.up hbw).cell (k := k) hlt
      simp only at hA
      subst hA
      obtain ⟨z1, z2⟩ := HF.out _ (List.mem_of_getElem? hx)
      have HN := Lib.hid (fun W => name_any x z1 W)
      have HV := Lib.hid (fun W => value_any y z2 W)
      have HX := Lib.hid hx
      have HBad : Hid ((nameB (dl x) && valueB (dl y)) = false → fieldsB (dls fs) = false) := Lib.hid (fun h => fields_no hx h)
      clear hx
      have hki : (k : Int) < (n : Int) := by omega
      have hk0 : (0 : Int) ≤ (k : Int) := by omega
      obtain ⟨b1, hb1⟩ : ∃ b, nameB (dl x) = b := ⟨_, rfl⟩
      obtain ⟨b2, hb2⟩ : ∃ b, valueB (dl y) = b := ⟨_, rfl⟩
      rw [hb1] at HN
      rw [hb2] at HV
      have HB := Lib.hid (And.intro hb1 hb2)
      clear hb1 hb2
      have hbx := bon hbw (ba1 wr (.cells #[.string x, .string y] 40))
      cases b1 with
      | false =>
        have HE := Lib.hid (HBad.out (by rw [HB.out.1]; rfl))
        go_wp2_with fail
        refine (HN.out _).mono ?_
        rintro e w' ⟨rfl, rfl⟩
        go_wp2
        go_ret
        exact ⟨ret_bool HE.out.symm, hbx⟩
      | true =>
        go_wp2_with fail
        refine (HN.out _).mono ?_
        rintro e w' ⟨rfl, rfl⟩
        go_wp2_with fail
        refine (HV.out _).mono ?_
        rintro e w' ⟨rfl, hb3⟩
        have hby := bon hbx hb3
        clear hbx hb3
        cases b2 with
        | false =>
          have HE := Lib.hid (HBad.out (by rw [HB.out.2, Bool.and_false]))
          go_wp2
          go_ret
          exact ⟨ret_bool HE.out.symm, hby⟩
        | true =>
          have HR : Hid (∀ j x y, j < k + 1 → fs[j]? = some (x, y) → (nameB (dl x) && valueB (dl y)) = true) := Lib.hid (fun j x' y' hj he => by
            by_cases hjk : j < k
            · exact HK.out j x' y' hjk he
            · obtain rfl : j = k := by omega
              rw [HX.out] at he
              obtain ⟨rfl, rfl⟩ := Prod.mk.inj (Option.some.inj he)
              rw [HB.out.1, HB.out.2]; rfl)
          clear HK HX HB
          go_wp2
          go_roundw
          case rel => exact ⟨k + 1, by omega, by go_num, HR, hby⟩
          case measure => simp [intOf]; omega
    · obtain rfl : k = n := by omega
      have HE : Hid (fieldsB (dls fs) = true) := Lib.hid (by rw [fields_yes hlen.out HK.out]; simp; omega)
      clear HK
      go_wp2
      go_ret
      exact ⟨ret_bool HE.out.symm, hbw⟩

section
variable (m t : ByteArray) (st : Int) (r : ByteArray) (mi : Int) (A : Option Addr) (n c : Nat) (fs : List Fd) (a : Bool) (w : World) (hm : m.size ≤ 4096) (ht : t.size ≤ 4096) (hr : r.size ≤ 4096) (hL : Fs w ⟨A, n, c⟩ fs) (hn : n ≤ 4096) (hf : Few fs)
include hm ht hr hL hn hf

set_option maxRecDepth 100000 in
set_option maxHeartbeats 4000000 in
theorem right_any : Calls Tryz.prog 43 #[.agg #[.string m, .string t, .int .i64 st, .string r, .int .i64 mi, .slice A n c], .bool a] w (BoolEnds (rightB (hdOf m t st r mi fs) a) w) := by
  have HF := Lib.hid (fields_any A n c fs (w.alloc (.cells #[.string m, .string t, .int .i64 st, .string r, .int .i64 mi, .slice A n c] 29)) (hL.up (ba1 _ _)) hn hf)
  have HN := Lib.hid (fun W => name_any m hm W)
  have HT := Lib.hid (fun W => target_any t ht W)
  have HR := Lib.hid (fun W => reason_any r hr W)
  have HS := Lib.hid (fun W => status_any st W)
  have HE := Lib.hid (right_eq m t st r mi fs a)
  have em := isEmp (s := m)
  have et := isEmp (s := t)
  have er := isEmp (s := r)
  clear hm ht hr hL hn hf
  generalize fieldsB (dls fs) = bf at *
  generalize nameB (dl m) = bn at *
  generalize targetB (dl t) = bt at *
  generalize reasonB (dl r) = br at *
  generalize decide (m.size = 0) = zm at *
  generalize decide (t.size = 0) = zt at *
  generalize decide (r.size = 0) = zr at *
  by_cases h : mi = 0 ∨ mi = 1
  case neg =>
    have HV : Hid (rightB (hdOf m t st r mi fs) a = false) := Lib.hid (by rw [HE.out, rightV, decide_eq_false (by omega), decide_eq_false (by omega)]; rfl)
    have e1 : (mi != 0) = true := bne_iff_ne.2 (by omega)
    have e2 : (mi != 1) = true := bne_iff_ne.2 (by omega)
    clear h
    go_enter Tryz.func43, Tryz.ntmps43
    go_wp2
    go_ret
    exact ⟨ret_bool HV.out.symm, ba1 _ _⟩
  have HE1 : Hid (rightB (hdOf m t st r mi fs) a = (bf && (if a = true then statB st && br && zm && zt else bn && bt && decide (st = 0) && zr))) := Lib.hid (by
    rw [HE.out, rightV]
    rcases h with rfl | rfl <;> simp)
  clear HE
  generalize statB st = bs at *
  have hcase : (mi != 0) = false ∨ ((mi != 0) = true ∧ (mi != 1) = false) := by
    rcases h with rfl | rfl
    · exact .inl rfl
    · exact .inr ⟨rfl, rfl⟩
  clear h
  have hgo : ∀ W, Below (w.alloc (.cells #[.string m, .string t, .int .i64 st, .string r, .int .i64 mi, .slice A n c] 29)).heap.size (w.alloc (.cells #[.string m, .string t, .int .i64 st, .string r, .int .i64 mi, .slice A n c] 29)) W → Hid (Box W w.heap.size 29 #[.string m, .string t, .int .i64 st, .string r, .int .i64 mi, .slice A n c] ∧ Below w.heap.size w W) := fun W hb => Lib.hid ⟨(Box.new _ _ _).up hb, bon (ba1 _ _) hb⟩
  rcases hcase with e1 | ⟨e1, e2⟩
  all_goals
    go_enter Tryz.func43, Tryz.ntmps43
    go_wp2_with fail
    refine HF.out.mono ?_
    rintro e w1 ⟨rfl, hb1⟩
    have HG := hgo w1 hb1
    clear hb1
    obtain ⟨c0, c1, c2, c3, c4, c5⟩ := HG.out.1.six
    cases bf with
    | false =>
      have HV : Hid (rightB (hdOf m t st r mi fs) a = false) := Lib.hid (by rw [HE1.out]; rfl)
      go_wp2
      go_ret
      exact ⟨ret_bool HV.out.symm, HG.out.2⟩
    | true =>
      cases a with
      | false =>
        go_wp2_with fail
        refine (HN.out _).mono ?_
        rintro e w' ⟨rfl, rfl⟩
        cases bn with
        | false =>
          have HV : Hid (rightB (hdOf m t st r mi fs) false = false) := Lib.hid (by rw [HE1.out]; rfl)
          go_wp2
          go_ret
          exact ⟨ret_bool HV.out.symm, HG.out.2⟩
        | true =>
          go_wp2_with fail
          refine (HT.out _).mono ?_
          rintro e w' ⟨rfl, rfl⟩
          cases bt with
          | false =>
            have HV : Hid (rightB (hdOf m t st r mi fs) false = false) := Lib.hid (by rw [HE1.out]; rfl)
            go_wp2
            go_ret
            exact ⟨ret_bool HV.out.symm, HG.out.2⟩
          | true =>
            by_cases hs : st = 0
            · subst hs
              have HV : Hid (rightB (hdOf m t 0 r mi fs) false = zr) := Lib.hid (by rw [HE1.out]; cases zr <;> rfl)
              go_wp2
              go_ret
              exact ⟨ret_bool (by rw [HV.out]), HG.out.2⟩
            · have HV : Hid (rightB (hdOf m t st r mi fs) false = false) := Lib.hid (by rw [HE1.out, decide_eq_false hs]; rfl)
              have e3 : (st == 0) = false := beq_eq_false_iff_ne.2 hs
              clear hs
              go_wp2
              go_ret
              exact ⟨ret_bool HV.out.symm, HG.out.2⟩
      | true =>
        go_wp2_with fail
        refine (HS.out _).mono ?_
        rintro e w' ⟨rfl, rfl⟩
        cases bs with
        | false =>
          have HV : Hid (rightB (hdOf m t st r mi fs) true = false) := Lib.hid (by rw [HE1.out]; simp)
          go_wp2
          go_ret
          exact ⟨ret_bool HV.out.symm, HG.out.2⟩
        | true =>
          go_wp2_with fail
          refine (HR.out _).mono ?_
          rintro e w' ⟨rfl, rfl⟩
          cases br with
          | false =>
            have HV : Hid (rightB (hdOf m t st r mi fs) true = false) := Lib.hid (by rw [HE1.out]; simp)
            go_wp2
            go_ret
            exact ⟨ret_bool HV.out.symm, HG.out.2⟩
          | true =>
            cases zm with
            | false =>
              have HV : Hid (rightB (hdOf m t st r mi fs) true = false) := Lib.hid (by rw [HE1.out]; simp)
              go_wp2
              go_ret
              exact ⟨ret_bool HV.out.symm, HG.out.2⟩
            | true =>
              have HV : Hid (rightB (hdOf m t st r mi fs) true = zt) := Lib.hid (by rw [HE1.out]; simp)
              go_wp2
              go_ret
              exact ⟨ret_bool (by rw [HV.out]), HG.out.2⟩
end
end Go.Proofs.YtdlihfbaepjliaaGreatDoor

/-
  The walks of head's own parseVersion, parseRequest and parseResponse.
-/
namespace Go.Proofs.YtdlihfbaepjliaaGreatDoor
open Go.RowKit

theorem parse_one (c : UInt8) : parseN [c] 10 = if digC c = true then ((c.toNat : Int) - 48, 0) else (0, 1) := by
  have h : ∀ n : Fin 256, parseN [UInt8.ofNat n.1] 10 = if digC (UInt8.ofNat n.1) = true then (((UInt8.ofNat n.1).toNat : Int) - 48, 0) else (0, 1) := by decide +kernel
  have := h ⟨c.toNat, c.toNat_lt⟩
  simpa using this
theorem one_l {d : ByteArray} (h : d.size = 1) : dl d = [d[0]'(by omega)] := by
  apply List.ext_getElem?
  intro i
  match i with
  | 0 => rw [dl_at (by omega)]; rfl
  | i + 1 => rw [List.getElem?_eq_none (by rw [dl_len]; omega)]; rfl
/-- what follows the version's letters tells the version -/
theorem vers_d {s d : ByteArray} (hd : dl d = (dl s).drop 5) (hp : Lib.hasPrefix (dl s) (dl httpB) = true) (h3 : d.size = 3) : versL (dl s) = if digC (d[0]'(by omega)) = true ∧ (d[1]'(by omega)).toNat = 46 ∧ digC (d[2]'(by omega)) = true then (if (d[0]'(by omega)).toNat = 49 ∧ (d[2]'(by omega)).toNat ≤ 49 then (((d[2]'(by omega)).toNat : Int) - 48, 0) else (0, 24)) else (0, 20) := by
  have hpre : (dl s).take 5 = [72, 84, 84, 80, 47] := by
    unfold Lib.hasPrefix at hp
    rw [List.isPrefixOf_iff_prefix] at hp
    obtain ⟨t, ht⟩ := hp
    rw [← ht]
    rfl
  have hl : (dl s).length = 8 := by
    have h1 := congrArg List.length hd
    have h2 := congrArg List.length hpre
    rw [dl_len, h3, List.length_drop] at h1
    simp only [List.length_take, List.length_cons, List.length_nil] at h2
    omega
  have h8 : s.size = 8 := by rw [← dl_len]; exact hl
  have at_ : ∀ j (hj : j < 3), d[j]'(by omega) = s[5 + j]'(by omega) := by
    intro j hj
    have e1 := dl_at (s := d) (k := j) (by omega)
    rw [hd, List.getElem?_drop, dl_at (s := s) (k := 5 + j) (by omega)] at e1
    exact (Option.some.inj e1).symm
  have hq : s.extract 0 5 = httpB := dl_inj (by rw [dl_ext, List.drop_zero, hpre])
  rw [vers_eq h8, at_ 0 (by omega), at_ 1 (by omega), at_ 2 (by omega)]
  simp only [hq, true_and]
theorem vers_d_no {s d : ByteArray} (hd : dl d = (dl s).drop 5) (h3 : d.size ≠ 3) : versL (dl s) = (0, 20) := by
  refine vers_no (fun h8 => h3 ?_)
  rw [← dl_len, hd, List.length_drop, dl_len, h8]
theorem vers_p_no {s : ByteArray} (hp : Lib.hasPrefix (dl s) (dl httpB) = false) : versL (dl s) = (0, 20) := by
  unfold versL
  rw [if_neg]
  rintro ⟨_, h, _⟩
  unfold Lib.hasPrefix at hp
  have : (dl httpB).isPrefixOf (dl s) = true := by
    rw [List.isPrefixOf_iff_prefix]
    exact ⟨(dl s).drop 5, by rw [show dl httpB = [72, 84, 84, 80, 47] from rfl, ← h, List.take_append_drop]⟩
  rw [this] at hp
  cases hp

set_option maxRecDepth 100000 in
set_option maxHeartbeats 1500000 in
theorem version_any (s : ByteArray) (hs : s.size ≤ 4096) (w : World) : Calls Tryz.prog 162 #[.string s] w (NumEnds (versL (dl s)) w) := by
  obtain ⟨d, hd⟩ : ∃ d : ByteArray, d = ⟨(Lib.trimPrefix s.data.toList httpB.data.toList).toArray⟩ := ⟨_, rfl⟩
  have HC := Lib.hid (fun W => sh_CutPrefix s httpB W)
  rw [← hd] at HC
  cases hp : Lib.hasPrefix s.data.toList httpB.data.toList with
  | false =>
    rw [hp] at HC
    have HE := Lib.hid (vers_p_no hp)
    clear hp hd
    go_enter Tryz.func162, Tryz.ntmps162
    go_wp2_with fail
    refine (HC.out _).mono ?_
    rintro e w' ⟨rfl, rfl⟩
    go_wp2
    refine bodyPost_ret (v := .tuple #[.int .i64 0, .int .i64 20]) (by simp [results, Tryz.results162, go_sem]) rfl ?_
    exact ⟨by rw [HE.out], rfl⟩
  | true =>
    rw [hp] at HC
    have hdd : dl d = (dl s).drop 5 := by
      rw [hd, dl_mk, Lib.trimPrefix, if_pos hp]
      rfl
    clear hd
    have hds : d.size ≤ 4096 := by rw [← dl_len, hdd, List.length_drop, dl_len]; omega
    by_cases h3 : d.size = 3
    case neg =>
      have HE := Lib.hid (vers_d_no hdd h3)
      have e3 : ((d.size : Int) != 3) = true := bne_iff_ne.2 (by omega)
      clear hp h3 hdd
      go_enter Tryz.func162, Tryz.ntmps162
      go_wp2_with fail
      refine (HC.out _).mono ?_
      rintro e w' ⟨rfl, rfl⟩
      go_wp2
      refine bodyPost_ret (v := .tuple #[.int .i64 0, .int .i64 20]) (by simp [results, Tryz.results162, go_sem]) rfl ?_
      exact ⟨by rw [HE.out], rfl⟩
    have HE := Lib.hid (vers_d hdd hp h3)
    have z0 : (d.extract 0 1).size = 1 := by rw [ByteArray.size_extract]; omega
    have z2 : (d.extract 2 3).size = 1 := by rw [ByteArray.size_extract]; omega
    have e0 : dl (d.extract 0 1) = [d[0]'(by omega)] := by
      rw [one_l z0]
      have := ByteArray.getElem_extract (b := d) (start := 0) (stop := 1) (i := 0) (by omega)
      simpa using this
    have e2 : dl (d.extract 2 3) = [d[2]'(by omega)] := by
      rw [one_l z2]
      have := ByteArray.getElem_extract (b := d) (start := 2) (stop := 3) (i := 0) (by omega)
      simpa using this
    have HP0 := Lib.hid (fun W => Nm.parse_any (d.extract 0 1) 10 W (by unfold maxLen; omega))
    have HP2 := Lib.hid (fun W => Nm.parse_any (d.extract 2 3) 10 W (by unfold maxLen; omega))
    rw [show (d.extract 0 1).data.toList = [d[0]'(by omega)] from e0, parse_one] at HP0
    rw [show (d.extract 2 3).data.toList = [d[2]'(by omega)] from e2, parse_one] at HP2
    clear e0 e2 z0 z2 hp hdd
    have hb0 := (d[0]'(by omega)).toNat_lt
    have hb2 := (d[2]'(by omega)).toNat_lt
    have HD2 := Lib.hid (digC_eq (d[2]'(by omega)))
    generalize hn0 : (d[0]'(by omega)).toNat = n0 at *
    generalize hn1 : (d[1]'(by omega)).toNat = n1 at *
    generalize hn2 : (d[2]'(by omega)).toNat = n2 at *
    generalize digC (d[0]'(by omega)) = d0 at *
    generalize digC (d[2]'(by omega)) = d2 at *
    by_cases h46 : n1 = 46
    case neg =>
      have HV : Hid (versL (dl s) = (0, 20)) := Lib.hid (by rw [HE.out]; simp [h46])
      have e6 : ((n1 : Int) != 46) = true := bne_iff_ne.2 (by omega)
      clear h46
      go_enter Tryz.func162, Tryz.ntmps162
      go_wp2_with fail
      refine (HC.out _).mono ?_
      rintro e w' ⟨rfl, rfl⟩
      go_wp2
      refine bodyPost_ret (v := .tuple #[.int .i64 0, .int .i64 20]) (by simp [results, Tryz.results162, go_sem]) rfl ?_
      exact ⟨by rw [HV.out], rfl⟩
    subst h46
    go_enter Tryz.func162, Tryz.ntmps162
    go_wp2_with fail
    refine (HC.out _).mono ?_
    rintro e w' ⟨rfl, rfl⟩
    go_wp2_with fail
    refine (HP0.out _).mono ?_
    rintro e w' ⟨rfl, rfl⟩
    cases d0 with
    | false =>
      have HV : Hid (versL (dl s) = (0, 20)) := Lib.hid (by rw [HE.out]; simp)
      rw [if_neg (by simp)]
      go_wp2
      refine bodyPost_ret (v := .tuple #[.int .i64 0, .int .i64 20]) (by simp [results, Tryz.results162, go_sem]) rfl ?_
      exact ⟨by rw [HV.out], rfl⟩
    | true =>
      rw [if_pos rfl]
      go_wp2_with fail
      refine (HP2.out _).mono ?_
      rintro e w' ⟨rfl, rfl⟩
      cases d2 with
      | false =>
        have HV : Hid (versL (dl s) = (0, 20)) := Lib.hid (by rw [HE.out]; simp)
        rw [if_neg (by simp)]
        go_wp2
        refine bodyPost_ret (v := .tuple #[.int .i64 0, .int .i64 20]) (by simp [results, Tryz.results162, go_sem]) rfl ?_
        exact ⟨by rw [HV.out], rfl⟩
      | true =>
        rw [if_pos rfl]
        by_cases h49 : n0 = 49
        case neg =>
          have HV : Hid (versL (dl s) = (0, 24)) := Lib.hid (by rw [HE.out]; simp [h49])
          have e5 : ((n0 : Int) - 48 != 1) = true := bne_iff_ne.2 (by omega)
          clear h49
          go_wp2
          refine bodyPost_ret (v := .tuple #[.int .i64 0, .int .i64 24]) (by simp [results, Tryz.results162, go_sem]) rfl ?_
          exact ⟨by rw [HV.out], rfl⟩
        subst h49
        by_cases hle : n2 ≤ 49
        · have HV : Hid (versL (dl s) = ((n2 : Int) - 48, 0)) := Lib.hid (by rw [HE.out]; simp [hle])
          have e7 : ¬ (1 : Int) < (n2 : Int) - 48 := by omega
          go_wp2
          refine bodyPost_ret (v := .tuple #[.int .i64 ((n2 : Int) - 48), .int .i64 0]) (by simp [results, Tryz.results162, go_sem]) rfl ?_
          exact ⟨by rw [HV.out], rfl⟩
        · have HV : Hid (versL (dl s) = (0, 24)) := Lib.hid (by rw [HE.out]; simp [hle])
          have e7 : (1 : Int) < (n2 : Int) - 48 := by omega
          go_wp2
          refine bodyPost_ret (v := .tuple #[.int .i64 0, .int .i64 24]) (by simp [results, Tryz.results162, go_sem]) rfl ?_
          exact ⟨by rw [HV.out], rfl⟩

/-- a first line's parts are handed back -/
def PartsEnds (l : Bs) (w : World) (e : Ending) (w' : World) : Prop :=
  (two l = true ∧ ∃ x y z : ByteArray, e = .returned (.slice (some ⟨w.heap.size, 0, none⟩) 3 3) ∧ w' = w.alloc (.cells #[.string x, .string y, .string z] 9) ∧ dl x = p1 l ∧ dl y = p2 l ∧ dl z = p3 l) ∨
  (two l = false ∧ ∃ n c : Nat, n < 3 ∧ e = .returned (.slice (some ⟨w.heap.size, 0, none⟩) n c) ∧ Below w.heap.size w w')
theorem parts_any (s : ByteArray) (hs : s.size ≤ 4096) (w : World) (hM : Mx w) : Calls Tryz.prog 161 #[.string s, .string ⟨#[32]⟩, .int .i64 3] w (PartsEnds (dl s) w) := by
  refine (sh_SplitN s ⟨#[32]⟩ 3 w hM (by omega) (by decide) (by decide) (by decide)).mono ?_
  rintro e w' ⟨rfl, rfl⟩
  have hd := Lib.splitB_data ⟨#[32]⟩ 0 (min 3 (s.size + 1) - 1) s
  have hsz : s.size = (dl s).length := (dl_len s).symm
  rw [hsz] at hd
  cases ht : two (dl s) with
  | true =>
    have h1 := splitn_yes ht
    rw [show (⟨#[32]⟩ : ByteArray).data.toList = [32] from rfl] at hd
    rw [h1] at hd
    have h3 : 2 ≤ (dl s).length := by
      unfold two at ht
      rw [Bool.and_eq_true] at ht
      have a1 := bef_sum ht.1
      have a2 := bef_sum ht.2
      omega
    rw [hsz]
    revert hd
    generalize Lib.splitB ⟨#[32]⟩ 0 (min 3 ((dl s).length + 1) - 1) s = L
    intro hd
    have hlen : L.length = 3 := by
      have := congrArg List.length hd
      simpa using this
    match L, hlen, hd with
    | [x, y, z], _, hd =>
      simp only [List.map_cons, List.map_nil, List.cons.injEq, and_true] at hd
      rw [show min 3 ((dl s).length + 1) = 3 by omega]
      exact .inl ⟨ht, x, y, z, rfl, rfl, hd.1, hd.2.1, hd.2.2⟩
  | false =>
    have h1 := splitn_no ht
    rw [show (⟨#[32]⟩ : ByteArray).data.toList = [32] from rfl] at hd
    rw [← hd, List.length_map] at h1
    rw [hsz]
    exact .inr ⟨ht, _, _, h1, rfl, ba1 _ _⟩
theorem Box.three9 {w : World} {g : Nat} {ty : TypeId} {a b c : Value} (h : Box w g ty #[a, b, c]) : w.cell? ⟨g, 0, none⟩ = some a ∧ w.cell? ⟨g, 1, none⟩ = some b ∧ w.cell? ⟨g, 2, none⟩ = some c := ⟨h.c 0 rfl, h.c 1 rfl, h.c 2 rfl⟩
theorem p_sz {l : Bs} (hl : l.length ≤ 4096) {x y z : ByteArray} (hx : dl x = p1 l) (hy : dl y = p2 l) (hz : dl z = p3 l) : x.size ≤ 4096 ∧ y.size ≤ 4096 ∧ z.size ≤ 4096 := by
  have a1 := cut_len 32 l
  have a2 := cut_len 32 (aftL 32 l)
  unfold p1 p2 p3 at *
  rw [← hx, dl_len] at a1
  rw [← hy, ← hz, dl_len, dl_len] at a2
  omega

set_option maxRecDepth 100000 in
set_option maxHeartbeats 1500000 in
theorem request_any (s : ByteArray) (hs : s.size ≤ 4096) (w : World) (hM : Mx w) : Calls Tryz.prog 141 #[.string s] w (FirstEnds (reqL (dl s)) w) := by
  go_enter Tryz.func141, Tryz.ntmps141
  go_wp2_with fail
  have hg0 := Box.new w 29 #[.string ⟨#[]⟩, .string ⟨#[]⟩, .int .i64 0, .string ⟨#[]⟩, .int .i64 0, .slice none 0 0]
  have hb0 := ba1 w (.cells #[.string ⟨#[]⟩, .string ⟨#[]⟩, .int .i64 0, .string ⟨#[]⟩, .int .i64 0, .slice none 0 0] 29)
  obtain ⟨g, hg⟩ : ∃ g, w.heap.size = g := ⟨_, rfl⟩
  rw [hg] at hg0 ⊢
  have HG := Lib.hid hg
  clear hg
  generalize w.alloc (.cells #[.string ⟨#[]⟩, .string ⟨#[]⟩, .int .i64 0, .string ⟨#[]⟩, .int .i64 0, .slice none 0 0] 29) = W0 at *
  refine (parts_any s hs _ (hM.up hb0)).mono ?_
  rintro e w1 hp
  rcases hp with ⟨ht, x, y, z, rfl, rfl, hx, hy, hz⟩ | ⟨ht, n, c, hn, rfl, hb1⟩
  case inr =>
    have HE : Hid (reqL (dl s) = (Hd.zero, 20)) := Lib.hid (req_bad (fun h => by rw [ht] at h; cases h.1))
    have bg := hg0.up hb1
    have hbw := bon hb0 hb1
    have hni : (n : Int) < 3 := by omega
    clear ht hg0 hb0 hb1
    have HQ := Lib.hid (bg.set6 (.string ⟨#[]⟩) (.string ⟨#[]⟩) (.int .i64 0) (.string ⟨#[]⟩) (.int .i64 0) (.slice none 0 0)).six
    have HW := Lib.hid (below_set6 hbw (g := g) (by rw [HG.out]; exact Nat.le_refl _) (.string ⟨#[]⟩) (.string ⟨#[]⟩) (.int .i64 0) (.string ⟨#[]⟩) (.int .i64 0) (.slice none 0 0))
    obtain ⟨k0, k1, k2, k3, k4, k5⟩ := bg.six
    obtain ⟨f0, f1, f2, f3, f4, f5⟩ := bg.sixf
    go_wp2
    obtain ⟨q0, q1, q2, q3, q4, q5⟩ := HQ.out
    refine bodyPost_ret (v := .tuple #[.agg #[.string ⟨#[]⟩, .string ⟨#[]⟩, .int .i64 0, .string ⟨#[]⟩, .int .i64 0, .slice none 0 0], .int .i64 20]) (by simp [results, Tryz.results141, go_sem, q0, q1, q2, q3, q4, q5]) rfl ?_
    exact ⟨_, _, _, _, _, by rw [HE.out], (fun h => by rw [HE.out] at h; cases h), HW.out⟩
  obtain ⟨hxs, hys, hzs⟩ := p_sz (by rw [dl_len]; exact hs) hx hy hz
  have HX : Hid (dl x = p1 (dl s) ∧ dl y = p2 (dl s) ∧ dl z = p3 (dl s)) := Lib.hid ⟨hx, hy, hz⟩
  have HT := Lib.hid ht
  have bg := hg0.up (ba1 W0 (.cells #[.string x, .string y, .string z] 9))
  have hbw := bon hb0 (ba1 W0 (.cells #[.string x, .string y, .string z] 9))
  have bp := Box.new W0 9 #[.string x, .string y, .string z]
  clear hx hy hz ht hg0 hb0
  generalize W0.heap.size = gp at *
  generalize W0.alloc (.cells #[.string x, .string y, .string z] 9) = W at *
  obtain ⟨s0, s1, s2⟩ := bp.three9
  have HN := Lib.hid (fun W => name_any x hxs W)
  have HG2 := Lib.hid (fun W => target_any y hys W)
  have HV := Lib.hid (fun W => version_any z hzs W)
  rw [HX.out.1] at HN
  rw [HX.out.2.1] at HG2
  rw [HX.out.2.2] at HV
  obtain ⟨b1, hb⟩ : ∃ b, nameB (p1 (dl s)) = b := ⟨_, rfl⟩
  rw [hb] at HN
  have HB1 := Lib.hid hb
  clear hb
  obtain ⟨b2, hb⟩ : ∃ b, targetB (p2 (dl s)) = b := ⟨_, rfl⟩
  rw [hb] at HG2
  have HB2 := Lib.hid hb
  clear hb
  go_wp2_with fail
  refine (HN.out _).mono ?_
  rintro e w3 ⟨rfl, rfl⟩
  cases b1 with
  | false =>
    have HE : Hid (reqL (dl s) = (Hd.zero, 20)) := Lib.hid (req_bad (fun h => by rw [HB1.out] at h; cases h.2.1))
    have HQ := Lib.hid (bg.set6 (.string ⟨#[]⟩) (.string ⟨#[]⟩) (.int .i64 0) (.string ⟨#[]⟩) (.int .i64 0) (.slice none 0 0)).six
    have HW := Lib.hid (below_set6 hbw (g := g) (by rw [HG.out]; exact Nat.le_refl _) (.string ⟨#[]⟩) (.string ⟨#[]⟩) (.int .i64 0) (.string ⟨#[]⟩) (.int .i64 0) (.slice none 0 0))
    obtain ⟨k0, k1, k2, k3, k4, k5⟩ := bg.six
    obtain ⟨f0, f1, f2, f3, f4, f5⟩ := bg.sixf
    go_wp2
    obtain ⟨q0, q1, q2, q3, q4, q5⟩ := HQ.out
    refine bodyPost_ret (v := .tuple #[.agg #[.string ⟨#[]⟩, .string ⟨#[]⟩, .int .i64 0, .string ⟨#[]⟩, .int .i64 0, .slice none 0 0], .int .i64 20]) (by simp [results, Tryz.results141, go_sem, q0, q1, q2, q3, q4, q5]) rfl ?_
    exact ⟨_, _, _, _, _, by rw [HE.out], (fun h => by rw [HE.out] at h; cases h), HW.out⟩
  | true =>
    go_wp2_with fail
    refine (HG2.out _).mono ?_
    rintro e w3 ⟨rfl, rfl⟩
    cases b2 with
    | false =>
      have HE : Hid (reqL (dl s) = (Hd.zero, 20)) := Lib.hid (req_bad (fun h => by rw [HB2.out] at h; cases h.2.2))
      have HQ := Lib.hid (bg.set6 (.string ⟨#[]⟩) (.string ⟨#[]⟩) (.int .i64 0) (.string ⟨#[]⟩) (.int .i64 0) (.slice none 0 0)).six
      have HW := Lib.hid (below_set6 hbw (g := g) (by rw [HG.out]; exact Nat.le_refl _) (.string ⟨#[]⟩) (.string ⟨#[]⟩) (.int .i64 0) (.string ⟨#[]⟩) (.int .i64 0) (.slice none 0 0))
      obtain ⟨k0, k1, k2, k3, k4, k5⟩ := bg.six
      obtain ⟨f0, f1, f2, f3, f4, f5⟩ := bg.sixf
      go_wp2
      obtain ⟨q0, q1, q2, q3, q4, q5⟩ := HQ.out
      refine bodyPost_ret (v := .tuple #[.agg #[.string ⟨#[]⟩, .string ⟨#[]⟩, .int .i64 0, .string ⟨#[]⟩, .int .i64 0, .slice none 0 0], .int .i64 20]) (by simp [results, Tryz.results141, go_sem, q0, q1, q2, q3, q4, q5]) rfl ?_
      exact ⟨_, _, _, _, _, by rw [HE.out], (fun h => by rw [HE.out] at h; cases h), HW.out⟩
    | true =>
      have HE : Hid (reqL (dl s) = (⟨p1 (dl s), p2 (dl s), 0, [], (versL (p3 (dl s))).1, []⟩, (versL (p3 (dl s))).2)) := Lib.hid (if_pos ⟨HT.out, HB1.out, HB2.out⟩)
      obtain ⟨q, hq⟩ : ∃ q, versL (p3 (dl s)) = q := ⟨_, rfl⟩
      rw [hq] at HE HV
      clear hq
      obtain ⟨vm, ve⟩ := q
      go_wp2_with fail
      refine (HV.out _).mono ?_
      rintro e w3 ⟨rfl, rfl⟩
      by_cases hv0 : ve = 0
      case neg =>
        have HNZ := Lib.hid hv0
        have e4 : (ve != 0) = true := bne_iff_ne.2 hv0
        clear hv0
        have HQ := Lib.hid (bg.set6 (.string ⟨#[]⟩) (.string ⟨#[]⟩) (.int .i64 0) (.string ⟨#[]⟩) (.int .i64 0) (.slice none 0 0)).six
        have HW := Lib.hid (below_set6 hbw (g := g) (by rw [HG.out]; exact Nat.le_refl _) (.string ⟨#[]⟩) (.string ⟨#[]⟩) (.int .i64 0) (.string ⟨#[]⟩) (.int .i64 0) (.slice none 0 0))
        obtain ⟨k0, k1, k2, k3, k4, k5⟩ := bg.six
        obtain ⟨f0, f1, f2, f3, f4, f5⟩ := bg.sixf
        go_wp2
        obtain ⟨q0, q1, q2, q3, q4, q5⟩ := HQ.out
        refine bodyPost_ret (v := .tuple #[.agg #[.string ⟨#[]⟩, .string ⟨#[]⟩, .int .i64 0, .string ⟨#[]⟩, .int .i64 0, .slice none 0 0], .int .i64 ve]) (by simp [results, Tryz.results141, go_sem, q0, q1, q2, q3, q4, q5]) rfl ?_
        exact ⟨_, _, _, _, _, by rw [HE.out], (fun h => absurd (by rw [HE.out] at h; exact h) HNZ.out), HW.out⟩
      subst hv0
      have HQ := Lib.hid (bg.set6 (.string x) (.string y) (.int .i64 0) (.string ⟨#[]⟩) (.int .i64 vm) (.slice none 0 0)).six
      have HW := Lib.hid (below_set6 hbw (g := g) (by rw [HG.out]; exact Nat.le_refl _) (.string x) (.string y) (.int .i64 0) (.string ⟨#[]⟩) (.int .i64 vm) (.slice none 0 0))
      obtain ⟨k0, k1, k2, k3, k4, k5⟩ := bg.six
      obtain ⟨f0, f1, f2, f3, f4, f5⟩ := bg.sixf
      go_wp2_with fail
      go_region
      go_wp2
      obtain ⟨q0, q1, q2, q3, q4, q5⟩ := HQ.out
      refine bodyPost_ret (v := .tuple #[.agg #[.string x, .string y, .int .i64 0, .string ⟨#[]⟩, .int .i64 vm, .slice none 0 0], .int .i64 0]) (by simp [results, Tryz.results141, go_sem, q0, q1, q2, q3, q4, q5]) rfl ?_
      exact ⟨_, _, _, _, _, by rw [HE.out], (fun _ => by rw [HE.out, ← HX.out.1, ← HX.out.2.1]; rfl), HW.out.drew⟩

theorem val10 (c : UInt8) : (0 ≤ valN c.toNat 10) = (digC c = true) ∧ valN c.toNat 10 ≤ 9 := by
  have h : ∀ n : Fin 256, (decide (0 ≤ valN (UInt8.ofNat n.1).toNat 10) = digC (UInt8.ofNat n.1)) ∧ valN (UInt8.ofNat n.1).toNat 10 ≤ 9 := by decide +kernel
  have := h ⟨c.toNat, c.toNat_lt⟩
  simp only [UInt8.ofNat_toNat] at this
  refine ⟨?_, this.2⟩
  rw [← this.1, decide_eq_true_eq]
/-- three bytes are a number if they are digits -/
theorem parse_digs {l : Bs} (h : l.length = 3) : (parseN l 10).2 = if l.all digC = true then 0 else 1 := by
  have hd : digsN 10 l = l.all digC := by
    unfold digsN
    congr 1
    funext c
    rw [Bool.eq_iff_iff, decide_eq_true_eq, (val10 c).1]
  have hne : l ≠ [] := by intro e; rw [e] at h; cases h
  unfold parseN
  rw [hd]
  by_cases ha : l.all digC = true
  · rw [if_pos ⟨.inl rfl, hne, ha⟩, if_pos ha]
    match l, h with
    | [a, b, c], _ =>
      have h1 := (val10 a).2
      have h2 := (val10 b).2
      have h3 := (val10 c).2
      have e : numN 10 0 [a, b, c] = ((0 * 10 + valN a.toNat 10) * 10 + valN b.toNat 10) * 10 + valN c.toNat 10 := rfl
      rw [if_pos (by rw [e]; omega)]
  · rw [if_neg (fun hh => ha hh.2.2), if_neg ha]

set_option maxRecDepth 100000 in
set_option maxHeartbeats 1500000 in
theorem response_any (s : ByteArray) (hs : s.size ≤ 4096) (w : World) (hM : Mx w) : Calls Tryz.prog 142 #[.string s] w (FirstEnds (ansL (dl s)) w) := by
  go_enter Tryz.func142, Tryz.ntmps142
  go_wp2_with fail
  have hg0 := Box.new w 29 #[.string ⟨#[]⟩, .string ⟨#[]⟩, .int .i64 0, .string ⟨#[]⟩, .int .i64 0, .slice none 0 0]
  have hb0 := ba1 w (.cells #[.string ⟨#[]⟩, .string ⟨#[]⟩, .int .i64 0, .string ⟨#[]⟩, .int .i64 0, .slice none 0 0] 29)
  obtain ⟨g, hg⟩ : ∃ g, w.heap.size = g := ⟨_, rfl⟩
  rw [hg] at hg0 ⊢
  have HG := Lib.hid hg
  clear hg
  generalize w.alloc (.cells #[.string ⟨#[]⟩, .string ⟨#[]⟩, .int .i64 0, .string ⟨#[]⟩, .int .i64 0, .slice none 0 0] 29) = W0 at *
  refine (parts_any s hs _ (hM.up hb0)).mono ?_
  rintro e w1 hp
  rcases hp with ⟨ht, x, y, z, rfl, rfl, hx, hy, hz⟩ | ⟨ht, n, c, hn, rfl, hb1⟩
  case inr =>
    have HE : Hid (ansL (dl s) = (Hd.zero, 20)) := Lib.hid (ans_bad (fun h => by rw [ht] at h; cases h.1))
    have bg := hg0.up hb1
    have hbw := bon hb0 hb1
    have hni : (n : Int) < 3 := by omega
    clear ht hg0 hb0 hb1
    have HQ := Lib.hid (bg.set6 (.string ⟨#[]⟩) (.string ⟨#[]⟩) (.int .i64 0) (.string ⟨#[]⟩) (.int .i64 0) (.slice none 0 0)).six
    have HW := Lib.hid (below_set6 hbw (g := g) (by rw [HG.out]; exact Nat.le_refl _) (.string ⟨#[]⟩) (.string ⟨#[]⟩) (.int .i64 0) (.string ⟨#[]⟩) (.int .i64 0) (.slice none 0 0))
    obtain ⟨k0, k1, k2, k3, k4, k5⟩ := bg.six
    obtain ⟨f0, f1, f2, f3, f4, f5⟩ := bg.sixf
    go_wp2
    obtain ⟨q0, q1, q2, q3, q4, q5⟩ := HQ.out
    refine bodyPost_ret (v := .tuple #[.agg #[.string ⟨#[]⟩, .string ⟨#[]⟩, .int .i64 0, .string ⟨#[]⟩, .int .i64 0, .slice none 0 0], .int .i64 20]) (by simp [results, Tryz.results142, go_sem, q0, q1, q2, q3, q4, q5]) rfl ?_
    exact ⟨_, _, _, _, _, by rw [HE.out], (fun h => by rw [HE.out] at h; cases h), HW.out⟩
  obtain ⟨hxs, hys, hzs⟩ := p_sz (by rw [dl_len]; exact hs) hx hy hz
  have HX : Hid (dl x = p1 (dl s) ∧ dl y = p2 (dl s) ∧ dl z = p3 (dl s)) := Lib.hid ⟨hx, hy, hz⟩
  have HT := Lib.hid ht
  have bg := hg0.up (ba1 W0 (.cells #[.string x, .string y, .string z] 9))
  have hbw := bon hb0 (ba1 W0 (.cells #[.string x, .string y, .string z] 9))
  have bp := Box.new W0 9 #[.string x, .string y, .string z]
  clear hx hy hz ht hg0 hb0
  generalize W0.heap.size = gp at *
  generalize W0.alloc (.cells #[.string x, .string y, .string z] 9) = W at *
  obtain ⟨s0, s1, s2⟩ := bp.three9
  have HR := Lib.hid (fun W => reason_any z hzs W)
  have HV := Lib.hid (fun W => version_any x hxs W)
  have HP := Lib.hid (fun W => Nm.parse_any y 10 W (by unfold maxLen; omega))
  rw [HX.out.2.2] at HR
  rw [HX.out.1] at HV
  rw [show y.data.toList = p2 (dl s) from HX.out.2.1] at HP
  obtain ⟨b1, hb⟩ : ∃ b, reasonB (p3 (dl s)) = b := ⟨_, rfl⟩
  rw [hb] at HR
  have HB1 := Lib.hid hb
  clear hb hxs hzs
  by_cases h3 : y.size = 3
  case neg =>
    have HE : Hid (ansL (dl s) = (Hd.zero, 20)) := Lib.hid (ans_bad (fun h => h3 (by rw [← dl_len, HX.out.2.1]; exact h.2.1)))
    have e3 : ((y.size : Int) != 3) = true := bne_iff_ne.2 (by omega)
    clear h3
    have HQ := Lib.hid (bg.set6 (.string ⟨#[]⟩) (.string ⟨#[]⟩) (.int .i64 0) (.string ⟨#[]⟩) (.int .i64 0) (.slice none 0 0)).six
    have HW := Lib.hid (below_set6 hbw (g := g) (by rw [HG.out]; exact Nat.le_refl _) (.string ⟨#[]⟩) (.string ⟨#[]⟩) (.int .i64 0) (.string ⟨#[]⟩) (.int .i64 0) (.slice none 0 0))
    obtain ⟨k0, k1, k2, k3, k4, k5⟩ := bg.six
    obtain ⟨f0, f1, f2, f3, f4, f5⟩ := bg.sixf
    go_wp2
    obtain ⟨q0, q1, q2, q3, q4, q5⟩ := HQ.out
    refine bodyPost_ret (v := .tuple #[.agg #[.string ⟨#[]⟩, .string ⟨#[]⟩, .int .i64 0, .string ⟨#[]⟩, .int .i64 0, .slice none 0 0], .int .i64 20]) (by simp [results, Tryz.results142, go_sem, q0, q1, q2, q3, q4, q5]) rfl ?_
    exact ⟨_, _, _, _, _, by rw [HE.out], (fun h => by rw [HE.out] at h; cases h), HW.out⟩
  have HL : Hid ((p2 (dl s)).length = 3) := Lib.hid (by rw [← HX.out.2.1, dl_len]; exact h3)
  have HPN := Lib.hid (parse_digs (l := p2 (dl s)) HL.out)
  go_wp2_with fail
  refine (HR.out _).mono ?_
  rintro e w3 ⟨rfl, rfl⟩
  cases b1 with
  | false =>
    have HE : Hid (ansL (dl s) = (Hd.zero, 20)) := Lib.hid (ans_bad (fun h => by rw [HB1.out] at h; cases h.2.2.2))
    have HQ := Lib.hid (bg.set6 (.string ⟨#[]⟩) (.string ⟨#[]⟩) (.int .i64 0) (.string ⟨#[]⟩) (.int .i64 0) (.slice none 0 0)).six
    have HW := Lib.hid (below_set6 hbw (g := g) (by rw [HG.out]; exact Nat.le_refl _) (.string ⟨#[]⟩) (.string ⟨#[]⟩) (.int .i64 0) (.string ⟨#[]⟩) (.int .i64 0) (.slice none 0 0))
    obtain ⟨k0, k1, k2, k3, k4, k5⟩ := bg.six
    obtain ⟨f0, f1, f2, f3, f4, f5⟩ := bg.sixf
    go_wp2
    obtain ⟨q0, q1, q2, q3, q4, q5⟩ := HQ.out
    refine bodyPost_ret (v := .tuple #[.agg #[.string ⟨#[]⟩, .string ⟨#[]⟩, .int .i64 0, .string ⟨#[]⟩, .int .i64 0, .slice none 0 0], .int .i64 20]) (by simp [results, Tryz.results142, go_sem, q0, q1, q2, q3, q4, q5]) rfl ?_
    exact ⟨_, _, _, _, _, by rw [HE.out], (fun h => by rw [HE.out] at h; cases h), HW.out⟩
  | true =>
    obtain ⟨bd, hbd⟩ : ∃ b, (p2 (dl s)).all digC = b := ⟨_, rfl⟩
    have HBD := Lib.hid hbd
    rw [hbd] at HPN
    clear hbd
    have HS := Lib.hid (fun W => status_any (parseN (p2 (dl s)) 10).1 W)
    have HE0 : Hid (bd = true → ansL (dl s) = if (versL (p1 (dl s))).2 = 0 then (if statB (parseN (p2 (dl s)) 10).1 = true then (⟨[], [], (parseN (p2 (dl s)) 10).1, p3 (dl s), (versL (p1 (dl s))).1, []⟩, 0) else (Hd.zero, 20)) else (Hd.zero, (versL (p1 (dl s))).2)) := Lib.hid (fun hb => if_pos ⟨HT.out, HL.out, HBD.out.trans hb, HB1.out⟩)
    obtain ⟨q, hq⟩ : ∃ q, versL (p1 (dl s)) = q := ⟨_, rfl⟩
    rw [hq] at HE0 HV
    clear hq
    obtain ⟨vm, ve⟩ := q
    obtain ⟨q, hq⟩ : ∃ q, parseN (p2 (dl s)) 10 = q := ⟨_, rfl⟩
    rw [hq] at HE0 HP HPN HS
    clear hq
    obtain ⟨k, ke⟩ := q
    simp only at HE0 HP HPN HS
    go_wp2_with fail
    refine (HP.out _).mono ?_
    rintro e w3 ⟨rfl, rfl⟩
    cases bd with
    | false =>
      have HE : Hid (ansL (dl s) = (Hd.zero, 20)) := Lib.hid (ans_bad (fun h => by rw [HBD.out] at h; cases h.2.2.1))
      have hke := HPN.out
      simp only [Bool.false_eq_true, if_false] at hke
      have e4 : (ke != 0) = true := bne_iff_ne.2 (by omega)
      clear hke
      have HQ := Lib.hid (bg.set6 (.string ⟨#[]⟩) (.string ⟨#[]⟩) (.int .i64 0) (.string ⟨#[]⟩) (.int .i64 0) (.slice none 0 0)).six
      have HW := Lib.hid (below_set6 hbw (g := g) (by rw [HG.out]; exact Nat.le_refl _) (.string ⟨#[]⟩) (.string ⟨#[]⟩) (.int .i64 0) (.string ⟨#[]⟩) (.int .i64 0) (.slice none 0 0))
      obtain ⟨k0, k1, k2, k3, k4, k5⟩ := bg.six
      obtain ⟨f0, f1, f2, f3, f4, f5⟩ := bg.sixf
      go_wp2
      obtain ⟨q0, q1, q2, q3, q4, q5⟩ := HQ.out
      refine bodyPost_ret (v := .tuple #[.agg #[.string ⟨#[]⟩, .string ⟨#[]⟩, .int .i64 0, .string ⟨#[]⟩, .int .i64 0, .slice none 0 0], .int .i64 20]) (by simp [results, Tryz.results142, go_sem, q0, q1, q2, q3, q4, q5]) rfl ?_
      exact ⟨_, _, _, _, _, by rw [HE.out], (fun h => by rw [HE.out] at h; cases h), HW.out⟩
    | true =>
      have hke := HPN.out
      simp only [if_true] at hke
      subst hke
      have HE1 := Lib.hid (HE0.out rfl)
      go_wp2_with fail
      refine (HV.out _).mono ?_
      rintro e w3 ⟨rfl, rfl⟩
      by_cases hv0 : ve = 0
      case neg =>
        have HE : Hid (ansL (dl s) = (Hd.zero, ve)) := Lib.hid (by rw [HE1.out, if_neg hv0])
        have HNZ := Lib.hid hv0
        have e4 : (ve != 0) = true := bne_iff_ne.2 hv0
        clear hv0
        have HQ := Lib.hid (bg.set6 (.string ⟨#[]⟩) (.string ⟨#[]⟩) (.int .i64 0) (.string ⟨#[]⟩) (.int .i64 0) (.slice none 0 0)).six
        have HW := Lib.hid (below_set6 hbw (g := g) (by rw [HG.out]; exact Nat.le_refl _) (.string ⟨#[]⟩) (.string ⟨#[]⟩) (.int .i64 0) (.string ⟨#[]⟩) (.int .i64 0) (.slice none 0 0))
        obtain ⟨k0, k1, k2, k3, k4, k5⟩ := bg.six
        obtain ⟨f0, f1, f2, f3, f4, f5⟩ := bg.sixf
        go_wp2
        obtain ⟨q0, q1, q2, q3, q4, q5⟩ := HQ.out
        refine bodyPost_ret (v := .tuple #[.agg #[.string ⟨#[]⟩, .string ⟨#[]⟩, .int .i64 0, .string ⟨#[]⟩, .int .i64 0, .slice none 0 0], .int .i64 ve]) (by simp [results, Tryz.results142, go_sem, q0, q1, q2, q3, q4, q5]) rfl ?_
        exact ⟨_, _, _, _, _, by rw [HE.out], (fun h => absurd (by rw [HE.out] at h; exact h) HNZ.out), HW.out⟩
      subst hv0
      rw [if_pos rfl] at HE1
      obtain ⟨bs, hbs⟩ : ∃ b, statB k = b := ⟨_, rfl⟩
      rw [hbs] at HS HE1
      clear hbs
      go_wp2_with fail
      refine (HS.out _).mono ?_
      rintro e w3 ⟨rfl, rfl⟩
      cases bs with
      | false =>
        have HE : Hid (ansL (dl s) = (Hd.zero, 20)) := Lib.hid (by rw [HE1.out, if_neg (by simp)])
        have HQ := Lib.hid (bg.set6 (.string ⟨#[]⟩) (.string ⟨#[]⟩) (.int .i64 0) (.string ⟨#[]⟩) (.int .i64 0) (.slice none 0 0)).six
        have HW := Lib.hid (below_set6 hbw (g := g) (by rw [HG.out]; exact Nat.le_refl _) (.string ⟨#[]⟩) (.string ⟨#[]⟩) (.int .i64 0) (.string ⟨#[]⟩) (.int .i64 0) (.slice none 0 0))
        obtain ⟨k0, k1, k2, k3, k4, k5⟩ := bg.six
        obtain ⟨f0, f1, f2, f3, f4, f5⟩ := bg.sixf
        go_wp2
        obtain ⟨q0, q1, q2, q3, q4, q5⟩ := HQ.out
        refine bodyPost_ret (v := .tuple #[.agg #[.string ⟨#[]⟩, .string ⟨#[]⟩, .int .i64 0, .string ⟨#[]⟩, .int .i64 0, .slice none 0 0], .int .i64 20]) (by simp [results, Tryz.results142, go_sem, q0, q1, q2, q3, q4, q5]) rfl ?_
        exact ⟨_, _, _, _, _, by rw [HE.out], (fun h => by rw [HE.out] at h; cases h), HW.out⟩
      | true =>
        have HE : Hid (ansL (dl s) = (⟨[], [], k, p3 (dl s), vm, []⟩, 0)) := Lib.hid (by rw [HE1.out, if_pos rfl])
        have HQ := Lib.hid (bg.set6 (.string ⟨#[]⟩) (.string ⟨#[]⟩) (.int .i64 k) (.string z) (.int .i64 vm) (.slice none 0 0)).six
        have HW := Lib.hid (below_set6 hbw (g := g) (by rw [HG.out]; exact Nat.le_refl _) (.string ⟨#[]⟩) (.string ⟨#[]⟩) (.int .i64 k) (.string z) (.int .i64 vm) (.slice none 0 0))
        obtain ⟨k0, k1, k2, k3, k4, k5⟩ := bg.six
        obtain ⟨f0, f1, f2, f3, f4, f5⟩ := bg.sixf
        go_wp2
        obtain ⟨q0, q1, q2, q3, q4, q5⟩ := HQ.out
        refine bodyPost_ret (v := .tuple #[.agg #[.string ⟨#[]⟩, .string ⟨#[]⟩, .int .i64 k, .string z, .int .i64 vm, .slice none 0 0], .int .i64 0]) (by simp [results, Tryz.results142, go_sem, q0, q1, q2, q3, q4, q5]) rfl ?_
        exact ⟨_, _, _, _, _, by rw [HE.out], (fun _ => by rw [HE.out, ← HX.out.2.2]; rfl), HW.out⟩

end Go.Proofs.YtdlihfbaepjliaaGreatDoor
