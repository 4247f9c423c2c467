/-
  The walks of head's own rightTarget, rightReason, rightFields, rightStatus and Right.
-/
import Derived.Test.YtginijeajenghaaDoorHdB
namespace Go.Proofs.YtginijeajenghaaDoor
open Go.RowKit

set_option maxRecDepth 100000 in
set_option maxHeartbeats 2000000 in
theorem target_any (s : ByteArray) (hs : s.size ≤ 4096) (w : World) : Calls Tryd.prog 36 #[.string s] w (fun e w' => e = .returned (.bool (targetB (dl s))) ∧ w' = w) := by
  have hcase : s.size < 1 ∨ (1 ≤ s.size ∧ 200 < s.size) ∨ (1 ≤ s.size ∧ s.size ≤ 200) := by omega
  rcases hcase with h | ⟨h, h'⟩ | ⟨h1, h2⟩
  · have HE : Hid (targetB (dl s) = false) := Lib.hid (by rw [targetB, dl_len, decide_eq_false (by omega)]; rfl)
    go_enter Tryd.func36, Tryd.ntmps36
    go_wp2
    go_ret
    exact ⟨ret_bool HE.out.symm, rfl⟩
  · have HE : Hid (targetB (dl s) = false) := Lib.hid (by rw [targetB, dl_len, decide_eq_false (p := s.size ≤ 200) (by omega), Bool.and_false]; rfl)
    go_enter Tryd.func36, Tryd.ntmps36
    go_wp2
    go_ret
    exact ⟨ret_bool HE.out.symm, rfl⟩
  go_enter Tryd.func36, Tryd.ntmps36
  go_wp2_with fail
  go_loopw [14] (fun i wr => ∃ k : Nat, k ≤ s.size ∧ i = .int .i64 (k : Int) ∧ Hid (∀ j, j < k → (dl s)[j]?.all tgtC = true) ∧ w = wr) (fun i _ => s.size - (intOf i).toNat)
  case atStart => exact ⟨0, Nat.zero_le _, rfl, Lib.hid (fun j hj => absurd hj (by omega)), rfl⟩
  case round =>
    obtain ⟨k, hk, rfl, HK, rfl⟩ := hrel
    by_cases hlt : k < s.size
    · have HA : Hid ((dl s)[k]?.all tgtC = tgtC s[k]) := Lib.hid (by rw [dl_at hlt]; rfl)
      have HV := Lib.hid (tgtC_eq s[k])
      have hc := (s[k]).toNat_lt
      obtain ⟨n, hn⟩ : ∃ n, (s[k]).toNat = n := ⟨_, rfl⟩
      rw [hn] at hc HV
      by_cases hg : 32 < n ∧ n ≤ 126
      · have HY : Hid ((dl s)[k]?.all tgtC = true) := Lib.hid (by rw [HA.out, HV.out]; simp; omega)
        have HR : Hid (∀ j, j < k + 1 → (dl s)[j]?.all tgtC = true) := Lib.hid (fun j hj => by
          by_cases hjk : j < k
          · exact HK.out j hjk
          · obtain rfl : j = k := by omega
            exact HY.out)
        clear HA HV HK
        obtain ⟨h1, h2⟩ := hg
        go_wp2
        go_roundw
        case rel => exact ⟨k + 1, by omega, by go_num, HR, trivial⟩
        case measure => simp [intOf]; omega
      · have HE : Hid (targetB (dl s) = false) := Lib.hid (by rw [targetB, all_noP (f := tgtC) (k := k) (by rw [HA.out, HV.out]; simp; omega), Bool.and_false])
        have hcase : n ≤ 32 ∨ (32 < n ∧ 126 < n) := by omega
        clear hg
        rcases hcase with h1 | ⟨h1, h2⟩
        all_goals
          go_wp2
          go_ret
          exact ⟨ret_bool HE.out.symm, rfl⟩
    · obtain rfl : k = s.size := by omega
      have HE : Hid (targetB (dl s) = true) := Lib.hid (by rw [targetB, all_yes HK.out, dl_len, decide_eq_true h1, decide_eq_true h2]; rfl)
      clear HK
      go_wp2
      go_ret
      exact ⟨ret_bool HE.out.symm, rfl⟩

set_option maxRecDepth 100000 in
set_option maxHeartbeats 2000000 in
theorem reason_any (s : ByteArray) (hs : s.size ≤ 4096) (w : World) : Calls Tryd.prog 34 #[.string s] w (fun e w' => e = .returned (.bool (reasonB (dl s))) ∧ w' = w) := by
  by_cases h2 : s.size ≤ 200
  case neg =>
    have HE : Hid (reasonB (dl s) = false) := Lib.hid (by rw [reasonB, dl_len, decide_eq_false h2]; rfl)
    go_enter Tryd.func34, Tryd.ntmps34
    go_wp2
    go_ret
    exact ⟨ret_bool HE.out.symm, rfl⟩
  go_enter Tryd.func34, Tryd.ntmps34
  go_wp2_with fail
  go_loopw [9] (fun i wr => ∃ k : Nat, k ≤ s.size ∧ i = .int .i64 (k : Int) ∧ Hid (∀ j, j < k → (dl s)[j]?.all valC = true) ∧ w = wr) (fun i _ => s.size - (intOf i).toNat)
  case atStart => exact ⟨0, Nat.zero_le _, rfl, Lib.hid (fun j hj => absurd hj (by omega)), rfl⟩
  case round =>
    obtain ⟨k, hk, rfl, HK, rfl⟩ := hrel
    by_cases hlt : k < s.size
    · have HA : Hid ((dl s)[k]?.all valC = valC s[k]) := Lib.hid (by rw [dl_at hlt]; rfl)
      have HV := Lib.hid (valC_eq s[k])
      have hc := (s[k]).toNat_lt
      obtain ⟨n, hn⟩ : ∃ n, (s[k]).toNat = n := ⟨_, rfl⟩
      rw [hn] at hc HV
      by_cases hg : n = 9 ∨ (32 ≤ n ∧ n ≤ 126)
      · have HY : Hid ((dl s)[k]?.all valC = true) := Lib.hid (by rw [HA.out, HV.out]; simp; omega)
        have HR : Hid (∀ j, j < k + 1 → (dl s)[j]?.all valC = true) := Lib.hid (fun j hj => by
          by_cases hjk : j < k
          · exact HK.out j hjk
          · obtain rfl : j = k := by omega
            exact HY.out)
        clear HA HV HK
        rcases hg with rfl | ⟨h1, h2⟩
        · go_wp2
          go_roundw
          case rel => exact ⟨k + 1, by omega, by go_num, HR, trivial⟩
          case measure => simp [intOf]; omega
        · have e1 : ((n : Int) != 9) = true := bne_iff_ne.2 (by omega)
          go_wp2
          go_roundw
          case rel => exact ⟨k + 1, by omega, by go_num, HR, trivial⟩
          case measure => simp [intOf]; omega
      · have HE : Hid (reasonB (dl s) = false) := Lib.hid (by rw [reasonB, all_noP (f := valC) (k := k) (by rw [HA.out, HV.out]; simp; omega), Bool.and_false])
        have e1 : ((n : Int) != 9) = true := bne_iff_ne.2 (by omega)
        have hcase : n < 32 ∨ (32 ≤ n ∧ 126 < n) := by omega
        clear hg
        rcases hcase with h1 | ⟨h1, h2⟩
        all_goals
          go_wp2
          go_ret
          exact ⟨ret_bool HE.out.symm, rfl⟩
    · obtain rfl : k = s.size := by omega
      have HE : Hid (reasonB (dl s) = true) := Lib.hid (by rw [reasonB, all_yes HK.out, dl_len, decide_eq_true h2]; rfl)
      clear HK
      go_wp2
      go_ret
      exact ⟨ret_bool HE.out.symm, rfl⟩

set_option maxHeartbeats 1000000 in
theorem status_any (st : Int) (w : World) : Calls Tryd.prog 33 #[.int .i64 st] w (fun e w' => e = .returned (.bool (statB st)) ∧ w' = w) := by
  by_cases h : 100 ≤ st
  · have HE : Hid (statB st = decide (st ≤ 599)) := Lib.hid (by rw [statB, decide_eq_true h, Bool.true_and])
    go_enter Tryd.func33, Tryd.ntmps33
    go_wp2
    go_ret
    exact ⟨ret_bool HE.out.symm, rfl⟩
  · have HE : Hid (statB st = false) := Lib.hid (by rw [statB, decide_eq_false h, Bool.false_and])
    go_enter Tryd.func33, Tryd.ntmps33
    go_wp2
    go_ret
    exact ⟨ret_bool HE.out.symm, rfl⟩

set_option maxRecDepth 100000 in
set_option maxHeartbeats 2000000 in
theorem fields_any (A : Option Addr) (n c : Nat) (fs : List Fd) (w : World) (hL : Fs w ⟨A, n, c⟩ fs) (hn : n ≤ 4096) (hf : Few fs) : Calls Tryd.prog 32 #[.slice A n c] w (BoolEnds (fieldsB (dls fs)) w) := by
  have HF := Lib.hid hf
  have HL := Lib.hid hL
  have hlen : Hid (fs.length = n) := Lib.hid hL.len
  clear hf hL
  by_cases h20 : n ≤ 20
  case neg =>
    have HE : Hid (fieldsB (dls fs) = false) := Lib.hid (by rw [fieldsB, List.length_map, hlen.out, decide_eq_false h20]; rfl)
    go_enter Tryd.func32, Tryd.ntmps32
    go_wp2
    go_ret
    exact ⟨ret_bool HE.out.symm, Below.refl _ _⟩
  go_enter Tryd.func32, Tryd.ntmps32
  go_wp2_with fail
  go_loopw [10] (fun i wr => ∃ k : Nat, k ≤ n ∧ i = .int .i64 (k : Int) ∧ Hid (∀ j x y, j < k → fs[j]? = some (x, y) → (nameB (dl x) && valueB (dl y)) = true) ∧ Below w.heap.size w wr) (fun i _ => n - (intOf i).toNat)
  case atStart => exact ⟨0, Nat.zero_le _, rfl, Lib.hid (fun j _ _ hj => absurd hj (by omega)), Below.refl _ _⟩
  case round =>
    obtain ⟨k, hk, rfl, HK, hbw⟩ := hrel
    by_cases hlt : k < n
    · obtain ⟨b, o, x, y, hA, hb, hx, c1, d1⟩ := (HL.out.up hbw).cell (k := k) hlt
      simp only at hA
      subst hA
      obtain ⟨z1, z2⟩ := HF.out _ (List.mem_of_getElem? hx)
      have HN := Lib.hid (fun W => name_any x z1 W)
      have HV := Lib.hid (fun W => value_any y z2 W)
      have HX := Lib.hid hx
      have HBad : Hid ((nameB (dl x) && valueB (dl y)) = false → fieldsB (dls fs) = false) := Lib.hid (fun h => fields_no hx h)
      clear hx
      have hki : (k : Int) < (n : Int) := by omega
      have hk0 : (0 : Int) ≤ (k : Int) := by omega
      obtain ⟨b1, hb1⟩ : ∃ b, nameB (dl x) = b := ⟨_, rfl⟩
      obtain ⟨b2, hb2⟩ : ∃ b, valueB (dl y) = b := ⟨_, rfl⟩
      rw [hb1] at HN
      rw [hb2] at HV
      have HB := Lib.hid (And.intro hb1 hb2)
      clear hb1 hb2
      have hbx := bon hbw (ba1 wr (.cells #[.string x, .string y] 32))
      cases b1 with
      | false =>
        have HE := Lib.hid (HBad.out (by rw [HB.out.1]; rfl))
        go_wp2_with fail
        refine (HN.out _).mono ?_
        rintro e w' ⟨rfl, rfl⟩
        go_wp2
        go_ret
        exact ⟨ret_bool HE.out.symm, hbx⟩
      | true =>
        go_wp2_with fail
        refine (HN.out _).mono ?_
        rintro e w' ⟨rfl, rfl⟩
        go_wp2_with fail
        refine (HV.out _).mono ?_
        rintro e w' ⟨rfl, hb3⟩
        have hby := bon hbx hb3
        clear hbx hb3
        cases b2 with
        | false =>
          have HE := Lib.hid (HBad.out (by rw [HB.out.2, Bool.and_false]))
          go_wp2
          go_ret
          exact ⟨ret_bool HE.out.symm, hby⟩
        | true =>
          have HR : Hid (∀ j x y, j < k + 1 → fs[j]? = some (x, y) → (nameB (dl x) && valueB (dl y)) = true) := Lib.hid (fun j x' y' hj he => by
            by_cases hjk : j < k
            · exact HK.out j x' y' hjk he
            · obtain rfl : j = k := by omega
              rw [HX.out] at he
              obtain ⟨rfl, rfl⟩ := Prod.mk.inj (Option.some.inj he)
              rw [HB.out.1, HB.out.2]; rfl)
          clear HK HX HB
          go_wp2
          go_roundw
          case rel => exact ⟨k + 1, by omega, by go_num, HR, hby⟩
          case measure => simp [intOf]; omega
    · obtain rfl : k = n := by omega
      have HE : Hid (fieldsB (dls fs) = true) := Lib.hid (by rw [fields_yes hlen.out HK.out]; simp; omega)
      clear HK
      go_wp2
      go_ret
      exact ⟨ret_bool HE.out.symm, hbw⟩

section
variable (m t : ByteArray) (st : Int) (r : ByteArray) (mi : Int) (A : Option Addr) (n c : Nat) (fs : List Fd) (a : Bool) (w : World) (hm : m.size ≤ 4096) (ht : t.size ≤ 4096) (hr : r.size ≤ 4096) (hL : Fs w ⟨A, n, c⟩ fs) (hn : n ≤ 4096) (hf : Few fs)
include hm ht hr hL hn hf

set_option maxRecDepth 100000 in
set_option maxHeartbeats 4000000 in
theorem right_any : Calls Tryd.prog 21 #[.agg #[.string m, .string t, .int .i64 st, .string r, .int .i64 mi, .slice A n c], .bool a] w (BoolEnds (rightB (hdOf m t st r mi fs) a) w) := by
  have HF := Lib.hid (fields_any A n c fs (w.alloc (.cells #[.string m, .string t, .int .i64 st, .string r, .int .i64 mi, .slice A n c] 25)) (hL.up (ba1 _ _)) hn hf)
  have HN := Lib.hid (fun W => name_any m hm W)
  have HT := Lib.hid (fun W => target_any t ht W)
  have HR := Lib.hid (fun W => reason_any r hr W)
  have HS := Lib.hid (fun W => status_any st W)
  have HE := Lib.hid (right_eq m t st r mi fs a)
  have em := isEmp (s := m)
  have et := isEmp (s := t)
  have er := isEmp (s := r)
  clear hm ht hr hL hn hf
  generalize fieldsB (dls fs) = bf at *
  generalize nameB (dl m) = bn at *
  generalize targetB (dl t) = bt at *
  generalize reasonB (dl r) = br at *
  generalize decide (m.size = 0) = zm at *
  generalize decide (t.size = 0) = zt at *
  generalize decide (r.size = 0) = zr at *
  by_cases h : mi = 0 ∨ mi = 1
  case neg =>
    have HV : Hid (rightB (hdOf m t st r mi fs) a = false) := Lib.hid (by rw [HE.out, rightV, decide_eq_false (by omega), decide_eq_false (by omega)]; rfl)
    have e1 : (mi != 0) = true := bne_iff_ne.2 (by omega)
    have e2 : (mi != 1) = true := bne_iff_ne.2 (by omega)
    clear h
    go_enter Tryd.func21, Tryd.ntmps21
    go_wp2
    go_ret
    exact ⟨ret_bool HV.out.symm, ba1 _ _⟩
  have HE1 : Hid (rightB (hdOf m t st r mi fs) a = (bf && (if a = true then statB st && br && zm && zt else bn && bt && decide (st = 0) && zr))) := Lib.hid (by
    rw [HE.out, rightV]
    rcases h with rfl | rfl <;> simp)
  clear HE
  generalize statB st = bs at *
  have hcase : (mi != 0) = false ∨ ((mi != 0) = true ∧ (mi != 1) = false) := by
    rcases h with rfl | rfl
    · exact .inl rfl
    · exact .inr ⟨rfl, rfl⟩
  clear h
  have hgo : ∀ W, Below (w.alloc (.cells #[.string m, .string t, .int .i64 st, .string r, .int .i64 mi, .slice A n c] 25)).heap.size (w.alloc (.cells #[.string m, .string t, .int .i64 st, .string r, .int .i64 mi, .slice A n c] 25)) W → Hid (Box W w.heap.size 25 #[.string m, .string t, .int .i64 st, .string r, .int .i64 mi, .slice A n c] ∧ Below w.heap.size w W) := fun W hb => Lib.hid ⟨(Box.new _ _ _).up hb, bon (ba1 _ _) hb⟩
  rcases hcase with e1 | ⟨e1, e2⟩
  all_goals
    go_enter Tryd.func21, Tryd.ntmps21
    go_wp2_with fail
    refine HF.out.mono ?_
    rintro e w1 ⟨rfl, hb1⟩
    have HG := hgo w1 hb1
    clear hb1
    obtain ⟨c0, c1, c2, c3, c4, c5⟩ := HG.out.1.six
    cases bf with
    | false =>
      have HV : Hid (rightB (hdOf m t st r mi fs) a = false) := Lib.hid (by rw [HE1.out]; rfl)
      go_wp2
      go_ret
      exact ⟨ret_bool HV.out.symm, HG.out.2⟩
    | true =>
      cases a with
      | false =>
        go_wp2_with fail
        refine (HN.out _).mono ?_
        rintro e w' ⟨rfl, rfl⟩
        cases bn with
        | false =>
          have HV : Hid (rightB (hdOf m t st r mi fs) false = false) := Lib.hid (by rw [HE1.out]; rfl)
          go_wp2
          go_ret
          exact ⟨ret_bool HV.out.symm, HG.out.2⟩
        | true =>
          go_wp2_with fail
          refine (HT.out _).mono ?_
          rintro e w' ⟨rfl, rfl⟩
          cases bt with
          | false =>
            have HV : Hid (rightB (hdOf m t st r mi fs) false = false) := Lib.hid (by rw [HE1.out]; rfl)
            go_wp2
            go_ret
            exact ⟨ret_bool HV.out.symm, HG.out.2⟩
          | true =>
            by_cases hs : st = 0
            · subst hs
              have HV : Hid (rightB (hdOf m t 0 r mi fs) false = zr) := Lib.hid (by rw [HE1.out]; cases zr <;> rfl)
              go_wp2
              go_ret
              exact ⟨ret_bool (by rw [HV.out]), HG.out.2⟩
            · have HV : Hid (rightB (hdOf m t st r mi fs) false = false) := Lib.hid (by rw [HE1.out, decide_eq_false hs]; rfl)
              have e3 : (st == 0) = false := beq_eq_false_iff_ne.2 hs
              clear hs
              go_wp2
              go_ret
              exact ⟨ret_bool HV.out.symm, HG.out.2⟩
      | true =>
        go_wp2_with fail
        refine (HS.out _).mono ?_
        rintro e w' ⟨rfl, rfl⟩
        cases bs with
        | false =>
          have HV : Hid (rightB (hdOf m t st r mi fs) true = false) := Lib.hid (by rw [HE1.out]; simp)
          go_wp2
          go_ret
          exact ⟨ret_bool HV.out.symm, HG.out.2⟩
        | true =>
          go_wp2_with fail
          refine (HR.out _).mono ?_
          rintro e w' ⟨rfl, rfl⟩
          cases br with
          | false =>
            have HV : Hid (rightB (hdOf m t st r mi fs) true = false) := Lib.hid (by rw [HE1.out]; simp)
            go_wp2
            go_ret
            exact ⟨ret_bool HV.out.symm, HG.out.2⟩
          | true =>
            cases zm with
            | false =>
              have HV : Hid (rightB (hdOf m t st r mi fs) true = false) := Lib.hid (by rw [HE1.out]; simp)
              go_wp2
              go_ret
              exact ⟨ret_bool HV.out.symm, HG.out.2⟩
            | true =>
              have HV : Hid (rightB (hdOf m t st r mi fs) true = zt) := Lib.hid (by rw [HE1.out]; simp)
              go_wp2
              go_ret
              exact ⟨ret_bool (by rw [HV.out]), HG.out.2⟩
end
end Go.Proofs.YtginijeajenghaaDoor
