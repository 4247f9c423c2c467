/-
  Heads in memory; the walks of the document's own target, reason, fields and Right.
-/
import Derived.Test.YtdlihfbaepjliaaGreatDoorHm
import Derived.Test.YtdlihfbaepjliaaGreatDoorNRef
import Derived.Test.YtdlihfbaepjliaaGreatDoorProg
import Derived.Lib.SlTrimSet
import Derived.WalkKit
import Derived.Lib.Split
import Derived.WalkSpells
import Derived.WalkLawsBesides
import Derived.WalkSmall
import Derived.Lib.Hide
import Derived.IntWalk
import Derived.BigQuiet
import Derived.Laws.OwnMore
import Derived.Deep.AppendLies
import Derived.Deep.RegionLaw
import Derived.Deep.Upon
import Derived.Deep.DeepCutAuto
import Derived.Lib.IndexLaws
import Derived.Shelf.LaysM
import Derived.Shelf.Small.Strs
import Derived.Shelf.Small.Wraps
import Derived.Shelf.Strings.Search1
import Derived.Shelf.Strings.Search2
import Derived.Shelf.Strings.SlTrimAscii
import Derived.Shelf.Strings.Split
import Derived.Shelf.Strings.Prefix
import Derived.Shelf.Strconv.Itoa4
import Derived.Lib.SmallJoins
import Derived.Lib.LaidTab
import Derived.Lib.AppendIntMem
import Derived.Lib.IndexAny
import Derived.RangeFuncNested
import Derived.RangeFuncBound
import Derived.RangeFuncCalls
import Derived.RangeFuncLeaves
import Derived.Shelf.Abstract
import Derived.Shelf.RegionOpen
import Derived.OwnWalkIn
import Derived.TacticsInMore
import Derived.LoopNIn
import Derived.LoopIn
import Derived.Maps.AppendAt
namespace Go.Proofs.YtdlihfbaepjliaaGreatDoor
open Go.RowKit

abbrev dls (fs : List Fd) : List (Bs × Bs) := fs.map fun f => (dl f.1, dl f.2)
/-- a head, of its parts -/
def hdOf (m t : ByteArray) (st : Int) (r : ByteArray) (mi : Int) (fs : List Fd) : Hd := ⟨dl m, dl t, st, dl r, mi, dls fs⟩
theorem dls_inj {xs ys : List Fd} (h : dls xs = dls ys) : xs = ys := by
  induction xs generalizing ys with
  | nil => cases ys with
    | nil => rfl
    | cons y r => cases h
  | cons x r ih => cases ys with
    | nil => cases h
    | cons y t =>
      simp only [dls, List.map_cons, List.cons.injEq, Prod.mk.injEq] at h
      rw [ih h.2, Prod.ext (dl_inj h.1.1) (dl_inj h.1.2)]
theorem hdOf_inj {m t r m' t' r' : ByteArray} {st mi st' mi' : Int} {fs fs' : List Fd} (h : hdOf m t st r mi fs = hdOf m' t' st' r' mi' fs') : m = m' ∧ t = t' ∧ st = st' ∧ r = r' ∧ mi = mi' ∧ fs = fs' := by
  simp only [hdOf, Hd.mk.injEq] at h
  exact ⟨dl_inj h.1, dl_inj h.2.1, h.2.2.1, dl_inj h.2.2.2.1, h.2.2.2.2.1, dls_inj h.2.2.2.2.2⟩

theorem Box.six {w : World} {g : Nat} {ty : TypeId} {a b c d e f : Value} (h : Box w g ty #[a, b, c, d, e, f]) :
    w.cell? ⟨g, 0, none⟩ = some a ∧ w.cell? ⟨g, 1, none⟩ = some b ∧ w.cell? ⟨g, 2, none⟩ = some c ∧ w.cell? ⟨g, 3, none⟩ = some d ∧ w.cell? ⟨g, 4, none⟩ = some e ∧ w.cell? ⟨g, 5, none⟩ = some f :=
  ⟨h.c 0 rfl, h.c 1 rfl, h.c 2 rfl, h.c 3 rfl, h.c 4 rfl, h.c 5 rfl⟩
theorem Box.sixf {w : World} {g : Nat} {ty : TypeId} {cs : Array Value} (h : Box w g ty cs) :
    w.frozen? ⟨g, 0, none⟩ = false ∧ w.frozen? ⟨g, 1, none⟩ = false ∧ w.frozen? ⟨g, 2, none⟩ = false ∧ w.frozen? ⟨g, 3, none⟩ = false ∧ w.frozen? ⟨g, 4, none⟩ = false ∧ w.frozen? ⟨g, 5, none⟩ = false :=
  ⟨h.f 0, h.f 1, h.f 2, h.f 3, h.f 4, h.f 5⟩

theorem all_noP {f : UInt8 → Bool} {s : ByteArray} {k : Nat} (h : (dl s)[k]?.all f = false) : (dl s).all f = false := by
  cases hx : (dl s)[k]? with
  | none => rw [hx] at h; cases h
  | some x =>
    rw [hx] at h
    have hm := List.mem_of_getElem? hx
    rw [List.all_eq_false]
    exact ⟨x, hm, by simpa using h⟩
theorem tgtC_eq (c : UInt8) : tgtC c = (decide (33 ≤ c.toNat) && decide (c.toNat ≤ 126)) := by
  unfold tgtC
  rw [Bool.eq_iff_iff]
  simp

set_option maxRecDepth 100000 in
set_option maxHeartbeats 2000000 in
theorem rtarget_any (s : ByteArray) (hs : s.size ≤ 4096) (w : World) : Calls Tryz.prog 78 #[.string s] w (fun e w' => e = .returned (.bool (targetB (dl s))) ∧ w' = w) := by
  go_enter Tryz.func78, Tryz.ntmps78
  go_wp2_with fail
  go_loopw [3] (fun i wr => ∃ k : Nat, k ≤ s.size ∧ i = .int .i64 (k : Int) ∧ Hid (∀ j, j < k → (dl s)[j]?.all tgtC = true) ∧ w = wr) (fun i _ => s.size - (intOf i).toNat)
  case atStart => exact ⟨0, Nat.zero_le _, rfl, Lib.hid (fun j hj => absurd hj (by omega)), rfl⟩
  case round =>
    obtain ⟨k, hk, rfl, HK, rfl⟩ := hrel
    by_cases hlt : k < s.size
    · have HA : Hid ((dl s)[k]?.all tgtC = tgtC s[k]) := Lib.hid (by rw [dl_at hlt]; rfl)
      have HV := Lib.hid (tgtC_eq s[k])
      have hc := (s[k]).toNat_lt
      obtain ⟨n, hn⟩ : ∃ n, (s[k]).toNat = n := ⟨_, rfl⟩
      rw [hn] at hc HV
      by_cases hg : 33 ≤ n ∧ n ≤ 126
      · have HY : Hid ((dl s)[k]?.all tgtC = true) := Lib.hid (by rw [HA.out, HV.out]; simp; omega)
        have HR : Hid (∀ j, j < k + 1 → (dl s)[j]?.all tgtC = true) := Lib.hid (fun j hj => by
          by_cases hjk : j < k
          · exact HK.out j hjk
          · obtain rfl : j = k := by omega
            exact HY.out)
        clear HA HV HK
        obtain ⟨h1, h2⟩ := hg
        go_wp2
        go_roundw
        case rel => exact ⟨k + 1, by omega, by go_num, HR, trivial⟩
        case measure => simp [intOf]; omega
      · have HE : Hid (targetB (dl s) = false) := Lib.hid (by rw [targetB, all_noP (f := tgtC) (k := k) (by rw [HA.out, HV.out]; simp; omega), Bool.and_false])
        have hcase : n < 33 ∨ (33 ≤ n ∧ 126 < n) := by omega
        clear hg
        rcases hcase with h1 | ⟨h1, h2⟩
        all_goals
          go_wp2
          go_ret
          exact ⟨ret_bool HE.out.symm, rfl⟩
    · obtain rfl : k = s.size := by omega
      have HE : Hid (targetB (dl s) = (decide (1 ≤ s.size) && decide (s.size ≤ 200))) := Lib.hid (by rw [targetB, all_yes HK.out, dl_len, Bool.and_true])
      have hemp := isEmp (s := s)
      clear HK
      by_cases h0 : s.size = 0
      · rw [decide_eq_true h0] at hemp
        have HE2 : Hid (targetB (dl s) = false) := Lib.hid (by rw [HE.out]; simp [h0])
        go_wp2
        go_ret
        exact ⟨ret_bool HE2.out.symm, rfl⟩
      · rw [decide_eq_false h0] at hemp
        have HE2 : Hid (targetB (dl s) = decide (s.size ≤ 200)) := Lib.hid (by rw [HE.out, decide_eq_true (show 1 ≤ s.size by omega), Bool.true_and])
        go_wp2
        go_ret
        refine ⟨ret_bool (by rw [HE2.out, decide_eq_decide]; omega), rfl⟩

set_option maxRecDepth 100000 in
set_option maxHeartbeats 2000000 in
theorem rreason_any (s : ByteArray) (hs : s.size ≤ 4096) (w : World) : Calls Tryz.prog 76 #[.string s] w (fun e w' => e = .returned (.bool (reasonB (dl s))) ∧ w' = w) := by
  go_enter Tryz.func76, Tryz.ntmps76
  go_wp2_with fail
  go_loopw [3] (fun i wr => ∃ k : Nat, k ≤ s.size ∧ i = .int .i64 (k : Int) ∧ Hid (∀ j, j < k → (dl s)[j]?.all valC = true) ∧ w = wr) (fun i _ => s.size - (intOf i).toNat)
  case atStart => exact ⟨0, Nat.zero_le _, rfl, Lib.hid (fun j hj => absurd hj (by omega)), rfl⟩
  case round =>
    obtain ⟨k, hk, rfl, HK, rfl⟩ := hrel
    by_cases hlt : k < s.size
    · have HA : Hid ((dl s)[k]?.all valC = valC s[k]) := Lib.hid (by rw [dl_at hlt]; rfl)
      have HV := Lib.hid (valC_eq s[k])
      have hc := (s[k]).toNat_lt
      obtain ⟨n, hn⟩ : ∃ n, (s[k]).toNat = n := ⟨_, rfl⟩
      rw [hn] at hc HV
      by_cases hg : n = 9 ∨ (32 ≤ n ∧ n ≤ 126)
      · have HY : Hid ((dl s)[k]?.all valC = true) := Lib.hid (by rw [HA.out, HV.out]; simp; omega)
        have HR : Hid (∀ j, j < k + 1 → (dl s)[j]?.all valC = true) := Lib.hid (fun j hj => by
          by_cases hjk : j < k
          · exact HK.out j hjk
          · obtain rfl : j = k := by omega
            exact HY.out)
        clear HA HV HK
        rcases hg with rfl | ⟨h1, h2⟩
        · go_wp2
          go_roundw
          case rel => exact ⟨k + 1, by omega, by go_num, HR, trivial⟩
          case measure => simp [intOf]; omega
        · have e1 : ((n : Int) != 9) = true := bne_iff_ne.2 (by omega)
          go_wp2
          go_roundw
          case rel => exact ⟨k + 1, by omega, by go_num, HR, trivial⟩
          case measure => simp [intOf]; omega
      · have HE : Hid (reasonB (dl s) = false) := Lib.hid (by rw [reasonB, all_noP (f := valC) (k := k) (by rw [HA.out, HV.out]; simp; omega), Bool.and_false])
        have e1 : ((n : Int) != 9) = true := bne_iff_ne.2 (by omega)
        have hcase : n < 32 ∨ (32 ≤ n ∧ 126 < n) := by omega
        clear hg
        rcases hcase with h1 | ⟨h1, h2⟩
        all_goals
          go_wp2
          go_ret
          exact ⟨ret_bool HE.out.symm, rfl⟩
    · obtain rfl : k = s.size := by omega
      have HE : Hid (reasonB (dl s) = decide (s.size ≤ 200)) := Lib.hid (by rw [reasonB, all_yes HK.out, dl_len, Bool.and_true])
      clear HK
      go_wp2
      go_ret
      refine ⟨ret_bool (by rw [HE.out, decide_eq_decide]; omega), rfl⟩

theorem fields_no {fs : List Fd} {k : Nat} {x y : ByteArray} (h : fs[k]? = some (x, y)) (hb : (nameB (dl x) && valueB (dl y)) = false) : fieldsB (dls fs) = false := by
  have hm : (dl x, dl y) ∈ dls fs := List.mem_map.2 ⟨(x, y), List.mem_of_getElem? h, rfl⟩
  have : (dls fs).all fieldB = false := by
    rw [List.all_eq_false]
    exact ⟨_, hm, by rw [fieldB, hb]; simp⟩
  rw [fieldsB, this, Bool.and_false]
theorem fields_yes {fs : List Fd} {n : Nat} (hl : fs.length = n) (h : ∀ j x y, j < n → fs[j]? = some (x, y) → (nameB (dl x) && valueB (dl y)) = true) : fieldsB (dls fs) = decide (n ≤ 20) := by
  have : (dls fs).all fieldB = true := by
    rw [List.all_eq_true]
    intro f hf
    obtain ⟨⟨x, y⟩, hm, rfl⟩ := List.mem_map.1 hf
    obtain ⟨j, hj, he⟩ := List.mem_iff_getElem.1 hm
    exact h j x y (by omega) (by rw [List.getElem?_eq_getElem hj, he])
  rw [fieldsB, this, Bool.and_true, List.length_map, hl]

/-- texts of no more than so many bytes -/
def Few (fs : List Fd) : Prop := ∀ f ∈ fs, f.1.size ≤ 4096 ∧ f.2.size ≤ 4096

set_option maxRecDepth 100000 in
set_option maxHeartbeats 2000000 in
theorem rfields_any (A : Option Addr) (n c : Nat) (fs : List Fd) (w : World) (hL : Fs w ⟨A, n, c⟩ fs) (hn : n ≤ 4096) (hf : Few fs) : Calls Tryz.prog 75 #[.slice A n c] w (fun e w' => e = .returned (.bool (fieldsB (dls fs))) ∧ w' = w) := by
  have HF := Lib.hid hf
  have HL := Lib.hid hL
  have hlen : Hid (fs.length = n) := Lib.hid hL.len
  clear hf hL
  go_enter Tryz.func75, Tryz.ntmps75
  go_wp2_with fail
  go_loopw [3] (fun i wr => ∃ k : Nat, k ≤ n ∧ i = .int .i64 (k : Int) ∧ Hid (∀ j x y, j < k → fs[j]? = some (x, y) → (nameB (dl x) && valueB (dl y)) = true) ∧ w = wr) (fun i _ => n - (intOf i).toNat)
  case atStart => exact ⟨0, Nat.zero_le _, rfl, Lib.hid (fun j _ _ hj => absurd hj (by omega)), rfl⟩
  case round =>
    obtain ⟨k, hk, rfl, HK, rfl⟩ := hrel
    by_cases hlt : k < n
    · obtain ⟨b, o, x, y, hA, hb, hx, c1, d1⟩ := HL.out.cell (k := k) hlt
      simp only at hA
      subst hA
      obtain ⟨z1, z2⟩ := HF.out _ (List.mem_of_getElem? hx)
      have HN := Lib.hid (fun W => rname_any x z1 W)
      have HV := Lib.hid (fun W => rvalue_any y z2 W)
      have HX := Lib.hid hx
      have HBad : Hid ((nameB (dl x) && valueB (dl y)) = false → fieldsB (dls fs) = false) := Lib.hid (fun h => fields_no hx h)
      clear hx
      have hki : (k : Int) < (n : Int) := by omega
      have hk0 : (0 : Int) ≤ (k : Int) := by omega
      obtain ⟨b1, hb1⟩ : ∃ b, nameB (dl x) = b := ⟨_, rfl⟩
      obtain ⟨b2, hb2⟩ : ∃ b, valueB (dl y) = b := ⟨_, rfl⟩
      rw [hb1] at HN
      rw [hb2] at HV
      have HB := Lib.hid (And.intro hb1 hb2)
      clear hb1 hb2
      cases b1 with
      | false =>
        have HE := Lib.hid (HBad.out (by rw [HB.out.1]; rfl))
        go_wp2_with fail
        refine (HN.out _).mono ?_
        rintro e w' ⟨rfl, rfl⟩
        go_wp2
        go_ret
        exact ⟨ret_bool HE.out.symm, rfl⟩
      | true =>
        go_wp2_with fail
        refine (HN.out _).mono ?_
        rintro e w' ⟨rfl, rfl⟩
        go_wp2_with fail
        refine (HV.out _).mono ?_
        rintro e w' ⟨rfl, rfl⟩
        cases b2 with
        | false =>
          have HE := Lib.hid (HBad.out (by rw [HB.out.2, Bool.and_false]))
          go_wp2
          go_ret
          exact ⟨ret_bool HE.out.symm, rfl⟩
        | true =>
          have HR : Hid (∀ j x y, j < k + 1 → fs[j]? = some (x, y) → (nameB (dl x) && valueB (dl y)) = true) := Lib.hid (fun j x' y' hj he => by
            by_cases hjk : j < k
            · exact HK.out j x' y' hjk he
            · obtain rfl : j = k := by omega
              rw [HX.out] at he
              obtain ⟨rfl, rfl⟩ := Prod.mk.inj (Option.some.inj he)
              rw [HB.out.1, HB.out.2]; rfl)
          clear HK HX HB
          go_wp2
          go_roundw
          case rel => exact ⟨k + 1, by omega, by go_num, HR, trivial⟩
          case measure => simp [intOf]; omega
    · obtain rfl : k = n := by omega
      have HE := Lib.hid (fields_yes hlen.out HK.out)
      clear HK
      go_wp2
      go_ret
      exact ⟨ret_bool (by rw [HE.out, decide_eq_decide]; omega), rfl⟩
end Go.Proofs.YtdlihfbaepjliaaGreatDoor
