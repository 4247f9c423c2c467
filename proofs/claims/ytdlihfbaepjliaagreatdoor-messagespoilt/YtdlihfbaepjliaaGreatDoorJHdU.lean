/-
  Words for heads in memory, for rows that grow, and for texts.
-/
import Derived.Test.YtdlihfbaepjliaaGreatDoorJWords
import Derived.Lib.SlTrimSet
import Derived.WalkKit
import Derived.Lib.Split
import Derived.WalkSpells
import Derived.WalkLawsBesides
import Derived.WalkSmall
import Derived.Lib.Hide
import Derived.IntWalk
import Derived.BigQuiet
import Derived.Laws.OwnMore
import Derived.Deep.AppendLies
import Derived.Deep.RegionLaw
import Derived.Deep.Upon
import Derived.Deep.DeepCutAuto
import Derived.Lib.IndexLaws
import Derived.Shelf.LaysM
import Derived.Shelf.Small.Strs
import Derived.Shelf.Small.Wraps
import Derived.Shelf.Strings.Search1
import Derived.Shelf.Strings.Search2
import Derived.Shelf.Strings.SlTrimAscii
import Derived.Shelf.Strings.Split
import Derived.Shelf.Strings.Prefix
import Derived.Shelf.Strconv.Itoa4
import Derived.Lib.SmallJoins
import Derived.Lib.LaidTab
import Derived.Lib.AppendIntMem
import Derived.Lib.IndexAny
import Derived.RangeFuncNested
import Derived.RangeFuncBound
import Derived.RangeFuncCalls
import Derived.RangeFuncLeaves
import Derived.Shelf.Abstract
import Derived.Shelf.RegionOpen
import Derived.OwnWalkIn
import Derived.TacticsInMore
import Derived.LoopNIn
import Derived.LoopIn
import Derived.Maps.AppendAt
import Derived.Test.YtdlihfbaepjliaaGreatDoorHm
import Derived.Test.YtdlihfbaepjliaaGreatDoorJRefS
import Derived.Test.YtdlihfbaepjliaaGreatDoorProg
import Derived.Test.YtdlihfbaepjliaaGreatDoorJOwnA
import Derived.Test.YtdlihfbaepjliaaGreatDoorHdA
namespace Go.Proofs.YtdlihfbaepjliaaGreatDoor
open Go.RowKit


theorem Box.set6 {w : World} {g : Nat} {ty : TypeId} {a b c d e f : Value} (h : Box w g ty #[a, b, c, d, e, f]) (u0 u1 u2 u3 u4 u5 : Value) :
    Box ((((((w.setCell ⟨g, 0, none⟩ u0).setCell ⟨g, 1, none⟩ u1).setCell ⟨g, 2, none⟩ u2).setCell ⟨g, 3, none⟩ u3).setCell ⟨g, 4, none⟩ u4).setCell ⟨g, 5, none⟩ u5) g ty #[u0, u1, u2, u3, u4, u5] := by
  have := (((((h.set 0 u0).set 1 u1).set 2 u2).set 3 u3).set 4 u4).set 5 u5
  simpa using this
theorem below_set6 {B : Nat} {a w : World} (h : Below B a w) {g : Nat} (hg : B ≤ g) (u0 u1 u2 u3 u4 u5 : Value) :
    Below B a ((((((w.setCell ⟨g, 0, none⟩ u0).setCell ⟨g, 1, none⟩ u1).setCell ⟨g, 2, none⟩ u2).setCell ⟨g, 3, none⟩ u3).setCell ⟨g, 4, none⟩ u4).setCell ⟨g, 5, none⟩ u5) :=
  (((((h.setCell (p := ⟨g, 0, none⟩) hg _).setCell (p := ⟨g, 1, none⟩) hg _).setCell (p := ⟨g, 2, none⟩) hg _).setCell (p := ⟨g, 3, none⟩) hg _).setCell (p := ⟨g, 4, none⟩) hg _).setCell (p := ⟨g, 5, none⟩) hg _

/-- a row of the call's own that grows -/
structure Out (e : TypeId) (sz : Nat) (w wr : World) (s : Sli) (cs : List Value) : Prop where
  row : Row wr w.heap.size e sz s cs
  hb : Below w.heap.size w wr
section
variable {e : TypeId} {sz : Nat} {w wr w' : World} {s : Sli} {cs : List Value}
theorem Out.le (h : Out e sz w wr s cs) : w.heap.size ≤ wr.heap.size := h.hb.size
theorem Out.up (h : Out e sz w wr s cs) (hb : Below wr.heap.size wr w') : Out e sz w w' s cs := ⟨h.row.up hb, bon h.hb hb⟩
theorem Out.nil (e : TypeId) (sz : Nat) (w wr : World) (hb : Below w.heap.size w wr) : Out e sz w wr ⟨none, 0, 0⟩ [] := ⟨World.ownsRow_nil _ _ _ _, hb⟩
theorem Out.app (h : Out e sz w wr s cs) {A : Option Addr} {n c : Nat} {cs' : List Value} (h1 : w'.ownsRow w.heap.size e sz (.slice A n c) n cs') (h2 : wr.grownBy w' (Value.slice s.A s.n s.c).ownBlock) : Out e sz w w' ⟨A, n, c⟩ cs' :=
  ⟨h1, grown_base h.row h2 h.hb (Nat.le_refl _) h.le⟩
end
/-- texts are handed back -/
def StrsEnds (ls : List Bs) (w : World) (e : Ending) (w' : World) : Prop := ∃ (s : Sli) (xs : List ByteArray), e = .returned (.slice s.A s.n s.c) ∧ xs.map dl = ls ∧ Ss w' s xs ∧ Below w.heap.size w w'

theorem drop_cons {s : ByteArray} {k : Nat} (hk : k < s.size) : (dl s).drop k = s[k] :: (dl s).drop (k + 1) := by
  have h := dl_at hk
  obtain ⟨h1, h2⟩ := List.getElem?_eq_some_iff.1 h
  rw [List.drop_eq_getElem_cons h1, h2]
theorem ext_succ {s : ByteArray} {f k : Nat} (hf : f ≤ k) (hk : k < s.size) : dl (s.extract f (k + 1)) = dl (s.extract f k) ++ [s[k]] := by
  rw [dl_ext, dl_ext, List.take_add_one, dl_at hk, List.drop_append_of_le_length (by rw [List.length_take, dl_len]; omega)]
  rfl

theorem map_dl_inj {xs ys : List ByteArray} (h : xs.map dl = ys.map dl) : xs = ys := by
  induction xs generalizing ys with
  | nil => cases ys with
    | nil => rfl
    | cons y r => cases h
  | cons x r ih => cases ys with
    | nil => cases h
    | cons y t =>
      simp only [List.map_cons, List.cons.injEq] at h
      rw [dl_inj h.1, ih h.2]

/-- a text, of its bytes -/
abbrev tx (l : Bs) : ByteArray := ⟨l.toArray⟩
theorem Ss.new (w : World) (xs : List ByteArray) (n : Nat) (hn : xs.length = n) (hm : n ≤ 4096) : Ss (w.alloc (.cells (svs xs).toArray 9)) ⟨some ⟨w.heap.size, 0, none⟩, n, n⟩ xs where
  len := hn
  rd _ := ⟨w.heap.size, 0, rfl, by simp, fun j u hu => by rw [Nat.zero_add]; exact (Box.new w 9 (svs xs).toArray).c j (by simpa using hu)⟩
  cap h := by cases h
  le := ⟨Nat.le_refl _, by unfold maxLen; simp only; omega⟩
theorem Fs.new (w : World) (xs : List Fd) (n : Nat) (hn : xs.length = n) (hm : n ≤ 4096) : Fs (w.alloc (.cells (fvs xs).toArray 40)) ⟨some ⟨w.heap.size, 0, none⟩, n, n⟩ xs where
  len := hn
  rd _ := ⟨w.heap.size, 0, rfl, by simp, fun j u hu => by rw [Nat.zero_add]; exact (Box.new w 40 (fvs xs).toArray).c j (by simpa using hu)⟩
  cap h := by cases h
  le := ⟨Nat.le_refl _, by unfold maxLen; simp only; omega⟩
/-- a text told by its bytes -/
theorem tx_of {s : ByteArray} {l : Bs} (h : dl s = l) : s = tx l := dl_inj (h.trans (dl_mk l).symm)
theorem txs_of {xs : List ByteArray} {ls : List Bs} (h : xs.map dl = ls) : xs = ls.map tx := map_dl_inj (by rw [h, List.map_map]; exact (List.map_id' ls).symm.trans (List.map_congr_left fun l _ => (dl_mk l).symm))



theorem info_parts {P : Program} {t : TypeId} {z : Value} {n b : Nat} (h : (P.info? t).map (fun i => (i.zero, i.size, i.bytes)) = some (some z, n, b)) : ∃ i, P.info? t = some i ∧ i.zero = some z ∧ i.size = n ∧ i.bytes = b := by
  cases hi : P.info? t with
  | none => rw [hi] at h; cases h
  | some i =>
    rw [hi] at h
    simp only [Option.map_some, Option.some.injEq, Prod.mk.injEq] at h
    exact ⟨i, rfl, h.1, h.2.1, h.2.2⟩

theorem Box.set5 {w : World} {g : Nat} {ty : TypeId} {a b c d e f : Value} (h : Box w g ty #[a, b, c, d, e, f]) (u : Value) : Box (w.setCell ⟨g, 5, none⟩ u) g ty #[a, b, c, d, e, u] := by
  have := h.set 5 u
  simpa using this

/-- a store elsewhere leaves the fields as they are -/
theorem Fs.set {w : World} {S : Sli} {fs : List Fd} (h : Fs w S fs) {p : Addr} (hn : ∀ ad, S.A = some ad → ad.block ≠ p.block) (v : Value) : Fs (w.setCell p v) S fs := by
  refine ⟨h.len, fun hx => ?_, h.cap, h.le⟩
  obtain ⟨b, o, hA, hl, hc⟩ := h.rd hx
  have hb : b ≠ p.block := hn ⟨b, o, none⟩ hA
  refine ⟨b, o, hA, by simpa using hl, fun j u hu => ?_⟩
  rw [World.cell?_setCell_other (h := fun e => hb (by rw [e]))]
  exact hc j u hu
theorem Fs.set6 {w : World} {S : Sli} {fs : List Fd} (h : Fs w S fs) {g : Nat} (hn : ∀ ad, S.A = some ad → ad.block ≠ g) (u0 u1 u2 u3 u4 u5 : Value) :
    Fs ((((((w.setCell ⟨g, 0, none⟩ u0).setCell ⟨g, 1, none⟩ u1).setCell ⟨g, 2, none⟩ u2).setCell ⟨g, 3, none⟩ u3).setCell ⟨g, 4, none⟩ u4).setCell ⟨g, 5, none⟩ u5) S fs :=
  (((((h.set (p := ⟨g, 0, none⟩) hn u0).set (p := ⟨g, 1, none⟩) hn u1).set (p := ⟨g, 2, none⟩) hn u2).set (p := ⟨g, 3, none⟩) hn u3).set (p := ⟨g, 4, none⟩) hn u4).set (p := ⟨g, 5, none⟩) hn u5

end Go.Proofs.YtdlihfbaepjliaaGreatDoor

/-
  The walk of the document's own lines; what its Same tells of the same heads.
-/
namespace Go.Proofs.YtdlihfbaepjliaaGreatDoor
open Go.RowKit

section
variable {e : TypeId} {sz : Nat} {w wr w' : World} {s : Sli} {cs : List Value}
end
/-- what lines has still to tell -/
def restL (s : ByteArray) (f k : Nat) : List Bs := linesA (dl (s.extract f k)) ((dl s).drop k)
theorem restL_start (s : ByteArray) : restL s 0 0 = linesL (dl s) := by
  rw [restL, dl_ext]
  rfl
theorem restL_step {s : ByteArray} {f k : Nat} (hf : f ≤ k) (hk : k + 1 < s.size) (h : ¬ ((s[k]'(by omega)).toNat = 13 ∧ (s[k + 1]).toNat = 10)) : restL s f k = restL s f (k + 1) := by
  have hne : ¬ (s[k]'(by omega) = 13 ∧ s[k + 1] = 10) := fun e => h ⟨by rw [e.1]; rfl, by rw [e.2]; rfl⟩
  rw [restL, restL, drop_cons (show k < s.size by omega), drop_cons hk, linesA, if_neg hne, ext_succ hf (by omega)]
theorem restL_cut {s : ByteArray} {f k : Nat} (hk : k + 1 < s.size) (h1 : (s[k]'(by omega)).toNat = 13) (h2 : (s[k + 1]).toNat = 10) : restL s f k = dl (s.extract f k) :: restL s (k + 2) (k + 2) := by
  have e1 : s[k]'(by omega) = 13 := UInt8.toNat_inj.1 h1
  have e2 : s[k + 1] = 10 := UInt8.toNat_inj.1 h2
  rw [restL, restL, drop_cons (show k < s.size by omega), drop_cons hk, linesA, if_pos ⟨e1, e2⟩]
  congr 2
  rw [dl_ext, List.drop_take]
  simp
theorem restL_end {s : ByteArray} {f k : Nat} (hf : f ≤ k) (hk : k ≤ s.size) (h : ¬ k + 1 < s.size) : restL s f k = [dl (s.extract f s.size)] := by
  by_cases hlt : k < s.size
  · obtain he : s.size = k + 1 := by omega
    rw [restL, drop_cons hlt, List.drop_of_length_le (by rw [dl_len]; omega), linesA, ← ext_succ hf hlt, he]
  · obtain rfl : k = s.size := by omega
    rw [restL, List.drop_of_length_le (by rw [dl_len]; exact Nat.le_refl _), linesA]
set_option maxRecDepth 100000 in
set_option maxHeartbeats 2000000 in
theorem rlines_any (s : ByteArray) (hs : s.size ≤ 4096) (w : World) : Calls Tryz.prog 96 #[.string s] w (StrsEnds (linesL (dl s)) w) := by
  obtain ⟨i9, hi, hz0, hz1, hz2⟩ := info_parts info9
  go_enter Tryz.func96, Tryz.ntmps96
  go_wp2_with fail
  go_loopw [5, 4, 3] (fun i f o wr => ∃ (k m : Nat) (O : Sli) (xs : List ByteArray), k ≤ s.size ∧ m ≤ k ∧ O.n ≤ k ∧ i = .int .i64 (k : Int) ∧ f = .int .i64 (m : Int) ∧ o = .slice O.A O.n O.c ∧ Hid (linesL (dl s) = xs.map dl ++ restL s m k) ∧ Hid (Out 9 1 w wr O (svs xs))) (fun i _ _ _ => s.size + 1 - (intOf i).toNat)
  case atStart => exact ⟨0, 0, ⟨none, 0, 0⟩, [], by omega, by omega, Nat.le_refl _, rfl, rfl, rfl, Lib.hid (by rw [restL_start]; rfl), Lib.hid (Out.nil _ _ _ _ (Below.refl _ _))⟩
  case round =>
    obtain ⟨k, m, O, xs, hk, hm, hn, rfl, rfl, rfl, HX, HO⟩ := hrel
    by_cases hlt : k + 1 < s.size
    · have hlti : (k : Int) + 1 < (s.size : Int) := by omega
      have hk1 : k < s.size := by omega
      have hs1 : ((k : Int) + 1).toNat = k + 1 := by omega
      have hc := (s[k]).toNat_lt
      have hc1 := (s[k + 1]).toNat_lt
      by_cases hgo : (s[k]).toNat = 13 ∧ (s[k + 1]).toNat = 10
      · have HC := Lib.hid (restL_cut (f := m) hlt hgo.1 hgo.2)
        obtain ⟨h13, h10⟩ := hgo
        have hki : (m : Int) ≤ (k : Int) := by omega
        have HN : Hid (linesL (dl s) = (xs ++ [s.extract m k]).map dl ++ restL s (k + 2) (k + 2)) := Lib.hid (by
          rw [HX.out, HC.out]
          simp)
        have HSrc := Lib.hid (src_one wr 9 (svs [s.extract m k]) 1 1 rfl)
        have HO2 := Lib.hid (HO.out.up (ba1 wr (.cells #[.string (s.extract m k)] 9)))
        have hBw : w.heap.size ≤ (wr.alloc (.cells #[.string (s.extract m k)] 9)).heap.size := HO2.out.le
        go_wp2_with (at_builtin; refine wpList_app _ rfl _ _ 57 rfl w.heap.size 9 i9 _ 1 16 (by decide) Tryz.underlying57 hi hz0 hz1 hz2 rfl (.slice O.A O.n O.c) O.n (svs xs) rfl HO2.out.row (some ⟨wr.heap.size, 0, none⟩) 1 1 (svs [s.extract m k]) rfl HSrc.out (svs_one _) ?_ ?_ hBw (O.n + 1) rfl ?_; (unfold maxLen; omega); omega; intro A' c' w2 h1 h2 h3; refine Hid.out ?_)
        have HO3 := Lib.hid (HO2.out.app (cs' := svs (xs ++ [s.extract m k])) (by rw [svs, List.map_append]; exact h1) h2)
        clear h1 h2 h3 HO2 HSrc
        refine Lib.hid ?_
        go_wp2
        go_roundw
        case rel => exact ⟨k + 2, k + 2, ⟨A', O.n + 1, c'⟩, xs ++ [s.extract m k], by omega, by omega, by simp only; omega, by go_num, by go_num, rfl, HN, HO3⟩
        case measure => simp [intOf]; omega
      · have HN : Hid (linesL (dl s) = xs.map dl ++ restL s m (k + 1)) := Lib.hid (by rw [HX.out, restL_step hm hlt hgo])
        obtain ⟨a, ha⟩ : ∃ a, (s[k]).toNat = a := ⟨_, rfl⟩
        obtain ⟨b, hb⟩ : ∃ b, (s[k + 1]).toNat = b := ⟨_, rfl⟩
        rw [ha] at hgo hc
        rw [hb] at hgo hc1
        by_cases h13 : a = 13
        · have h10 : ((b : Int) == 10) = false := beq_eq_false_iff_ne.2 (by omega)
          subst h13
          clear hgo
          go_wp2
          go_roundw
          case rel => exact ⟨k + 1, m, O, xs, by omega, by omega, by omega, by go_num, rfl, rfl, HN, HO⟩
          case measure => simp [intOf]; omega
        · have e13 : ((a : Int) == 13) = false := beq_eq_false_iff_ne.2 (by omega)
          clear hgo h13
          go_wp2
          go_roundw
          case rel => exact ⟨k + 1, m, O, xs, by omega, by omega, by omega, by go_num, rfl, rfl, HN, HO⟩
          case measure => simp [intOf]; omega
    · have hlti : ¬ (k : Int) + 1 < (s.size : Int) := by omega
      have hmi : (m : Int) ≤ (s.size : Int) := by omega
      have HE : Hid ((xs ++ [s.extract m s.size]).map dl = linesL (dl s)) := Lib.hid (by
        rw [HX.out, restL_end hm hk hlt]
        simp)
      have HSrc := Lib.hid (src_one wr 9 (svs [s.extract m s.size]) 1 1 rfl)
      have HO2 := Lib.hid (HO.out.up (ba1 wr (.cells #[.string (s.extract m s.size)] 9)))
      have hBw : w.heap.size ≤ (wr.alloc (.cells #[.string (s.extract m s.size)] 9)).heap.size := HO2.out.le
      go_wp2_with (at_builtin; refine wpList_app _ rfl _ _ 57 rfl w.heap.size 9 i9 _ 1 16 (by decide) Tryz.underlying57 hi hz0 hz1 hz2 rfl (.slice O.A O.n O.c) O.n (svs xs) rfl HO2.out.row (some ⟨wr.heap.size, 0, none⟩) 1 1 (svs [s.extract m s.size]) rfl HSrc.out (svs_one _) ?_ ?_ hBw (O.n + 1) rfl ?_; (unfold maxLen; omega); omega; intro A' c' w2 h1 h2 h3; refine Hid.out ?_)
      have HO3 := Lib.hid (HO2.out.app (cs' := svs (xs ++ [s.extract m s.size])) (by rw [svs, List.map_append]; exact h1) h2)
      clear h1 h2 h3 HO2 HSrc
      refine Lib.hid ?_
      go_wp2
      go_ret
      exact ⟨⟨A', O.n + 1, c'⟩, _, rfl, HE.out, HO3.out.row.ss, HO3.out.hb⟩

set_option maxRecDepth 100000 in
set_option maxHeartbeats 2000000 in
theorem heads_same (m t : ByteArray) (st : Int) (r : ByteArray) (mi : Int) (S T : Sli) (fs : List Fd) (w : World) (hS : Fs w S fs) (hT : Fs w T fs) :
    Calls Tryz.prog 25 #[.agg #[.string m, .string t, .int .i64 st, .string r, .int .i64 mi, .slice S.A S.n S.c], .agg #[.string m, .string t, .int .i64 st, .string r, .int .i64 mi, .slice T.A T.n T.c]] w (BoolEnds true w) := by
  have hb := ba2 w (.cells #[.string m, .string t, .int .i64 st, .string r, .int .i64 mi, .slice S.A S.n S.c] 29) (.cells #[.string m, .string t, .int .i64 st, .string r, .int .i64 mi, .slice T.A T.n T.c] 29)
  have HC := Lib.hid (same_same S T fs _ (hS.up hb) (hT.up hb))
  simp only [Sli.v] at HC
  clear hS hT
  go_enter Tryz.func25, Tryz.ntmps25
  go_wp2_with fail
  refine HC.out.mono ?_
  rintro e w1 ⟨rfl, hb1⟩
  go_wp2
  go_ret
  exact ⟨rfl, bon hb hb1⟩
end Go.Proofs.YtdlihfbaepjliaaGreatDoor

/-
  The walks of the document's own cut, digit and version.
-/
namespace Go.Proofs.YtdlihfbaepjliaaGreatDoor
open Go.RowKit

set_option maxRecDepth 100000 in
set_option maxHeartbeats 2000000 in
theorem rcut_any (s : ByteArray) (hs : s.size ≤ 4096) (w : World) : Calls Tryz.prog 115 #[.string s] w (CutEnds 32 (dl s) w) := by
  go_enter Tryz.func115, Tryz.ntmps115
  go_wp2_with fail
  go_loopw [5] (fun i wr => ∃ k : Nat, k ≤ s.size ∧ i = .int .i64 (k : Int) ∧ Hid (∀ j, j < k → (dl s)[j]? ≠ some 32) ∧ w = wr) (fun i _ => s.size - (intOf i).toNat)
  case atStart => exact ⟨0, Nat.zero_le _, rfl, Lib.hid (fun j hj => absurd hj (by omega)), rfl⟩
  case round =>
    obtain ⟨k, hk, rfl, HK, rfl⟩ := hrel
    by_cases hlt : k < s.size
    · have hc := (s[k]).toNat_lt
      obtain ⟨n, hn⟩ : ∃ n, (s[k]).toNat = n := ⟨_, rfl⟩
      rw [hn] at hc
      by_cases h32 : n = 32
      · have HX := Lib.hid (cut_at (c := 32) (l := dl s) (k := k) (by rw [dl_at hlt]; exact congrArg some (UInt8.toNat_inj.1 (by rw [hn, h32]; rfl))) HK.out)
        subst h32
        have he1 : (0 : Int) ≤ (k : Int) := by omega
        have he2 : (k : Int) ≤ (s.size : Int) := by omega
        have he3 : (k : Int) + 1 ≤ (s.size : Int) := by omega
        have he4 : (0 : Int) ≤ (k : Int) + 1 := by omega
        have he5 : ((k : Int) + 1).toNat = k + 1 := by omega
        have he6 : k + 1 ≤ s.size := by omega
        have he7 : IntKind.i64.wrap ((k : Int) + 1) = (k : Int) + 1 := IntWalk.i64_in _ (by omega)
        go_wp2_with fail
        go_quiet (fail)
        go_wp2
        refine bodyPost_ret (v := .tuple #[.string (s.extract 0 k), .string (s.extract (k + 1) s.size), .bool true]) (by simp [results, Tryz.results115, go_sem]) rfl ?_
        refine ⟨s.extract 0 k, s.extract (k + 1) s.size, by rw [HX.out.2.2], ?_, ?_, below_drewN (Below.refl _ _) _⟩
        · rw [dl_ext, HX.out.1, List.drop_zero]
        · rw [dl_ext, HX.out.2.1, List.take_of_length_le (by rw [dl_len]; exact Nat.le_refl _)]
      · have e1 : ((n : Int) == 32) = false := beq_eq_false_iff_ne.2 (by omega)
        have HN : Hid (∀ j, j < k + 1 → (dl s)[j]? ≠ some 32) := Lib.hid (fun j hj => by
          by_cases hjk : j < k
          · exact HK.out j hjk
          · obtain rfl : j = k := by omega
            rw [dl_at hlt]
            intro he
            have : s[j] = 32 := Option.some.inj he
            rw [this] at hn
            exact h32 hn.symm)
        go_wp2
        go_roundw
        case rel => exact ⟨k + 1, by omega, by go_num, HN, trivial⟩
        case measure => simp [intOf]; omega
    · obtain rfl : k = s.size := by omega
      have HX := Lib.hid (cut_none (c := 32) (l := dl s) (by rw [dl_len]; exact HK.out))
      go_wp2
      refine bodyPost_ret (v := .tuple #[.string s, .string ⟨#[]⟩, .bool false]) (by simp [results, Tryz.results115, go_sem]) rfl ?_
      exact ⟨s, ⟨#[]⟩, by rw [HX.out.2.2], HX.out.1.symm, HX.out.2.1.symm, Below.refl _ _⟩

theorem digC_eq (c : UInt8) : digC c = (decide (48 ≤ c.toNat) && decide (c.toNat ≤ 57)) := by
  unfold digC
  rw [Bool.eq_iff_iff]
  simp
set_option maxHeartbeats 400000 in
theorem rdigit_any (c : UInt8) (w : World) : Calls Tryz.prog 117 #[.int .u8 (c.toNat : Int)] w (fun e w' => e = .returned (.bool (digC c)) ∧ w' = w) := by
  have HV := Lib.hid (digC_eq c)
  have hc := c.toNat_lt
  obtain ⟨n, hn⟩ : ∃ n, c.toNat = n := ⟨_, rfl⟩
  rw [hn] at hc HV ⊢
  clear hn
  by_cases h : 48 ≤ n
  · go_enter Tryz.func117, Tryz.ntmps117
    go_wp2
    go_ret
    exact ⟨ret_bool (by rw [HV.out, decide_eq_true h]; simp; omega), rfl⟩
  · go_enter Tryz.func117, Tryz.ntmps117
    go_wp2
    go_ret
    exact ⟨ret_bool (by rw [HV.out, decide_eq_false h]; rfl), rfl⟩

theorem dl_gd {s : ByteArray} {k : Nat} (h : k < s.size) : (dl s).getD k 0 = s[k] := by
  rw [List.getD_eq_getElem?_getD, dl_at h]
  rfl
/-- the version's letters -/
abbrev httpB : ByteArray := ⟨#[72, 84, 84, 80, 47]⟩
theorem http_l : httpB.toList = [72, 84, 84, 80, 47] := by rw [Go.ByteArray.toList_eq]
theorem vers_eq {s : ByteArray} (h8 : s.size = 8) : versL (dl s) = if s.extract 0 5 = httpB ∧ digC (s[5]'(by omega)) = true ∧ (s[6]'(by omega)).toNat = 46 ∧ digC (s[7]'(by omega)) = true then (if (s[5]'(by omega)).toNat = 49 ∧ (s[7]'(by omega)).toNat ≤ 49 then (((s[7]'(by omega)).toNat : Int) - 48, 0) else (0, 24)) else (0, 20) := by
  have e5 := dl_gd (s := s) (k := 5) (by omega)
  have e6 := dl_gd (s := s) (k := 6) (by omega)
  have e7 := dl_gd (s := s) (k := 7) (by omega)
  have ht : (s.extract 0 5 = httpB) ↔ (dl s).take 5 = [72, 84, 84, 80, 47] := by
    have : dl (s.extract 0 5) = (dl s).take 5 := by rw [dl_ext, List.drop_zero]
    constructor
    · intro h; rw [← this, h]
    · intro h; exact dl_inj (by rw [this, h])
  have h46 : ∀ c : UInt8, c = 46 ↔ c.toNat = 46 := fun c => ⟨fun h => by rw [h]; rfl, fun h => UInt8.toNat_inj.1 h⟩
  have h49 : ∀ c : UInt8, c = 49 ↔ c.toNat = 49 := fun c => ⟨fun h => by rw [h]; rfl, fun h => UInt8.toNat_inj.1 h⟩
  unfold versL
  rw [e5, e6, e7, dl_len]
  simp only [h8, true_and, ht, h46, h49]
theorem vers_no {s : ByteArray} (h8 : s.size ≠ 8) : versL (dl s) = (0, 20) := by
  unfold versL
  rw [if_neg (fun h => h8 (by rw [← dl_len]; exact h.1))]

/-- two numbers are handed back, the world stands -/
def NumEnds (q : Int × Int) (w : World) (e : Ending) (w' : World) : Prop := e = .returned (.tuple #[.int .i64 q.1, .int .i64 q.2]) ∧ w' = w

set_option maxRecDepth 100000 in
set_option maxHeartbeats 2000000 in
theorem rversion_any (s : ByteArray) (w : World) : Calls Tryz.prog 116 #[.string s] w (NumEnds (versL (dl s)) w) := by
  by_cases h8 : s.size = 8
  case neg =>
    have HE := Lib.hid (vers_no h8)
    have e1 : ((s.size : Int) != 8) = true := bne_iff_ne.2 (by omega)
    have e2 : ((s.size) != 8) = true := bne_iff_ne.2 (by omega)
    go_enter Tryz.func116, Tryz.ntmps116
    go_wp2
    refine bodyPost_ret (v := .tuple #[.int .i64 0, .int .i64 20]) (by simp [results, Tryz.results116, go_sem]) rfl ?_
    exact ⟨by rw [HE.out], rfl⟩
  have HE := Lib.hid (vers_eq h8)
  have H5 := Lib.hid (fun W => rdigit_any (s[5]'(by omega)) W)
  have H7 := Lib.hid (fun W => rdigit_any (s[7]'(by omega)) W)
  have hb5 := (s[5]'(by omega)).toNat_lt
  have hb7 := (s[7]'(by omega)).toNat_lt
  have HD7 := Lib.hid (digC_eq (s[7]'(by omega)))
  by_cases hq : s.extract 0 5 = httpB
  case neg =>
    have HV : Hid (versL (dl s) = (0, 20)) := Lib.hid (by rw [HE.out, if_neg (fun h => hq h.1)])
    have hrs : ((s.extract 0 5).toList == [72, 84, 84, 80, 47]) = false := by rw [← http_l]; exact tl_ne hq
    go_enter Tryz.func116, Tryz.ntmps116
    go_wp2_with fail
    go_wp2
    refine bodyPost_ret (v := .tuple #[.int .i64 0, .int .i64 20]) (by simp [results, Tryz.results116, go_sem]) rfl ?_
    exact ⟨by rw [HV.out], rfl⟩
  have hrs : ((s.extract 0 5).toList == [72, 84, 84, 80, 47]) = true := by rw [hq, http_l]; rfl
  have HE1 : Hid (versL (dl s) = if digC (s[5]'(by omega)) = true ∧ (s[6]'(by omega)).toNat = 46 ∧ digC (s[7]'(by omega)) = true then (if (s[5]'(by omega)).toNat = 49 ∧ (s[7]'(by omega)).toNat ≤ 49 then (((s[7]'(by omega)).toNat : Int) - 48, 0) else (0, 24)) else (0, 20)) := Lib.hid (by rw [HE.out]; simp only [hq, true_and])
  clear HE hq
  generalize hn5 : (s[5]'(by omega)).toNat = n5 at *
  generalize hn6 : (s[6]'(by omega)).toNat = n6 at *
  generalize hn7 : (s[7]'(by omega)).toNat = n7 at *
  generalize digC (s[5]'(by omega)) = d5 at *
  generalize digC (s[7]'(by omega)) = d7 at *
  cases d5 with
  | false =>
    have HV : Hid (versL (dl s) = (0, 20)) := Lib.hid (by rw [HE1.out]; simp)
    go_enter Tryz.func116, Tryz.ntmps116
    go_wp2_with fail
    refine (H5.out _).mono ?_
    rintro e w' ⟨rfl, rfl⟩
    go_wp2
    refine bodyPost_ret (v := .tuple #[.int .i64 0, .int .i64 20]) (by simp [results, Tryz.results116, go_sem]) rfl ?_
    exact ⟨by rw [HV.out], rfl⟩
  | true =>
    by_cases h46 : n6 = 46
    case neg =>
      have HV : Hid (versL (dl s) = (0, 20)) := Lib.hid (by rw [HE1.out]; simp [h46])
      have e6 : ((n6 : Int) != 46) = true := bne_iff_ne.2 (by omega)
      clear h46
      go_enter Tryz.func116, Tryz.ntmps116
      go_wp2_with fail
      refine (H5.out _).mono ?_
      rintro e w' ⟨rfl, rfl⟩
      go_wp2
      refine bodyPost_ret (v := .tuple #[.int .i64 0, .int .i64 20]) (by simp [results, Tryz.results116, go_sem]) rfl ?_
      exact ⟨by rw [HV.out], rfl⟩
    subst h46
    cases d7 with
    | false =>
      have HV : Hid (versL (dl s) = (0, 20)) := Lib.hid (by rw [HE1.out]; simp)
      go_enter Tryz.func116, Tryz.ntmps116
      go_wp2_with fail
      refine (H5.out _).mono ?_
      rintro e w' ⟨rfl, rfl⟩
      go_wp2_with fail
      refine (H7.out _).mono ?_
      rintro e w' ⟨rfl, rfl⟩
      go_wp2
      refine bodyPost_ret (v := .tuple #[.int .i64 0, .int .i64 20]) (by simp [results, Tryz.results116, go_sem]) rfl ?_
      exact ⟨by rw [HV.out], rfl⟩
    | true =>
      have h48 : 48 ≤ n7 := by
        have := HD7.out
        simp only [Bool.and_eq_true, decide_eq_true_eq, eq_comm (a := true)] at this
        omega
      by_cases h49 : n5 = 49
      case neg =>
        have HV : Hid (versL (dl s) = (0, 24)) := Lib.hid (by rw [HE1.out]; simp [h49])
        have e5 : ((n5 : Int) != 49) = true := bne_iff_ne.2 (by omega)
        clear h49
        go_enter Tryz.func116, Tryz.ntmps116
        go_wp2_with fail
        refine (H5.out _).mono ?_
        rintro e w' ⟨rfl, rfl⟩
        go_wp2_with fail
        refine (H7.out _).mono ?_
        rintro e w' ⟨rfl, rfl⟩
        go_wp2
        refine bodyPost_ret (v := .tuple #[.int .i64 0, .int .i64 24]) (by simp [results, Tryz.results116, go_sem]) rfl ?_
        exact ⟨by rw [HV.out], rfl⟩
      subst h49
      by_cases hle : n7 ≤ 49
      · have HV : Hid (versL (dl s) = ((n7 : Int) - 48, 0)) := Lib.hid (by rw [HE1.out]; simp [hle])
        go_enter Tryz.func116, Tryz.ntmps116
        go_wp2_with fail
        refine (H5.out _).mono ?_
        rintro e w' ⟨rfl, rfl⟩
        go_wp2_with fail
        refine (H7.out _).mono ?_
        rintro e w' ⟨rfl, rfl⟩
        go_wp2
        refine bodyPost_ret (v := .tuple #[.int .i64 ((n7 : Int) - 48), .int .i64 0]) (by simp [results, Tryz.results116, go_sem]) rfl ?_
        exact ⟨by rw [HV.out], rfl⟩
      · have HV : Hid (versL (dl s) = (0, 24)) := Lib.hid (by rw [HE1.out]; simp [hle])
        go_enter Tryz.func116, Tryz.ntmps116
        go_wp2_with fail
        refine (H5.out _).mono ?_
        rintro e w' ⟨rfl, rfl⟩
        go_wp2_with fail
        refine (H7.out _).mono ?_
        rintro e w' ⟨rfl, rfl⟩
        go_wp2
        refine bodyPost_ret (v := .tuple #[.int .i64 0, .int .i64 24]) (by simp [results, Tryz.results116, go_sem]) rfl ?_
        exact ⟨by rw [HV.out], rfl⟩
end Go.Proofs.YtdlihfbaepjliaaGreatDoor

/-
  The walks of head's own parseFields, firstLines and Parse.
-/
namespace Go.Proofs.YtdlihfbaepjliaaGreatDoor
open Go.RowKit

/-! the map of first lines -/
theorem push_set {α : Type} (a : Array α) (o o' : α) : (a.push o).setIfInBounds a.size o' = a.push o' := by
  apply Array.ext_getElem?
  intro i
  rw [Array.getElem?_setIfInBounds, Array.getElem?_push, Array.getElem?_push]
  by_cases h : a.size = i
  · subst h; simp
  · rw [if_neg h, if_neg (fun e => h e.symm), if_neg (fun e => h e.symm)]
theorem alloc_set (w : World) (o o' : Obj) : { (w.alloc o) with heap := (w.alloc o).heap.setIfInBounds w.heap.size o' } = w.alloc o' := by
  unfold World.alloc
  show World.mk _ _ _ _ _ = World.mk _ _ _ _ _
  rw [push_set]
theorem mu1 (w : World) (v : Value) : (Instr.mapUpdate 136 (.map (some w.heap.size)) (.bool false) v).run Tryz.prog (w.alloc (.map #[] 0)) = .ok () (w.alloc (.map #[{ key := .bool false, val := v, born := 0 }] 1)) := by
  have hb : (w.alloc (.map #[] 0)).heap[w.heap.size]? = some (.map #[] 0) := heap_alloc_new w _
  have hf : Instr.findNow .bool (.bool false) ([] : List MapEntry) 0 = some none := rfl
  have hc : (Instr.checkKey false 10000 4 (.bool false)).run Tryz.prog (w.alloc (.map #[] 0)) = .ok () (w.alloc (.map #[] 0)) := MapKept.run_checkKey (k := .bool false) Tryz.underlying4 (by simp [MapKept.IsKey]) false 9999
  simp [Instr.mapUpdate, run_underlying Tryz.underlying136, MapKept.run_getObj_map hb, hc, MapKept.run_findKey Tryz.underlying4 hf, MapKept.run_setObj_map _ hb, Result.andThen]
  exact alloc_set _ _ _
theorem mu2 (w : World) (v u : Value) : (Instr.mapUpdate 136 (.map (some w.heap.size)) (.bool true) u).run Tryz.prog (w.alloc (.map #[{ key := .bool false, val := v, born := 0 }] 1)) = .ok () (w.alloc (.map #[{ key := .bool false, val := v, born := 0 }, { key := .bool true, val := u, born := 1 }] 2)) := by
  have hb : (w.alloc (.map #[{ key := .bool false, val := v, born := 0 }] 1)).heap[w.heap.size]? = some (.map #[{ key := .bool false, val := v, born := 0 }] 1) := heap_alloc_new w _
  have hf : Instr.findNow .bool (.bool true) [{ key := .bool false, val := v, born := 0 }] 0 = some none := rfl
  have hc : (Instr.checkKey false 10000 4 (.bool true)).run Tryz.prog (w.alloc (.map #[{ key := .bool false, val := v, born := 0 }] 1)) = .ok () (w.alloc (.map #[{ key := .bool false, val := v, born := 0 }] 1)) := MapKept.run_checkKey (k := .bool true) Tryz.underlying4 (by simp [MapKept.IsKey]) false 9999
  simp [Instr.mapUpdate, run_underlying Tryz.underlying136, MapKept.run_getObj_map hb, hc, MapKept.run_findKey Tryz.underlying4 hf, MapKept.run_setObj_map _ hb, Result.andThen]
  exact alloc_set _ _ _
/-- the map of what first lines mean -/
def Fl (W : World) (g : Nat) (v u : Value) : Prop := W.heap[g]? = some (.map #[{ key := .bool false, val := v, born := 0 }, { key := .bool true, val := u, born := 1 }] 2)
theorem lk0 {W : World} {g : Nat} {v u : Value} (h : Fl W g v u) (a : Bool) : (Instr.lookup 136 (.map (some g)) (.bool a) false).run Tryz.prog W = .ok (if a = true then u else v) W := by
  have hc : ∀ e, (Instr.checkKey e 10000 4 (.bool a)).run Tryz.prog W = .ok () W := fun e => MapKept.run_checkKey (k := .bool a) Tryz.underlying4 (by simp [MapKept.IsKey]) e 9999
  cases a with
  | false =>
    have hf : Instr.findNow .bool (.bool false) [{ key := .bool false, val := v, born := 0 }, { key := .bool true, val := u, born := 1 }] 0 = some (some (0, v)) := rfl
    simp [Instr.lookup, run_underlying Tryz.underlying136, MapKept.run_getObj_map h, hc, MapKept.run_findKey Tryz.underlying4 hf, Result.andThen]
  | true =>
    have hf : Instr.findNow .bool (.bool true) [{ key := .bool false, val := v, born := 0 }, { key := .bool true, val := u, born := 1 }] 0 = some (some (1, u)) := rfl
    simp [Instr.lookup, run_underlying Tryz.underlying136, MapKept.run_getObj_map h, hc, MapKept.run_findKey Tryz.underlying4 hf, Result.andThen]


/-- the map is handed back -/
def FlEnds (w : World) (e : Ending) (w' : World) : Prop := e = .returned (.map (some w.heap.size)) ∧ Fl w' w.heap.size (.func (.func 141) #[] #[]) (.func (.func 142) #[] #[]) ∧ Below w.heap.size w w'
set_option maxRecDepth 100000 in
theorem fl_any (w : World) : Calls Tryz.prog 127 #[] w (FlEnds w) := by
  have hmm := @run_makeMap Tryz.prog
  have m1 := mu1 w
  have m2 := mu2 w
  go_enter Tryz.func127, Tryz.ntmps127
  go_wp2
  go_ret
  exact ⟨rfl, heap_alloc_new w _, ba1 _ _⟩

/-! lines -/
theorem lines_any (s : ByteArray) (hs : s.size ≤ 2000) (w : World) (hM : Mx w) : Calls Tryz.prog 126 #[.string s, .string ⟨#[13, 10]⟩] w (StrsEnds (linesL (dl s)) w) := by
  refine (sh_Split s ⟨#[13, 10]⟩ w hM (by omega) (by decide)).mono ?_
  rintro e w' ⟨rfl, rfl⟩
  have hlen := Lib.splitB_all ⟨#[13, 10]⟩ (by decide) 0 _ s rfl
  have hd := Lib.splitB_data ⟨#[13, 10]⟩ 0 (Lib.countB s ⟨#[13, 10]⟩) s
  have hl : Lib.splitK crlf 0 (Lib.count (dl s) crlf) (dl s) = linesL (dl s) := split_lines (dl s)
  have hc : Lib.countB s ⟨#[13, 10]⟩ ≤ s.size + 1 := by
    have := Lib.count_le (dl s) crlf
    rw [dl_len] at this
    exact this
  refine ⟨⟨some ⟨w.heap.size, 0, none⟩, Lib.countB s ⟨#[13, 10]⟩ + 1, Lib.countB s ⟨#[13, 10]⟩ + 1⟩, Lib.splitB ⟨#[13, 10]⟩ 0 (Lib.countB s ⟨#[13, 10]⟩) s, rfl, hd.trans hl, ?_, ba1 _ _⟩
  exact Ss.new w _ _ hlen (by omega)
theorem ss_tail {w : World} {S : Sli} {x : ByteArray} {xs : List ByteArray} (h : Ss w S (x :: xs)) : ∃ T : Sli, (∀ W, (Instr.slice 57 (.slice S.A S.n S.c) (some (.int .i64 1)) none none).run Tryz.prog W = .ok (.slice T.A T.n T.c) W) ∧ Ss w T xs ∧ T.n ≤ S.n := by
  obtain ⟨A, n, c⟩ := S
  obtain ⟨b, o, hA, hb, hc⟩ := h.rd (by simp [svs])
  simp only at hA
  subst hA
  have hl := h.len
  have hle := h.le
  simp only [List.length_cons] at hl hle
  have el : Tryz.prog.underlying 57 = some (.slice (Tryz.prog.elem 57)) := by kernel_rfl
  have sz : ∀ W, (sizeOf (Tryz.prog.elem 57)).run Tryz.prog W = .ok 1 W := fun W => by kernel_rfl
  by_cases h1 : c = 1
  · refine ⟨⟨some ⟨b, o, none⟩, n - 1, c - 1⟩, fun W => ?_, ⟨?_, ?_, (fun e => by cases e), ?_⟩, by simp only; omega⟩
    · rw [run_slice_l W 57 _ n c el .i64 (1 : Int) (by omega) (by omega), sz]
      simp only [Result.andThen, sliced]
      rw [if_pos (by simpa using h1)]
      rfl
    · simp only; omega
    · intro hp
      have : xs.length = 0 := by omega
      simp [svs, this] at hp
    · simp only; omega
  · refine ⟨⟨some ⟨b, o + 1, none⟩, n - 1, c - 1⟩, fun W => ?_, ⟨?_, ?_, (fun e => by cases e), ?_⟩, by simp only; omega⟩
    · rw [run_slice_l W 57 _ n c el .i64 (1 : Int) (by omega) (by omega), sz]
      simp only [Result.andThen, sliced]
      rw [if_neg (by simpa using h1)]
      rfl
    · simp only; omega
    · intro _
      refine ⟨b, o + 1, rfl, hb, fun j u hu => ?_⟩
      have := hc (j + 1) u (by simpa [svs] using hu)
      rw [show o + 1 + j = o + (j + 1) by omega]
      exact this
    · simp only; omega

/-! the fields -/
theorem src_two (w1 : World) (o : Obj) (f v : ByteArray) : Src ((w1.alloc o).alloc (.cells #[.string f, .string v] 40)) 2 (some ⟨w1.heap.size + 1, 0, none⟩) 1 1 (fvs [(f, v)]) := by
  have := src_one (w1.alloc o) 40 (fvs [(f, v)]) 1 2 rfl
  rw [show (w1.alloc o).heap.size = w1.heap.size + 1 by simp] at this
  exact this
/-- the slice lies in memory that the call made -/
def Fresh (w : World) (S : Sli) : Prop := ∀ ad, S.A = some ad → w.heap.size ≤ ad.block
theorem fresh_nil (w : World) : Fresh w ⟨none, 0, 0⟩ := fun _ h => by cases h
theorem Row.fresh {w wr : World} {e : TypeId} {sz : Nat} {S : Sli} {cs : List Value} (h : Row wr w.heap.size e sz S cs) : Fresh w S := by
  intro ad hA
  rcases h.2 with ⟨h1, _⟩ | ⟨g, cap, cur, h1, hb, _⟩
  · simp only [Value.slice.injEq] at h1
    rw [h1.1] at hA
    cases hA
  · simp only [Value.slice.injEq] at h1
    rw [h1.1] at hA
    obtain rfl := Option.some.inj hA
    exact hb
/-- fields and an error are handed back -/
def PfEnds (q : List (Bs × Bs) × Int) (w : World) (e : Ending) (w' : World) : Prop :=
  ∃ (S : Sli) (fs : List Fd), e = .returned (.tuple #[.slice S.A S.n S.c, .int .i64 q.2]) ∧ dls fs = q.1 ∧ Fs w' S fs ∧ Fresh w S ∧ Below w.heap.size w w'
theorem fs_nil (w : World) : Fs w ⟨none, 0, 0⟩ [] := ⟨rfl, fun h => absurd h (by simp [fvs]), fun _ => rfl, Nat.le_refl _, Nat.zero_le _⟩
theorem dls_app (fs : List Fd) (x y : ByteArray) : dls (fs ++ [(x, y)]) = dls fs ++ [(dl x, dl y)] := by simp [dls]
/-- texts of no more than so many bytes -/
def FewS (xs : List ByteArray) : Prop := ∀ x ∈ xs, x.size ≤ 4096
theorem map_drop {xs : List ByteArray} {k : Nat} {x : ByteArray} (h : xs[k]? = some x) : (xs.drop k).map dl = dl x :: (xs.drop (k + 1)).map dl := by
  obtain ⟨h1, h2⟩ := List.getElem?_eq_some_iff.1 h
  rw [List.drop_eq_getElem_cons h1, h2]
  rfl

set_option maxRecDepth 100000 in
set_option maxHeartbeats 2000000 in
theorem pf_any (A : Option Addr) (n c : Nat) (xs : List ByteArray) (w : World) (hL : Ss w ⟨A, n, c⟩ xs) (hn : n ≤ 4096) (hf : FewS xs) : Calls Tryz.prog 128 #[.slice A n c] w (PfEnds (pfL [] (xs.map dl)) w) := by
  obtain ⟨i32, hi, hz0, hz1, hz2⟩ := info_parts info32
  have HF := Lib.hid hf
  have HL := Lib.hid hL
  have hlen : Hid (xs.length = n) := Lib.hid hL.len
  clear hf hL
  go_enter Tryz.func128, Tryz.ntmps128
  go_wp2_with fail
  go_loopw [11, 4] (fun i o wr => ∃ (k : Nat) (O : Sli) (fs : List Fd), k ≤ n ∧ k ≤ 20 ∧ O.n = k ∧ i = .int .i64 (k : Int) ∧ o = .slice O.A O.n O.c ∧ Hid (fs.length = k ∧ pfL [] (xs.map dl) = pfL (dls fs) ((xs.drop k).map dl)) ∧ Hid (Out 40 2 w wr O (fvs fs))) (fun i _ _ => n - (intOf i).toNat)
  case atStart => exact ⟨0, ⟨none, 0, 0⟩, [], Nat.zero_le _, by omega, rfl, rfl, rfl, Lib.hid ⟨rfl, rfl⟩, Lib.hid (Out.nil _ _ _ _ (Below.refl _ _))⟩
  case round =>
    obtain ⟨k, O, fs, hk, hk20, hO, rfl, rfl, HX, HO⟩ := hrel
    obtain ⟨OA, On, Oc⟩ := O
    simp only at hO
    subst hO
    by_cases hlt : On < n
    · obtain ⟨b, o, x, hA, hb, hx, c1⟩ := (HL.out.up HO.out.hb).cell (k := On) hlt
      simp only at hA
      subst hA
      have HP := Lib.hid (fun W => parse_any x (HF.out _ (List.mem_of_getElem? hx)) W)
      have HS : Hid (pfL [] (xs.map dl) = if (dls fs).length = 20 then ([], 2) else if (parse3 (dl x)).2.2 = 0 then pfL (dls fs ++ [((parse3 (dl x)).1, (parse3 (dl x)).2.1)]) ((xs.drop (On + 1)).map dl) else ([], (parse3 (dl x)).2.2)) := Lib.hid (by rw [HX.out.2, map_drop hx, pfL])
      clear hx
      have hki : (On : Int) < (n : Int) := by omega
      have hk0 : (0 : Int) ≤ (On : Int) := by omega
      by_cases h20 : On = 20
      · have HE : Hid (pfL [] (xs.map dl) = ([], 2)) := Lib.hid (by rw [HS.out, if_pos (by rw [List.length_map, HX.out.1]; exact h20)])
        subst h20
        clear HS
        go_wp2
        refine bodyPost_ret (v := .tuple #[.slice none 0 0, .int .i64 2]) (by simp [results, Tryz.results128, go_sem]) rfl ?_
        exact ⟨⟨none, 0, 0⟩, [], by rw [HE.out], by rw [HE.out]; rfl, fs_nil _, fresh_nil _, HO.out.hb⟩
      · have e20 : ((On : Int) == 20) = false := beq_eq_false_iff_ne.2 (by omega)
        have HS2 : Hid (pfL [] (xs.map dl) = if (parse3 (dl x)).2.2 = 0 then pfL (dls fs ++ [((parse3 (dl x)).1, (parse3 (dl x)).2.1)]) ((xs.drop (On + 1)).map dl) else ([], (parse3 (dl x)).2.2)) := Lib.hid (by rw [HS.out, if_neg (by rw [List.length_map, HX.out.1]; exact h20)])
        clear HS
        go_wp2_with fail
        refine (HP.out _).mono ?_
        rintro e w1 ⟨f, v, ce, rfl, hfv, hvv, hce, hb1⟩
        rw [← hfv, ← hvv, ← hce] at HS2
        clear hfv hvv hce
        have HO1 := Lib.hid (HO.out.up (bon hb1 (ba1 w1 (.cells #[.string f, .string v] 40))))
        clear HO hb1
        by_cases hc0 : ce = 0
        · subst hc0
          have HS3 : Hid (pfL [] (xs.map dl) = pfL (dls (fs ++ [(f, v)])) ((xs.drop (On + 1)).map dl)) := Lib.hid (by rw [HS2.out, if_pos rfl, dls_app])
          clear HS2
          have HSrc : Hid (Src ((w1.alloc (.cells #[.string f, .string v] 40)).alloc (.cells #[.string f, .string v] 40)) 2 (some ⟨w1.heap.size + 1, 0, none⟩) 1 1 (fvs [(f, v)])) := Lib.hid (src_two w1 _ f v)
          have HO2 := Lib.hid (HO1.out.up (ba1 (w1.alloc (.cells #[.string f, .string v] 40)) (.cells #[.string f, .string v] 40)))
          have hBw : w.heap.size ≤ ((w1.alloc (.cells #[.string f, .string v] 40)).alloc (.cells #[.string f, .string v] 40)).heap.size := HO2.out.le
          clear HO1
          go_wp2_with (at_builtin; refine wpList_app _ rfl _ _ 27 rfl w.heap.size 40 i32 _ 2 32 (by decide) Tryz.underlying27 hi hz0 hz1 hz2 rfl (.slice OA On Oc) On (fvs fs) rfl HO2.out.row (some ⟨w1.heap.size + 1, 0, none⟩) 1 1 (fvs [(f, v)]) rfl HSrc.out (fvs_one _) ?_ ?_ hBw (On + 1) rfl ?_; (unfold maxLen; omega); omega; intro A' c' w3 h1 h2 h3; refine Hid.out ?_)
          have HO3 := Lib.hid (HO2.out.app (cs' := fvs (fs ++ [(f, v)])) (by rw [fvs_app]; exact h1) h2)
          clear h1 h2 h3 HO2 HSrc
          refine Lib.hid ?_
          go_wp2
          go_roundw
          case rel => exact ⟨On + 1, ⟨A', On + 1, c'⟩, fs ++ [(f, v)], by omega, by omega, rfl, by go_num, rfl, Lib.hid ⟨by rw [List.length_append, HX.out.1]; rfl, HS3.out⟩, HO3⟩
          case measure => simp [intOf]; omega
        · have HE : Hid (pfL [] (xs.map dl) = ([], ce)) := Lib.hid (by rw [HS2.out, if_neg hc0])
          have e0 : (ce != 0) = true := bne_iff_ne.2 hc0
          clear hc0 HS2
          go_wp2
          refine bodyPost_ret (v := .tuple #[.slice none 0 0, .int .i64 ce]) (by simp [results, Tryz.results128, go_sem]) rfl ?_
          exact ⟨⟨none, 0, 0⟩, [], by rw [HE.out], by rw [HE.out]; rfl, fs_nil _, fresh_nil _, HO1.out.hb⟩
    · obtain rfl : On = n := by omega
      have HE : Hid (pfL [] (xs.map dl) = (dls fs, 0)) := Lib.hid (by rw [HX.out.2, List.drop_of_length_le (by rw [hlen.out]; exact Nat.le_refl _)]; rfl)
      go_wp2
      refine bodyPost_ret (v := .tuple #[.slice OA On Oc, .int .i64 0]) (by simp [results, Tryz.results128, go_sem]) rfl ?_
      exact ⟨⟨OA, On, Oc⟩, fs, by rw [HE.out], by rw [HE.out], HO.out.row.fs, HO.out.row.fresh, HO.out.hb⟩

end Go.Proofs.YtdlihfbaepjliaaGreatDoor
