/-
  The walks of the document's own Right, size and line.
-/
import Derived.Test.YtdlihfbaepjliaaGreatDoorNRef2
import Derived.Test.YtdlihfbaepjliaaGreatDoorJRefI
import Derived.Test.YtdlihfbaepjliaaGreatDoorProg
import Derived.Lib.SlTrimSet
import Derived.WalkKit
import Derived.Lib.Split
import Derived.WalkSpells
import Derived.WalkLawsBesides
import Derived.WalkSmall
import Derived.Lib.Hide
import Derived.IntWalk
import Derived.BigQuiet
import Derived.Laws.OwnMore
import Derived.Deep.AppendLies
import Derived.Deep.RegionLaw
import Derived.Deep.Upon
import Derived.Deep.DeepCutAuto
import Derived.Lib.IndexLaws
import Derived.Shelf.LaysM
import Derived.Shelf.Small.Strs
import Derived.Shelf.Small.Wraps
import Derived.Shelf.Strings.Search1
import Derived.Shelf.Strings.Search2
import Derived.Shelf.Strings.SlTrimAscii
import Derived.Shelf.Strings.Split
import Derived.Shelf.Strings.Prefix
import Derived.Shelf.Strconv.Itoa4
import Derived.Lib.SmallJoins
import Derived.Lib.LaidTab
import Derived.Lib.AppendIntMem
import Derived.Lib.IndexAny
import Derived.RangeFuncNested
import Derived.RangeFuncBound
import Derived.RangeFuncCalls
import Derived.RangeFuncLeaves
import Derived.Shelf.Abstract
import Derived.Shelf.RegionOpen
import Derived.OwnWalkIn
import Derived.TacticsInMore
import Derived.LoopNIn
import Derived.LoopIn
import Derived.Maps.AppendAt
import Derived.Deep.RegionHeld3
namespace Go.Proofs.YtdlihfbaepjliaaGreatDoor
open Go.RowKit

def ckOf (s l : Int) (ln : ByteArray) (m : Int) : Ck := ⟨s, l, dl ln, m⟩
theorem Box.four {w : World} {g : Nat} {ty : TypeId} {a b c d : Value} (h : Box w g ty #[a, b, c, d]) : w.cell? ⟨g, 0, none⟩ = some a ∧ w.cell? ⟨g, 1, none⟩ = some b ∧ w.cell? ⟨g, 2, none⟩ = some c ∧ w.cell? ⟨g, 3, none⟩ = some d := ⟨h.c 0 rfl, h.c 1 rfl, h.c 2 rfl, h.c 3 rfl⟩
theorem Box.fourf {w : World} {g : Nat} {ty : TypeId} {cs : Array Value} (h : Box w g ty cs) : w.frozen? ⟨g, 0, none⟩ = false ∧ w.frozen? ⟨g, 1, none⟩ = false ∧ w.frozen? ⟨g, 2, none⟩ = false ∧ w.frozen? ⟨g, 3, none⟩ = false := ⟨h.f 0, h.f 1, h.f 2, h.f 3⟩
theorem Box.set4 {w : World} {g : Nat} {ty : TypeId} {a b c d : Value} (h : Box w g ty #[a, b, c, d]) (u0 u1 u2 u3 : Value) :
    Box ((((w.setCell ⟨g, 0, none⟩ u0).setCell ⟨g, 1, none⟩ u1).setCell ⟨g, 2, none⟩ u2).setCell ⟨g, 3, none⟩ u3) g ty #[u0, u1, u2, u3] := by
  have := (((h.set 0 u0).set 1 u1).set 2 u2).set 3 u3
  simpa using this
theorem below_set4 {B : Nat} {a w : World} (h : Below B a w) {g : Nat} (hg : B ≤ g) (u0 u1 u2 u3 : Value) :
    Below B a ((((w.setCell ⟨g, 0, none⟩ u0).setCell ⟨g, 1, none⟩ u1).setCell ⟨g, 2, none⟩ u2).setCell ⟨g, 3, none⟩ u3) :=
  (((h.setCell (p := ⟨g, 0, none⟩) hg _).setCell (p := ⟨g, 1, none⟩) hg _).setCell (p := ⟨g, 2, none⟩) hg _).setCell (p := ⟨g, 3, none⟩) hg _

theorem ok_iff (s l : Int) (ln : ByteArray) (m : Int) : okC (ckOf s l ln m) ↔ (0 ≤ s ∧ s ≤ 4 ∧ 0 ≤ l ∧ l ≤ 4000 ∧ ln.size ≤ 200 ∧ 0 ≤ m ∧ m ≤ 4000 ∧ (s = 1 ↔ 0 < l) ∧ (ln.size = 0 ∨ (s ≠ 1 ∧ s ≠ 4))) := by
  unfold okC ckOf
  simp only [dl_len]
  have : dl ln = [] ↔ ln.size = 0 := ⟨fun h => by rw [← dl_len, h]; rfl, dl_nil⟩
  rw [this]

set_option maxRecDepth 100000 in
set_option maxHeartbeats 4000000 in
theorem rckright_any (s l : Int) (ln : ByteArray) (m : Int) (w : World) : Calls Tryz.prog 48 #[.agg #[.int .i64 s, .int .i64 l, .string ln, .int .i64 m]] w (BoolEnds (decide (okC (ckOf s l ln m))) w) := by
  have HI := Lib.hid (ok_iff s l ln m)
  obtain ⟨Q, hQ⟩ : ∃ Q, decide (okC (ckOf s l ln m)) = Q := ⟨_, rfl⟩
  rw [hQ]
  have HD := Lib.hid hQ.symm
  clear hQ
  have hemp := isEmp (s := ln)
  have hcase : (s < 0 ∧ Q = false) ∨ (0 ≤ s ∧ 4 < s ∧ Q = false) ∨ (0 ≤ s ∧ s ≤ 4 ∧ l < 0 ∧ Q = false) ∨ (0 ≤ s ∧ s ≤ 4 ∧ 0 ≤ l ∧ 4000 < l ∧ Q = false) ∨ (0 ≤ s ∧ s ≤ 4 ∧ 0 ≤ l ∧ l ≤ 4000 ∧ 200 < ln.size ∧ Q = false) ∨ (0 ≤ s ∧ s ≤ 4 ∧ 0 ≤ l ∧ l ≤ 4000 ∧ ln.size ≤ 200 ∧ m < 0 ∧ Q = false) ∨ (0 ≤ s ∧ s ≤ 4 ∧ 0 ≤ l ∧ l ≤ 4000 ∧ ln.size ≤ 200 ∧ 0 ≤ m ∧ 4000 < m ∧ Q = false) ∨ (0 ≤ s ∧ s ≤ 4 ∧ 0 ≤ l ∧ l ≤ 4000 ∧ ln.size ≤ 200 ∧ 0 ≤ m ∧ m ≤ 4000 ∧ Q = (decide (s = 1 ↔ 0 < l) && decide (ln.size = 0 ∨ (s ≠ 1 ∧ s ≠ 4)))) := by
    by_cases h1 : 0 ≤ s ∧ s ≤ 4 ∧ 0 ≤ l ∧ l ≤ 4000 ∧ ln.size ≤ 200 ∧ 0 ≤ m ∧ m ≤ 4000
    · obtain ⟨a1, a2, a3, a4, a5, a6, a7⟩ := h1
      refine .inr (.inr (.inr (.inr (.inr (.inr (.inr ⟨a1, a2, a3, a4, a5, a6, a7, ?_⟩))))))
      rw [HD.out, Bool.eq_iff_iff, Bool.and_eq_true, decide_eq_true_eq, decide_eq_true_eq, decide_eq_true_eq, HI.out]
      exact ⟨fun h => h.2.2.2.2.2.2.2, fun h => ⟨a1, a2, a3, a4, a5, a6, a7, h⟩⟩
    · have hf : Q = false := by
        rw [HD.out, decide_eq_false_iff_not, HI.out]
        exact fun h => h1 ⟨h.1, h.2.1, h.2.2.1, h.2.2.2.1, h.2.2.2.2.1, h.2.2.2.2.2.1, h.2.2.2.2.2.2.1⟩
      rw [hf]
      simp only [and_true]
      omega
  clear HD HI
  rcases hcase with ⟨h1, rfl⟩ | ⟨h1, h2, rfl⟩ | ⟨h1, h2, h3, rfl⟩ | ⟨h1, h2, h3, h4, rfl⟩ | ⟨h1, h2, h3, h4, h5, rfl⟩ | ⟨h1, h2, h3, h4, h5, h6, rfl⟩ | ⟨h1, h2, h3, h4, h5, h6, h7, rfl⟩ | ⟨h1, h2, h3, h4, h5, h6, h7, hQ⟩
  iterate 7
    · go_enter Tryz.func48, Tryz.ntmps48
      go_wp2
      go_ret
      exact ⟨by first | rfl | simp, ba1 _ _⟩
  have HQ := Lib.hid hQ
  clear hQ
  have hcase : (s = 1 ∧ 0 < l) ∨ (s = 1 ∧ ¬ 0 < l) ∨ (s ≠ 1 ∧ 0 < l) ∨ (s = 4 ∧ ¬ 0 < l) ∨ (s ≠ 1 ∧ s ≠ 4 ∧ ¬ 0 < l) := by omega
  by_cases hz : ln.size = 0
  · rw [decide_eq_true hz] at hemp
    rcases hcase with ⟨rfl, b⟩ | ⟨rfl, b⟩ | ⟨a, b⟩ | ⟨rfl, b⟩ | ⟨a, d, b⟩
    · have HV : Hid (Q = true) := Lib.hid (by rw [HQ.out]; simp [b, hz])
      go_enter Tryz.func48, Tryz.ntmps48
      go_wp2
      go_ret
      exact ⟨ret_bool (by rw [HV.out]; try rfl), ba1 _ _⟩
    · have HV : Hid (Q = false) := Lib.hid (by rw [HQ.out]; simp [b])
      go_enter Tryz.func48, Tryz.ntmps48
      go_wp2
      go_ret
      exact ⟨ret_bool (by rw [HV.out]; try rfl), ba1 _ _⟩
    · have HV : Hid (Q = false) := Lib.hid (by rw [HQ.out]; simp [a, b])
      have a1 : (s == 1) = false := beq_eq_false_iff_ne.2 a
      clear a
      go_enter Tryz.func48, Tryz.ntmps48
      go_wp2
      go_ret
      exact ⟨ret_bool (by rw [HV.out]; try rfl), ba1 _ _⟩
    · have HV : Hid (Q = true) := Lib.hid (by rw [HQ.out]; simp [b, hz])
      go_enter Tryz.func48, Tryz.ntmps48
      go_wp2
      go_ret
      exact ⟨ret_bool (by rw [HV.out]; try rfl), ba1 _ _⟩
    · have HV : Hid (Q = true) := Lib.hid (by rw [HQ.out]; simp [a, b, hz])
      have a1 : (s == 1) = false := beq_eq_false_iff_ne.2 a
      clear a d
      go_enter Tryz.func48, Tryz.ntmps48
      go_wp2
      go_ret
      exact ⟨ret_bool (by rw [HV.out]; try rfl), ba1 _ _⟩
  · rw [decide_eq_false hz] at hemp
    rcases hcase with ⟨rfl, b⟩ | ⟨rfl, b⟩ | ⟨a, b⟩ | ⟨rfl, b⟩ | ⟨a, d, b⟩
    · have HV : Hid (Q = false) := Lib.hid (by rw [HQ.out]; simp [hz])
      go_enter Tryz.func48, Tryz.ntmps48
      go_wp2
      go_ret
      exact ⟨ret_bool (by rw [HV.out]; try rfl), ba1 _ _⟩
    · have HV : Hid (Q = false) := Lib.hid (by rw [HQ.out]; simp [b])
      go_enter Tryz.func48, Tryz.ntmps48
      go_wp2
      go_ret
      exact ⟨ret_bool (by rw [HV.out]; try rfl), ba1 _ _⟩
    · have HV : Hid (Q = false) := Lib.hid (by rw [HQ.out]; simp [a, b])
      have a1 : (s == 1) = false := beq_eq_false_iff_ne.2 a
      clear a
      go_enter Tryz.func48, Tryz.ntmps48
      go_wp2
      go_ret
      exact ⟨ret_bool (by rw [HV.out]; try rfl), ba1 _ _⟩
    · have HV : Hid (Q = false) := Lib.hid (by rw [HQ.out]; simp [hz])
      go_enter Tryz.func48, Tryz.ntmps48
      go_wp2
      go_ret
      exact ⟨ret_bool (by rw [HV.out]; try rfl), ba1 _ _⟩
    · have HV : Hid (Q = true) := Lib.hid (by rw [HQ.out]; simp [a, b, d])
      have a1 : (s == 1) = false := beq_eq_false_iff_ne.2 a
      have a2 : (s != 1) = true := bne_iff_ne.2 a
      have d2 : (s != 4) = true := bne_iff_ne.2 d
      clear a d
      go_enter Tryz.func48, Tryz.ntmps48
      go_wp2
      go_ret
      exact ⟨ret_bool (by rw [HV.out]; try rfl), ba1 _ _⟩

theorem bef_take {l : Bs} {k : Nat} (hk : k ≤ l.length) (hn : ∀ j, j < k → l[j]? ≠ some 59) (he : k = l.length ∨ l[k]? = some 59) : befL 59 l = l.take k := by
  rcases he with rfl | he
  · rw [List.take_length]
    exact (cut_none hn).1
  · exact (cut_at he hn).1

set_option maxRecDepth 100000 in
set_option maxHeartbeats 2000000 in
theorem rcksize_any (s : ByteArray) (hs : s.size ≤ 4096) (w : World) : Calls Tryz.prog 101 #[.string s] w fun e w' => e = .returned (.tuple #[.int .i64 (sizeN (dl s)).1, .int .i64 (sizeN (dl s)).2]) ∧ w' = w := by
  obtain ⟨Q, hQ⟩ : ∃ Q, sizeN (dl s) = Q := ⟨_, rfl⟩
  rw [hQ]
  have HD := Lib.hid hQ.symm
  clear hQ
  go_enter Tryz.func101, Tryz.ntmps101
  go_wp2_with fail
  go_loopw [4] (fun i wr => ∃ k : Nat, k ≤ s.size ∧ i = .int .i64 (k : Int) ∧ Hid (∀ j, j < k → (dl s)[j]? ≠ some 59) ∧ w = wr) (fun i _ => s.size - (intOf i).toNat)
  case atStart => exact ⟨0, Nat.zero_le _, rfl, Lib.hid (fun j hj => by omega), rfl⟩
  case round =>
    obtain ⟨k, hk, rfl, HN, rfl⟩ := hrel
    by_cases hgo : ∃ hlt : k < s.size, s[k] ≠ 59
    · obtain ⟨hlt, hne⟩ := hgo
      have HN2 : Hid (∀ j, j < k + 1 → (dl s)[j]? ≠ some 59) := Lib.hid (fun j hj => by
        by_cases hjk : j = k
        · subst hjk
          rw [dl_at hlt]
          exact fun h => hne (Option.some.inj h)
        · exact HN.out j (by omega))
      have e1 : (((s[k]).toNat : Int) != 59) = true := bne_iff_ne.2 (fun he => hne (UInt8.toNat_inj.1 (by
        have h59 : (59 : UInt8).toNat = 59 := rfl
        omega)))
      obtain ⟨n, hn'⟩ : ∃ n, (s[k]).toNat = n := ⟨_, rfl⟩
      rw [hn'] at e1
      clear hne
      go_wp2
      go_roundw
      case rel => exact ⟨k + 1, by omega, by go_num, HN2, trivial⟩
      case measure => simp [intOf]; omega
    · have HB : Hid (befL 59 (dl s) = dl (s.extract 0 k)) := Lib.hid (by
        rw [bef_take (by rw [dl_len]; exact hk) HN.out ?_, dl_ext, List.drop_zero]
        by_cases hlt : k < s.size
        · right
          rw [dl_at hlt, Classical.not_not.1 (fun hne => hgo ⟨hlt, hne⟩)]
        · left
          rw [dl_len]
          omega)
      have HTr := Lib.hid (fun W => rtrim_any (s.extract 0 k) (by rw [ByteArray.size_extract]; omega) W)
      have hgo' : ¬ k < s.size ∨ ∃ hlt : k < s.size, (s[k]).toNat = 59 := by
        by_cases hlt : k < s.size
        · exact .inr ⟨hlt, by rw [Classical.not_not.1 (fun hne => hgo ⟨hlt, hne⟩)]; rfl⟩
        · exact .inl hlt
      clear hgo HN
      rcases hgo' with hlt | ⟨hlt, h59⟩
      all_goals
        go_wp2_with fail
        refine (HTr.out _).mono ?_
        rintro e w' ⟨t, rfl, ht, rfl⟩
        have hts : t.size ≤ 4096 := by
          have h1 := trim_len (dl (s.extract 0 k))
          rw [← ht, dl_len, dl_len, ByteArray.size_extract] at h1
          omega
        have HE : Hid (Q = if (parseN (dl t) 16).2 = 1 then (0, 23) else if (parseN (dl t) 16).2 ≠ 0 then (0, 2) else ((parseN (dl t) 16).1, 0)) := Lib.hid (by rw [HD.out, sizeN, HB.out, ← ht])
        obtain ⟨p, hp⟩ : ∃ p, parseN (dl t) 16 = p := ⟨_, rfl⟩
        have HP2 : Hid (∀ W, Calls Tryz.prog 118 #[.string t, .int .i64 16] W fun e w' => e = .returned (.tuple #[.int .i64 p.1, .int .i64 p.2]) ∧ w' = W) := Lib.hid (fun W => by rw [← hp]; exact Nm.rparse_any t 16 W (by unfold maxLen; omega))
        rw [hp] at HE
        clear hp ht HD HB HTr
        obtain ⟨v, er⟩ := p
        simp only at HE HP2
        go_wp2_with fail
        refine (HP2.out _).mono ?_
        rintro e w1 ⟨rfl, rfl⟩
        by_cases e1 : er = 1
        · have HV : Hid (Q = (0, 23)) := Lib.hid (by rw [HE.out, if_pos e1])
          subst e1
          go_wp2
          refine bodyPost_ret (v := .tuple #[.int .i64 0, .int .i64 23]) (by simp [results, Tryz.results101, go_sem]) rfl ?_
          exact ⟨by rw [HV.out], rfl⟩
        · have t1 : (er == 1) = false := beq_eq_false_iff_ne.2 e1
          by_cases e0 : er = 0
          · have HV : Hid (Q = (v, 0)) := Lib.hid (by rw [HE.out, if_neg e1, if_neg (by simp [e0])])
            subst e0
            clear e1 t1
            go_wp2
            refine bodyPost_ret (v := .tuple #[.int .i64 v, .int .i64 0]) (by simp [results, Tryz.results101, go_sem]) rfl ?_
            exact ⟨by rw [HV.out], rfl⟩
          · have HV : Hid (Q = (0, 2)) := Lib.hid (by rw [HE.out, if_neg e1, if_pos e0])
            have t0 : (er != 0) = true := bne_iff_ne.2 e0
            go_wp2
            refine bodyPost_ret (v := .tuple #[.int .i64 0, .int .i64 2]) (by simp [results, Tryz.results101, go_sem]) rfl ?_
            exact ⟨by rw [HV.out], rfl⟩
end Go.Proofs.YtdlihfbaepjliaaGreatDoor
