/-
  The walk of the document's own Feed.
-/
import Derived.Test.YtdlihfbaepjliaaGreatDoorJCkL
import Derived.Test.YtdlihfbaepjliaaGreatDoorProg
import Derived.Lib.SlTrimSet
import Derived.WalkKit
import Derived.Lib.Split
import Derived.WalkSpells
import Derived.WalkLawsBesides
import Derived.WalkSmall
import Derived.Lib.Hide
import Derived.IntWalk
import Derived.BigQuiet
import Derived.Laws.OwnMore
import Derived.Deep.AppendLies
import Derived.Deep.RegionLaw
import Derived.Deep.Upon
import Derived.Deep.DeepCutAuto
import Derived.Lib.IndexLaws
import Derived.Shelf.LaysM
import Derived.Shelf.Small.Strs
import Derived.Shelf.Small.Wraps
import Derived.Shelf.Strings.Search1
import Derived.Shelf.Strings.Search2
import Derived.Shelf.Strings.SlTrimAscii
import Derived.Shelf.Strings.Split
import Derived.Shelf.Strings.Prefix
import Derived.Shelf.Strconv.Itoa4
import Derived.Lib.SmallJoins
import Derived.Lib.LaidTab
import Derived.Lib.AppendIntMem
import Derived.Lib.IndexAny
import Derived.RangeFuncNested
import Derived.RangeFuncBound
import Derived.RangeFuncCalls
import Derived.RangeFuncLeaves
import Derived.Shelf.Abstract
import Derived.Shelf.RegionOpen
import Derived.OwnWalkIn
import Derived.TacticsInMore
import Derived.LoopNIn
import Derived.LoopIn
import Derived.Maps.AppendAt
import Derived.Deep.RegionHeld3
namespace Go.Proofs.YtdlihfbaepjliaaGreatDoor
open Go.RowKit

/-- chunks, a number, a text and an error are handed back -/
def FeedEnds (q : Ck × Nat × Bs × Int) (w : World) (e : Ending) (w' : World) : Prop :=
  ∃ ln body : ByteArray, e = .returned (.tuple #[.agg #[.int .i64 q.1.s, .int .i64 q.1.l, .string ln, .int .i64 q.1.m], .int .i64 (q.2.1 : Int), .string body, .int .i64 q.2.2.2]) ∧ dl ln = q.1.ln ∧ dl body = q.2.2.1 ∧ Below w.heap.size w w'
/-- what holds of the chunks while bytes are read -/
def InvF (c : Ck) : Prop := 0 ≤ c.l ∧ c.l ≤ 4000 ∧ 0 ≤ c.m ∧ c.m + c.l ≤ 8000 ∧ c.ln.length ≤ 200 ∧ (c.s = 1 → 0 < c.l)
theorem inv_ok {c : Ck} (h : okC c) : InvF c := by
  obtain ⟨a1, a2, a3, a4, a5, a6, a7, a8, a9⟩ := h
  exact ⟨a3, a4, a6, by omega, a5, a8.1⟩
theorem inv_line {c : Ck} (h : InvF c) (l : Bs) (he : (lineC c l).2 = 0) : InvF (lineC c l).1 := by
  obtain ⟨a1, a2, a3, a4, a5, a6⟩ := h
  have hp := size_pos l
  revert he
  unfold lineC
  by_cases s0 : c.s = 0
  · rw [if_pos s0]
    by_cases e1 : (sizeN l).2 ≠ 0
    · rw [if_pos e1]
      exact fun h => absurd h e1
    · rw [if_neg e1]
      by_cases e2 : 4000 - c.m < (sizeN l).1
      · rw [if_pos e2]
        exact fun h => by cases h
      · rw [if_neg e2]
        intro _
        by_cases z : (sizeN l).1 = 0
        · simp only [InvF, z]
          simp
          omega
        · simp only [InvF, if_neg z]
          simp
          omega
  · rw [if_neg s0]
    by_cases s2 : c.s = 2
    · rw [if_pos s2]
      split
      · intro _
        simp [InvF]
        omega
      · exact fun h => by cases h
    · rw [if_neg s2]
      split
      · intro _
        simp [InvF]
        omega
      · split
        · intro _
          exact ⟨a1, a2, a3, a4, Nat.zero_le _, a6⟩
        · exact fun h => by cases h
theorem step_one (l : Int) (ln : Bs) (m : Int) (b : UInt8) : stepC ⟨1, l, ln, m⟩ b = (⟨if l - 1 = 0 then 2 else 1, l - 1, ln, m + 1⟩, [b], 0) := if_pos rfl
theorem step_line {s l : Int} {ln : Bs} {m : Int} {b : UInt8} (h1 : s ≠ 1) (he : endsL (ln ++ [b]) = true) : stepC ⟨s, l, ln, m⟩ b = ((lineC ⟨s, l, [], m⟩ ((ln ++ [b]).take (ln.length - 1))).1, [], (lineC ⟨s, l, [], m⟩ ((ln ++ [b]).take (ln.length - 1))).2) := by
  unfold stepC
  rw [if_neg h1, if_pos he]
  rfl
theorem step_long {s l : Int} {ln : Bs} {m : Int} {b : UInt8} (h1 : s ≠ 1) (he : ¬ endsL (ln ++ [b]) = true) (hl : 200 < ln.length + 1) : (stepC ⟨s, l, ln, m⟩ b).2.2 = 2 := by
  unfold stepC
  rw [if_neg h1, if_neg he, if_pos hl]
theorem step_more {s l : Int} {ln : Bs} {m : Int} {b : UInt8} (h1 : s ≠ 1) (he : ¬ endsL (ln ++ [b]) = true) (hl : ¬ 200 < ln.length + 1) : stepC ⟨s, l, ln, m⟩ b = (⟨s, l, ln ++ [b], m⟩, [], 0) := by
  unfold stepC
  rw [if_neg h1, if_neg he, if_neg hl]
theorem feed_cons {c : Ck} (h4 : c.s ≠ 4) (acc : Bs) (n : Nat) (b : UInt8) (r : Bs) : feedA c acc n (b :: r) = if (stepC c b).2.2 ≠ 0 then (c, n, acc, (stepC c b).2.2) else feedA (stepC c b).1 (acc ++ (stepC c b).2.1) (n + 1) r := by
  rw [feedA, if_neg h4]
theorem line_nil (c : Ck) (l : Bs) : (lineC c l).1.ln = [] := by
  unfold lineC
  repeat' split
  all_goals rfl
theorem tl_lit2 {y : ByteArray} {l : List UInt8} (h : dl y ≠ l) : (y.toList == l) = false := beq_eq_false_iff_ne.2 (fun e => h (by rw [← e, Go.ByteArray.toList_eq]))
/-- the chunks behind a line, and its error -/
def CutN (q : Ck × Int) (W : World) (v u : Value) (w' : World) : Prop :=
  ∃ gq : Nat, v = .pointer (some ⟨gq, 0, none⟩) ∧ u = .int .i64 q.2 ∧ Box w' gq 26 #[.int .i64 q.1.s, .int .i64 q.1.l, .string ⟨#[]⟩, .int .i64 q.1.m] ∧ W.heap.size ≤ gq ∧ Below W.heap.size W w'
theorem cutN_a {q : Ck × Int} {W wP : World} (hb : Below W.heap.size W wP) : CutN q W (.pointer (some ⟨wP.heap.size, 0, none⟩)) (.int .i64 q.2) (wP.alloc (.cells #[.int .i64 q.1.s, .int .i64 q.1.l, .string ⟨#[]⟩, .int .i64 q.1.m] 26)) :=
  ⟨_, rfl, rfl, Box.new _ _ _, hb.size, bon hb (ba1 _ _)⟩
theorem cutN_b {q : Ck × Int} {W wP : World} (bq : Box wP W.heap.size 26 #[.int .i64 0, .int .i64 0, .string ⟨#[]⟩, .int .i64 0]) (hb : Below W.heap.size W wP) : CutN q W (.pointer (some ⟨W.heap.size, 0, none⟩)) (.int .i64 q.2) ((((wP.setCell ⟨W.heap.size, 0, none⟩ (.int .i64 q.1.s)).setCell ⟨W.heap.size, 1, none⟩ (.int .i64 q.1.l)).setCell ⟨W.heap.size, 2, none⟩ (.string ⟨#[]⟩)).setCell ⟨W.heap.size, 3, none⟩ (.int .i64 q.1.m)) :=
  ⟨_, rfl, rfl, bq.set4 _ _ _ _, Nat.le_refl _, below_set4 hb (Nat.le_refl _) _ _ _ _⟩
theorem ends_iff {L : ByteArray} : endsL (dl L) = (decide (2 ≤ L.size) && decide (L.extract (L.size - 2) L.size = ⟨#[13, 10]⟩)) := by
  unfold endsL
  rw [dl_len]
  congr 1
  rw [decide_eq_decide]
  have e : dl (L.extract (L.size - 2) L.size) = (dl L).drop (L.size - 2) := by
    rw [dl_ext, List.take_of_length_le (by rw [dl_len]; exact Nat.le_refl _)]
  constructor
  · intro h
    exact dl_inj (by rw [e, h])
  · intro h
    rw [← e, h]

set_option maxRecDepth 100000 in
set_option maxHeartbeats 8000000 in
theorem rfeed_any (s l : Int) (ln : ByteArray) (m : Int) (S : ByteArray) (hS : S.size ≤ 140737488355328) (w : World) : Calls Tryz.prog 52 #[.agg #[.int .i64 s, .int .i64 l, .string ln, .int .i64 m], .string S] w (FeedEnds (feedC (ckOf s l ln m) (dl S)) w) := by
  obtain ⟨Q, hQ⟩ : ∃ Q, feedC (ckOf s l ln m) (dl S) = Q := ⟨_, rfl⟩
  rw [hQ]
  have HD := Lib.hid hQ.symm
  clear hQ
  have HR := Lib.hid (fun W => rckright_any s l ln m W)
  have HOk := Lib.hid (fun h : okC (ckOf s l ln m) => inv_ok h)
  have hb0 := ba2 w (.cells #[.int .i64 s, .int .i64 l, .string ln, .int .i64 m] 26) (.cells #[.int .i64 0, .int .i64 0, .string ⟨#[]⟩, .int .i64 0] 26)
  have bc := (Box.new w 26 #[.int .i64 s, .int .i64 l, .string ln, .int .i64 m]).alloc (.cells #[.int .i64 0, .int .i64 0, .string ⟨#[]⟩, .int .i64 0] 26)
  have br := Box.mk' (w.alloc (.cells #[.int .i64 s, .int .i64 l, .string ln, .int .i64 m] 26)) 26 #[.int .i64 0, .int .i64 0, .string ⟨#[]⟩, .int .i64 0] (w.heap.size + 1) (by simp)
  go_enter Tryz.func52, Tryz.ntmps52
  go_wp2_with fail
  obtain ⟨g, hg⟩ : ∃ g, w.heap.size = g := ⟨_, rfl⟩
  rw [hg] at bc br ⊢
  have HG : Hid (w.heap.size ≤ g + 1) := Lib.hid (by omega)
  clear hg
  generalize (w.alloc (.cells #[.int .i64 s, .int .i64 l, .string ln, .int .i64 m] 26)).alloc (.cells #[.int .i64 0, .int .i64 0, .string ⟨#[]⟩, .int .i64 0] 26) = W0 at *
  refine (HR.out _).mono ?_
  rintro e w1 ⟨rfl, hb1⟩
  have bc := bc.up hb1
  have br := br.up hb1
  have hbw := Lib.hid (bon hb0 hb1)
  clear hb0 hb1 HR
  obtain ⟨c0, c1, c2, c3⟩ := bc.four
  by_cases hok : okC (ckOf s l ln m)
  case neg =>
    rw [decide_eq_false hok]
    have HV : Hid (Q = (ckOf s l ln m, 0, [], 1)) := Lib.hid (by rw [HD.out, feedC, if_neg hok])
    clear hok
    have HQ := Lib.hid (br.set4 (.int .i64 (s)) (.int .i64 (l)) (.string ln) (.int .i64 (m))).four
    have HW := Lib.hid (below_set4 hbw.out (g := g + 1) HG.out (.int .i64 (s)) (.int .i64 (l)) (.string ln) (.int .i64 (m)))
    obtain ⟨k0, k1, k2, k3⟩ := br.four
    obtain ⟨f0, f1, f2, f3⟩ := br.fourf
    go_wp2
    obtain ⟨q0, q1, q2, q3⟩ := HQ.out
    refine bodyPost_ret (v := .tuple #[.agg #[.int .i64 (s), .int .i64 (l), .string ln, .int .i64 (m)], .int .i64 (0), .string ⟨#[]⟩, .int .i64 (1)]) (by simp [results, Tryz.results52, go_sem, q0, q1, q2, q3]) rfl ?_
    exact ⟨ln, ⟨#[]⟩, by rw [HV.out]; try rfl, by rw [HV.out]; try rfl, by rw [HV.out]; try rfl, HW.out⟩
  case pos =>
    rw [decide_eq_true hok]
    have hinv := HOk.out hok
    have HE : Hid (Q = if (feedA (ckOf s l ln m) [] 0 (dl S)).2.2.2 = 0 then feedA (ckOf s l ln m) [] 0 (dl S) else (ckOf s l ln m, 0, [], (feedA (ckOf s l ln m) [] 0 (dl S)).2.2.2)) := Lib.hid (by rw [HD.out, feedC, if_pos hok])
    have HI0 := Lib.hid hinv
    clear hok hinv HD HOk
    go_upto_region 4 with fail
    have hd := ba1 w1 (.cells #[.int .i64 s, .int .i64 l, .string ln, .int .i64 m] 26)
    have hgn := br.lt
    have bc1 := bc.up hd
    have br1 := br.up hd
    have hbw1 := Lib.hid (bon hbw.out hd)
    have bn := Box.new w1 26 #[.int .i64 s, .int .i64 l, .string ln, .int .i64 m]
    obtain ⟨gn, hg⟩ : ∃ g, w1.heap.size = g := ⟨_, rfl⟩
    rw [hg] at bn hgn ⊢
    clear hg hd c0 c1 c2 c3 bc br hbw
    generalize w1.alloc (.cells #[.int .i64 s, .int .i64 l, .string ln, .int .i64 m] 26) = W1 at *
    have HGN : Hid (w.heap.size ≤ gn) := Lib.hid (by have := HG.out; omega)
    obtain ⟨F0, hF0⟩ : ∃ F, feedA (ckOf s l ln m) [] 0 (dl S) = F := ⟨_, rfl⟩
    rw [hF0] at HE
    have HF0 := Lib.hid hF0
    clear hF0
    go_wp2_with fail
    go_loopw [10, 9] (fun i o wr => ∃ (k : Nat) (B : ByteArray) (s1 l1 : Int) (n1 : ByteArray) (m1 : Int), k ≤ S.size ∧ i = .int .i64 (k : Int) ∧ o = .string B ∧ B.size ≤ k ∧ Hid (InvF (ckOf s1 l1 n1 m1)) ∧ Hid (F0 = feedA (ckOf s1 l1 n1 m1) (dl B) k ((dl S).drop k)) ∧ Hid (Box wr gn 26 #[.int .i64 s1, .int .i64 l1, .string n1, .int .i64 m1]) ∧ Hid (Box wr g 26 #[.int .i64 s, .int .i64 l, .string ln, .int .i64 m]) ∧ Hid (Box wr (g + 1) 26 #[.int .i64 0, .int .i64 0, .string ⟨#[]⟩, .int .i64 0]) ∧ Hid (Below w.heap.size w wr)) (fun i _ _ => S.size - (intOf i).toNat)
    case atStart => exact ⟨0, ⟨#[]⟩, s, l, ln, m, Nat.zero_le _, rfl, rfl, Nat.le_refl _, HI0, Lib.hid (by rw [← HF0.out]; rfl), Lib.hid bn, Lib.hid bc1, Lib.hid br1, hbw1⟩
    case round =>
      obtain ⟨k, B, s1, l1, n1, m1, hk, rfl, rfl, hBk, HInv, HX, Hn, Hc, Hr, Hb⟩ := hrel
      obtain ⟨i1, i2, i3, i4, i5, i6⟩ := HInv.out
      simp only [ckOf, dl_len] at i1 i2 i3 i4 i5 i6
      have c1 := Hn.out.four
      obtain ⟨c0, c1, c2, c3⟩ := c1
      obtain ⟨d0, d1, d2, d3⟩ := Hn.out.fourf
      by_cases hgo : k < S.size ∧ s1 ≠ 4
      · obtain ⟨hlt, h4⟩ := hgo
        have h4b : (s1 != 4) = true := bne_iff_ne.2 h4
        have hki : (k : Int) < (S.size : Int) := by omega
        have hk0 : (0 : Int) ≤ (k : Int) := by omega
        have hk1 : (k : Int) + 1 ≤ (S.size : Int) := by omega
        have tk : IntKind.i64.wrap ((k : Int) + 1) = (k : Int) + 1 := IntWalk.i64_in _ (by omega)
        have tkn : ((k : Int) + 1).toNat = k + 1 := by omega
        have hxl : dl (S.extract k (k + 1)) = [S[k]] := by
          rw [dl_ext, List.take_add_one, dl_at hlt, List.drop_append_of_le_length (by rw [List.length_take, dl_len]; omega), List.drop_of_length_le (by rw [List.length_take]; omega)]
          rfl
        have hxs : (S.extract k (k + 1)).size = 1 := by rw [← dl_len, hxl]; rfl
        have hdrop : (dl S).drop k = S[k] :: (dl S).drop (k + 1) := by
          obtain ⟨z1, z2⟩ := List.getElem?_eq_some_iff.1 (dl_at hlt)
          rw [List.drop_eq_getElem_cons z1, z2]
        have HX1 : Hid (F0 = if (stepC ⟨s1, l1, dl n1, m1⟩ S[k]).2.2 ≠ 0 then (⟨s1, l1, dl n1, m1⟩, k, dl B, (stepC ⟨s1, l1, dl n1, m1⟩ S[k]).2.2) else feedA (stepC ⟨s1, l1, dl n1, m1⟩ S[k]).1 (dl B ++ (stepC ⟨s1, l1, dl n1, m1⟩ S[k]).2.1) (k + 1) ((dl S).drop (k + 1))) := Lib.hid (by
          rw [HX.out, hdrop, feed_cons (show (ckOf s1 l1 n1 m1).s ≠ 4 from h4)]
          rfl)
        have HXL := Lib.hid hxl
        clear hdrop hxl HX h4
        by_cases h1 : s1 = 1
        · subst h1
          have hl1 := i6 rfl
          have hsz : (B ++ S.extract k (k + 1)).size = B.size + 1 := by rw [ByteArray.size_append, hxs]
          have tl : IntKind.i64.wrap (l1 - 1) = l1 - 1 := IntWalk.i64_in _ (by omega)
          have tm : IntKind.i64.wrap (m1 + 1) = m1 + 1 := IntWalk.i64_in _ (by omega)
          have HX2 : Hid (F0 = feedA ⟨if l1 - 1 = 0 then 2 else 1, l1 - 1, dl n1, m1 + 1⟩ (dl (B ++ S.extract k (k + 1))) (k + 1) ((dl S).drop (k + 1))) := Lib.hid (by
            rw [HX1.out, step_one, if_neg (by simp), dl_app, HXL.out])
          clear HX1 HXL
          by_cases z : l1 - 1 = 0
          · obtain rfl : l1 = 1 := by omega
            have HX3 : Hid (F0 = feedA (ckOf 2 0 n1 (m1 + 1)) (dl (B ++ S.extract k (k + 1))) (k + 1) ((dl S).drop (k + 1))) := Lib.hid (by rw [HX2.out]; rfl)
            have HI2 : Hid (InvF (ckOf 2 0 n1 (m1 + 1))) := Lib.hid ⟨by show (0 : Int) ≤ 0; decide, by show (0 : Int) ≤ 4000; decide, by show 0 ≤ m1 + 1; omega, by show m1 + 1 + 0 ≤ 8000; omega, by simp only [ckOf, dl_len]; omega, fun h => absurd (show (2 : Int) = 1 from h) (by decide)⟩
            have Hn2 : Hid (Box (((wr.setCell ⟨gn, 1, none⟩ (.int .i64 0)).setCell ⟨gn, 3, none⟩ (.int .i64 (m1 + 1))).setCell ⟨gn, 0, none⟩ (.int .i64 2)) gn 26 #[.int .i64 2, .int .i64 0, .string n1, .int .i64 (m1 + 1)]) := Lib.hid (by
              have := ((Hn.out.set 1 (.int .i64 0)).set 3 (.int .i64 (m1 + 1))).set 0 (.int .i64 2)
              simpa using this)
            have Hc2 := Lib.hid (((Hc.out.far (p := ⟨gn, 1, none⟩) (by simp only; omega) (.int .i64 0)).far (p := ⟨gn, 3, none⟩) (by simp only; omega) (.int .i64 (m1 + 1))).far (p := ⟨gn, 0, none⟩) (by simp only; omega) (.int .i64 2))
            have Hr2 := Lib.hid (((Hr.out.far (p := ⟨gn, 1, none⟩) (by simp only; omega) (.int .i64 0)).far (p := ⟨gn, 3, none⟩) (by simp only; omega) (.int .i64 (m1 + 1))).far (p := ⟨gn, 0, none⟩) (by simp only; omega) (.int .i64 2))
            have Hb2 := Lib.hid (((Hb.out.setCell (p := ⟨gn, 1, none⟩) HGN.out (.int .i64 0)).setCell (p := ⟨gn, 3, none⟩) HGN.out (.int .i64 (m1 + 1))).setCell (p := ⟨gn, 0, none⟩) HGN.out (.int .i64 2))
            clear HX2 z Hn Hc Hr Hb HInv i6
            go_wp2
            go_roundw
            case rel => exact ⟨k + 1, B ++ S.extract k (k + 1), 2, 0, n1, m1 + 1, by omega, by go_num, rfl, by omega, HI2, HX3, Hn2, Hc2, Hr2, Hb2⟩
            case measure => simp [intOf]; omega
          · have zb : (l1 - 1 == 0) = false := beq_eq_false_iff_ne.2 z
            have HX3 : Hid (F0 = feedA (ckOf 1 (l1 - 1) n1 (m1 + 1)) (dl (B ++ S.extract k (k + 1))) (k + 1) ((dl S).drop (k + 1))) := Lib.hid (by rw [HX2.out, if_neg z]; rfl)
            have HI2 : Hid (InvF (ckOf 1 (l1 - 1) n1 (m1 + 1))) := Lib.hid ⟨by show 0 ≤ l1 - 1; omega, by show l1 - 1 ≤ 4000; omega, by show 0 ≤ m1 + 1; omega, by show m1 + 1 + (l1 - 1) ≤ 8000; omega, by simp only [ckOf, dl_len]; omega, fun _ => by show 0 < l1 - 1; omega⟩
            have Hn2 : Hid (Box ((wr.setCell ⟨gn, 1, none⟩ (.int .i64 (l1 - 1))).setCell ⟨gn, 3, none⟩ (.int .i64 (m1 + 1))) gn 26 #[.int .i64 1, .int .i64 (l1 - 1), .string n1, .int .i64 (m1 + 1)]) := Lib.hid (by
              have := (Hn.out.set 1 (.int .i64 (l1 - 1))).set 3 (.int .i64 (m1 + 1))
              simpa using this)
            have Hc2 := Lib.hid ((Hc.out.far (p := ⟨gn, 1, none⟩) (by simp only; omega) (.int .i64 (l1 - 1))).far (p := ⟨gn, 3, none⟩) (by simp only; omega) (.int .i64 (m1 + 1)))
            have Hr2 := Lib.hid ((Hr.out.far (p := ⟨gn, 1, none⟩) (by simp only; omega) (.int .i64 (l1 - 1))).far (p := ⟨gn, 3, none⟩) (by simp only; omega) (.int .i64 (m1 + 1)))
            have Hb2 := Lib.hid ((Hb.out.setCell (p := ⟨gn, 1, none⟩) HGN.out (.int .i64 (l1 - 1))).setCell (p := ⟨gn, 3, none⟩) HGN.out (.int .i64 (m1 + 1)))
            clear HX2 z Hn Hc Hr Hb HInv i6
            go_wp2
            go_roundw
            case rel => exact ⟨k + 1, B ++ S.extract k (k + 1), 1, l1 - 1, n1, m1 + 1, by omega, by go_num, rfl, by omega, HI2, HX3, Hn2, Hc2, Hr2, Hb2⟩
            case measure => simp [intOf]; omega
        · have h1b : (s1 == 1) = false := beq_eq_false_iff_ne.2 h1
          have hLs : (n1 ++ S.extract k (k + 1)).size = n1.size + 1 := by rw [ByteArray.size_append, hxs]
          have hLl : dl (n1 ++ S.extract k (k + 1)) = dl n1 ++ [S[k]] := by rw [dl_app, HXL.out]
          have kadd := fun W => run_string_add_sum (P := Tryz.prog) W n1 (S.extract k (k + 1)) (by omega)
          go_upto_region 14 with fail
          go_region
          obtain ⟨L, hL⟩ : ∃ L, n1 ++ S.extract k (k + 1) = L := ⟨_, rfl⟩
          rw [hL] at hLs hLl ⊢
          obtain ⟨nL, hnL⟩ : ∃ n, L.size = n := ⟨_, rfl⟩
          have hnL1 : nL = n1.size + 1 := by omega
          have hnb : nL ≤ 201 := by omega
          have hnb1 : 1 ≤ nL := by omega
          have HNL1 := Lib.hid hnL1
          clear hnL1
          have Hn2 : Box (wr.setCell ⟨gn, 2, none⟩ (.string L)).drew gn 26 #[.int .i64 s1, .int .i64 l1, .string L, .int .i64 m1] := by
            have := Hn.out.set 2 (.string L)
            show Box (wr.setCell ⟨gn, 2, none⟩ (.string L)) gn 26 #[.int .i64 s1, .int .i64 l1, .string L, .int .i64 m1]
            simpa using this
          have Hc2 : Box (wr.setCell ⟨gn, 2, none⟩ (.string L)).drew g 26 #[.int .i64 s, .int .i64 l, .string ln, .int .i64 m] := Hc.out.far (p := ⟨gn, 2, none⟩) (by simp only; omega) (.string L)
          have Hr2 : Box (wr.setCell ⟨gn, 2, none⟩ (.string L)).drew (g + 1) 26 #[.int .i64 0, .int .i64 0, .string ⟨#[]⟩, .int .i64 0] := Hr.out.far (p := ⟨gn, 2, none⟩) (by simp only; omega) (.string L)
          have Hb2 := Lib.hid ((Hb.out.setCell (p := ⟨gn, 2, none⟩) HGN.out (.string L)).drew)
          have HLL := Lib.hid hLl
          have HLs := Lib.hid hLs
          have HnL := Lib.hid hnL
          clear c0 c1 c2 c3 d0 d1 d2 d3 Hn Hc Hr Hb kadd hL hLl hLs HXL hxs
          generalize (wr.setCell ⟨gn, 2, none⟩ (.string L)).drew = W2 at *
          obtain ⟨c0, c1, c2, c3⟩ := Hn2.four
          obtain ⟨d0, d1, d2, d3⟩ := Hn2.fourf
          have tn2 : IntKind.i64.wrap ((nL : Int) - 2) = (nL : Int) - 2 := IntWalk.i64_in _ (by omega)
          by_cases hend : 2 ≤ nL ∧ L.extract (nL - 2) nL = ⟨#[13, 10]⟩
          · obtain ⟨h2, hex⟩ := hend
            have h2i : (2 : Int) ≤ (nL : Int) := by omega
            have tn3 : ((nL : Int) - 2).toNat = nL - 2 := by omega
            have tn4 : (0 : Int) ≤ (nL : Int) - 2 := by omega
            have tn5 : (nL : Int) - 2 ≤ (nL : Int) := by omega
            have HEn : Hid (endsL (dl n1 ++ [S[k]]) = true) := Lib.hid (by rw [← HLL.out, ends_iff, HnL.out, decide_eq_true h2, decide_eq_true hex]; rfl)
            have HTk : Hid (dl (L.extract 0 (nL - 2)) = (dl n1 ++ [S[k]]).take ((dl n1).length - 1)) := Lib.hid (by rw [dl_ext, List.drop_zero, HLL.out, dl_len]; congr 1; have := HNL1.out; omega)
            have HLn := Lib.hid (fun W => rckline_any s1 l1 L m1 (L.extract 0 (nL - 2)) (by rw [ByteArray.size_extract]; omega) (by omega) (by omega) W)
            have HIL := Lib.hid (fun he => inv_line (c := ⟨s1, l1, [], m1⟩) ⟨i1, i2, i3, i4, Nat.zero_le _, i6⟩ (dl (L.extract 0 (nL - 2))) he)
            have HX2 : Hid (F0 = if (lineC ⟨s1, l1, [], m1⟩ (dl (L.extract 0 (nL - 2)))).2 ≠ 0 then (⟨s1, l1, dl n1, m1⟩, k, dl B, (lineC ⟨s1, l1, [], m1⟩ (dl (L.extract 0 (nL - 2)))).2) else feedA (lineC ⟨s1, l1, [], m1⟩ (dl (L.extract 0 (nL - 2)))).1 (dl B) (k + 1) ((dl S).drop (k + 1))) := Lib.hid (by
              rw [HX1.out, step_line h1 HEn.out, ← HTk.out, List.append_nil])
            have HLnil : Hid ((lineC ⟨s1, l1, [], m1⟩ (dl (L.extract 0 (nL - 2)))).1.ln = []) := Lib.hid (line_nil _ _)
            have HL2 : Hid (∀ W, Calls Tryz.prog 82 #[.agg #[.int .i64 s1, .int .i64 l1, .string L, .int .i64 m1], .string (L.extract 0 (nL - 2))] W (LineEnds (lineC ⟨s1, l1, [], m1⟩ (dl (L.extract 0 (nL - 2)))) W)) := HLn
            generalize lineC ⟨s1, l1, [], m1⟩ (dl (L.extract 0 (nL - 2))) = q at *
            clear HX1 HLn HEn HTk HInv
            go_upto_region 18 with fail
            have e0 : ∀ o, (W2.alloc o).cell? ⟨gn, 0, none⟩ = some (.int .i64 s1) := fun o => (Hn2.alloc o).c 0 rfl
            have e1 : ∀ o, (W2.alloc o).cell? ⟨gn, 1, none⟩ = some (.int .i64 l1) := fun o => (Hn2.alloc o).c 1 rfl
            have e2 : ∀ o, (W2.alloc o).cell? ⟨gn, 2, none⟩ = some (.string L) := fun o => (Hn2.alloc o).c 2 rfl
            have e3 : ∀ o, (W2.alloc o).cell? ⟨gn, 3, none⟩ = some (.int .i64 m1) := fun o => (Hn2.alloc o).c 3 rfl
            go_cut [12, 13] (CutN q W2)
            case first =>
              go_region_law (first
                | (go_simp; go_at_call 82; refine (HL2.out _).mono ?_; rintro e wP ⟨rfl, hbP⟩; have bq : Box wP W2.heap.size 26 #[.int .i64 0, .int .i64 0, .string ⟨#[]⟩, .int .i64 0] := (by refine Box.up ?_ hbP; exact Box.new W2 26 #[.int .i64 0, .int .i64 0, .string ⟨#[]⟩, .int .i64 0]); have hbQ : Below W2.heap.size W2 wP := (by refine bon ?_ hbP; first | exact (ba1 W2 _).drew | exact ba1 W2 _); obtain ⟨k0, k1, k2, k3⟩ := bq.four; obtain ⟨f0, f1, f2, f3⟩ := bq.fourf)
                | (go_simp; go_at_call 82; refine (HL2.out _).mono ?_; rintro e wP ⟨rfl, hbP⟩)
                | fail)
              all_goals (go_wp2_with fail; go_meet; first | exact cutN_b bq hbQ | exact cutN_a (bon ((Below.refl W2.heap.size W2).drew) hbP))
            case rest =>
              obtain ⟨gq, rfl, rfl, bq, hgq, hbc⟩ := hcut
              have Hn3 := Hn2.up hbc
              have Hc3 := Hc2.up hbc
              have Hr3 := Hr2.up hbc
              have Hb3 := Lib.hid (bon Hb2.out hbc)
              have hqn : gn ≠ gq := by have := Hn2.lt; omega
              clear c0 c1 c2 c3 d0 d1 d2 d3 e0 e1 e2 e3 Hn2 Hc2 Hr2 Hb2 hbc HL2 tn2
              obtain ⟨⟨sq, lq, nq, mq⟩, er⟩ := q
              simp only at HX2 HIL HLnil bq
              obtain ⟨x0, x1, x2, x3⟩ := bq.four
              by_cases her : er = 0
              · subst her
                have hnq := HLnil.out
                subst hnq
                have HX3 : Hid (F0 = feedA (ckOf sq lq ⟨#[]⟩ mq) (dl B) (k + 1) ((dl S).drop (k + 1))) := Lib.hid (by rw [HX2.out, if_neg (by simp)]; rfl)
                have HI2 : Hid (InvF (ckOf sq lq ⟨#[]⟩ mq)) := Lib.hid (HIL.out rfl)
                have Hn4 := Lib.hid (Hn3.set4 (.int .i64 sq) (.int .i64 lq) (.string ⟨#[]⟩) (.int .i64 mq))
                have Hc4 := Lib.hid ((((Hc3.far (p := ⟨gn, 0, none⟩) (by simp only; omega) (.int .i64 sq)).far (p := ⟨gn, 1, none⟩) (by simp only; omega) (.int .i64 lq)).far (p := ⟨gn, 2, none⟩) (by simp only; omega) (.string ⟨#[]⟩)).far (p := ⟨gn, 3, none⟩) (by simp only; omega) (.int .i64 mq))
                have Hr4 := Lib.hid ((((Hr3.far (p := ⟨gn, 0, none⟩) (by simp only; omega) (.int .i64 sq)).far (p := ⟨gn, 1, none⟩) (by simp only; omega) (.int .i64 lq)).far (p := ⟨gn, 2, none⟩) (by simp only; omega) (.string ⟨#[]⟩)).far (p := ⟨gn, 3, none⟩) (by simp only; omega) (.int .i64 mq))
                have Hb4 := Lib.hid (below_set4 Hb3.out HGN.out (.int .i64 sq) (.int .i64 lq) (.string ⟨#[]⟩) (.int .i64 mq))
                obtain ⟨c0, c1, c2, c3⟩ := Hn3.four
                obtain ⟨d0, d1, d2, d3⟩ := Hn3.fourf
                clear HX2 HIL HLnil Hc3 Hr3 Hb3 i6
                go_wp2
                go_roundw
                case rel => exact ⟨k + 1, B, sq, lq, ⟨#[]⟩, mq, by omega, by go_num, rfl, by omega, HI2, HX3, Hn4, Hc4, Hr4, Hb4⟩
                case measure => simp [intOf]; omega
              · have HV : Hid (Q = (ckOf s l ln m, 0, [], er)) := Lib.hid (by rw [HE.out, HX2.out, if_pos her, if_neg her])
                have t0 : (er != 0) = true := bne_iff_ne.2 her
                obtain ⟨c0, c1, c2, c3⟩ := Hc3.four
                clear her
                have HQ := Lib.hid (Hr3.set4 (.int .i64 (s)) (.int .i64 (l)) (.string ln) (.int .i64 (m))).four
                have HW := Lib.hid (below_set4 Hb3.out (g := g + 1) HG.out (.int .i64 (s)) (.int .i64 (l)) (.string ln) (.int .i64 (m)))
                obtain ⟨k0, k1, k2, k3⟩ := Hr3.four
                obtain ⟨f0, f1, f2, f3⟩ := Hr3.fourf
                go_wp2
                obtain ⟨q0, q1, q2, q3⟩ := HQ.out
                refine bodyPost_ret (v := .tuple #[.agg #[.int .i64 (s), .int .i64 (l), .string ln, .int .i64 (m)], .int .i64 (0), .string ⟨#[]⟩, .int .i64 (er)]) (by simp [results, Tryz.results52, go_sem, q0, q1, q2, q3]) rfl ?_
                exact ⟨ln, ⟨#[]⟩, by rw [HV.out]; try rfl, by rw [HV.out]; try rfl, by rw [HV.out]; try rfl, HW.out⟩
          · have HEn : Hid (¬ endsL (dl n1 ++ [S[k]]) = true) := Lib.hid (by
              rw [← HLL.out, ends_iff, HnL.out]
              intro h
              rw [Bool.and_eq_true, decide_eq_true_eq, decide_eq_true_eq] at h
              exact hend h)
            have hdl : (dl n1).length + 1 = nL := by rw [dl_len, HNL1.out]
            have HDL := Lib.hid hdl
            clear hdl
            by_cases hbig : 200 < nL
            · have HX2 : Hid (F0.2.2.2 = 2) := Lib.hid (by
                rw [HX1.out, step_long h1 HEn.out (by rw [HDL.out]; omega), if_pos (by decide)])
              have HV : Hid (Q = (ckOf s l ln m, 0, [], 2)) := Lib.hid (by rw [HE.out, HX2.out, if_neg (by decide)])
              have hbi : (200 : Int) < (nL : Int) := by omega
              obtain ⟨y0, y1, y2, y3⟩ := Hc2.four
              have hcase : ¬ 2 ≤ nL ∨ (2 ≤ nL ∧ ¬ L.extract (nL - 2) nL = ⟨#[13, 10]⟩) := by
                by_cases h : 2 ≤ nL
                · exact .inr ⟨h, fun h3 => hend ⟨h, h3⟩⟩
                · exact .inl h
              clear hend HX1 HEn
              rcases hcase with hh | ⟨hh, hne⟩
              · omega
              · have h2i : (2 : Int) ≤ (nL : Int) := by omega
                have tn3 : ((nL : Int) - 2).toNat = nL - 2 := by omega
                have tn4 : (0 : Int) ≤ (nL : Int) - 2 := by omega
                have tn5 : (nL : Int) - 2 ≤ (nL : Int) := by omega
                have hrs : ((L.extract (nL - 2) nL).toList == [13, 10]) = false := tl_lit2 (fun h => hne (dl_inj h))
                clear hne
                have HQ := Lib.hid (Hr2.set4 (.int .i64 (s)) (.int .i64 (l)) (.string ln) (.int .i64 (m))).four
                have HW := Lib.hid (below_set4 Hb2.out (g := g + 1) HG.out (.int .i64 (s)) (.int .i64 (l)) (.string ln) (.int .i64 (m)))
                obtain ⟨k0, k1, k2, k3⟩ := Hr2.four
                obtain ⟨f0, f1, f2, f3⟩ := Hr2.fourf
                go_wp2
                obtain ⟨q0, q1, q2, q3⟩ := HQ.out
                refine bodyPost_ret (v := .tuple #[.agg #[.int .i64 (s), .int .i64 (l), .string ln, .int .i64 (m)], .int .i64 (0), .string ⟨#[]⟩, .int .i64 (2)]) (by simp [results, Tryz.results52, go_sem, q0, q1, q2, q3]) rfl ?_
                exact ⟨ln, ⟨#[]⟩, by rw [HV.out]; try rfl, by rw [HV.out]; try rfl, by rw [HV.out]; try rfl, HW.out⟩
            · have HX2 : Hid (F0 = feedA (ckOf s1 l1 L m1) (dl B) (k + 1) ((dl S).drop (k + 1))) := Lib.hid (by
                rw [HX1.out, step_more h1 HEn.out (by rw [HDL.out]; omega), if_neg (by simp), List.append_nil, ← HLL.out]
                rfl)
              have HI2 : Hid (InvF (ckOf s1 l1 L m1)) := Lib.hid ⟨i1, i2, i3, i4, by show (dl L).length ≤ 200; rw [dl_len, HnL.out]; omega, i6⟩
              have hbi : ¬ (200 : Int) < (nL : Int) := by omega
              have hcase : ¬ 2 ≤ nL ∨ (2 ≤ nL ∧ ¬ L.extract (nL - 2) nL = ⟨#[13, 10]⟩) := by
                by_cases h : 2 ≤ nL
                · exact .inr ⟨h, fun h3 => hend ⟨h, h3⟩⟩
                · exact .inl h
              have Hn3 := Lib.hid Hn2
              have Hc3 := Lib.hid Hc2
              have Hr3 := Lib.hid Hr2
              clear hend HX1 HEn HInv
              rcases hcase with hh | ⟨hh, hne⟩
              · have h2i : ¬ (2 : Int) ≤ (nL : Int) := by omega
                go_wp2
                go_roundw
                case rel => exact ⟨k + 1, B, s1, l1, L, m1, by omega, by go_num, rfl, by omega, HI2, HX2, Hn3, Hc3, Hr3, Hb2⟩
                case measure => simp [intOf]; omega
              · have h2i : (2 : Int) ≤ (nL : Int) := by omega
                have tn3 : ((nL : Int) - 2).toNat = nL - 2 := by omega
                have tn4 : (0 : Int) ≤ (nL : Int) - 2 := by omega
                have tn5 : (nL : Int) - 2 ≤ (nL : Int) := by omega
                have hrs : ((L.extract (nL - 2) nL).toList == [13, 10]) = false := tl_lit2 (fun h => hne (dl_inj h))
                clear hne
                go_wp2
                go_roundw
                case rel => exact ⟨k + 1, B, s1, l1, L, m1, by omega, by go_num, rfl, by omega, HI2, HX2, Hn3, Hc3, Hr3, Hb2⟩
                case measure => simp [intOf]; omega
      · have HV : Hid (Q = (ckOf s1 l1 n1 m1, k, dl B, 0)) := Lib.hid (by
          have e : F0 = (ckOf s1 l1 n1 m1, k, dl B, 0) := by
            rw [HX.out]
            by_cases h4 : s1 = 4
            · exact feed_end (show (ckOf s1 l1 n1 m1).s = 4 from h4) _ _ _
            · rw [List.drop_of_length_le (by rw [dl_len]; omega)]
              rfl
          rw [HE.out, e]
          rfl)
        have hcase : ¬ k < S.size ∨ (k < S.size ∧ s1 = 4) := by omega
        clear hgo HX
        have Hr3 := Hr.out
        rcases hcase with hh | ⟨hh, rfl⟩
        · have hki : ¬ (k : Int) < (S.size : Int) := by omega
          have HQ := Lib.hid (Hr3.set4 (.int .i64 (s1)) (.int .i64 (l1)) (.string n1) (.int .i64 (m1))).four
          have HW := Lib.hid (below_set4 Hb.out (g := g + 1) HG.out (.int .i64 (s1)) (.int .i64 (l1)) (.string n1) (.int .i64 (m1)))
          obtain ⟨k0, k1, k2, k3⟩ := Hr3.four
          obtain ⟨f0, f1, f2, f3⟩ := Hr3.fourf
          go_wp2
          obtain ⟨q0, q1, q2, q3⟩ := HQ.out
          refine bodyPost_ret (v := .tuple #[.agg #[.int .i64 (s1), .int .i64 (l1), .string n1, .int .i64 (m1)], .int .i64 (k), .string B, .int .i64 (0)]) (by simp [results, Tryz.results52, go_sem, q0, q1, q2, q3]) rfl ?_
          exact ⟨n1, B, by rw [HV.out]; try rfl, by rw [HV.out]; try rfl, by rw [HV.out]; try rfl, HW.out⟩
        · have hki : (k : Int) < (S.size : Int) := by omega
          have HQ := Lib.hid (Hr3.set4 (.int .i64 (4)) (.int .i64 (l1)) (.string n1) (.int .i64 (m1))).four
          have HW := Lib.hid (below_set4 Hb.out (g := g + 1) HG.out (.int .i64 (4)) (.int .i64 (l1)) (.string n1) (.int .i64 (m1)))
          obtain ⟨k0, k1, k2, k3⟩ := Hr3.four
          obtain ⟨f0, f1, f2, f3⟩ := Hr3.fourf
          go_wp2
          obtain ⟨q0, q1, q2, q3⟩ := HQ.out
          refine bodyPost_ret (v := .tuple #[.agg #[.int .i64 (4), .int .i64 (l1), .string n1, .int .i64 (m1)], .int .i64 (k), .string B, .int .i64 (0)]) (by simp [results, Tryz.results52, go_sem, q0, q1, q2, q3]) rfl ?_
          exact ⟨n1, B, by rw [HV.out]; try rfl, by rw [HV.out]; try rfl, by rw [HV.out]; try rfl, HW.out⟩

end Go.Proofs.YtdlihfbaepjliaaGreatDoor
