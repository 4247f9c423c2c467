/-
  The walk of the law ChunkSplit.
-/
import Derived.Test.YtaoajilgilbmmaaDoorLcB
import Derived.Deep.RegionLaw
namespace Go.Proofs.YtaoajilgilbmmaaDoor
open Go.RowKit

/-- what holds between the pieces: all is well so far, or it has failed, or the end was come to -/
def SplitR (s0 : Bs) (F : Ck × Nat × Bs × Int) (i k : Nat) (c : Ck) (body : Bs) (f : Int) : Prop :=
  (f = 0 ∧ okS c ∧ k ≤ s0.length ∧ feedA Ck.zero [] 0 (s0.take k) = (c, k, body, 0) ∧ i ≤ 200 + k) ∨ (f ≠ 0 ∧ F.2.2.2 = f) ∨ (f = 0 ∧ c.s = 4 ∧ F = (c, k, body, 0))
theorem split_start (s0 : Bs) (F : Ck × Nat × Bs × Int) : SplitR s0 F 0 0 Ck.zero [] 0 :=
  .inl ⟨rfl, ⟨by decide, fun h => absurd h (by decide)⟩, Nat.zero_le _, rfl, Nat.zero_le _⟩
theorem split_step {s0 : Bs} {F : Ck × Nat × Bs × Int} {k n : Nat} {c : Ck} {body : Bs} (hF : feedA Ck.zero [] 0 s0 = F) (hok : okS c) (hkn : k ≤ n) (hn : n ≤ s0.length) (hx : feedA Ck.zero [] 0 (s0.take k) = (c, k, body, 0)) :
    ((feedA c [] 0 ((s0.take n).drop k)).2.2.2 ≠ 0 → F.2.2.2 = (feedA c [] 0 ((s0.take n).drop k)).2.2.2) ∧
    ((feedA c [] 0 ((s0.take n).drop k)).2.2.2 = 0 → (feedA c [] 0 ((s0.take n).drop k)).2.1 ≤ n - k ∧
      ((feedA c [] 0 ((s0.take n).drop k)).2.1 = n - k → okS (feedA c [] 0 ((s0.take n).drop k)).1 ∧ feedA Ck.zero [] 0 (s0.take n) = ((feedA c [] 0 ((s0.take n).drop k)).1, n, body ++ (feedA c [] 0 ((s0.take n).drop k)).2.2.1, 0)) ∧
      ((feedA c [] 0 ((s0.take n).drop k)).2.1 < n - k → (feedA c [] 0 ((s0.take n).drop k)).1.s = 4 ∧ F = ((feedA c [] 0 ((s0.take n).drop k)).1, k + (feedA c [] 0 ((s0.take n).drop k)).2.1, body ++ (feedA c [] 0 ((s0.take n).drop k)).2.2.1, 0))) := by
  have hsplit : s0.take n = s0.take k ++ (s0.take n).drop k := by
    have := (List.take_append_drop k (s0.take n)).symm
    rw [List.take_take, Nat.min_eq_left hkn] at this
    exact this
  have hlen : ((s0.take n).drop k).length = n - k := by rw [List.length_drop, List.length_take]; omega
  have e1 : feedA Ck.zero [] 0 (s0.take n) = ((feedA c [] 0 ((s0.take n).drop k)).1, k + (feedA c [] 0 ((s0.take n).drop k)).2.1, body ++ (feedA c [] 0 ((s0.take n).drop k)).2.2.1, (feedA c [] 0 ((s0.take n).drop k)).2.2.2) := by
    rw [← feed_acc, hsplit, feed_app, hx]
    simp only [if_pos trivial]
    rw [← hsplit]
  have e2 := feed_app (s0.take n) (s0.drop n) Ck.zero [] 0
  rw [List.take_append_drop, hF, e1] at e2
  have hl := feed_len ((s0.take n).drop k) c
  rw [hlen] at hl
  have ho := feed_okS ((s0.take n).drop k) c hok
  generalize feedA c [] 0 ((s0.take n).drop k) = q at e1 e2 hl ho ⊢
  obtain ⟨d, m, y, er⟩ := q
  simp only at e1 e2 hl ho ⊢
  refine ⟨fun he => ?_, fun he => ⟨hl.1, fun hm => ?_, fun hm => ?_⟩⟩
  · rw [e2, if_neg he]
  · refine ⟨ho he, ?_⟩
    rw [e1, he, hm]
    congr 2
    omega
  · have h4 := hl.2 he hm
    refine ⟨h4, ?_⟩
    rw [e2, if_pos he, feed_end h4]
theorem split_fin {s0 : Bs} {F : Ck × Nat × Bs × Int} {k : Nat} {c : Ck} {body : Bs} (hF : feedA Ck.zero [] 0 s0 = F) (hx : feedA Ck.zero [] 0 (s0.take k) = (c, k, body, 0)) (h : c.s = 4 ∨ s0.length ≤ k) : F = (c, k, body, 0) := by
  rw [← hF]
  rcases h with h | h
  · have := feed_app (s0.take k) (s0.drop k) Ck.zero [] 0
    rw [List.take_append_drop, hx, if_pos rfl, feed_end h] at this
    exact this
  · rw [List.take_of_length_le h] at hx
    exact hx

theorem step_blen (c : Ck) (b : UInt8) : (stepC c b).2.1.length ≤ 1 := by
  unfold stepC
  repeat' split
  all_goals simp
theorem feed_blen (s : Bs) : ∀ c : Ck, (feedA c [] 0 s).2.2.1.length ≤ (feedA c [] 0 s).2.1 := by
  induction s with
  | nil => intro c; simp [feedA]
  | cons b r ih =>
    intro c
    rw [feedA]
    by_cases h4 : c.s = 4
    · rw [if_pos h4]
      simp
    · rw [if_neg h4]
      by_cases he : (stepC c b).2.2 ≠ 0
      · rw [if_pos he]
        simp
      · rw [if_neg he, feed_acc]
        have h1 := ih (stepC c b).1
        have h2 := step_blen c b
        simp only [List.length_append, List.length_nil]
        omega
/-- what a piece tells, in a box of its own -/
def CutP (q : Ck × Nat × Bs × Int) (W : World) (v u x er : Value) (w' : World) : Prop :=
  ∃ (gq : Nat) (n1 B : ByteArray), v = .pointer (some ⟨gq, 0, none⟩) ∧ u = .int .i64 (q.2.1 : Int) ∧ x = .string B ∧ er = .int .i64 q.2.2.2 ∧ dl n1 = q.1.ln ∧ dl B = q.2.2.1 ∧ Box w' gq 23 #[.int .i64 q.1.s, .int .i64 q.1.l, .string n1, .int .i64 q.1.m] ∧ W.heap.size ≤ gq ∧ Below W.heap.size W w'
theorem cutP_a {q : Ck × Nat × Bs × Int} {W wP : World} {n1 B : ByteArray} (h1 : dl n1 = q.1.ln) (h2 : dl B = q.2.2.1) (hb : Below W.heap.size W wP) : CutP q W (.pointer (some ⟨wP.heap.size, 0, none⟩)) (.int .i64 (q.2.1 : Int)) (.string B) (.int .i64 q.2.2.2) (wP.alloc (.cells #[.int .i64 q.1.s, .int .i64 q.1.l, .string n1, .int .i64 q.1.m] 23)) :=
  ⟨_, n1, B, rfl, rfl, rfl, rfl, h1, h2, Box.new _ _ _, hb.size, bon hb (ba1 _ _)⟩
theorem cutP_b {q : Ck × Nat × Bs × Int} {W wP : World} {n1 B : ByteArray} (h1 : dl n1 = q.1.ln) (h2 : dl B = q.2.2.1) (bq : Box wP W.heap.size 23 #[.int .i64 0, .int .i64 0, .string ⟨#[]⟩, .int .i64 0]) (hb : Below W.heap.size W wP) : CutP q W (.pointer (some ⟨W.heap.size, 0, none⟩)) (.int .i64 (q.2.1 : Int)) (.string B) (.int .i64 q.2.2.2) ((((wP.setCell ⟨W.heap.size, 0, none⟩ (.int .i64 q.1.s)).setCell ⟨W.heap.size, 1, none⟩ (.int .i64 q.1.l)).setCell ⟨W.heap.size, 2, none⟩ (.string n1)).setCell ⟨W.heap.size, 3, none⟩ (.int .i64 q.1.m)) :=
  ⟨_, n1, B, rfl, rfl, rfl, rfl, h1, h2, bq.set4 _ _ _ _, Nat.le_refl _, below_set4 hb (Nat.le_refl _) _ _ _ _⟩
/-- is there a cut? -/
def CutB (N j : Nat) (W : World) (v : Value) (w' : World) : Prop := ∃ b : Bool, v = .bool b ∧ (b = true ↔ j < N ∧ j < 200) ∧ W = w'
/-- how many bytes come next -/
def CutK (j : Nat) (W : World) (v : Value) (w' : World) : Prop := ∃ r : Nat, v = .int .i64 (r : Int) ∧ r < 8 ∧ (r = 0 → j < 200) ∧ W = w'
/-- where the piece ends -/
def CutE (k N j : Nat) (W : World) (v : Value) (w' : World) : Prop := ∃ n : Nat, v = .int .i64 (n : Int) ∧ k ≤ n ∧ n ≤ N ∧ (n = k → j < 200) ∧ W = w'

set_option maxRecDepth 100000 in
set_option maxHeartbeats 8000000 in
theorem chunkSplit_any (A : Option Addr) (L c : Nat) (ys : List UInt8) (A2 : Option Addr) (L2 c2 : Nat) (zs : List UInt8) (w : World) (hl : ys.length = L) (hm : L ≤ maxLen) (hU : Us w w.heap.size A ys) (hl2 : zs.length = L2) (hm2 : L2 ≤ maxLen) (hU2 : Us w w.heap.size A2 zs) (hT : Tabs w) : Calls Tryd.prog 7 #[.slice A L c, .slice A2 L2 c2] w (BoolEnds true w) := by
  have HTb := Lib.hid hT
  clear hT
  have HP := Lib.hid (fun W (hW : Below w.heap.size w W) => pieces_any A L c ys W hl hm (hU.up hW))
  have HU2 := Lib.hid hU2
  have HL2 := Lib.hid hl2
  unfold maxLen at hm2
  clear hl hm hU hl2 hU2
  go_enter Tryd.func7, Tryd.ntmps7
  go_wp2_with fail
  refine (cawake_any _ HTb.out).mono ?_
  rintro e w1 ⟨rfl, hb1⟩
  go_wp2_with fail
  refine (HP.out _ hb1).mono ?_
  rintro e w2 ⟨S, rfl, hS, hb2⟩
  have hB2 := bon hb1 hb2
  clear hb1 hb2 HP
  have HF0 := Lib.hid (fun W => cfeed_any 0 0 ⟨#[]⟩ 0 S (by omega) W)
  obtain ⟨F, hF⟩ : ∃ F, feedA Ck.zero [] 0 (dl S) = F := ⟨_, rfl⟩
  have hQ : feedC (ckOf 0 0 ⟨#[]⟩ 0) (dl S) = if F.2.2.2 = 0 then F else (Ck.zero, 0, [], F.2.2.2) := by
    have hok : okC Ck.zero := by decide
    rw [← hF]
    exact if_pos hok
  have HF := Lib.hid hF
  clear hF
  go_wp2_with fail
  refine (HF0.out _).mono ?_
  rintro e w3 ⟨nA, BA, rfl, h1, h2, hb3⟩
  rw [hQ] at h1 h2 ⊢
  clear hQ HF0
  obtain ⟨QA, hQA⟩ : ∃ q, (if F.2.2.2 = 0 then F else (Ck.zero, 0, [], F.2.2.2)) = q := ⟨_, rfl⟩
  rw [hQA] at h1 h2 ⊢
  have HQA := Lib.hid hQA
  have HN := Lib.hid (And.intro h1 h2)
  clear hQA h1 h2
  obtain ⟨⟨sA, lA, nnA, mA⟩, kA, bbA, eA⟩ := QA
  simp only at HN ⊢
  go_upto_region 7 with fail
  have hd := bon hb3 (ba2 w3 (.cells #[.int .i64 sA, .int .i64 lA, .string nA, .int .i64 mA] 23) (.cells #[.int .i64 0, .int .i64 0, .string ⟨#[]⟩, .int .i64 0] 23))
  have bA := (Box.new w3 23 #[.int .i64 sA, .int .i64 lA, .string nA, .int .i64 mA]).alloc (.cells #[.int .i64 0, .int .i64 0, .string ⟨#[]⟩, .int .i64 0] 23)
  have bc := Box.mk' (w3.alloc (.cells #[.int .i64 sA, .int .i64 lA, .string nA, .int .i64 mA] 23)) 23 #[.int .i64 0, .int .i64 0, .string ⟨#[]⟩, .int .i64 0] (w3.heap.size + 1) (by simp)
  have hB3 := bon hB2 hd
  obtain ⟨g, hg⟩ : ∃ g, w3.heap.size = g := ⟨_, rfl⟩
  have HG : Hid (w.heap.size ≤ g) := Lib.hid (by have := (bon hB2 hb3).size; omega)
  rw [hg] at bA bc ⊢
  clear hg hd hb3 hB2
  generalize (w3.alloc (.cells #[.int .i64 sA, .int .i64 lA, .string nA, .int .i64 mA] 23)).alloc (.cells #[.int .i64 0, .int .i64 0, .string ⟨#[]⟩, .int .i64 0] 23) = W0 at *
  go_wp2_with fail
  go_loopw [15, 12, 13, 14] (fun i a b f wr => ∃ (j k : Nat) (s1 l1 : Int) (n1 : ByteArray) (m1 : Int) (B : ByteArray) (fe : Int), i = .int .i64 (j : Int) ∧ a = .int .i64 (k : Int) ∧ b = .string B ∧ f = .int .i64 fe ∧ j ≤ 1000 ∧ k ≤ 2000 ∧ B.size ≤ 2000 ∧ Hid (SplitR (dl S) F j k (ckOf s1 l1 n1 m1) (dl B) fe) ∧ Hid (Box wr (g + 1) 23 #[.int .i64 s1, .int .i64 l1, .string n1, .int .i64 m1]) ∧ Hid (Box wr g 23 #[.int .i64 sA, .int .i64 lA, .string nA, .int .i64 mA]) ∧ Hid (Below w.heap.size w wr)) (fun i _ _ _ _ => 1001 - (intOf i).toNat)
  case atStart => exact ⟨0, 0, 0, 0, ⟨#[]⟩, 0, ⟨#[]⟩, 0, rfl, rfl, rfl, rfl, by omega, by omega, by decide, Lib.hid (split_start _ _), Lib.hid bc, Lib.hid bA, Lib.hid hB3⟩
  case round =>
    obtain ⟨j, k, s1, l1, n1, m1, B, fe, rfl, rfl, rfl, rfl, hj, hk, hBs, HR, Hc, HA, Hb⟩ := hrel
    obtain ⟨c0, c1, c2', c3⟩ := Hc.out.four
    by_cases hal : k < S.size ∧ fe = 0 ∧ s1 ≠ 4
    · obtain ⟨hlt, rfl, h4⟩ := hal
      have h4b : (s1 != 4) = true := bne_iff_ne.2 h4
      have hki : (k : Int) < (S.size : Int) := by omega
      have hk0 : (0 : Int) ≤ (k : Int) := by omega
      have HI : Hid (okS (ckOf s1 l1 n1 m1) ∧ feedA Ck.zero [] 0 ((dl S).take k) = (ckOf s1 l1 n1 m1, k, dl B, 0) ∧ j ≤ 200 + k) := Lib.hid (by
        rcases HR.out with h | h | h
        · exact ⟨h.2.1, h.2.2.2.1, h.2.2.2.2⟩
        · exact absurd rfl h.1
        · exact absurd h.2.1 h4)
      have hj2 := HI.out.2.2
      clear HR h4
      go_upto_region 13 with fail
      go_cut [57] (CutB L2 j wr)
      case first =>
        have hcase : ¬ j < L2 ∨ (j < L2 ∧ ¬ j < 200) ∨ (j < L2 ∧ j < 200) := by omega
        rcases hcase with x1 | ⟨x1, x2⟩ | ⟨x1, x2⟩
        · have x1i : ¬ (j : Int) < (L2 : Int) := by omega
          go_wp2
          go_meet
          exact ⟨false, rfl, ⟨fun h => (by cases h), fun h => absurd h.1 x1⟩, rfl⟩
        · have x1i : (j : Int) < (L2 : Int) := by omega
          have x2i : ¬ (j : Int) < 200 := by omega
          go_wp2
          go_meet
          exact ⟨false, rfl, ⟨fun h => (by cases h), fun h => absurd h.2 x2⟩, rfl⟩
        · have x1i : (j : Int) < (L2 : Int) := by omega
          have x2i : (j : Int) < 200 := by omega
          go_wp2
          go_meet
          exact ⟨true, rfl, ⟨fun _ => ⟨x1, x2⟩, fun _ => rfl⟩, rfl⟩
      case rest =>
      obtain ⟨bt, rfl, hbt, hwc⟩ := hcut
      subst hwc
      have HBT := Lib.hid hbt
      clear hbt
      go_upto_if 57 with fail
      go_cut [16] (CutK j wr)
      case first =>
        cases bt with
        | true =>
          obtain ⟨x1, x2⟩ := HBT.out.1 rfl
          have x1i : (j : Int) < (L2 : Int) := by omega
          have x0i : (0 : Int) ≤ (j : Int) := by omega
          obtain ⟨bb, oo, hA, hbb, hcc⟩ := (HU2.out.low Hb.out) (by rw [HL2.out]; omega)
          have cj := hcc j (by rw [HL2.out]; omega)
          clear hcc
          obtain ⟨y, hy⟩ : ∃ y, zs[j]?.getD 0 = y := ⟨_, rfl⟩
          rw [hy] at cj
          have hyb := y.toNat_lt
          clear hy
          obtain ⟨v, hv⟩ : ∃ v, y.toNat = v := ⟨_, rfl⟩
          rw [hv] at cj hyb
          clear hv
          subst hA
          obtain ⟨r, hr⟩ : ∃ r, v % 8 = r := ⟨_, rfl⟩
          have hr8 : r < 8 := by omega
          have t1 : IntKind.i64.wrap (v : Int) = (v : Int) := IntWalk.i64_in _ (by omega)
          have t2 : (v : Int).tmod 8 = (r : Int) := by rw [Int.tmod_eq_emod_of_nonneg (by omega), ← hr]; simp
          have t3 : (v : Int) % 8 = (r : Int) := by rw [← hr]; simp
          have t4 : IntKind.i64.wrap (r : Int) = (r : Int) := IntWalk.i64_in _ (by omega)
          clear hr
          go_wp2
          go_meet
          exact ⟨r, rfl, by omega, fun _ => x2, rfl⟩
        | false =>
          go_wp2
          go_meet
          exact ⟨1, rfl, by omega, fun h => by omega, rfl⟩
      case rest =>
        obtain ⟨r, rfl, hr8, hr0, hwc⟩ := hcut
        subst hwc
        go_upto_region 15 with fail
        go_cut [17] (CutE k S.size j wr)
        case first =>
          have t1 : IntKind.i64.wrap ((k : Int) + (r : Int)) = (k : Int) + (r : Int) := IntWalk.i64_in _ (by omega)
          by_cases hmin : (S.size : Int) ≤ (k : Int) + (r : Int)
          · have tm : min (S.size : Int) ((k : Int) + (r : Int)) = (S.size : Int) := by omega
            go_wp2
            go_meet
            exact ⟨S.size, rfl, by omega, by omega, fun h => by omega, rfl⟩
          · have hmin2 : (k : Int) + (r : Int) < (S.size : Int) := by omega
            have tm : min (S.size : Int) ((k : Int) + (r : Int)) = (k : Int) + (r : Int) := by omega
            go_wp2
            go_meet
            exact ⟨k + r, by first | rfl | go_num, by omega, by omega, fun h => hr0 (by omega), rfl⟩
        case rest =>
          obtain ⟨n, rfl, hkn, hnS, hnj, hwc⟩ := hcut
          subst hwc
          have hkni : (k : Int) ≤ (n : Int) := by omega
          have hnSi : (n : Int) ≤ (S.size : Int) := by omega
          have hPs : (S.extract k n).size = n - k := by rw [ByteArray.size_extract]; omega
          have HSt := Lib.hid (split_step (n := n) HF.out HI.out.1 hkn (by rw [dl_len]; exact hnS) HI.out.2.1)
          have HBl := Lib.hid (feed_blen ((dl S).take k) Ck.zero)
          rw [HI.out.2.1] at HBl
          have hBk : B.size ≤ k := by
            have := HBl.out
            simp only at this
            rw [dl_len] at this
            exact this
          have HYl := Lib.hid (feed_blen (dl (S.extract k n)) (ckOf s1 l1 n1 m1))
          have HFd := Lib.hid (fun W => cfeed_any s1 l1 n1 m1 (S.extract k n) (by omega) W)
          have HQ0 : Hid (feedC (ckOf s1 l1 n1 m1) (dl (S.extract k n)) = if (feedA (ckOf s1 l1 n1 m1) [] 0 (dl (S.extract k n))).2.2.2 = 0 then feedA (ckOf s1 l1 n1 m1) [] 0 (dl (S.extract k n)) else (ckOf s1 l1 n1 m1, 0, [], (feedA (ckOf s1 l1 n1 m1) [] 0 (dl (S.extract k n))).2.2.2)) := Lib.hid (if_pos HI.out.1.1)
          rw [← dl_ext] at HSt
          generalize feedA (ckOf s1 l1 n1 m1) [] 0 (dl (S.extract k n)) = qa at *
          obtain ⟨q, hq⟩ : ∃ q, feedC (ckOf s1 l1 n1 m1) (dl (S.extract k n)) = q := ⟨_, rfl⟩
          have HF2 : Hid (∀ W, Calls Tryd.prog 15 #[.agg #[.int .i64 s1, .int .i64 l1, .string n1, .int .i64 m1], .string (S.extract k n)] W (FeedEnds q W)) := Lib.hid (fun W => by rw [← hq]; exact HFd.out W)
          rw [hq] at HQ0
          clear hq HFd HBl
          go_upto_region 16 with fail
          have e0 : ∀ o, (wr.alloc o).cell? ⟨g + 1, 0, none⟩ = some (.int .i64 s1) := fun o => (Hc.out.alloc o).c 0 rfl
          have e1 : ∀ o, (wr.alloc o).cell? ⟨g + 1, 1, none⟩ = some (.int .i64 l1) := fun o => (Hc.out.alloc o).c 1 rfl
          have e2 : ∀ o, (wr.alloc o).cell? ⟨g + 1, 2, none⟩ = some (.string n1) := fun o => (Hc.out.alloc o).c 2 rfl
          have e3 : ∀ o, (wr.alloc o).cell? ⟨g + 1, 3, none⟩ = some (.int .i64 m1) := fun o => (Hc.out.alloc o).c 3 rfl
          go_cut [18, 19, 20, 21] (CutP q wr)
          case first =>
            go_region_law (first
              | (go_simp; go_at_call 15; refine (HF2.out _).mono ?_; rintro e wP ⟨n2, B2, rfl, hn2, hB2, hbP⟩; have bq : Box wP wr.heap.size 23 #[.int .i64 0, .int .i64 0, .string ⟨#[]⟩, .int .i64 0] := (by refine Box.up ?_ hbP; exact Box.new wr 23 #[.int .i64 0, .int .i64 0, .string ⟨#[]⟩, .int .i64 0]); have hbQ : Below wr.heap.size wr wP := (by refine bon ?_ hbP; first | exact (ba1 wr _).drew | exact ba1 wr _); obtain ⟨k0, k1, k2, k3⟩ := bq.four; obtain ⟨f0, f1, f2, f3⟩ := bq.fourf)
              | (go_simp; go_at_call 15; refine (HF2.out _).mono ?_; rintro e wP ⟨n2, B2, rfl, hn2, hB2, hbP⟩)
              | fail)
            all_goals (go_wp2_with fail; go_meet; first | exact cutP_b hn2 hB2 bq hbQ | exact cutP_a hn2 hB2 (bon ((Below.refl wr.heap.size wr).drew) hbP))
          case rest =>
            obtain ⟨gq, n2, B2, rfl, rfl, rfl, rfl, hn2, hB2, bq, hgq, hbc⟩ := hcut
            have Hc3 := Hc.out.up hbc
            have HA3 := HA.out.up hbc
            have Hb3 := Lib.hid (bon Hb.out hbc)
            have hqn : ¬ g + 1 = gq := by have := Hc.out.lt; omega
            have HGg : Hid (w.heap.size ≤ g + 1) := Lib.hid (by have := HG.out; omega)
            clear c0 c1 c2' c3 e0 e1 e2 e3 Hc HA Hb hbc HF2
            obtain ⟨d, m, y, er⟩ := qa
            simp only at HSt HQ0 HYl
            by_cases her : er = 0
            · subst her
              rw [if_pos rfl] at HQ0
              have hQ0 := HQ0.out
              subst hQ0
              obtain ⟨sd, ld, nd, md⟩ := d
              simp only at hn2 hB2 bq ⊢
              obtain ⟨z1, z2, z3⟩ := HSt.out.2 rfl
              have hyl : B2.size ≤ m := by
                have := HYl.out
                rw [← hB2, dl_len] at this
                exact this
              have hBB : (B ++ B2).size = B.size + B2.size := ByteArray.size_append
              have hdd : (⟨sd, ld, nd, md⟩ : Ck) = ckOf sd ld n2 md := by rw [ckOf, hn2]
              have tnk : IntKind.i64.wrap ((n : Int) - (k : Int)) = (n : Int) - (k : Int) := IntWalk.i64_in _ (by omega)
              have tkm : IntKind.i64.wrap ((k : Int) + (m : Int)) = (k : Int) + (m : Int) := IntWalk.i64_in _ (by omega)
              have hm0 : ¬ (m : Int) < 0 := by omega
              have hm1 : ¬ (n : Int) - (k : Int) < (m : Int) := by omega
              have HR2 : Hid (SplitR (dl S) F (j + 1) (k + m) (ckOf sd ld n2 md) (dl (B ++ B2)) 0) := Lib.hid (by
                rw [dl_app, hB2, ← hdd]
                by_cases hmn : m = n - k
                · obtain ⟨y1, y2⟩ := z2 hmn
                  have hkm : k + m = n := by omega
                  rw [hkm]
                  exact .inl ⟨rfl, y1, by rw [dl_len]; exact hnS, y2, by
                    by_cases hnk : n = k
                    · have := hnj hnk; omega
                    · omega⟩
                · obtain ⟨y1, y2⟩ := z3 (by omega)
                  exact .inr (.inr ⟨rfl, y1, y2⟩))
              have hcase : ¬ (m : Int) < (n : Int) - (k : Int) ∨ ((m : Int) < (n : Int) - (k : Int) ∧ sd = 4) := by
                by_cases hmn : m = n - k
                · left; omega
                · exact .inr ⟨by omega, (z3 (by omega)).1⟩
              have Hc4 := Lib.hid (Hc3.set4 (.int .i64 sd) (.int .i64 ld) (.string n2) (.int .i64 md))
              have HA4 := Lib.hid ((((HA3.far (p := ⟨g + 1, 0, none⟩) (by simp only; omega) (.int .i64 sd)).far (p := ⟨g + 1, 1, none⟩) (by simp only; omega) (.int .i64 ld)).far (p := ⟨g + 1, 2, none⟩) (by simp only; omega) (.string n2)).far (p := ⟨g + 1, 3, none⟩) (by simp only; omega) (.int .i64 md))
              have Hb4 := Lib.hid (below_set4 Hb3.out HGg.out (.int .i64 sd) (.int .i64 ld) (.string n2) (.int .i64 md))
              obtain ⟨c0, c1, c2', c3⟩ := Hc3.four
              obtain ⟨d0, d1, d2, d3⟩ := Hc3.fourf
              obtain ⟨x0, x1, x2, x3⟩ := bq.four
              clear z2 z3 HSt HYl hdd hn2 hB2 HI hnj HQ0 HA3 Hb3
              rcases hcase with hh | ⟨hh, rfl⟩
              all_goals
                go_wp2
                go_roundw
                case rel => exact ⟨j + 1, k + m, _, ld, n2, md, B ++ B2, 0, by go_num, by go_num, rfl, rfl, by omega, by omega, by omega, HR2, Hc4, HA4, Hb4⟩
                case measure => simp [intOf]; omega
            · rw [if_neg her] at HQ0
              have hQ0 := HQ0.out
              subst hQ0
              simp only [ckOf] at hn2 hB2 bq ⊢
              obtain rfl : n2 = n1 := dl_inj hn2
              obtain rfl : B2 = ⟨#[]⟩ := dl_inj hB2
              have HFe := Lib.hid (HSt.out.1 her)
              have t0 : (er == 0) = false := beq_eq_false_iff_ne.2 her
              have hBB : (B ++ (⟨#[]⟩ : ByteArray)).size = B.size := by rw [ByteArray.size_append]; rfl
              have HR2 : Hid (SplitR (dl S) F (j + 1) k (ckOf s1 l1 n2 m1) (dl (B ++ (⟨#[]⟩ : ByteArray))) er) := Lib.hid (.inr (.inl ⟨her, HFe.out⟩))
              have Hc4 := Lib.hid (Hc3.set4 (.int .i64 s1) (.int .i64 l1) (.string n2) (.int .i64 m1))
              have HA4 := Lib.hid ((((HA3.far (p := ⟨g + 1, 0, none⟩) (by simp only; omega) (.int .i64 s1)).far (p := ⟨g + 1, 1, none⟩) (by simp only; omega) (.int .i64 l1)).far (p := ⟨g + 1, 2, none⟩) (by simp only; omega) (.string n2)).far (p := ⟨g + 1, 3, none⟩) (by simp only; omega) (.int .i64 m1))
              have Hb4 := Lib.hid (below_set4 Hb3.out HGg.out (.int .i64 s1) (.int .i64 l1) (.string n2) (.int .i64 m1))
              obtain ⟨c0, c1, c2', c3⟩ := Hc3.four
              obtain ⟨d0, d1, d2, d3⟩ := Hc3.fourf
              obtain ⟨x0, x1, x2, x3⟩ := bq.four
              clear HSt HYl hn2 hB2 HI hnj HQ0 HA3 Hb3 her
              go_wp2
              go_roundw
              case rel => exact ⟨j + 1, k, s1, l1, n2, m1, B ++ (⟨#[]⟩ : ByteArray), er, by go_num, by go_num, rfl, rfl, by omega, by omega, by omega, HR2, Hc4, HA4, Hb4⟩
              case measure => simp [intOf]; omega
    · obtain ⟨r0, r1, r2, r3⟩ := HA.out.four
      have hcase : ¬ k < S.size ∨ (k < S.size ∧ fe ≠ 0) ∨ (k < S.size ∧ fe = 0 ∧ s1 = 4) := by omega
      by_cases hfe : fe = 0
      · have HFin : Hid (F = (ckOf s1 l1 n1 m1, k, dl B, 0)) := Lib.hid (by
          rcases HR.out with h | h | h
          · refine split_fin HF.out h.2.2.2.1 ?_
            by_cases h4 : s1 = 4
            · exact .inl h4
            · right
              rw [dl_len]
              omega
          · exact absurd hfe h.1
          · exact h.2.2)
        have hqa := HQA.out
        rw [HFin.out, if_pos rfl] at hqa
        simp only [Prod.mk.injEq, ckOf, Ck.mk.injEq] at hqa
        obtain ⟨⟨rfl, rfl, hnn, rfl⟩, rfl, hbb, rfl⟩ := hqa
        obtain ⟨hn1, hn2⟩ := HN.out
        obtain rfl : nA = n1 := dl_inj (hn1.trans hnn.symm)
        obtain rfl : BA = B := dl_inj (hn2.trans hbb.symm)
        subst hfe
        clear hnn hbb hn1 hn2 HFin HR hal HQA HN HF
        have hcase2 : ¬ k < S.size ∨ (k < S.size ∧ s1 = 4) := by omega
        clear hcase
        rcases hcase2 with hh | ⟨hh, rfl⟩
        · have hki : ¬ (k : Int) < (S.size : Int) := by omega
          go_wp2
          go_ret
          exact ⟨by first | rfl | simp, Hb.out⟩
        · have hki : (k : Int) < (S.size : Int) := by omega
          go_wp2
          go_ret
          exact ⟨by first | rfl | simp, Hb.out⟩
      · have hFe : F.2.2.2 = fe := by
          rcases HR.out with h | h | h
          · exact absurd h.1 hfe
          · exact h.2
          · exact absurd h.1 hfe
        have hqa := HQA.out
        rw [hFe, if_neg hfe] at hqa
        simp only [Prod.mk.injEq] at hqa
        have heA : eA = fe := hqa.2.2.2.symm
        subst heA
        have t0 : (eA == 0) = false := beq_eq_false_iff_ne.2 hfe
        have t1 : (eA != 0) = true := bne_iff_ne.2 hfe
        have hcase2 : ¬ k < S.size ∨ k < S.size := by omega
        clear hqa hFe HR hal HQA HN HF hfe hcase
        rcases hcase2 with hh | hh
        · have hki : ¬ (k : Int) < (S.size : Int) := by omega
          go_wp2
          go_ret
          exact ⟨by first | rfl | simp, Hb.out⟩
        · have hki : (k : Int) < (S.size : Int) := by omega
          go_wp2
          go_ret
          exact ⟨by first | rfl | simp, Hb.out⟩

end Go.Proofs.YtaoajilgilbmmaaDoor
