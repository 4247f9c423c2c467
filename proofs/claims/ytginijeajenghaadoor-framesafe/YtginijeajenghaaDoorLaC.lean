/-
  The walk of the law FrameSafe.
-/
import Derived.Test.YtginijeajenghaaDoorFrG
import Derived.Test.YtginijeajenghaaDoorFrH
import Derived.Test.YtginijeajenghaaDoorLawE
import Derived.Deep.RegionHeld3
namespace Go.Proofs.YtginijeajenghaaDoor
open Go.RowKit

theorem held2 {W1 w w' : World} {a0 : Addr} {v0 : Value} (hb : Below w.heap.size w w') (h : Below W1.heap.size W1 w ∧ w.cell? a0 = some v0) :
    Below W1.heap.size W1 w' ∧ w'.cell? a0 = some v0 := ⟨bon h.1 hb, cell_up hb h.2⟩

theorem reqF_true (f : Int × Int × Int) : reqF true f = if f.2.2 ≠ 0 then (0, 0, f.2.2) else if f.1 = 0 then (1, 0, 0) else f := rfl
theorem safe_bad {t c : List ByteArray} {mi : Int} (h : (0 < t.length ∧ 0 < c.length) ∨ 1 < t.length ∨ 1 < c.length ∨ (0 < t.length ∧ mi = 0)) : reqF true (framedN t c mi) = (0, 0, 22) := by
  have e : framedN t c mi = (0, 0, 22) := by
    unfold framedN
    by_cases ht : 0 < t.length
    · rw [if_pos ht]
      by_cases hc : 0 < c.length ∨ mi = 0
      · rw [if_pos hc]
      · rw [if_neg hc, chunkN, if_neg (by omega)]
    · rw [if_neg ht, if_pos (by omega), sizN, if_neg (by omega)]
  rw [e]
  rfl
theorem safe_none {t c : List ByteArray} {mi : Int} (h : t.length = 0) (h2 : c.length = 0) : reqF true (framedN t c mi) = (1, 0, 0) := by
  unfold framedN
  rw [if_neg (by omega), if_neg (by omega)]
  rfl
theorem safe_coded {t c : List ByteArray} {mi : Int} (h : t.length = 1) (h2 : c.length = 0) (hm : mi ≠ 0) : reqF true (framedN t c mi) = (3, 0, 0) ∨ reqF true (framedN t c mi) = (0, 0, 22) := by
  unfold framedN
  rw [if_pos (by omega), if_neg (by omega), chunkN]
  split
  · exact .inl rfl
  · exact .inr rfl
theorem len_cases (l : Bs) : (∃ d, d ≠ 0 ∧ lenN l = (0, 0, d)) ∨ ∃ b, 0 ≤ b ∧ b ≤ 4000 ∧ lenN l = (2, b, 0) := by
  unfold lenN
  by_cases h1 : (parseN l 10).2 = 1
  · exact .inl ⟨22, by decide, if_pos h1⟩
  · by_cases h2 : (parseN l 10).2 ≠ 0 ∨ 4000 < (parseN l 10).1
    · exact .inl ⟨2, by decide, by rw [if_neg h1, if_pos h2]⟩
    · have h0 : (parseN l 10).2 = 0 := Classical.not_not.1 fun h => h2 (.inl h)
      exact .inr ⟨_, parse_zero l h0, by omega, by rw [if_neg h1, if_neg h2]⟩
theorem safe_sized {t c : List ByteArray} {mi : Int} (h : t.length = 0) (h2 : c.length = 1) : (∃ d, d ≠ 0 ∧ reqF true (framedN t c mi) = (0, 0, d)) ∨ ∃ b, 0 ≤ b ∧ b ≤ 4000 ∧ reqF true (framedN t c mi) = (2, b, 0) := by
  unfold framedN
  rw [if_neg (by omega), if_pos (by omega), sizN, if_pos h2]
  rcases len_cases (dl (hd1 c)) with ⟨d, hd, he⟩ | ⟨b, h0, h1, he⟩
  · exact .inl ⟨d, hd, by rw [he, reqF_true, if_pos hd]⟩
  · exact .inr ⟨b, h0, h1, by rw [he]; rfl⟩

/-- how many there are, of what Get tells -/
def LenEnds (k : Nat) (w : World) (e : Ending) (w' : World) : Prop := ∃ s : Sli, e = .returned (.slice s.A s.n s.c) ∧ s.n = k ∧ Below w.heap.size w w'
/-- two slices, so long -/
def CutT (a b : Nat) (W : World) (v u : Value) (w' : World) : Prop := ∃ T C : Sli, v = .slice T.A T.n T.c ∧ u = .slice C.A C.n C.c ∧ T.n = a ∧ C.n = b ∧ Below W.heap.size W w'

set_option maxRecDepth 100000 in
set_option maxHeartbeats 4000000 in
theorem frameSafe_any (A : Option Addr) (L c : Nat) (ys : List UInt8) (w : World) (hl : ys.length = L) (hm : L ≤ maxLen) (hU : Us w w.heap.size A ys) : Calls Tryd.prog 6 #[.slice A L c] w (BoolEnds true w) := by
  have HM := Lib.hid (fun W (hW : Below w.heap.size w W) => made_any A L c ys false W hl hm (hU.up hW))
  clear hl hm hU
  go_enter Tryd.func6, Tryd.ntmps6
  go_wp2_with fail
  refine (awake_any _).mono ?_
  rintro e w1 ⟨rfl, hb1⟩
  go_wp2_with fail
  refine (HM.out _ hb1).mono ?_
  rintro e w2 ⟨m, t, st, r, mi, S, fs, rfl, hG, hF, hb2⟩
  obtain ⟨SA, Sn, Sc⟩ := S
  simp only
  go_upto_region 5 with fail
  have hd := ba1 w2 (.cells #[.string m, .string t, .int .i64 st, .string r, .int .i64 mi, .slice SA Sn Sc] 25)
  have bh := Box.new w2 25 #[.string m, .string t, .int .i64 st, .string r, .int .i64 mi, .slice SA Sn Sc]
  have F1 := hF.up hd
  have hB := bon hb1 (bon hb2 hd)
  obtain ⟨g, hg⟩ : ∃ g, w2.heap.size = g := ⟨_, rfl⟩
  rw [hg] at bh ⊢
  clear hg hd hF hb1 hb2 HM
  generalize w2.alloc (.cells #[.string m, .string t, .int .i64 st, .string r, .int .i64 mi, .slice SA Sn Sc] 25) = W2 at *
  obtain ⟨e1, e2, e3, e4, e5⟩ := good_few hG
  have hSn : Sn ≤ 4096 := by have := F1.len; simp only at this; omega
  have HRq : Hid (∀ W, Below W2.heap.size W2 W → Calls Tryd.prog 12 #[.agg #[.string m, .string t, .int .i64 st, .string r, .int .i64 mi, .slice SA Sn Sc]] W (FrEnds (reqF true (framedN (getL fs teN) (getL fs clN) mi)) W)) := Lib.hid (fun W h => by
    have := request_any m t st r mi SA Sn Sc fs W e1 e2 e3 (F1.up h) hSn e5
    rw [hG.1] at this
    exact this)
  obtain ⟨nT, hnT⟩ : ∃ k, (getL fs teN).length = k := ⟨_, rfl⟩
  obtain ⟨nC, hnC⟩ : ∃ k, (getL fs clN).length = k := ⟨_, rfl⟩
  have zT : nT ≤ 4096 := by have := getL_len fs teN; omega
  have zC : nC ≤ 4096 := by have := getL_len fs clN; omega
  have HGt : Hid (∀ nm W, nm.size ≤ 4096 → Below W2.heap.size W2 W → Calls Tryd.prog 13 #[.slice SA Sn Sc, .string nm] W (LenEnds (getL fs nm).length W)) := Lib.hid (fun nm W hnm h => by
    refine (rget_any ⟨SA, Sn, Sc⟩ fs nm W (F1.up h) hSn (fun f hf => (e5 f hf).1) hnm).mono ?_
    rintro e w' ⟨s, rfl, hs, hb⟩
    exact ⟨s, rfl, hs.len.symm, hb⟩)
  have HKT : Hid ((getL fs ⟨#[116, 114, 97, 110, 115, 102, 101, 114, 45, 101, 110, 99, 111, 100, 105, 110, 103]⟩).length = nT) := Lib.hid hnT
  have HKC : Hid ((getL fs ⟨#[99, 111, 110, 116, 101, 110, 116, 45, 108, 101, 110, 103, 116, 104]⟩).length = nC) := Lib.hid hnC
  have HQ1 : Hid ((0 < nT ∧ 0 < nC) ∨ 1 < nT ∨ 1 < nC ∨ (0 < nT ∧ mi = 0) → reqF true (framedN (getL fs teN) (getL fs clN) mi) = (0, 0, 22)) := Lib.hid (fun h => safe_bad (by rw [hnT, hnC]; exact h))
  have HQ2 : Hid (nT = 0 → nC = 0 → reqF true (framedN (getL fs teN) (getL fs clN) mi) = (1, 0, 0)) := Lib.hid (fun h h2 => safe_none (by omega) (by omega))
  have HQ3 : Hid (nT = 1 → nC = 0 → mi ≠ 0 → reqF true (framedN (getL fs teN) (getL fs clN) mi) = (3, 0, 0) ∨ reqF true (framedN (getL fs teN) (getL fs clN) mi) = (0, 0, 22)) := Lib.hid (fun h h2 h3 => safe_coded (by omega) (by omega) h3)
  have HQ4 : Hid (nT = 0 → nC = 1 → (∃ d, d ≠ 0 ∧ reqF true (framedN (getL fs teN) (getL fs clN) mi) = (0, 0, d)) ∨ ∃ b, 0 ≤ b ∧ b ≤ 4000 ∧ reqF true (framedN (getL fs teN) (getL fs clN) mi) = (2, b, 0)) := Lib.hid (fun h h2 => safe_sized (by omega) (by omega))
  generalize reqF true (framedN (getL fs teN) (getL fs clN) mi) = q at *
  clear hG F1 e1 e2 e3 e4 e5 hnT hnC
  obtain ⟨c0, c1, c2, c3, c4, c5⟩ := bh.six
  go_wp2_with fail
  refine (HRq.out _ (Below.refl _ _)).mono ?_
  rintro e w3 ⟨rfl, hb3⟩
  obtain ⟨a, b, d⟩ := q
  simp only
  go_upto_region 6 with fail
  have hd3 := bon hb3 (ba1 w3 (.cells #[.int .i64 a, .int .i64 b] 38))
  have bf := Box.new w3 38 #[.int .i64 a, .int .i64 b]
  have bh3 := bh.up hd3
  obtain ⟨gf, hg⟩ : ∃ g, w3.heap.size = g := ⟨_, rfl⟩
  rw [hg] at bf ⊢
  clear hg hb3 bh c0 c1 c2 c3 c4 c5 HRq
  generalize w3.alloc (.cells #[.int .i64 a, .int .i64 b] 38) = W3 at *
  have c5 := bh3.c 5 (v := .slice SA Sn Sc) rfl
  go_cut [7, 8] (CutT (getL fs ⟨#[116, 114, 97, 110, 115, 102, 101, 114, 45, 101, 110, 99, 111, 100, 105, 110, 103]⟩).length (getL fs ⟨#[99, 111, 110, 116, 101, 110, 116, 45, 108, 101, 110, 103, 116, 104]⟩).length W3)
  case first =>
    go_region_held3 (fun w' => Below W3.heap.size W3 w' ∧ w'.cell? ⟨g, 5, none⟩ = some (.slice SA Sn Sc))
      (first | exact held2 hbP (by assumption) | exact ⟨(Below.refl _ _).drew, c5⟩)
      (first
        | (go_at_call 13; refine (HGt.out _ _ (by decide) (bon hd3 ?_)).mono ?_; (simp only [*]); rintro e wP ⟨T, rfl, hT, hbP⟩))
    all_goals (rename_i hHeld; go_wp2_with fail; go_meet; exact ⟨⟨_, _, _⟩, ⟨_, _, _⟩, rfl, rfl, by first | rfl | assumption, by first | rfl | assumption, hHeld.1⟩)
  case rest =>
    obtain ⟨T, C, rfl, rfl, hT, hC, hbc⟩ := hcut
    obtain ⟨AT, nT', cT⟩ := T
    obtain ⟨AC, nC', cC⟩ := C
    simp only at hT hC ⊢
    rw [HKT.out] at hT
    rw [HKC.out] at hC
    subst hT
    subst hC
    have HBw := Lib.hid (bon hB (bon hd3 hbc))
    have bh4 := bh3.up hbc
    have bf4 := bf.up hbc
    clear bh3 bf hbc hB hd3 c5 HGt HKT HKC
    obtain ⟨c0, c1, c2, c3, c4, c5⟩ := bh4.six
    obtain ⟨x0, x1, _, _⟩ := Fr2 bf4
    by_cases h1 : 0 < nT' ∧ 0 < nC'
    · have h1i : (0 : Int) < (nT' : Int) := by omega
      have h2i : (0 : Int) < (nC' : Int) := by omega
      have hq := HQ1.out (.inl h1)
      simp only [Prod.mk.injEq] at hq
      obtain ⟨rfl, rfl, rfl⟩ := hq
      clear HQ1 HQ2 HQ3 HQ4
      go_wp2
      go_ret
      exact ⟨by first | rfl | simp, HBw.out⟩
    · by_cases h2 : 1 < nT'
      · obtain rfl : nC' = 0 := by omega
        have h1i : (0 : Int) < (nT' : Int) := by omega
        have h2i : (1 : Int) < (nT' : Int) := by omega
        have hq := HQ1.out (.inr (.inl h2))
        simp only [Prod.mk.injEq] at hq
        obtain ⟨rfl, rfl, rfl⟩ := hq
        clear HQ1 HQ2 HQ3 HQ4
        go_wp2
        go_ret
        exact ⟨by first | rfl | simp, HBw.out⟩
      · by_cases h3 : 1 < nC'
        · obtain rfl : nT' = 0 := by omega
          have h1i : (0 : Int) < (nC' : Int) := by omega
          have h2i : (1 : Int) < (nC' : Int) := by omega
          have hq := HQ1.out (.inr (.inr (.inl h3)))
          simp only [Prod.mk.injEq] at hq
          obtain ⟨rfl, rfl, rfl⟩ := hq
          clear HQ1 HQ2 HQ3 HQ4
          go_wp2
          go_ret
          exact ⟨by first | rfl | simp, HBw.out⟩
        · by_cases h4 : 0 < nT'
          · obtain rfl : nT' = 1 := by omega
            obtain rfl : nC' = 0 := by omega
            by_cases h5 : mi = 0
            · have hq := HQ1.out (.inr (.inr (.inr ⟨h4, h5⟩)))
              simp only [Prod.mk.injEq] at hq
              obtain ⟨rfl, rfl, rfl⟩ := hq
              subst h5
              clear HQ1 HQ2 HQ3 HQ4
              go_wp2
              go_ret
              exact ⟨by first | rfl | simp, HBw.out⟩
            · have h5b : (mi == 0) = false := beq_eq_false_iff_ne.2 h5
              have hq := HQ3.out rfl rfl h5
              simp only [Prod.mk.injEq] at hq
              clear HQ1 HQ2 HQ3 HQ4 h5
              rcases hq with ⟨rfl, rfl, rfl⟩ | ⟨rfl, rfl, rfl⟩
              all_goals
                go_wp2
                go_ret
                exact ⟨by first | rfl | simp, HBw.out⟩
          · obtain rfl : nT' = 0 := by omega
            by_cases h6 : nC' = 0
            · have hq := HQ2.out rfl h6
              simp only [Prod.mk.injEq] at hq
              obtain ⟨rfl, rfl, rfl⟩ := hq
              subst h6
              clear HQ1 HQ2 HQ3 HQ4
              go_wp2
              go_ret
              exact ⟨by first | rfl | simp, HBw.out⟩
            · obtain rfl : nC' = 1 := by omega
              have hq := HQ4.out rfl rfl
              simp only [Prod.mk.injEq] at hq
              clear HQ1 HQ2 HQ3 HQ4 h6
              rcases hq with ⟨d', hd', rfl, rfl, rfl⟩ | ⟨b', hb0, hb4, rfl, rfl, rfl⟩
              · have hdb : (d == 0) = false := beq_eq_false_iff_ne.2 hd'
                have hdc : (d != 0) = true := bne_iff_ne.2 hd'
                go_wp2
                go_ret
                exact ⟨by first | rfl | simp, HBw.out⟩
              · go_wp2
                go_ret
                exact ⟨by first | rfl | simp [hb0, hb4], HBw.out⟩
end Go.Proofs.YtginijeajenghaaDoor
