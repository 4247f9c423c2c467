/-
  The walk of the document's own Right.
-/
import Derived.Test.YtncbfkoldllbpaaRefA
namespace Go.Proofs.Ytncbfkoldllbpaa
open Go.RowKit

def BoolEnds (b : Bool) (w : World) (e : Ending) (w' : World) : Prop := e = .returned (.bool b) ∧ Below w.heap.size w w'

set_option maxRecDepth 100000 in
set_option maxHeartbeats 4000000 in
theorem rright_any (W : Wl) (S : Nat → Sli) (w : World) (h : At w W S) (hf : manyN W ≤ 1000000) : Calls Try.prog 18 #[wv W.now S] w (BoolEnds (okB W) w) := by
  have HM := Lib.hid (fun W1 (hb : Below w.heap.size w W1) => many_any W S W1 (h.up hb) hf)
  have HF := Lib.hid (fun id W1 (hb : Below w.heap.size w W1) => find_any W S id W1 (h.up hb))
  obtain ⟨m, hm⟩ : ∃ m, manyN W = m := ⟨_, rfl⟩
  obtain ⟨now, hn⟩ : ∃ now, W.now = now := ⟨_, rfl⟩
  rw [hm] at HM
  rw [hn] at HM HF ⊢
  rw [hm] at hf
  have HN := Lib.hid hn
  have HM2 := Lib.hid hm
  clear hm hn
  unfold wv at HM HF ⊢
  have hcase : now < 0 ∨ (0 ≤ now ∧ 9007199254740992 < now) ∨ (0 ≤ now ∧ now ≤ 9007199254740992 ∧ 64 < m) ∨ (0 ≤ now ∧ now ≤ 9007199254740992 ∧ m ≤ 64) := by omega
  rcases hcase with h1 | ⟨h1, h2⟩ | ⟨h1, h2, h3⟩ | ⟨h1, h2, h3⟩
  · have HE : Hid (okB W = false) := Lib.hid (ok_not.2 fun ho => by have := ho.lo; rw [HN.out] at this; omega)
    go_enter Try.func18, Try.ntmps18
    go_wp2
    go_ret
    exact ⟨ret_bool HE.out.symm, ba1 _ _⟩
  · have HE : Hid (okB W = false) := Lib.hid (ok_not.2 fun ho => by have := ho.hi; rw [HN.out] at this; omega)
    go_enter Try.func18, Try.ntmps18
    go_wp2
    go_ret
    exact ⟨ret_bool HE.out.symm, ba1 _ _⟩
  · have HE : Hid (okB W = false) := Lib.hid (ok_not.2 fun ho => by have := ho.few; rw [HM2.out] at this; omega)
    go_enter Try.func18, Try.ntmps18
    go_wp2_with fail
    refine (HM.out _ (ba1 _ _)).mono ?_
    rintro e w1 ⟨rfl, hb1⟩
    go_wp2
    go_ret
    exact ⟨ret_bool HE.out.symm, bon (ba1 _ _) hb1⟩
  · go_enter Try.func18, Try.ntmps18
    go_wp2_with fail
    refine (HM.out _ (ba1 _ _)).mono ?_
    rintro e w1 ⟨rfl, hb1⟩
    have hbox1 := (Box.new w 25 (wcs now S)).up hb1
    have hb1 := bon (ba1 w _) hb1
    go_wp2_with fail
    go_loopw [3, 4, 5, 6, 7] (fun vi vk v5 v6 v7 wr => ∃ i : Nat, i ≤ 8 ∧ vi = .int .i64 (i : Int) ∧ Hid (∀ (j k : Nat) (t : Tm), j < i → (W.sl j)[k]? = some t → Good W j k t) ∧ Box wr w.heap.size 25 (wcs now S) ∧ Below w.heap.size w wr) (fun vi _ _ _ _ _ => 8 - (intOf vi).toNat)
    case atStart => exact ⟨0, by omega, rfl, Lib.hid (fun j k t hj => by omega), hbox1, hb1⟩
    case round =>
      obtain ⟨i, hi, rfl, HG, hbox, hbel⟩ := hrel
      by_cases hlt : i < 8
      · have hc := hbox.slot hlt
        have HL := Lib.hid (h.len i hlt)
        have hmx := (h.le i hlt).2
        unfold maxLen at hmx
        have HT := Lib.hid ((h.ts i hlt).up hbel)
        go_wp2_with fail
        rw [show decide ((i : Int) < 8) = true from decide_eq_true (by omega)]
        go_loopw [4, 5, 6, 7] (fun vk v5 v6 v7 wq => ∃ k : Nat, k ≤ (S i).n ∧ vk = .int .i64 (k : Int) ∧ Hid (∀ (j : Nat) (t : Tm), j < k → (W.sl i)[j]? = some t → Good W i j t) ∧ Box wq w.heap.size 25 (wcs now S) ∧ Below w.heap.size w wq) (fun vk _ _ _ _ => (S i).n - (intOf vk).toNat)
        case atStart => exact ⟨0, Nat.zero_le _, rfl, Lib.hid (fun j t hj => by omega), hbox, hbel⟩
        case round =>
          clear hc hbox
          obtain ⟨k, hk, rfl, HK, hbox, hbq⟩ := hrel
          have hc := hbox.slot hlt
          have hnow := hbox.c 0 (v := .int .i64 now) rfl
          by_cases hkn : k < (S i).n
          · obtain ⟨⟨x, y⟩, ht⟩ : ∃ t : Tm, (W.sl i)[k]? = some t := ⟨_, List.getElem?_eq_getElem (by rw [HL.out]; exact hkn)⟩
            obtain ⟨b, o, hA, hb, hx, hy⟩ := ((h.ts i hlt).up hbq).two ht
            have hx : wr.cell? ⟨b, o + k * 2, none⟩ = some (.int .i64 x) := hx
            have hy : wr.cell? ⟨b, o + k * 2 + 1, none⟩ = some (.int .i64 y) := hy
            have HX := Lib.hid ht
            rw [hA] at hc
            clear ht hA hnow HT
            have hbox2 := hbox.alloc (.cells #[.int .i64 x, .int .i64 y] 34)
            have htb := Box.new wr 34 #[.int .i64 x, .int .i64 y]
            obtain ⟨c0, c1, c2, c3, c4, c5, c6, c7, c8⟩ := hbox2.nine
            have d0 := htb.c 0 (v := .int .i64 x) rfl
            go_wp2_with fail
            refine (HF.out x _ (bon hbq (ba1 _ _))).mono ?_
            rintro e w2 ⟨rfl, hb2⟩
            have hbox3 := hbox2.up hb2
            have htb3 := htb.up hb2
            have hbq2 := bon (bon hbq (ba1 _ _)) hb2
            clear hbox2 htb c0 c1 c2 c3 c4 c5 c6 c7 c8 d0 hb2
            have e0 := hbox3.c 0 (v := .int .i64 now) rfl
            have d0 := htb3.c 0 (v := .int .i64 x) rfl
            have d1 := htb3.c 1 (v := .int .i64 y) rfl
            obtain ⟨⟨qa, qb⟩, hq⟩ : ∃ q, findN W x = q := ⟨_, rfl⟩
            have HQ := Lib.hid hq
            rw [hq]
            clear hq
            have hcs : ((x < 0 ∨ (0 ≤ x ∧ y ≤ now) ∨ (0 ≤ x ∧ now < y ∧ 9007199254740992 < y)) ∧ Hid (¬ Good W i k (x, y))) ∨ (0 ≤ x ∧ now < y ∧ y ≤ 9007199254740992) := by
              have hg : ¬ (0 ≤ x ∧ now < y ∧ y ≤ 9007199254740992) → Hid (¬ Good W i k (x, y)) := fun hn => Lib.hid (fun hg => hn ⟨hg.1, by have := hg.2.1; rw [HN.out] at this; exact this, hg.2.2.1⟩)
              by_cases g1 : 0 ≤ x ∧ now < y ∧ y ≤ 9007199254740992
              · exact .inr g1
              · exact .inl ⟨by omega, hg g1⟩
            rcases hcs with ⟨hbad, HB⟩ | ⟨g1, g2, g3⟩
            · have HE : Hid (okB W = false) := Lib.hid (ok_not.2 fun ho => HB.out (ho.good hlt HX.out))
              clear HB
              rcases hbad with g1 | ⟨g1, g2⟩ | ⟨g1, g2, g3⟩
              all_goals
                go_wp2
                go_ret
                exact ⟨ret_bool HE.out.symm, hbq2⟩
            · have t1 : y.tmod 8 = y % 8 := Int.tmod_eq_emod_of_nonneg (by omega)
              obtain ⟨r, hr⟩ : ∃ r, y % 8 = r := ⟨_, rfl⟩
              rw [hr] at t1
              have HR := Lib.hid hr
              by_cases g4 : r = (i : Int) ∧ qa = (i : Int) ∧ qb = (k : Int)
              · obtain ⟨g5, g6, g7⟩ := g4
                subst g5
                subst g6
                subst g7
                have HGd : Hid (Good W i k (x, y)) := Lib.hid ⟨g1, by rw [HN.out]; exact g2, g3, HR.out, HQ.out⟩
                clear HQ HR
                go_wp2
                go_roundw
                case rel =>
                  refine ⟨k + 1, by omega, by go_num, Lib.hid (fun j t hj ht => ?_), hbox3, hbq2⟩
                  by_cases hjk : j < k
                  · exact HK.out j t hjk ht
                  · have : j = k := by omega
                    subst this
                    have h2 := Option.some.inj (HX.out.symm.trans ht)
                    subst h2
                    exact HGd.out
                case measure => simp [intOf]; omega
              · have HE : Hid (okB W = false) := Lib.hid (ok_not.2 fun ho => g4 (by
                  obtain ⟨_, _, _, q1, q2⟩ := ho.good hlt HX.out
                  have q1 : y % 8 = (i : Int) := q1
                  have q2 : findN W x = ((i : Int), (k : Int)) := q2
                  rw [HR.out] at q1
                  rw [HQ.out] at q2
                  simp only [Prod.mk.injEq] at q2
                  exact ⟨q1, q2⟩))
                have hcs2 : r ≠ (i : Int) ∨ (r = (i : Int) ∧ qa ≠ (i : Int)) ∨ (r = (i : Int) ∧ qa = (i : Int) ∧ qb ≠ (k : Int)) := by omega
                clear g4 hr HQ HR
                rcases hcs2 with g4 | ⟨g4, g5⟩ | ⟨g4, g5, g6⟩
                · go_wp2
                  go_ret
                  exact ⟨ret_bool HE.out.symm, hbq2⟩
                · subst g4
                  go_wp2
                  go_ret
                  exact ⟨ret_bool HE.out.symm, hbq2⟩
                · subst g4
                  subst g5
                  have g7 : (qb != (k : Int)) = true := by simpa using g6
                  go_wp2
                  go_ret
                  exact ⟨ret_bool HE.out.symm, hbq2⟩
          · have : k = (S i).n := by omega
            subst this
            go_wp2
            refine ⟨⟨i + 1, by omega, by go_num, Lib.hid (fun j l t hj ht => ?_), hbox, hbq⟩, by simp [intOf]; omega⟩
            by_cases hji : j < i
            · exact HG.out j l t hji ht
            · have : j = i := by omega
              subst this
              exact HK.out l t (by rw [← HL.out]; exact (List.getElem?_eq_some_iff.1 ht).1) ht
      · have : i = 8 := by omega
        subst this
        have HE : Hid (okB W = true) := Lib.hid (ok_iff.2 (ok_of_good (by rw [HN.out]; exact h1) (by rw [HN.out]; exact h2) (by rw [HM2.out]; exact h3) (fun j k t hj ht => HG.out j k t hj ht)))
        go_wp2
        go_ret
        exact ⟨ret_bool HE.out.symm, hbel⟩

end Go.Proofs.Ytncbfkoldllbpaa
