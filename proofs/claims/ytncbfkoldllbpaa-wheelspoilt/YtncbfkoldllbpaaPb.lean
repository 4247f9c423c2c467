/-
  The walk of the program's own placed.
-/
import Derived.Test.YtncbfkoldllbpaaPa
namespace Go.Proofs.Ytncbfkoldllbpaa
open Go.RowKit

/-- what is asked of one timer, wherever its like may be -/
def Set1 (now : Int) (i : Nat) (t : Tm) : Prop := 0 ≤ t.1 ∧ now < t.2 ∧ t.2 ≤ 9007199254740992 ∧ t.2 % 8 = (i : Int)
/-- each timer is where it may be -/
def Placed (W : Wl) : Prop := ∀ (i k : Nat) (t : Tm), i < 8 → (W.sl i)[k]? = some t → Set1 W.now i t
open Classical in
noncomputable def placedB (W : Wl) : Bool := decide (Placed W)
theorem placed_iff {W : Wl} : placedB W = true ↔ Placed W := by simp [placedB]
theorem placed_not {W : Wl} : placedB W = false ↔ ¬ Placed W := by simp [placedB]

set_option maxRecDepth 100000 in
set_option maxHeartbeats 4000000 in
theorem placed_any (W : Wl) (S : Nat → Sli) (w : World) (h : At w W S) (h0 : 0 ≤ W.now) : Calls Try.prog 29 #[wv W.now S] w fun e w' => e = .returned (.bool (placedB W)) ∧ Below w.heap.size w w' := by
  have HA := Lib.hid (fun at_ W1 => ahead_any W.now S at_ W1)
  obtain ⟨now, hn⟩ : ∃ now, W.now = now := ⟨_, rfl⟩
  rw [hn] at HA h0 ⊢
  have HN := Lib.hid hn
  clear hn
  unfold wv at HA ⊢
  go_enter Try.func29, Try.ntmps29
  go_wp2_with fail
  go_loopw [3, 4, 6, 9] (fun v3 v4 v6 vi wr => ∃ i : Nat, i ≤ 8 ∧ vi = .int .i64 (i : Int) ∧ Hid (∀ (j k : Nat) (t : Tm), j < i → (W.sl j)[k]? = some t → Set1 W.now j t) ∧ Box wr w.heap.size 25 (wcs now S) ∧ Below w.heap.size w wr) (fun _ _ _ vi _ => 8 - (intOf vi).toNat)
  case atStart => exact ⟨0, by omega, rfl, Lib.hid (fun j k t hj => by omega), Box.new _ _ _, ba1 _ _⟩
  case round =>
    obtain ⟨i, hi, rfl, HG, hbox, hbel⟩ := hrel
    by_cases hlt : i < 8
    · have hx := idx8 S hlt
      have HL := Lib.hid (h.len i hlt)
      have hmx := (h.le i hlt).2
      unfold maxLen at hmx
      go_wp2_with fail
      rw [show decide ((i : Int) < 8) = true from decide_eq_true (by omega)]
      go_loopw [6, 15] (fun v6 vk wq => ∃ k : Nat, k ≤ (S i).n ∧ vk = .int .i64 (k : Int) ∧ Hid (∀ (j : Nat) (t : Tm), j < k → (W.sl i)[j]? = some t → Set1 W.now i t) ∧ Box wq w.heap.size 25 (wcs now S) ∧ Below w.heap.size w wq) (fun _ vk _ => (S i).n - (intOf vk).toNat)
      case atStart => exact ⟨0, Nat.zero_le _, rfl, Lib.hid (fun j t hj => by omega), hbox, hbel⟩
      case round =>
        clear hbox
        obtain ⟨k, hk, rfl, HK, hbox, hbq⟩ := hrel
        by_cases hkn : k < (S i).n
        · obtain ⟨⟨x, y⟩, ht⟩ : ∃ t : Tm, (W.sl i)[k]? = some t := ⟨_, List.getElem?_eq_getElem (by rw [HL.out]; exact hkn)⟩
          obtain ⟨b, o, hA, hb, hx, hy⟩ := ((h.ts i hlt).up hbq).two ht
          have hx : wr.cell? ⟨b, o + k * 2, none⟩ = some (.int .i64 x) := hx
          have hy : wr.cell? ⟨b, o + k * 2 + 1, none⟩ = some (.int .i64 y) := hy
          have HX := Lib.hid ht
          rw [hA]
          clear ht hA
          have hbox2 := hbox.alloc (.cells #[.int .i64 x, .int .i64 y] 34)
          have htb := Box.new wr 34 #[.int .i64 x, .int .i64 y]
          have hbq2 := bon hbq (ba1 wr (.cells #[.int .i64 x, .int .i64 y] 34))
          by_cases hx0 : x < 0
          · have HE : Hid (placedB W = false) := Lib.hid (placed_not.2 fun hp => by have := (hp i k _ hlt HX.out).1; simp only at this; omega)
            go_wp2
            go_ret
            exact ⟨ret_bool HE.out.symm, hbq2⟩
          · obtain ⟨c0, c1, c2, c3, c4, c5, c6, c7, c8⟩ := hbox2.nine
            have d0 := htb.c 0 (v := .int .i64 x) rfl
            have d1 := htb.c 1 (v := .int .i64 y) rfl
            go_wp2_with fail
            refine (HA.out y _).mono ?_
            rintro e w2 ⟨rfl, hb2⟩
            have hbox3 := hbox2.up hb2
            have htb3 := htb.up hb2
            have hbq3 := bon hbq2 hb2
            clear hbox2 htb c0 c1 c2 c3 c4 c5 c6 c7 c8 d0 d1 hb2 hbq2
            have d1 := htb3.c 1 (v := .int .i64 y) rfl
            by_cases hya : now < y ∧ y ≤ 9007199254740992
            · rw [show aheadN now y = true from decide_eq_true hya]
              obtain ⟨g2, g3⟩ := hya
              have t1 : y.tmod 8 = y % 8 := Int.tmod_eq_emod_of_nonneg (by omega)
              obtain ⟨r, hr⟩ : ∃ r, y % 8 = r := ⟨_, rfl⟩
              rw [hr] at t1
              have HR := Lib.hid hr
              by_cases g4 : r = (i : Int)
              · subst g4
                have HGd : Hid (Set1 W.now i (x, y)) := Lib.hid ⟨by simp only; omega, by rw [HN.out]; exact g2, g3, HR.out⟩
                go_wp2
                go_roundw
                case rel =>
                  refine ⟨k + 1, by omega, by go_num, Lib.hid (fun j t hj ht => ?_), hbox3, hbq3⟩
                  by_cases hjk : j < k
                  · exact HK.out j t hjk ht
                  · have : j = k := by omega
                    subst this
                    have h2 := Option.some.inj (HX.out.symm.trans ht)
                    subst h2
                    exact HGd.out
                case measure => simp [intOf]; omega
              · have HE : Hid (placedB W = false) := Lib.hid (placed_not.2 fun hp => g4 (by have := (hp i k _ hlt HX.out).2.2.2; rw [← HR.out]; exact this))
                clear hr HR
                have g5 : (r != (i : Int)) = true := by simpa using g4
                go_wp2
                go_ret
                exact ⟨ret_bool HE.out.symm, hbq3⟩
            · rw [show aheadN now y = false from decide_eq_false hya]
              have HE : Hid (placedB W = false) := Lib.hid (placed_not.2 fun hp => hya (by have := hp i k _ hlt HX.out; rw [HN.out] at this; exact ⟨this.2.1, this.2.2.1⟩))
              clear hya
              go_wp2
              go_ret
              exact ⟨ret_bool HE.out.symm, hbq3⟩
        · have : k = (S i).n := by omega
          subst this
          go_wp2
          refine ⟨⟨i + 1, by omega, by go_num, Lib.hid (fun j l t hj ht => ?_), hbox, hbq⟩, by simp [intOf]; omega⟩
          by_cases hji : j < i
          · exact HG.out j l t hji ht
          · have : j = i := by omega
            subst this
            exact HK.out l t (by rw [← HL.out]; exact (List.getElem?_eq_some_iff.1 ht).1) ht
    · have : i = 8 := by omega
      subst this
      have HE : Hid (placedB W = true) := Lib.hid (placed_iff.2 (fun j k t hj ht => HG.out j k t hj ht))
      go_wp2
      go_ret
      exact ⟨ret_bool HE.out.symm, hbel⟩
end Go.Proofs.Ytncbfkoldllbpaa
