/-
  The walk of the laws' own 'Ops': whatever is done to a ring by the document's own Pop and Push, a ring with as much room comes out.
-/
import Derived.Test.YtbjjolfefegcbaaTold
import Derived.Deep.LoopGhost
import Derived.Deep.DeepCutAuto
namespace Go.Proofs.Ytbjjolfefegcbaa
open Go.RowKit

theorem rpop_O (N : Nat) (A : Option Addr) (c : Nat) (f m n : Int) (xs : List UInt8) (w : World) (HX : Hid (xs.length = N)) (HA : Hid (A = none → c = 0)) (hb : N ≤ 100000000) (hB : Bs w w.heap.size A xs) :
    Calls Try.prog 19 #[.agg #[.slice A N c, .int .i64 f, .int .i64 m], .int .i64 n] w fun e w' => ∃ A2 c2 f2 m2 L, e = .returned (.tuple #[.agg #[.slice A2 N c2, .int .i64 f2, .int .i64 m2], .string L]) ∧ (A2 = none → c2 = 0) ∧ N ≤ c2 ∧ Bs w' w'.heap.size A2 xs ∧ Below w.heap.size w w' := by
  obtain rfl := HX.out
  refine (rpop_any A c f m n xs w HA.out hb hB).mono ?_
  rintro e w' ⟨v, rfl, ⟨A2, c2, rfl, h1, h2, h3⟩, h4⟩
  exact ⟨A2, c2, _, _, _, rfl, h1, h2, h3, h4⟩

theorem pushed_len (xs : List UInt8) (f m : Int) (t : List UInt8) : (pushed xs f m t).1.length = xs.length ∧ (pushed xs f m t).2.2 ≤ t.length := by
  unfold pushed
  split
  · exact ⟨put_length _ _ _, by simp; omega⟩
  · exact ⟨rfl, Nat.zero_le _⟩

theorem rpush_O (N : Nat) (A : Option Addr) (c : Nat) (f m : Int) (xs : List UInt8) (s : ByteArray) (M : Nat) (w : World) (HX : Hid (xs.length = N)) (HA : Hid (A = none → c = 0)) (hb : N ≤ 100000000) (hB : Bs w w.heap.size A xs) (hS : s.size ≤ maxLen) (hM : s.size ≤ M) :
    Calls Try.prog 18 #[.agg #[.slice A N c, .int .i64 f, .int .i64 m], .string s] w fun e w' => ∃ A2 c2 m2, ∃ kn : Nat, ∃ xs2 : List UInt8, e = .returned (.tuple #[.agg #[.slice A2 N c2, .int .i64 f, .int .i64 m2], .int .i64 (kn : Int)]) ∧ xs2.length = N ∧ kn ≤ M ∧ (A2 = none → c2 = 0) ∧ N ≤ c2 ∧ Bs w' w'.heap.size A2 xs2 ∧ Below w.heap.size w w' := by
  obtain rfl := HX.out
  have hl := pushed_len xs f m s.data.toList
  have hz := Lib.size_eq s
  refine (rpush_any A c f m xs s w HA.out hb hB hS).mono ?_
  rintro e w' ⟨v, rfl, ⟨A2, c2, rfl, h1, h2, h3⟩, h4⟩
  refine ⟨A2, c2, _, _, _, by rw [hl.1], hl.1, by omega, h1, by omega, h3, h4⟩

/-- at the head of each round: k rounds are over, T bytes of s are in -/
def OpsRel (s : ByteArray) (N len : Nat) (w : World) (c8 c9 : Value) (wr : World) : Prop :=
  ∃ (k T : Nat) (f m : Int) (xs : List UInt8) (A : Option Addr) (c : Nat), c8 = .int .i64 (T : Int) ∧ c9 = .int .i64 (k : Int) ∧ (k ≤ len ∧ k ≤ 20 ∧ T ≤ s.size ∧ N ≤ c) ∧ xs.length = N ∧ (A = none → c = 0) ∧
    Box wr w.heap.size 24 #[.slice A N c, .int .i64 f, .int .i64 m] ∧ Box wr (w.heap.size + 1) 24 #[.slice none 0 0, .int .i64 0, .int .i64 0] ∧ Bs wr wr.heap.size A xs ∧ Below w.heap.size w wr

theorem ops_next {s : ByteArray} {N len k T c c2 : Nat} {w wr wP : World} {f m f2 m2 : Int} {A A2 : Option Addr} {xs2 : List UInt8} (h : k < len ∧ k < 20 ∧ T ≤ s.size ∧ N ≤ c2) (hx : xs2.length = N) (hA : A2 = none → c2 = 0)
    (b1 : Box wr w.heap.size 24 #[.slice A N c, .int .i64 f, .int .i64 m]) (b2 : Box wr (w.heap.size + 1) 24 #[.slice none 0 0, .int .i64 0, .int .i64 0]) (hbw : Below w.heap.size w wr) (hb : Below wr.drew.heap.size wr.drew wP) (hB : Bs wP wP.heap.size A2 xs2) :
    OpsRel s N len w (.int .i64 (T : Int)) (.int .i64 ((k : Int) + 1)) (((wP.setCell ⟨w.heap.size, 0, none⟩ (.slice A2 N c2)).setCell ⟨w.heap.size, 1, none⟩ (.int .i64 f2)).setCell ⟨w.heap.size, 2, none⟩ (.int .i64 m2)) := by
  have h1 : Below wr.heap.size wr wP := ⟨hb.os, hb.tape, hb.output, hb.size, hb.block⟩
  have q1 := b1.up h1
  have q2 := b2.up h1
  refine ⟨k + 1, T, f2, m2, xs2, A2, c2, rfl, by simp, by omega, hx, hA, q1.set3 _ _ _, q2.far3 (by omega) _ _ _, ?_, below_set3 (bon hbw h1) (Nat.le_refl _) _ _ _⟩
  rw [size_set3]
  exact hB.set3 q1 _ _ _

theorem made_int {k : IntKind} {a b : Int} (h : a = b) : Value.int k a = Value.int k b := by rw [h]

def OpsEnds (N : Nat) (w : World) (e : Ending) (w' : World) : Prop :=
  ∃ A c f m t, ∃ xs : List UInt8, e = .returned (.tuple #[.agg #[.slice A N c, .int .i64 f, .int .i64 m], .string t]) ∧ xs.length = N ∧ (A = none → c = 0) ∧ N ≤ c ∧ Bs w' w'.heap.size A xs ∧ Below w.heap.size w w'

theorem ops_end {N c : Nat} {w wr : World} {f m : Int} {A : Option Addr} {xs : List UInt8} {t : ByteArray} (hc : N ≤ c) (hx : xs.length = N) (hA : A = none → c = 0) (b2 : Box wr (w.heap.size + 1) 24 #[.slice none 0 0, .int .i64 0, .int .i64 0]) (hB : Bs wr wr.heap.size A xs) (hbw : Below w.heap.size w wr) :
    OpsEnds N w (.returned (.tuple #[rv A N c f m, .string t])) (((wr.drew.setCell ⟨w.heap.size + 1, 0, none⟩ (.slice A N c)).setCell ⟨w.heap.size + 1, 1, none⟩ (.int .i64 f)).setCell ⟨w.heap.size + 1, 2, none⟩ (.int .i64 m)) := by
  refine ⟨A, c, f, m, t, xs, rfl, hx, hA, hc, ?_, below_set3 hbw.drew (by omega) _ _ _⟩
  rw [size_set3]
  exact Bs.set3 (w := wr.drew) hB b2 _ _ _

set_option maxRecDepth 100000 in
set_option maxHeartbeats 2000000 in
theorem ops_any (N : Nat) (A : Option Addr) (c : Nat) (f m : Int) (xs : List UInt8) (L : Option Addr) (lc : Nat) (ys : List UInt8) (s : ByteArray) (w : World) (HX : Hid (xs.length = N)) (HA : Hid (A = none → c = 0)) (hN : N ≤ 40) (hc : N ≤ c) (hB : Bs w w.heap.size A xs) (hL : Bs w w.heap.size L ys) (hy : ys.length ≤ maxLen) (hs : s.size ≤ 200) :
    Calls Try.prog 11 #[.agg #[.slice A N c, .int .i64 f, .int .i64 m], .slice L ys.length lc, .string s] w (OpsEnds N w) := by
  unfold maxLen at hy
  go_enter Try.func11, Try.ntmps11
  go_wp2_with fail
  have b1 := (Box.new w 24 #[.slice A N c, .int .i64 f, .int .i64 m]).alloc (.cells #[.slice none 0 0, .int .i64 0, .int .i64 0] 24)
  have b2 := Box.mk' (w.alloc (.cells #[.slice A N c, .int .i64 f, .int .i64 m] 24)) 24 #[.slice none 0 0, .int .i64 0, .int .i64 0] (w.heap.size + 1) (by simp)
  have hB2 := hB.up (ba2 w (.cells #[.slice A N c, .int .i64 f, .int .i64 m] 24) (.cells #[.slice none 0 0, .int .i64 0, .int .i64 0] 24))
  have hw2 := ba2 w (.cells #[.slice A N c, .int .i64 f, .int .i64 m] 24) (.cells #[.slice none 0 0, .int .i64 0, .int .i64 0] 24)
  go_loopw [8, 9] (OpsRel s N ys.length w) (fun _ i _ => 20 - (intOf i).toNat)
  case atStart => exact ⟨0, 0, f, m, xs, A, c, rfl, rfl, by omega, HX.out, HA.out, b1, b2, hB2, hw2⟩
  case round =>
    clear b1 b2 hB2 hw2 HX HA hc hB
    obtain ⟨k, T, f, m, xs, A, c, rfl, rfl, ⟨hk1, hk2, hT, hc⟩, hx, hA, b1, b2, hB, hbw⟩ := hrel
    have HX := Lib.hid hx
    have HA := Lib.hid hA
    clear hx hA
    obtain ⟨⟨c0, c1, c2⟩, f0, f1, f2⟩ := b1.three
    by_cases hlt : k < ys.length
    · by_cases hlt2 : k < 20
      · obtain ⟨b, off, rfl, hbl, hcell⟩ := hL (by omega)
        have hy0 : wr.cell? ⟨b, off + k, none⟩ = some (bv (ys[k]?.getD 0)) := (hbw.cell (p := ⟨b, off + k, none⟩) hbl).trans (hcell k hlt)
        generalize ys[k]?.getD 0 = y at hy0
        unfold bv at hy0
        have hyl : y.toNat < 256 := UInt8.toNat_lt y
        obtain ⟨z, hz⟩ : ∃ z : Nat, z = y.toNat := ⟨_, rfl⟩
        rw [← hz] at hy0 hyl
        clear hcell hz hL
        obtain ⟨q, hq⟩ : ∃ q : Nat, q = z / 2 % 12 := ⟨_, rfl⟩
        have hq1 : q < 12 := by omega
        have t1 : IntKind.i64.wrap (z : Int) = (z : Int) := IntWalk.i64_in _ (by omega)
        have t2 : IntKind.i64.wrap ((z : Int).tdiv 2) = (z : Int) / 2 := by rw [Int.tdiv_eq_ediv_of_nonneg (by omega)]; exact IntWalk.i64_in _ (by omega)
        have t3 : ((z : Int) / 2).tmod 12 = (q : Int) := by rw [Int.tmod_eq_emod_of_nonneg (by omega)]; omega
        have t4 : IntKind.i64.wrap ((z : Int) / 2) = (z : Int) / 2 := IntWalk.i64_in _ (by omega)
        clear hq
        by_cases hev : z % 2 = 0
        · have hev' : (((z : Int) % 2) == 0) = true := by simp; omega
          clear hev
          go_wp2_with fail
          go_region_law (first | (go_simp; go_at_call 19; refine (rpop_O N A c f m _ xs _ HX HA (by omega) ?_).mono ?_; exact hB; rintro e wP ⟨Aq, cq, fq, mq, Lq, rfl, hAq, hcq, hBq, hbP⟩; obtain ⟨⟨q0, q1, q2⟩, r0, r1, r2⟩ := (Box.up (w := wr.drew) b1 hbP).three))
          all_goals
            clear c0 c1 c2 f0 f1 f2 q0 q1 q2 r0 r1 r2 t1 t2 t3 t4 hy0 hev'
            go_wp2_with fail
            exact ⟨ops_next ⟨hlt, hlt2, hT, hcq⟩ HX.out hAq b1 b2 hbw hbP hBq, by simp [intOf]; omega⟩
        · have hev' : (((z : Int) % 2) == 0) = false := by simp; omega
          clear hev
          obtain ⟨E, hE⟩ : ∃ E : Nat, E = min s.size (T + q) := ⟨_, rfl⟩
          have hE1 : T ≤ E := by omega
          have hE2 : E ≤ s.size := by omega
          have HE := Lib.hid hE
          clear hE
          go_upto_region 8 with fail
          go_cut [10] (fun c10 wx => c10 = .int .i64 (E : Int) ∧ wr = wx)
          case first =>
            go_wp2_with fail
            go_meet
            exact ⟨made_int (by have := HE.out; omega), rfl⟩
          case rest =>
            obtain ⟨rfl, rfl⟩ := hcut
            have hsz : (s.extract T E).size ≤ maxLen := by rw [ByteArray.size_extract]; unfold maxLen; omega
            have hse : (s.extract T E).size ≤ s.size - T := by rw [ByteArray.size_extract]; omega
            clear t1 t2 t3 t4 hev' hy0
            go_wp2_with fail
            go_region_law (first | (go_simp; go_at_call 18; refine (rpush_O N A c f m xs (s.extract T E) (s.size - T) _ HX HA (by omega) ?_ hsz hse).mono ?_; exact hB; rintro e wP ⟨Aq, cq, mq, kn, xq, rfl, hxq, hkn, hAq, hcq, hBq, hbP⟩; obtain ⟨⟨q0, q1, q2⟩, r0, r1, r2⟩ := (Box.up (w := wr.drew) b1 hbP).three))
            all_goals
              clear c0 c1 c2 f0 f1 f2 q0 q1 q2 r0 r1 r2
              go_wp2_with fail
              exact ⟨ops_next (T := T + kn) ⟨hlt, hlt2, by omega, hcq⟩ hxq hAq b1 b2 hbw hbP hBq, by simp [intOf]; omega⟩
      · obtain ⟨⟨d0, d1, d2⟩, e0, e1, e2⟩ := b2.three
        go_wp2_with fail
        go_region_law (first | fail)
        all_goals
          go_wp2
          refine bodyPost_ret (v := .tuple #[rv A N c f m, .string (s.extract T s.size)]) (by simp [results, Try.results11, go_sem, d0, d1, d2]) rfl ?_
          exact ops_end hc HX.out HA.out b2 hB hbw
    · obtain ⟨⟨d0, d1, d2⟩, e0, e1, e2⟩ := b2.three
      go_wp2_with fail
      go_region_law (first | fail)
      all_goals
        go_wp2
        refine bodyPost_ret (v := .tuple #[rv A N c f m, .string (s.extract T s.size)]) (by simp [results, Try.results11, go_sem, d0, d1, d2]) rfl ?_
        exact ops_end hc HX.out HA.out b2 hB hbw

end Go.Proofs.Ytbjjolfefegcbaa
