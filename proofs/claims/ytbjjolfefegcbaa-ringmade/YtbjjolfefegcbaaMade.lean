/-
  The walk of the law RingMade.
-/
import Derived.Test.YtbjjolfefegcbaaOps
namespace Go.Proofs.Ytbjjolfefegcbaa
open Go.RowKit

theorem madeS {W5 X w' : World} {a0 a1 a2 : Addr} {v0 v1 v2 : Value} (hb : Below X.heap.size X w')
    (h : Below W5.heap.size W5 X ∧ X.cell? a0 = some v0 ∧ X.cell? a1 = some v1 ∧ X.cell? a2 = some v2) :
    Below W5.heap.size W5 w' ∧ w'.cell? a0 = some v0 ∧ w'.cell? a1 = some v1 ∧ w'.cell? a2 = some v2 := by
  obtain ⟨h, h0, h1, h2⟩ := h
  exact ⟨bon h hb, cell_up hb h0, cell_up hb h1, cell_up hb h2⟩

set_option maxRecDepth 100000 in
set_option maxHeartbeats 2000000 in
theorem made_any (room : UInt8) (L : Option Addr) (lc : Nat) (ys : List UInt8) (s t : ByteArray) (n : Int) (w : World) (hL : Bs w w.heap.size L ys) (hy : ys.length ≤ maxLen) (hs : s.size ≤ maxLen) (ht : t.size ≤ maxLen) (hM : Mx w) :
    Calls Try.prog 4 #[.int .u8 (room.toNat : Int), .slice L ys.length lc, .string s, .int .i64 n, .string t] w fun e w' => e = .returned (.bool true) ∧ Below w.heap.size w w' := by
  have HY := Lib.hid hy
  clear hy
  unfold maxLen at hs ht
  have hr : room.toNat < 256 := UInt8.toNat_lt room
  by_cases h1 : 200 < s.size
  · go_enter Try.func4, Try.ntmps4
    go_wp2_with fail
    refine (awake_any _ hM).mono ?_
    rintro e w1 ⟨rfl, hb1⟩
    go_wp2
    go_ret
    exact ⟨rfl, hb1⟩
  by_cases h2 : 60 < t.size
  · go_enter Try.func4, Try.ntmps4
    go_wp2_with fail
    refine (awake_any _ hM).mono ?_
    rintro e w1 ⟨rfl, hb1⟩
    go_wp2
    go_ret
    exact ⟨rfl, hb1⟩
  go_enter Try.func4, Try.ntmps4
  go_wp2_with fail
  obtain ⟨N, hN⟩ : ∃ N : Nat, N = 1 + room.toNat % 40 := ⟨_, rfl⟩
  have hN1 : 1 ≤ N := by omega
  have hN2 : N ≤ 40 := by omega
  have eN : (1 + (room.toNat : Int) % 40) = (N : Int) := by omega
  rw [eN]
  clear eN hN
  refine (rnew_yes N w hN1 (by omega)).mono ?_
  rintro e w1 ⟨rfl, hb1, hB1⟩
  go_wp2_with fail
  refine (ops_any N _ N 0 0 _ L lc ys s _ (Lib.hid (by simp)) (Lib.hid (fun h => by cases h)) hN2 (Nat.le_refl _) hB1 (hL.up hb1) HY.out (by omega)).mono ?_
  rintro e w2 ⟨A, c, f, m, rest, xs, rfl, hx, hA, hc, hB2, hb2⟩
  have hw2 := bon hb1 hb2
  have HX := Lib.hid hx
  have HA := Lib.hid hA
  clear hx hA hB1 hb1 hb2
  go_wp2_with fail
  have e3 := Box.new w2 24 #[.slice A N c, .int .i64 f, .int .i64 m]
  have hw5 := bon hw2 (ba1 w2 (.cells #[.slice A N c, .int .i64 f, .int .i64 m] 24))
  have hB5 := hB2.up (ba1 w2 (.cells #[.slice A N c, .int .i64 f, .int .i64 m] 24))
  have hM5 := hM.up hw5
  generalize w2.alloc (.cells #[.slice A N c, .int .i64 f, .int .i64 m] 24) = W5 at *
  generalize w2.heap.size = g3 at *
  have RD : ∀ W, Bs W W.heap.size A xs → Calls Try.prog 12 #[.agg #[.slice A N c, .int .i64 f, .int .i64 m]] W (StrEnds (datB xs f m) W) := fun W h => by
    have := rdata_any A c f m xs W h
    rw [HX.out] at this
    exact this
  have hd : (⟨(datB xs f m).toArray⟩ : ByteArray).size ≤ 100000000 := by
    have := datB_length xs f m
    have h : (⟨(datB xs f m).toArray⟩ : ByteArray).size = (datB xs f m).length := rfl
    omega
  have htt : t.size ≤ 100000000 := by omega
  have hNN : N ≤ 100000000 := by omega
  generalize datB xs f m = D at *
  have HRD := Lib.hid RD
  obtain ⟨⟨p0, p1, p2⟩, _⟩ := e3.three
  clear e3 RD hL hs ht hr h1 h2 hN1 hN2 hB2 hw2 hM
  go_region_held3 (fun w' => Below W5.heap.size W5 w' ∧ w'.cell? ⟨g3, 0, none⟩ = some (.slice A N c) ∧ w'.cell? ⟨g3, 1, none⟩ = some (.int .i64 f) ∧ w'.cell? ⟨g3, 2, none⟩ = some (.int .i64 m))
    (first | exact madeS hbP (by assumption) | exact ⟨(Below.refl _ _).drew, p0, p1, p2⟩)
    (first
      | (go_at_call 6; refine (awake_any _ (hM5.up ?_)).mono ?_; (simp only [*]); rintro e wP ⟨rfl, hbP⟩)
      | (go_at_call 12; refine (HRD.out _ (hB5.up ?_)).mono ?_; (simp only [*]); rintro e wP ⟨rfl, hbP⟩)
      | (go_at_call_of 7 (Value.string t); refine (told_any A c N f m n xs t _ HX HA hNN hc htt (hB5.up ?_) (hM5.up ?_)).mono ?_; (simp only [*]); (simp only [*]); rintro e wP ⟨rfl, hbP⟩)
      | (go_at_call_of 7 (Value.string ⟨D.toArray⟩); refine (told_any A c N f m n xs ⟨D.toArray⟩ _ HX HA hNN hc hd (hB5.up ?_) (hM5.up ?_)).mono ?_; (simp only [*]); (simp only [*]); rintro e wP ⟨rfl, hbP⟩))
  rename_i hHeld
  have hfin : Below W5.heap.size W5 wP := hHeld.1
  clear hHeld
  go_wp2
  go_ret
  exact ⟨rfl, bon hw5 hfin⟩

end Go.Proofs.Ytbjjolfefegcbaa
