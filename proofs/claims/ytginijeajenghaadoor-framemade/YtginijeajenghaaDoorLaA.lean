/-
  The walk of the law FrameMade.
-/
import Derived.Test.YtginijeajenghaaDoorFrG
import Derived.Test.YtginijeajenghaaDoorFrH
import Derived.Test.YtginijeajenghaaDoorLawE
namespace Go.Proofs.YtginijeajenghaaDoor
open Go.RowKit

set_option maxRecDepth 100000 in
set_option maxHeartbeats 4000000 in
theorem frameMade_any (A : Option Addr) (L c : Nat) (ys : List UInt8) (mt : ByteArray) (w : World) (hl : ys.length = L) (hm : L ≤ maxLen) (hU : Us w w.heap.size A ys) : Calls Tryd.prog 3 #[.slice A L c, .string mt] w (BoolEnds true w) := by
  have HM := Lib.hid (fun a W (hW : Below w.heap.size w W) => made_any A L c ys a W hl hm (hU.up hW))
  clear hl hm hU
  go_enter Tryd.func3, Tryd.ntmps3
  go_wp2_with fail
  refine (HM.out false _ (Below.refl _ _)).mono ?_
  rintro e w1 ⟨m, t, st, r, mi, S, fs, rfl, hG, hF, hb1⟩
  go_wp2_with fail
  refine (HM.out true _ hb1).mono ?_
  rintro e w2 ⟨m', t', st', r', mi', S', fs', rfl, hG', hF', hb2⟩
  obtain ⟨SA, Sn, Sc⟩ := S
  obtain ⟨SA', Sn', Sc'⟩ := S'
  simp only
  go_upto_region 2 with fail
  have hd := ba2 w2 (.cells #[.string m, .string t, .int .i64 st, .string r, .int .i64 mi, .slice SA Sn Sc] 25) (.cells #[.string m', .string t', .int .i64 st', .string r', .int .i64 mi', .slice SA' Sn' Sc'] 25)
  have b1 := (Box.new w2 25 #[.string m, .string t, .int .i64 st, .string r, .int .i64 mi, .slice SA Sn Sc]).alloc (.cells #[.string m', .string t', .int .i64 st', .string r', .int .i64 mi', .slice SA' Sn' Sc'] 25)
  have b2 := Box.mk' (w2.alloc (.cells #[.string m, .string t, .int .i64 st, .string r, .int .i64 mi, .slice SA Sn Sc] 25)) 25 #[.string m', .string t', .int .i64 st', .string r', .int .i64 mi', .slice SA' Sn' Sc'] (w2.heap.size + 1) (by simp)
  have F1 := hF.up (bon hb2 hd)
  have F2 := hF'.up hd
  have hB := bon hb1 (bon hb2 hd)
  obtain ⟨g, hg⟩ : ∃ g, w2.heap.size = g := ⟨_, rfl⟩
  rw [hg] at b1 b2 ⊢
  clear hg hd hF hF' hb1 hb2 HM
  generalize (w2.alloc (.cells #[.string m, .string t, .int .i64 st, .string r, .int .i64 mi, .slice SA Sn Sc] 25)).alloc (.cells #[.string m', .string t', .int .i64 st', .string r', .int .i64 mi', .slice SA' Sn' Sc'] 25) = W2 at *
  go_wp2_with fail
  have hd := ba1 W2 (.cells #[.string ⟨#[71, 69, 84]⟩, .string ⟨#[72, 69, 65, 68]⟩, .string mt] 9)
  have bl := Box.new W2 9 (svs [⟨#[71, 69, 84]⟩, ⟨#[72, 69, 65, 68]⟩, mt]).toArray
  have HSl : Hid (Box (W2.alloc (.cells #[.string ⟨#[71, 69, 84]⟩, .string ⟨#[72, 69, 65, 68]⟩, .string mt] 9)) W2.heap.size 9 (svs [⟨#[71, 69, 84]⟩, ⟨#[72, 69, 65, 68]⟩, mt]).toArray) := Lib.hid bl
  have b1 := b1.up hd
  have b2 := b2.up hd
  have F1 := F1.up hd
  have F2 := F2.up hd
  have hB := bon hB hd
  obtain ⟨gl, hg⟩ : ∃ g, W2.heap.size = g := ⟨_, rfl⟩
  rw [hg] at HSl ⊢
  clear hg hd bl
  generalize W2.alloc (.cells #[.string ⟨#[71, 69, 84]⟩, .string ⟨#[72, 69, 65, 68]⟩, .string mt] 9) = W3 at *
  have HS1 : Hid (∀ x W, Below W3.heap.size W3 W → Calls Tryd.prog 9 #[.agg #[.string m, .string t, .int .i64 st, .string r, .int .i64 mi, .slice SA Sn Sc], .string x] W (BoolEnds true W)) := Lib.hid (fun x W h => by
    obtain ⟨e1, e2, e3, e4, e5⟩ := good_few hG
    exact same_any m t st r mi SA Sn Sc fs W e1 e2 e3 (F1.up h) (by have := F1.len; simp only at this; omega) e5 x)
  have HS2 : Hid (∀ x W, Below W3.heap.size W3 W → Calls Tryd.prog 9 #[.agg #[.string m', .string t', .int .i64 st', .string r', .int .i64 mi', .slice SA' Sn' Sc'], .string x] W (BoolEnds true W)) := Lib.hid (fun x W h => by
    obtain ⟨e1, e2, e3, e4, e5⟩ := good_few hG'
    exact same_any m' t' st' r' mi' SA' Sn' Sc' fs' W e1 e2 e3 (F2.up h) (by have := F2.len; simp only at this; omega) e5 x)
  have HBw := Lib.hid hB
  clear hG hG' F1 F2 hB
  go_loopw [16] (fun i wr => ∃ k : Nat, k ≤ 3 ∧ i = .int .i64 (k : Int) ∧ Hid (Below W3.heap.size W3 wr)) (fun i _ => 3 - (intOf i).toNat)
  case atStart => exact ⟨0, by omega, rfl, Lib.hid (Below.refl _ _)⟩
  case round =>
    obtain ⟨k, hk, rfl, HB⟩ := hrel
    by_cases hlt : k < 3
    · have hki : (k : Int) < 3 := by omega
      have hk0 : (0 : Int) ≤ (k : Int) := by omega
      obtain ⟨x, hx, cx⟩ := lit_cell (xs := [⟨#[71, 69, 84]⟩, ⟨#[72, 69, 65, 68]⟩, mt]) (HSl.out.up HB.out) (p := k) hlt
      clear hx
      obtain ⟨c0, c1, c2, c3, c4, c5⟩ := (b1.up HB.out).six
      go_wp2_with fail
      refine (HS1.out x _ HB.out).mono ?_
      rintro e w4 ⟨rfl, hb4⟩
      have HB4 := Lib.hid (bon HB.out hb4)
      clear c0 c1 c2 c3 c4 c5 hb4 HB cx
      obtain ⟨c0, c1, c2, c3, c4, c5⟩ := (b2.up HB4.out).six
      go_wp2_with fail
      refine (HS2.out x _ HB4.out).mono ?_
      rintro e w5 ⟨rfl, hb5⟩
      have HB5 := Lib.hid (bon HB4.out hb5)
      clear c0 c1 c2 c3 c4 c5 hb5 HB4
      go_wp2
      go_roundw
      case rel => exact ⟨k + 1, by omega, by go_num, HB5⟩
      case measure => simp [intOf]; omega
    · obtain rfl : k = 3 := by omega
      go_wp2_with fail
      refine (awake_any _).mono ?_
      rintro e w4 ⟨rfl, hb4⟩
      go_wp2
      go_ret
      exact ⟨by rfl, bon (bon HBw.out HB.out) hb4⟩
end Go.Proofs.YtginijeajenghaaDoor
