/-
  The walk of the law QuoteValid.
-/
import Derived.Test.YtmogeehhlfjlcaaDoorQP
namespace Go.Proofs.YtmogeehhlfjlcaaDoor
open Go.RowKit
theorem emp_tb {l : Bs} (h : l ≠ []) : (tb l).toList.isEmpty = false := by
  rw [isEmp, tb_size]
  simpa using h
set_option maxRecDepth 100000 in
set_option maxHeartbeats 4000000 in
theorem quoteValid_any (hV : PV) (hQ : PQ) (hU : PU) (s : Bs) (A : Option Addr) (L c : Nat) (ys : List UInt8) (w : World) (hl : ys.length = L) (hm : L ≤ maxLen) (hUs : Us w w.heap.size A ys) (hT : TQ w) : Calls Tryd.prog 4 #[.string (tb s), .slice A L c] w (BoolEnds true w) := by
  have HT := Lib.hid hT
  have HAw := Lib.hid (awakeQ hV hQ hU w hT)
  have HPc := Lib.hid (fun W (hW : Below w.heap.size w W) => pieces9_any A L c ys W hl hm (hUs.up hW))
  have HV := Lib.hid hV
  have HU := Lib.hid hU
  clear hT hl hm hUs hV hQ hU
  go_enter Tryd.func4, Tryd.ntmps4
  go_wp2_with fail
  refine HAw.out.mono ?_
  rintro E w1 ⟨rfl, hd1⟩
  go_wp2_with fail
  refine (HPc.out _ hd1).mono ?_
  rintro E w2 ⟨p, rfl, hp, hc⟩
  replace hd1 := bon hd1 hc
  clear hc HPc HAw
  have zp : (tb p).size = p.length := tb_size p
  have ha1 : (⟨#[34]⟩ : ByteArray) ++ tb p = tb (34 :: p) := tb_app [34] p
  have z1 : (tb (34 :: p)).size = p.length + 1 := by rw [tb_size]; rfl
  obtain ⟨P2, hP2⟩ : ∃ P2, 34 :: p ++ [34] = P2 := ⟨_, rfl⟩
  have ha2 : tb (34 :: p) ++ (⟨#[34]⟩ : ByteArray) = tb P2 := by rw [← hP2]; exact tb_app (34 :: p) [34]
  have z2 : (tb P2).size = p.length + 2 := by rw [tb_size, ← hP2]; simp
  clear hP2
  go_wp2_with fail
  have hd := ba1 w2 (.cells #[.string (tb s), .string (tb P2)] 9)
  have bl : Box (w2.alloc (.cells #[.string (tb s), .string (tb P2)] 9)) w2.heap.size 9 (svs [tb s, tb P2]).toArray := Box.new w2 9 #[.string (tb s), .string (tb P2)]
  obtain ⟨gl, hg⟩ : ∃ g, w2.heap.size = g := ⟨_, rfl⟩
  have HD := Lib.hid (bon hd1 hd)
  rw [hg] at bl ⊢
  clear hg hd ha1 ha2 z1 z2 zp
  generalize w2.alloc (.cells #[.string (tb s), .string (tb P2)] 9) = W2 at *
  go_loopw [21] (fun i wr => ∃ j : Nat, j ≤ 2 ∧ i = .int .i64 (j : Int) ∧ Hid (Below W2.heap.size W2 wr)) (fun i _ => 2 - (intOf i).toNat)
  case atStart => exact ⟨0, by omega, rfl, Lib.hid (Below.refl _ _)⟩
  case round =>
    obtain ⟨j, hj, rfl, HB⟩ := hrel
    by_cases hlt : j < 2
    case neg =>
      obtain rfl : j = 2 := by omega
      go_wp2
      go_ret
      exact ⟨by rfl, bon HD.out HB.out⟩
    case pos =>
      have hji : (j : Int) < 2 := by omega
      have hj0 : (0 : Int) ≤ (j : Int) := by omega
      obtain ⟨x, _, cx⟩ := lit_cell9 (bl.up HB.out) (p := j) hlt
      obtain ⟨y, rfl⟩ : ∃ y, x = tb y := ⟨dl x, (tb_dl x).symm⟩
      have zx : (tb y).size = y.length := tb_size y
      by_cases hbig : 200 < y.length
      case pos =>
        have hbi : (200 : Int) < (y.length : Int) := by omega
        go_wp2
        go_roundw
        case rel => exact ⟨j + 1, by omega, by go_num, HB⟩
        case measure => simp [intOf]; omega
      case neg =>
        have hbi : ¬ (200 : Int) < (y.length : Int) := by omega
        have HU1 := Lib.hid (HU.out y wr (by omega) (HT.out.up (bon HD.out HB.out)))
        have hgood := unq_good y
        obtain ⟨Z, hZ⟩ : ∃ Z, unqL y = Z := ⟨_, rfl⟩
        rw [hZ] at HU1 hgood
        clear hZ
        obtain ⟨r, n, e⟩ := Z
        obtain ⟨g1, g2, g3⟩ := hgood
        simp only at g1 g2 g3
        have k1 : ¬ (n : Int) < 0 := by omega
        have k2 : ¬ (y.length : Int) < (n : Int) := by omega
        by_cases he : e = 0
        case neg =>
          obtain ⟨rfl, rfl⟩ := g2 he
          clear g3 he g1 g2
          go_wp2_with fail
          refine HU1.out.mono ?_
          rintro E w3 ⟨rfl, hb3⟩
          have HB3 := Lib.hid (bon HB.out hb3)
          simp only
          clear hb3 HB cx
          have ze : (tb []).toList.isEmpty = true := by decide +kernel
          go_wp2
          go_roundw
          case rel => exact ⟨j + 1, by omega, by go_num, HB3⟩
          case measure => simp [intOf]; omega
        case pos =>
          obtain ⟨g4, g5⟩ := g3 he
          subst he
          have HV1 := Lib.hid (fun W t => HV.out r W (by omega) t)
          rw [g4] at HV1
          have k3 : ¬ (n : Int) < 2 := by omega
          have zr : (tb r).size = r.length := tb_size r
          have k4 : IntKind.i64.wrap ((n : Int) - 2) = (n : Int) - 2 := IntWalk.i64_in _ (by omega)
          have k5 : ¬ (n : Int) - 2 < (r.length : Int) := by omega
          clear g2 g3 g4 g5 g1
          go_wp2_with fail
          refine HU1.out.mono ?_
          rintro E w3 ⟨rfl, hb3⟩
          have HB3 := Lib.hid (bon HB.out hb3)
          simp only
          clear hb3 HB cx
          go_wp2_with fail
          refine (HV1.out _ (HT.out.up (bon HD.out HB3.out))).mono ?_
          rintro E w4 ⟨rfl, hb4⟩
          have HB4 := Lib.hid (bon HB3.out hb4)
          clear hb4 HB3
          go_wp2
          go_roundw
          case rel => exact ⟨j + 1, by omega, by go_num, HB4⟩
          case measure => simp [intOf]; omega
end Go.Proofs.YtmogeehhlfjlcaaDoor
