/-
  The walk of the law QuoteBack.
-/
import Derived.Test.YtmogeehhlfjlcaaDoorQP
namespace Go.Proofs.YtmogeehhlfjlcaaDoor
open Go.RowKit
theorem qb_max (c : UInt8) : (qb c).length ≤ 6 := by
  unfold qb
  repeat' split
  all_goals simp
theorem quote_max (s : Bs) : (quoteL s).length ≤ 6 * s.length + 2 := by
  have h : (s.flatMap qb).length ≤ 6 * s.length := by
    induction s with
    | nil => simp
    | cons c t ih =>
      rw [List.flatMap_cons, List.length_append]
      have := qb_max c
      simp only [List.length_cons]
      omega
  unfold quoteL
  simp only [List.length_cons, List.length_append, List.length_nil]
  omega
set_option maxRecDepth 100000 in
set_option maxHeartbeats 4000000 in
theorem quoteBack_any (hV : PV) (hQ : PQ) (hU : PU) (s : Bs) (A : Option Addr) (L c : Nat) (ys : List UInt8) (more : Bs) (w : World) (hl : ys.length = L) (hm : L ≤ maxLen) (hUs : Us w w.heap.size A ys) (hmo : more.length ≤ 140737488355328) (hT : TQ w) : Calls Tryd.prog 3 #[.string (tb s), .slice A L c, .string (tb more)] w (BoolEnds true w) := by
  have HT := Lib.hid hT
  have HAw := Lib.hid (awakeQ hV hQ hU w hT)
  have HPc := Lib.hid (fun W (hW : Below w.heap.size w W) => pieces9_any A L c ys W hl hm (hUs.up hW))
  have HV := Lib.hid hV
  have HQ := Lib.hid hQ
  have HU := Lib.hid hU
  have zm : (tb more).size = more.length := tb_size more
  clear hT hl hm hUs hV hQ hU
  go_enter Tryd.func3, Tryd.ntmps3
  go_wp2_with fail
  refine HAw.out.mono ?_
  rintro E w1 ⟨rfl, hd1⟩
  go_wp2_with fail
  refine (HPc.out _ hd1).mono ?_
  rintro E w2 ⟨p, rfl, hp, hc⟩
  replace hd1 := bon hd1 hc
  clear hc HPc HAw
  go_wp2_with fail
  have hd := ba1 w2 (.cells #[.string (tb s), .string (tb p)] 9)
  have bl : Box (w2.alloc (.cells #[.string (tb s), .string (tb p)] 9)) w2.heap.size 9 (svs [tb s, tb p]).toArray := Box.new w2 9 #[.string (tb s), .string (tb p)]
  obtain ⟨gl, hg⟩ : ∃ g, w2.heap.size = g := ⟨_, rfl⟩
  have HD := Lib.hid (bon hd1 hd)
  rw [hg] at bl ⊢
  clear hg hd
  generalize w2.alloc (.cells #[.string (tb s), .string (tb p)] 9) = W2 at *
  go_loopw [23] (fun i wr => ∃ j : Nat, j ≤ 2 ∧ i = .int .i64 (j : Int) ∧ Hid (Below W2.heap.size W2 wr)) (fun i _ => 2 - (intOf i).toNat)
  case atStart => exact ⟨0, by omega, rfl, Lib.hid (Below.refl _ _)⟩
  case round =>
    obtain ⟨j, hj, rfl, HB⟩ := hrel
    by_cases hlt : j < 2
    case neg =>
      obtain rfl : j = 2 := by omega
      go_wp2
      go_ret
      exact ⟨by rfl, bon HD.out HB.out⟩
    case pos =>
      have hji : (j : Int) < 2 := by omega
      have hj0 : (0 : Int) ≤ (j : Int) := by omega
      obtain ⟨x, _, cx⟩ := lit_cell9 (bl.up HB.out) (p := j) hlt
      obtain ⟨y, rfl⟩ : ∃ y, x = tb y := ⟨dl x, (tb_dl x).symm⟩
      have zx : (tb y).size = y.length := tb_size y
      by_cases hbig : 200 < y.length
      case pos =>
        have hbi : (200 : Int) < (y.length : Int) := by omega
        go_wp2
        go_roundw
        case rel => exact ⟨j + 1, by omega, by go_num, HB⟩
        case measure => simp [intOf]; omega
      case neg =>
        have hbi : ¬ (200 : Int) < (y.length : Int) := by omega
        by_cases hbm : 200 < more.length
        case pos =>
          have hmi : (200 : Int) < (more.length : Int) := by omega
          go_wp2
          go_roundw
          case rel => exact ⟨j + 1, by omega, by go_num, HB⟩
          case measure => simp [intOf]; omega
        case neg =>
          have hmi : ¬ (200 : Int) < (more.length : Int) := by omega
          have HQ1 := Lib.hid (HQ.out y wr (by omega) (HT.out.up (bon HD.out HB.out)))
          have HV1 := Lib.hid (fun W t => HV.out y W (by omega) t)
          have hqm := quote_max y
          by_cases hv : validL y = true
          case pos =>
            rw [show quoteQ y = (quoteL y, 0) from if_pos hv] at HQ1
            rw [hv] at HV1
            obtain ⟨q, hq⟩ : ∃ q, quoteL y = q := ⟨_, rfl⟩
            have HUq := Lib.hid (unq_quote hv more)
            rw [hq] at HQ1 hqm HUq
            have HU1 := Lib.hid (fun W t => HU.out (q ++ more) W (by rw [List.length_append]; omega) t)
            rw [HUq.out] at HU1
            have hadd : tb q ++ tb more = tb (q ++ more) := tb_app q more
            have zq : (tb q).size = q.length := tb_size q
            have zqm : (tb (q ++ more)).size = q.length + more.length := by rw [tb_size, List.length_append]
            clear hq hv HUq
            go_wp2_with fail
            refine HQ1.out.mono ?_
            rintro E w3 ⟨rfl, hb3⟩
            simp only
            go_wp2_with fail
            refine (HV1.out _ (HT.out.up (bon HD.out (bon HB.out hb3)))).mono ?_
            rintro E w4 ⟨rfl, hb4⟩
            have HB4 := Lib.hid (bon HB.out (bon hb3 hb4))
            clear hb3 hb4 HB cx
            go_wp2_with fail
            refine (HU1.out _ (HT.out.up (bon HD.out HB4.out))).mono ?_
            rintro E w5 ⟨rfl, hb5⟩
            have HB5 := Lib.hid (bon HB4.out hb5)
            simp only
            clear hb5 HB4
            go_wp2
            go_roundw
            case rel => exact ⟨j + 1, by omega, by go_num, HB5⟩
            case measure => simp [intOf]; omega
          case neg =>
            rw [show quoteQ y = ([], 30) from if_neg hv] at HQ1
            rw [show validL y = false by simpa using hv] at HV1
            have HU1 := Lib.hid (fun W t => HU.out more W (by omega) t)
            have hadd : tb [] ++ tb more = tb more := tb_app [] more
            have zq : (tb []).size = 0 := rfl
            clear hv hqm
            go_wp2_with fail
            refine HQ1.out.mono ?_
            rintro E w3 ⟨rfl, hb3⟩
            simp only
            go_wp2_with fail
            refine (HV1.out _ (HT.out.up (bon HD.out (bon HB.out hb3)))).mono ?_
            rintro E w4 ⟨rfl, hb4⟩
            have HB4 := Lib.hid (bon HB.out (bon hb3 hb4))
            clear hb3 hb4 HB cx
            go_wp2_with fail
            refine (HU1.out _ (HT.out.up (bon HD.out HB4.out))).mono ?_
            rintro E w5 ⟨rfl, hb5⟩
            have HB5 := Lib.hid (bon HB4.out hb5)
            clear hb5 HB4
            go_wp2
            go_roundw
            case rel => exact ⟨j + 1, by omega, by go_num, HB5⟩
            case measure => simp [intOf]; omega
end Go.Proofs.YtmogeehhlfjlcaaDoor
