/-
  The walk of the law WheelAny.
-/
import Derived.Test.YtncbfkoldllbpaaAwake
import Derived.Test.YtncbfkoldllbpaaTold
namespace Go.Proofs.Ytncbfkoldllbpaa
open Go.RowKit

set_option maxRecDepth 100000 in
set_option maxHeartbeats 4000000 in
theorem any_any (P : P4) (W : Wl) (S : Nat → Sli) (id at_ : Int) (w : World) (h : At w W S) (hwf : Wf W) (hf : manyN W ≤ 9007199254740992) (hid : I64 id) (hat : I64 at_) : Calls Try.prog 3 #[wv W.now S, .int .i64 id, .int .i64 at_] w (BoolEnds true w) := by
  have HA := Lib.hid (awake_any P)
  have HF := Lib.hid (fun X (hb : Below w.heap.size w X) => few_any W S X (h.up hb) hf)
  have HT := Lib.hid (fun X (hb : Below w.heap.size w X) (hm : manyN W ≤ 100) => told_any P W S id at_ X (h.up hb) hwf (Nat.le_trans hm (by decide)) hid hat)
  clear P h hwf hid hat
  obtain ⟨now, hn⟩ : ∃ now, W.now = now := ⟨_, rfl⟩
  rw [hn] at HF HT ⊢
  clear hn
  unfold wv at HF HT ⊢
  obtain ⟨m, hm⟩ : ∃ m, manyN W = m := ⟨_, rfl⟩
  rw [hm] at HF HT hf
  clear hm
  have g0 := Box.new w 25 (wcs now S)
  go_enter Try.func3, Try.ntmps3
  go_wp2_with fail
  refine (HA.out _).mono ?_
  rintro e w1 ⟨rfl, hb1⟩
  obtain ⟨c0, c1, c2, c3, c4, c5, c6, c7, c8⟩ := (g0.up hb1).nine
  have hb := bon (ba1 w (.cells (wcs now S) 25)) hb1
  go_wp2_with fail
  refine (HF.out _ hb).mono ?_
  rintro e w2 ⟨rfl, hb2⟩
  clear c0 c1 c2 c3 c4 c5 c6 c7 c8
  obtain ⟨c0, c1, c2, c3, c4, c5, c6, c7, c8⟩ := ((g0.up hb1).up hb2).nine
  have hb := bon hb hb2
  by_cases hm : m ≤ 100
  · rw [decide_eq_true hm]
    go_wp2_with fail
    refine (HT.out _ hb hm).mono ?_
    rintro e w3 ⟨rfl, hb3⟩
    go_wp2
    go_ret
    exact ⟨rfl, bon hb hb3⟩
  · rw [decide_eq_false hm]
    go_wp2
    go_ret
    exact ⟨rfl, hb⟩

end Go.Proofs.Ytncbfkoldllbpaa
