/-
  The walk of the law NumTexts.
-/
import Derived.Test.YtknnkgkhoabppaaDoorLaw1
namespace Go.Proofs.YtknnkgkhoabppaaDoor
open Go.RowKit

/-- the text of a number, as a value -/
def strN (n base : Int) : ByteArray := ⟨(textN n base).toArray⟩
theorem text_str (n base : Int) (w : World) (ht : Tabs w) : Calls Tryd.prog 16 #[.int .i64 n, .int .i64 base] w fun e w' => e = .returned (.string (strN n base)) ∧ Below w.heap.size w w' :=
  text_at n base w ht rfl
theorem rtext_str (n base : Int) (w : World) : Calls Tryd.prog 17 #[.int .i64 n, .int .i64 base] w fun e w' => e = .returned (.string (strN n base)) ∧ Below w.heap.size w w' :=
  (rtext_any n base w).mono fun e w' ⟨s, h1, h2, h3⟩ => ⟨by rw [h1]; congr 2; exact Go.WideShapes.bytes_inj h2, h3⟩

set_option maxRecDepth 100000 in
set_option maxHeartbeats 4000000 in
theorem texts_any (s : ByteArray) (n base : Int) (w : World) (hs : s.size ≤ maxLen) (ht : Tabs w) : Calls Tryd.prog 4 #[.string s, .int .i64 n, .int .i64 base] w (BoolEnds true w) := by
  have hs' := hs
  unfold maxLen at hs'
  by_cases hlen : 100 < s.size
  · go_enter Tryd.func4, Tryd.ntmps4
    go_wp2_with fail
    refine (awake_any _ ht).mono ?_
    rintro e w1 ⟨rfl, hb1⟩
    go_wp2
    go_ret
    exact ⟨rfl, hb1⟩
  · have HS := Lib.hid hs
    clear hs
    go_enter Tryd.func4, Tryd.ntmps4
    go_wp2_with fail
    go_loopw [20] (fun i wr => ∃ k : Nat, k ≤ 3 ∧ i = .int .i64 (k : Int) ∧ Box wr w.heap.size 3 #[.int .i64 base, .int .i64 10, .int .i64 16] ∧ Below w.heap.size w wr) (fun i _ => 3 - (intOf i).toNat)
    case atStart => exact ⟨0, by omega, rfl, Box.new _ _ _, ba1 _ _⟩
    case round =>
      obtain ⟨k, hk, rfl, hbox, hbel⟩ := hrel
      by_cases hlt : k < 3
      · obtain ⟨b, hb⟩ : ∃ b : Int, wr.cell? ⟨w.heap.size, k, none⟩ = some (.int .i64 b) := by
          rcases (show k = 0 ∨ k = 1 ∨ k = 2 by omega) with rfl | rfl | rfl
          · exact ⟨_, hbox.c 0 rfl⟩
          · exact ⟨_, hbox.c 1 rfl⟩
          · exact ⟨_, hbox.c 2 rfl⟩
        obtain ⟨⟨x, y⟩, hq⟩ : ∃ q, parseN s.data.toList b = q := ⟨_, rfl⟩
        have H1 := Lib.hid (fun W => parse_at s b W HS.out hq)
        have H2 : Hid (∀ W, Calls Tryd.prog 15 #[.string s, .int .i64 b] W (TwoEnds (x, y) W)) := Lib.hid (fun W => two_of (hq ▸ rparse_any s b W HS.out))
        clear hq
        have htw := ht.up hbel
        go_wp2_with fail
        refine (H1.out _).mono ?_
        rintro e w1 ⟨rfl, hb1⟩
        go_wp2_with fail
        refine (H2.out _).mono ?_
        rintro e w2 ⟨rfl, hb2⟩
        have hb12 := bon' hb1 hb2
        go_wp2_with fail
        refine (text_str n b _ (htw.up hb12)).mono ?_
        rintro e w3 ⟨rfl, hb3⟩
        go_wp2_with fail
        refine (rtext_str n b _).mono ?_
        rintro e w4 ⟨rfl, hb4⟩
        have hb14 := bon' (bon' hb12 hb3) hb4
        go_wp2
        refine ⟨⟨k + 1, by omega, by go_num, hbox.up hb14, bon' hbel hb14⟩, by simp [intOf]; omega⟩
      · have : k = 3 := by omega
        subst this
        go_wp2_with fail
        refine (awake_any _ (ht.up hbel)).mono ?_
        rintro e w1 ⟨rfl, hb1⟩
        go_wp2
        go_ret
        exact ⟨rfl, bon' hbel hb1⟩

end Go.Proofs.YtknnkgkhoabppaaDoor
