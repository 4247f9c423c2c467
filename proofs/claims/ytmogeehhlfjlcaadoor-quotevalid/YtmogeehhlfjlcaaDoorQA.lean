/-
  What the laws of quote ask of its calls; the walk of the laws' own awake.
-/
import Derived.Test.YtmogeehhlfjlcaaDoorTb
import Derived.Test.YtmogeehhlfjlcaaDoorUsT
import Derived.Test.YtmogeehhlfjlcaaDoorNBits
namespace Go.Proofs.YtmogeehhlfjlcaaDoor
open Go.RowKit
/-- what a world must bear for the calls -/
def TQ (w : World) : Prop := Tabs w
theorem TQ.up {w w' : World} (h : TQ w) (hb : Below w.heap.size w w') : TQ w' := Tabs.up h hb
def UnqEnds (q : Bs × Nat × Int) (w : World) (E : Ending) (w' : World) : Prop := E = .returned (.tuple #[.string (tb q.1), .int .i64 (q.2.1 : Int), .int .i64 q.2.2]) ∧ Below w.heap.size w w'
def QuoEnds (q : Bs × Int) (w : World) (E : Ending) (w' : World) : Prop := E = .returned (.tuple #[.string (tb q.1), .int .i64 q.2]) ∧ Below w.heap.size w w'
def PV : Prop := ∀ (s : Bs) (W : World), s.length ≤ 4000 → TQ W → Calls Tryd.prog 8 #[.string (tb s)] W (BoolEnds (validL s) W)
def PQ : Prop := ∀ (s : Bs) (W : World), s.length ≤ 4000 → TQ W → Calls Tryd.prog 7 #[.string (tb s)] W (QuoEnds (quoteQ s) W)
def PU : Prop := ∀ (s : Bs) (W : World), s.length ≤ 4000 → TQ W → Calls Tryd.prog 9 #[.string (tb s)] W (UnqEnds (unqL s) W)
theorem aq1 : unqL [34, 97, 92, 117, 48, 48, 101, 52, 92, 110, 34, 120] = ([97, 195, 164, 10], 11, 0) := by kernel_rfl
theorem aq2 : quoteQ [97, 34, 10, 1] = ([34, 97, 92, 34, 92, 110, 92, 117, 48, 48, 48, 49, 34], 0) := by kernel_rfl
theorem aq3 : unqL [34, 97, 1, 34] = ([], 2, 30) := by kernel_rfl
theorem aq4 : quoteQ [255] = ([], 30) := by kernel_rfl
theorem aq5 : validL [195, 164] = true := by kernel_rfl
theorem aq6 : validL [192, 128] = false := by kernel_rfl
set_option maxRecDepth 100000 in
set_option maxHeartbeats 2000000 in
theorem awakeQ (hV : PV) (hQ : PQ) (hU : PU) (w : World) (hT : TQ w) : Calls Tryd.prog 5 #[] w (BoolEnds true w) := by
  have HT := Lib.hid hT
  have H1 : Hid (∀ W, TQ W → Calls Tryd.prog 9 #[.string ⟨#[34, 97, 92, 117, 48, 48, 101, 52, 92, 110, 34, 120]⟩] W (fun E w' => E = .returned (.tuple #[.string ⟨#[97, 195, 164, 10]⟩, .int .i64 11, .int .i64 0]) ∧ Below W.heap.size W w')) := Lib.hid (fun W t => by have := hU [34, 97, 92, 117, 48, 48, 101, 52, 92, 110, 34, 120] W (by decide) t; rw [aq1] at this; exact this)
  have H2 : Hid (∀ W, TQ W → Calls Tryd.prog 7 #[.string ⟨#[97, 34, 10, 1]⟩] W (fun E w' => E = .returned (.tuple #[.string ⟨#[34, 97, 92, 34, 92, 110, 92, 117, 48, 48, 48, 49, 34]⟩, .int .i64 0]) ∧ Below W.heap.size W w')) := Lib.hid (fun W t => by have := hQ [97, 34, 10, 1] W (by decide) t; rw [aq2] at this; exact this)
  have H3 : Hid (∀ W, TQ W → Calls Tryd.prog 9 #[.string ⟨#[34, 97, 1, 34]⟩] W (fun E w' => E = .returned (.tuple #[.string ⟨#[]⟩, .int .i64 2, .int .i64 30]) ∧ Below W.heap.size W w')) := Lib.hid (fun W t => by have := hU [34, 97, 1, 34] W (by decide) t; rw [aq3] at this; exact this)
  have H4 : Hid (∀ W, TQ W → Calls Tryd.prog 7 #[.string ⟨#[255]⟩] W (fun E w' => E = .returned (.tuple #[.string ⟨#[]⟩, .int .i64 30]) ∧ Below W.heap.size W w')) := Lib.hid (fun W t => by have := hQ [255] W (by decide) t; rw [aq4] at this; exact this)
  have H5 : Hid (∀ W, TQ W → Calls Tryd.prog 8 #[.string ⟨#[195, 164]⟩] W (BoolEnds true W)) := Lib.hid (fun W t => by have := hV [195, 164] W (by decide) t; rw [aq5] at this; exact this)
  have H6 : Hid (∀ W, TQ W → Calls Tryd.prog 8 #[.string ⟨#[192, 128]⟩] W (BoolEnds false W)) := Lib.hid (fun W t => by have := hV [192, 128] W (by decide) t; rw [aq6] at this; exact this)
  clear hV hQ hU hT
  go_enter Tryd.func5, Tryd.ntmps5
  go_wp2_with fail
  refine (H1.out _ HT.out).mono ?_
  rintro E w1 ⟨rfl, hd⟩
  go_wp2_with fail
  refine (H2.out _ (HT.out.up hd)).mono ?_
  rintro E w2 ⟨rfl, hc⟩
  replace hd := bon hd hc
  clear hc
  go_wp2_with fail
  refine (H3.out _ (HT.out.up hd)).mono ?_
  rintro E w3 ⟨rfl, hc⟩
  replace hd := bon hd hc
  clear hc
  go_wp2_with fail
  refine (H4.out _ (HT.out.up hd)).mono ?_
  rintro E w4 ⟨rfl, hc⟩
  replace hd := bon hd hc
  clear hc
  go_wp2_with fail
  refine (H5.out _ (HT.out.up hd)).mono ?_
  rintro E w5 ⟨rfl, hc⟩
  replace hd := bon hd hc
  clear hc
  go_wp2_with fail
  refine (H6.out _ (HT.out.up hd)).mono ?_
  rintro E w6 ⟨rfl, hc⟩
  go_wp2
  go_ret
  exact ⟨by first | rfl | simp, bon hd hc⟩
end Go.Proofs.YtmogeehhlfjlcaaDoor
