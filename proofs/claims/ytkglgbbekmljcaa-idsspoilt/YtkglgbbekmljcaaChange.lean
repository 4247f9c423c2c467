/-
  The walk of ids.changeOf: a copy of the table in memory of its own.
-/
import Derived.Test.YtkglgbbekmljcaaOwn
import Derived.Deep.RegionHeld3
namespace Go.Proofs.Ytkglgbbekmljcaa
open Go.RowKit

theorem cell_up {X w' : World} {a : Addr} {v : Value} (hb : Below X.heap.size X w') (h : X.cell? a = some v) : w'.cell? a = some v := (hb.cell (World.block_lt_of_cell? X a h)).trans h

def ChangeEnds (T : Tb) (N M F : Nat) (w : World) (e : Ending) (w' : World) : Prop :=
  ∃ p Ag cg Ab cb Af cf, e = .returned (.pointer (some ⟨p, 0, none⟩)) ∧ w.heap.size ≤ p ∧ Box w' p 49 #[.slice Ag N cg, .slice Ab M cb, .slice Af F cf] ∧ Own0 w' w.heap.size T Ag N cg Ab M cb Af F cf ∧ Below w.heap.size w w'

theorem chS {W X w' : World} {a0 a1 a2 : Addr} {v0 v1 v2 : Value} (hb : Below X.heap.size X w')
    (h : Below W.heap.size W X ∧ X.cell? a0 = some v0 ∧ X.cell? a1 = some v1 ∧ X.cell? a2 = some v2) :
    Below W.heap.size W w' ∧ w'.cell? a0 = some v0 ∧ w'.cell? a1 = some v1 ∧ w'.cell? a2 = some v2 :=
  ⟨bon h.1 hb, cell_up hb h.2.1, cell_up hb h.2.2.1, cell_up hb h.2.2.2⟩

section
variable {Ag Ab Af : Option Addr} {N cg M cb F cf : Nat} {T : Tb} {w : World}

set_option maxRecDepth 100000 in
set_option maxHeartbeats 4000000 in
theorem change_any (h : At w T Ag N cg Ab M cb Af F cf) :
    Calls Try.prog 22 #[tv Ag N cg Ab M cb Af F cf] w (ChangeEnds T N M F w) := by
  have HH := Lib.hid h
  clear h
  unfold tv
  go_enter Try.func22, Try.ntmps22
  go_wp2_with fail
  have hA := HH.out.up (ba1 w (.cells #[.slice Ag N cg, .slice Ab M cb, .slice Af F cf] 25))
  have HC1 : Hid (∀ W, Below (w.alloc (.cells #[.slice Ag N cg, .slice Ab M cb, .slice Af F cf] 25)).heap.size (w.alloc (.cells #[.slice Ag N cg, .slice Ab M cb, .slice Af F cf] 25)) W → Calls Try.prog 31 #[.slice Ag N cg] W (CloneEnds 3 N (T.gens.map (Value.int .i64)) W)) :=
    Lib.hid fun W hb => clone31 Ag N cg T.gens W hA.lg (Nat.le_trans hA.hN (by omega)) hA.cg0 (hA.g.up hb)
  have HC2 : Hid (∀ W, Below (w.alloc (.cells #[.slice Ag N cg, .slice Ab M cb, .slice Af F cf] 25)).heap.size (w.alloc (.cells #[.slice Ag N cg, .slice Ab M cb, .slice Af F cf] 25)) W → Calls Try.prog 32 #[.slice Ab M cb] W (CloneEnds 4 M (T.busy.map Value.bool) W)) :=
    Lib.hid fun W hb => clone32 Ab M cb T.busy W hA.lb (Nat.le_trans hA.hM (by omega)) hA.cb0 (hA.b.up hb)
  have HC3 : Hid (∀ W, Below (w.alloc (.cells #[.slice Ag N cg, .slice Ab M cb, .slice Af F cf] 25)).heap.size (w.alloc (.cells #[.slice Ag N cg, .slice Ab M cb, .slice Af F cf] 25)) W → Calls Try.prog 31 #[.slice Af F cf] W (CloneEnds 3 F (T.free.map (Value.int .i64)) W)) :=
    Lib.hid fun W hb => clone31 Af F cf T.free W hA.lf (Nat.le_trans hA.hF (by omega)) hA.cf0 (hA.f.up hb)
  obtain ⟨⟨p0, p1, p2⟩, _⟩ := (Box.new w 25 #[.slice Ag N cg, .slice Ab M cb, .slice Af F cf]).three
  have hw0 := ba1 w (.cells #[.slice Ag N cg, .slice Ab M cb, .slice Af F cf] 25)
  have hw0' := hw0
  clear hA HH
  generalize w.alloc (.cells #[.slice Ag N cg, .slice Ab M cb, .slice Af F cf] 25) = W0 at *
  obtain ⟨g0, hgw⟩ : ∃ g0, w.heap.size = g0 := ⟨_, rfl⟩
  rw [hgw] at p0 p1 p2 ⊢
  have HGW := Lib.hid hgw
  clear hgw
  go_region_held3 (fun w' => Below W0.heap.size W0 w' ∧ w'.cell? ⟨g0, 0, none⟩ = some (.slice Ag N cg) ∧ w'.cell? ⟨g0, 1, none⟩ = some (.slice Ab M cb) ∧ w'.cell? ⟨g0, 2, none⟩ = some (.slice Af F cf))
    (first | exact chS hbG (by assumption) | exact chS hbB (by assumption) | exact chS hbF (by assumption) | exact chS (ba1 _ _) (by assumption) | exact ⟨(Below.refl _ _).drew, p0, p1, p2⟩)
    (first
      | (go_at_call_of 31 (Value.slice Ag N cg); refine (HC1.out _ ?_).mono ?_; (simp only [*]); rintro e wG ⟨AG, cG, rfl, hoG, hbG⟩)
      | (go_at_call_of 31 (Value.slice Af F cf); refine (HC3.out _ ?_).mono ?_; (simp only [*]); rintro e wF ⟨AF, cF, rfl, hoF, hbF⟩)
      | (go_at_call 32; refine (HC2.out _ ?_).mono ?_; (simp only [*]); rintro e wB ⟨AB, cB, rfl, hoB, hbB⟩))
  rename_i hHeld
  have hfin := hHeld.1
  clear hHeld
  go_wp2
  go_ret
  have hbG' : Below W0.heap.size W0 wG := bon (Below.refl _ _).drew hbG
  have sW := hw0.size
  have sG := hbG'.size
  have sB := hbB.size
  have sF := hbF.size
  have hF2 := ba1 wF (.cells #[.slice AG N cG, .slice AB M cB, .slice AF F cF] 49)
  refine ⟨wF.heap.size, AG, cG, AB, cB, AF, cF, rfl, ?_, Box.new _ _ _, ⟨?_, ?_, ?_, ?_⟩, ?_⟩
  · omega
  · exact own_mono (own_up (own_up (own_up hoG hbB) hbF) hF2) (by show w.heap.size ≤ W0.heap.size; omega)
  · exact own_mono (own_up (own_up hoB hbF) hF2) (by omega)
  · exact own_mono (own_up hoF hF2) (by omega)
  · intro p q hp hq
    have h1 := ((Row.of_own hoG).blk p hp).2
    have h2 := ((Row.of_own hoF).blk q hq).1
    omega
  · exact hw0'.trans (hfin.mono hw0'.size)

end
end Go.Proofs.Ytkglgbbekmljcaa
