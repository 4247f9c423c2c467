/-
  The walks of ring.Data and ring.Pop: the content of a ring, and what is left of it when its first bytes are taken away.
-/
import Derived.Test.YtbjjolfefegcbaaFirst
namespace Go.Proofs.Ytbjjolfefegcbaa
open Go.RowKit

/-- what Data tells of a ring -/
def datB (xs : List UInt8) (f m : Int) : List UInt8 := if okB xs.length f m then dat xs f.toNat m.toNat else []

def StrEnds (l : List UInt8) (w : World) (e : Ending) (w' : World) : Prop := e = .returned (.string ⟨l.toArray⟩) ∧ Below w.heap.size w w'

/-- first, of whatever valid ring -/
theorem first_ok (A : Option Addr) (c : Nat) (f m : Int) (k : Int) (xs : List UInt8) (w : World) (hok : okB xs.length f m = true) (hc : xs.length ≤ c) (h0 : 0 ≤ k) (hk : k ≤ xs.length) (hB : Bs w w.heap.size A xs) :
    Calls Try.prog 23 #[.agg #[.slice A xs.length c, .int .i64 f, .int .i64 m], .int .i64 k] w (StrEnds (dat xs f.toNat k.toNat) w) := by
  have hh := okB_true hok
  obtain ⟨b, off, rfl, hb, hcell⟩ := hB (by omega)
  obtain ⟨f', rfl⟩ := Int.eq_ofNat_of_zero_le hh.2.2.1
  obtain ⟨k', rfl⟩ := Int.eq_ofNat_of_zero_le h0
  simp only [Int.toNat_natCast]
  exact first_any b off c f' k' m xs w (by omega) hc (by omega) (by omega) hb hcell

set_option maxHeartbeats 400000 in
theorem data_any (A : Option Addr) (c : Nat) (f m : Int) (xs : List UInt8) (w : World) (hc : xs.length ≤ c) (hB : Bs w w.heap.size A xs) :
    Calls Try.prog 16 #[rv A xs.length c f m] w (StrEnds (datB xs f m) w) := by
  cases hok : okB xs.length f m with
  | false =>
    have e : datB xs f m = [] := by simp [datB, hok]
    rw [e]
    go_enter Try.func16, Try.ntmps16
    go_wp2_with fail
    refine (right_any A xs.length c f m _).mono ?_
    rintro e w2 ⟨rfl, hbl2⟩
    go_wp2
    go_ret
    exact ⟨rfl, bon (ba1 _ _) hbl2⟩
  | true =>
    have e : datB xs f m = dat xs f.toNat m.toNat := by simp [datB, hok]
    rw [e]
    have hh := okB_true hok
    go_enter Try.func16, Try.ntmps16
    go_wp2_with fail
    refine (right_any A xs.length c f m _).mono ?_
    rintro e w2 ⟨rfl, hbl2⟩
    have b0 := (Box.new w 24 #[.slice A xs.length c, .int .i64 f, .int .i64 m]).up hbl2
    obtain ⟨⟨c0, c1, c2⟩, _⟩ := b0.three
    have hb2 := bon (ba1 w _) hbl2
    go_wp2_with fail
    refine (first_ok A c f m m xs _ hok hc (by omega) (by omega) (hB.up hb2)).mono ?_
    rintro e w3 ⟨rfl, hbl3⟩
    go_wp2
    go_ret
    exact ⟨rfl, bon hb2 hbl3⟩

end Go.Proofs.Ytbjjolfefegcbaa
