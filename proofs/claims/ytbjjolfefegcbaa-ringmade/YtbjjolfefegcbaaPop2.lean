/-
  The walk of ring.Pop: the first bytes of the content are handed back, From and Many go on.
-/
import Derived.Test.YtbjjolfefegcbaaPop
import Derived.Test.YtbjjolfefegcbaaPush
namespace Go.Proofs.Ytbjjolfefegcbaa
open Go.RowKit

def PopEnds (xs : List UInt8) (f m : Int) (l : List UInt8) (w : World) (e : Ending) (w' : World) : Prop :=
  ∃ v, e = .returned (.tuple #[v, .string ⟨l.toArray⟩]) ∧ RingIs w' v xs f m ∧ Below w.heap.size w w'

set_option maxRecDepth 100000 in
set_option maxHeartbeats 1000000 in
theorem pop_no (A : Option Addr) (c : Nat) (f m n : Int) (xs : List UInt8) (w : World) (hA : A = none → c = 0) (hb : xs.length ≤ 100000000) (hB : Bs w w.heap.size A xs) (hok : okB xs.length f m = false ∨ (okB xs.length f m = true ∧ n < 0)) :
    Calls Try.prog 13 #[rv A xs.length c f m, .int .i64 n] w (PopEnds xs f m [] w) := by
  have HA := Lib.hid hA
  clear hA
  rcases hok with hok | ⟨hok, hn⟩
  all_goals
    go_enter Try.func13, Try.ntmps13
    go_wp2_with fail
    refine (own_any A c f m xs _ HA.out hb (hB.up (ba2 _ _ _))).mono ?_
    rintro e w1 ⟨A', c', rfl, ho, hbl⟩
    have b0 := (Box.mk' w 24 #[.slice A xs.length c, .int .i64 f, .int .i64 m] _ rfl).alloc (.cells #[.slice none 0 0, .int .i64 0, .int .i64 0] 24) |>.up hbl
    have b2 := (Box.mk' (w.alloc (.cells #[.slice A xs.length c, .int .i64 f, .int .i64 m] 24)) 24 #[.slice none 0 0, .int .i64 0, .int .i64 0] (w.heap.size + 1) (by simp)).up hbl
    have hbw := bon (ba2 _ _ _) hbl
    have hsz := hbl.size
    simp only [World.size_alloc] at hsz ho
    obtain ⟨⟨c0, c1, c2⟩, f0, f1, f2⟩ := b0.three
    go_wp2_with fail
    clear c0 c1 c2 f0 f1 f2 hbl
    have b0' := b0.set3 (.slice A' xs.length c') (.int .i64 f) (.int .i64 m)
    have b2' := b2.far3 (g' := w.heap.size) (by omega) (.slice A' xs.length c') (.int .i64 f) (.int .i64 m)
    have ho' := ho.set3 (g := w.heap.size) (by omega) (.slice A' xs.length c') (.int .i64 f) (.int .i64 m)
    have hbw' := below_set3 hbw (Nat.le_refl _) (.slice A' xs.length c') (.int .i64 f) (.int .i64 m)
    have hsz' := size_set3 w1 w.heap.size (.slice A' xs.length c') (.int .i64 f) (.int .i64 m)
    generalize ((w1.setCell ⟨w.heap.size, 0, none⟩ (.slice A' xs.length c')).setCell ⟨w.heap.size, 1, none⟩ (.int .i64 f)).setCell ⟨w.heap.size, 2, none⟩ (.int .i64 m) = W1 at *
    refine (right_any A' xs.length c' f m W1).mono ?_
    rintro e w2 ⟨rfl, hbl2⟩
    obtain ⟨⟨c0, c1, c2⟩, f0, f1, f2⟩ := (b0'.up hbl2).three
    obtain ⟨⟨d0, d1, d2⟩, e0, e1, e2⟩ := (b2'.up hbl2).three
    have hbw2 := bon hbw' hbl2
    have ho2 := ho'.up hbl2
    clear b0 b2 b0' b2' ho ho' hbw hbw' hbl2
    go_wp2
    refine bodyPost_ret (v := .tuple #[rv A' xs.length c' f m, .string ⟨[].toArray⟩]) (by simp [results, Try.results13, go_sem, d0, d1, d2]) rfl ⟨rv A' xs.length c' f m, rfl, ⟨A', c', rfl, ho2.1, ho2.le, ?_⟩, ?_⟩
    · exact (ho2.set3 (g := w.heap.size + 1) (by omega) _ _ _).bs
    · exact below_set3 hbw2 (by omega) _ _ _

set_option maxRecDepth 100000 in
set_option maxHeartbeats 1000000 in
theorem pop_yes (A : Option Addr) (c : Nat) (f m n k : Int) (xs : List UInt8) (w : World) (hA : A = none → c = 0) (hB : Bs w w.heap.size A xs) (hok : okB xs.length f m = true) (hn : 0 ≤ n) (hk : (n ≤ m ∧ k = n) ∨ (m < n ∧ m = k)) :
    Calls Try.prog 13 #[rv A xs.length c f m, .int .i64 n] w (PopEnds xs ((f + k) % xs.length) (m - k) (dat xs f.toNat k.toNat) w) := by
  have HA := Lib.hid hA
  clear hA
  have hh := okB_true hok
  have h0k : 0 ≤ k := by omega
  have hkm : k ≤ m := by omega
  rcases hk with ⟨hk, rfl⟩ | ⟨hk, rfl⟩
  all_goals
    go_enter Try.func13, Try.ntmps13
    go_wp2_with fail
    refine (own_any A c f m xs _ HA.out (by omega) (hB.up (ba2 _ _ _))).mono ?_
    rintro e w1 ⟨A', c', rfl, ho, hbl⟩
    have b0 := (Box.mk' w 24 #[.slice A xs.length c, .int .i64 f, .int .i64 m] _ rfl).alloc (.cells #[.slice none 0 0, .int .i64 0, .int .i64 0] 24) |>.up hbl
    have b2 := (Box.mk' (w.alloc (.cells #[.slice A xs.length c, .int .i64 f, .int .i64 m] 24)) 24 #[.slice none 0 0, .int .i64 0, .int .i64 0] (w.heap.size + 1) (by simp)).up hbl
    have hbw := bon (ba2 _ _ _) hbl
    have hsz := hbl.size
    simp only [World.size_alloc] at hsz ho
    obtain ⟨⟨c0, c1, c2⟩, f0, f1, f2⟩ := b0.three
    go_wp2_with fail
    clear c0 c1 c2 f0 f1 f2 hbl
    have b0' := b0.set3 (.slice A' xs.length c') (.int .i64 f) (.int .i64 m)
    have b2' := b2.far3 (g' := w.heap.size) (by omega) (.slice A' xs.length c') (.int .i64 f) (.int .i64 m)
    have ho' := ho.set3 (g := w.heap.size) (by omega) (.slice A' xs.length c') (.int .i64 f) (.int .i64 m)
    have hbw' := below_set3 hbw (Nat.le_refl _) (.slice A' xs.length c') (.int .i64 f) (.int .i64 m)
    have hsz' := size_set3 w1 w.heap.size (.slice A' xs.length c') (.int .i64 f) (.int .i64 m)
    generalize ((w1.setCell ⟨w.heap.size, 0, none⟩ (.slice A' xs.length c')).setCell ⟨w.heap.size, 1, none⟩ (.int .i64 f)).setCell ⟨w.heap.size, 2, none⟩ (.int .i64 m) = W1 at *
    refine (right_any A' xs.length c' f m W1).mono ?_
    rintro e w2 ⟨rfl, hbl2⟩
    have s2 := hbl2.size
    have b0 := b0'.up hbl2
    have b2 := b2'.up hbl2
    have hbw2 := bon hbw' hbl2
    have ho2 := ho'.up hbl2
    obtain ⟨⟨c0, c1, c2⟩, f0, f1, f2⟩ := b0.three
    clear b0' b2' ho ho' hbw hbw' hbl2
    clear c0 c1 c2 f0 f1 f2
    obtain ⟨⟨c0, c1, c2⟩, f0, f1, f2⟩ := b0.three
    go_wp2_with fail
    refine (first_ok A' c' f m _ xs _ hok ho2.le (by omega) (by omega) ho2.bs).mono ?_
    rintro e w3 ⟨rfl, hbl3⟩
    have s3 := hbl3.size
    have b0' := b0.up hbl3
    have b2' := b2.up hbl3
    have hbw3 := bon hbw2 hbl3
    have ho3 := ho2.up hbl3
    clear c0 c1 c2 f0 f1 f2 b0 b2
    obtain ⟨⟨c0, c1, c2⟩, f0, f1, f2⟩ := b0'.three
    go_wp2_with fail
    refine (place_any A' xs.length c' f m _ _ (by omega) (by omega) (by omega) (by omega) (by omega) (by omega)).mono ?_
    rintro e w4 ⟨rfl, hbl4⟩
    have s4 := hbl4.size
    have b0 := b0'.up hbl4
    have b2 := b2'.up hbl4
    have hbw4 := bon hbw3 hbl4
    have ho4 := ho3.up hbl4
    clear c0 c1 c2 f0 f1 f2 b0' b2'
    obtain ⟨⟨c0, c1, c2⟩, f0, f1, f2⟩ := b0.three
    obtain ⟨⟨d0, d1, d2⟩, e0, e1, e2⟩ := b2.three
    go_wp2
    refine bodyPost_ret (v := .tuple #[rv A' xs.length c' _ _, .string ⟨(dat xs f.toNat _).toArray⟩]) (by simp [results, Try.results13, go_sem, d0, d1, d2]; try rfl) rfl ⟨_, rfl, ⟨A', c', rfl, ho4.1, ho4.le, ?_⟩, ?_⟩
    · exact (((ho4.setCell (p := ⟨w.heap.size, 1, none⟩) (by simp only; omega) _).setCell (p := ⟨w.heap.size, 2, none⟩) (by simp only; omega) _).set3 (g := w.heap.size + 1) (by omega) _ _ _).bs
    · exact below_set3 ((hbw4.setCell (p := ⟨w.heap.size, 1, none⟩) (Nat.le_refl _) _).setCell (p := ⟨w.heap.size, 2, none⟩) (Nat.le_refl _) _) (by omega) _ _ _

/-- what Pop comes to: From, Many, and the bytes -/
def popped (xs : List UInt8) (f m n : Int) : Int × Int × List UInt8 :=
  if okB xs.length f m && decide (0 ≤ n) then ((f + if n ≤ m then n else m) % xs.length, m - (if n ≤ m then n else m), dat xs f.toNat (if n ≤ m then n else m).toNat) else (f, m, [])

theorem pop_any (A : Option Addr) (c : Nat) (f m n : Int) (xs : List UInt8) (w : World) (hA : A = none → c = 0) (hb : xs.length ≤ 100000000) (hB : Bs w w.heap.size A xs) :
    Calls Try.prog 13 #[rv A xs.length c f m, .int .i64 n] w (PopEnds xs (popped xs f m n).1 (popped xs f m n).2.1 (popped xs f m n).2.2 w) := by
  cases h : okB xs.length f m with
  | false =>
    have e : popped xs f m n = (f, m, []) := by simp [popped, h]
    rw [e]
    exact pop_no A c f m n xs w hA hb hB (.inl h)
  | true =>
    by_cases hn : 0 ≤ n
    · have e : popped xs f m n = ((f + if n ≤ m then n else m) % xs.length, m - (if n ≤ m then n else m), dat xs f.toNat (if n ≤ m then n else m).toNat) := by simp [popped, h, hn]
      rw [e]
      refine pop_yes A c f m n _ xs w hA hB h hn ?_
      by_cases hm : n ≤ m
      · simp [hm]
      · simp [hm]; omega
    · have e : popped xs f m n = (f, m, []) := by simp [popped, hn]
      rw [e]
      exact pop_no A c f m n xs w hA hb hB (.inr ⟨h, by omega⟩)

end Go.Proofs.Ytbjjolfefegcbaa
