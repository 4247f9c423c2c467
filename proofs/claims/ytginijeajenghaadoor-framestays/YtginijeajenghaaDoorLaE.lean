/-
  The walk of the law FrameStays.
-/
import Derived.Test.YtginijeajenghaaDoorFrF
import Derived.Test.YtginijeajenghaaDoorFrH
import Derived.Test.YtginijeajenghaaDoorLawE
import Derived.Deep.RegionHeld3
import Derived.Deep.RegionLaw
namespace Go.Proofs.YtginijeajenghaaDoor
open Go.RowKit

theorem held19 {W1 w w' : World} {a0 a1 a2 a3 a4 a5 a6 a7 a8 a9 a10 a11 a12 a13 a14 a15 a16 a17 a18 : Addr} {v0 v1 v2 v3 v4 v5 v6 v7 v8 v9 v10 v11 v12 v13 v14 v15 v16 v17 v18 : Value} (hb : Below w.heap.size w w') (h : Below W1.heap.size W1 w ∧ w.cell? a0 = some v0 ∧ w.cell? a1 = some v1 ∧ w.cell? a2 = some v2 ∧ w.cell? a3 = some v3 ∧ w.cell? a4 = some v4 ∧ w.cell? a5 = some v5 ∧ w.cell? a6 = some v6 ∧ w.cell? a7 = some v7 ∧ w.cell? a8 = some v8 ∧ w.cell? a9 = some v9 ∧ w.cell? a10 = some v10 ∧ w.cell? a11 = some v11 ∧ w.cell? a12 = some v12 ∧ w.cell? a13 = some v13 ∧ w.cell? a14 = some v14 ∧ w.cell? a15 = some v15 ∧ w.cell? a16 = some v16 ∧ w.cell? a17 = some v17 ∧ w.cell? a18 = some v18) :
    Below W1.heap.size W1 w' ∧ w'.cell? a0 = some v0 ∧ w'.cell? a1 = some v1 ∧ w'.cell? a2 = some v2 ∧ w'.cell? a3 = some v3 ∧ w'.cell? a4 = some v4 ∧ w'.cell? a5 = some v5 ∧ w'.cell? a6 = some v6 ∧ w'.cell? a7 = some v7 ∧ w'.cell? a8 = some v8 ∧ w'.cell? a9 = some v9 ∧ w'.cell? a10 = some v10 ∧ w'.cell? a11 = some v11 ∧ w'.cell? a12 = some v12 ∧ w'.cell? a13 = some v13 ∧ w'.cell? a14 = some v14 ∧ w'.cell? a15 = some v15 ∧ w'.cell? a16 = some v16 ∧ w'.cell? a17 = some v17 ∧ w'.cell? a18 = some v18 :=
  ⟨bon h.1 hb, cell_up hb h.2.1, cell_up hb h.2.2.1, cell_up hb h.2.2.2.1, cell_up hb h.2.2.2.2.1, cell_up hb h.2.2.2.2.2.1, cell_up hb h.2.2.2.2.2.2.1, cell_up hb h.2.2.2.2.2.2.2.1, cell_up hb h.2.2.2.2.2.2.2.2.1, cell_up hb h.2.2.2.2.2.2.2.2.2.1, cell_up hb h.2.2.2.2.2.2.2.2.2.2.1, cell_up hb h.2.2.2.2.2.2.2.2.2.2.2.1, cell_up hb h.2.2.2.2.2.2.2.2.2.2.2.2.1, cell_up hb h.2.2.2.2.2.2.2.2.2.2.2.2.2.1, cell_up hb h.2.2.2.2.2.2.2.2.2.2.2.2.2.2.1, cell_up hb h.2.2.2.2.2.2.2.2.2.2.2.2.2.2.2.1, cell_up hb h.2.2.2.2.2.2.2.2.2.2.2.2.2.2.2.2.1, cell_up hb h.2.2.2.2.2.2.2.2.2.2.2.2.2.2.2.2.2.1, cell_up hb h.2.2.2.2.2.2.2.2.2.2.2.2.2.2.2.2.2.2.1, cell_up hb h.2.2.2.2.2.2.2.2.2.2.2.2.2.2.2.2.2.2.2⟩
theorem few_app {fs gs : List Fd} (h : Few fs) (h2 : Few gs) : Few (fs ++ gs) := fun f hf => by
  rcases List.mem_append.1 hf with hf | hf
  · exact h f hf
  · exact h2 f hf
theorem few_two {a b : ByteArray} {gs : List Fd} (h : a.size ≤ 4096) (h2 : b.size ≤ 4096) (h3 : Few gs) : Few ((a, b) :: gs) := fun f hf => by
  rcases List.mem_cons.1 hf with rfl | hf
  · exact ⟨h, h2⟩
  · exact h3 f hf
/-- what Stays answers of heads with these fields and this minor -/
structure Known (W0 : World) (A : Option Addr) (n c : Nat) (mi : Int) (b : Bool) : Prop where
  k : ∀ (m t : ByteArray) (st : Int) (r : ByteArray) W, Below W0.heap.size W0 W → Calls Tryd.prog 15 #[.agg #[.string m, .string t, .int .i64 st, .string r, .int .i64 mi, .slice A n c]] W (BoolEnds b W)
def its7 : List ByteArray := [⟨#[99, 108, 111, 115, 101]⟩, ⟨#[107, 101, 101, 112, 45, 97, 108, 105, 118, 101]⟩, ⟨#[97]⟩, ⟨#[]⟩, ⟨#[99, 108, 111, 115, 101, 100]⟩, ⟨#[67, 76, 79, 83, 69]⟩, ⟨#[75, 101, 101, 112, 45, 65, 108, 105, 118, 101]⟩]
theorem its7_le : ∀ x ∈ its7, x.size ≤ 10 := by decide +kernel

theorem getL_app (fs gs : List Fd) (nm : ByteArray) : getL (fs ++ gs) nm = getL fs nm ++ getL gs nm := by simp [getL]
theorem itemsF_app (xs ys : List ByteArray) : itemsF (xs ++ ys) = itemsF xs ++ itemsF ys := by simp [itemsF]
theorem stays_perm {a b : List Bs} (h : ∀ v, a.contains v = b.contains v) (mi : Int) : staysN a mi = staysN b mi := by
  unfold staysN
  rw [h, h]
theorem getL_one {n v nm : ByteArray} (h : lowerL (dl n) = lowerL (dl nm)) : getL [(n, v)] nm = [v] := by simp [getL, h]
theorem stays_same (fs : List Fd) (x y z xy : ByteArray) (mi : Int) (hz : dl z = lowerL (dl y)) (hxy : dl xy = dl x ++ 44 :: dl y) :
    staysH (fs ++ [(⟨#[67, 111, 110, 110, 101, 99, 116, 105, 111, 110]⟩, xy)]) mi = staysH (fs ++ [(⟨#[99, 111, 110, 110, 101, 99, 116, 105, 111, 110]⟩, z), (⟨#[67, 79, 78, 78, 69, 67, 84, 73, 79, 78]⟩, x)]) mi := by
  unfold staysH
  refine stays_perm (fun v => ?_) mi
  have e2 : ∀ a b : Fd, [a, b] = [a] ++ [b] := fun _ _ => rfl
  rw [getL_app, getL_app, e2, getL_app, getL_one (by decide +kernel), getL_one (by decide +kernel), getL_one (by decide +kernel), itemsF_app, itemsF_app, itemsF_app]
  have i1 : ∀ q : ByteArray, itemsF [q] = itemsL (dl q) := fun q => by simp [itemsF]
  rw [i1, i1, i1, hxy, hz, items_app, items_lower, contains_app, contains_app, contains_app, contains_app]
  cases (itemsL (dl x)).contains v <;> cases (itemsL (dl y)).contains v <;> rfl
theorem stays_close (fs : List Fd) (mi : Int) : staysH (fs ++ [(⟨#[67, 111, 110, 110, 101, 99, 116, 105, 111, 110]⟩, ⟨#[120, 44, 32, 99, 108, 111, 115, 101]⟩)]) mi = false := by
  unfold staysH staysN
  rw [if_pos]
  have i1 : ∀ q : ByteArray, itemsF [q] = itemsL (dl q) := fun q => by simp [itemsF]
  rw [getL_app, getL_one (by decide +kernel), itemsF_app, i1, contains_app, show (itemsL (dl ⟨#[120, 44, 32, 99, 108, 111, 115, 101]⟩)).contains cloB = true from by decide +kernel, Bool.or_true]

/-- three boxes of the call's own, apart -/
def Cut3 (W : World) (cs : Array Value) (v1 v2 v3 : Value) (w' : World) : Prop :=
  ∃ g1 g2 g3 : Nat, v1 = .pointer (some ⟨g1, 0, none⟩) ∧ v2 = .pointer (some ⟨g2, 0, none⟩) ∧ v3 = .pointer (some ⟨g3, 0, none⟩) ∧ Box w' g1 25 cs ∧ Box w' g2 25 cs ∧ Box w' g3 25 cs ∧ g1 ≠ g2 ∧ g1 ≠ g3 ∧ g2 ≠ g3 ∧ W.heap.size ≤ g1 ∧ W.heap.size ≤ g2 ∧ W.heap.size ≤ g3 ∧ Below W.heap.size W w'

set_option maxRecDepth 100000 in
set_option maxHeartbeats 4000000 in
theorem frameStays_any (A : Option Addr) (L c : Nat) (ys : List UInt8) (a b : Nat) (an : Bool) (w : World) (ha : a < 256) (hb : b < 256) (hl : ys.length = L) (hm : L ≤ maxLen) (hU : Us w w.heap.size A ys) : Calls Tryd.prog 7 #[.slice A L c, .int .u8 (a : Int), .int .u8 (b : Int), .bool an] w (BoolEnds true w) := by
  obtain ⟨i32, hi, hz0, hz1, hz2⟩ := info_parts info32
  have HM := Lib.hid (fun W (hW : Below w.heap.size w W) => made_any A L c ys an W hl hm (hU.up hW))
  clear hl hm hU
  go_enter Tryd.func7, Tryd.ntmps7
  go_wp2_with fail
  refine (awake_any _).mono ?_
  rintro e w1 ⟨rfl, hb1⟩
  go_upto_region 5 with fail
  have hd1 := bon hb1 (ba1 w1 (.cells #[.string ⟨#[99, 108, 111, 115, 101]⟩, .string ⟨#[107, 101, 101, 112, 45, 97, 108, 105, 118, 101]⟩, .string ⟨#[97]⟩, .string ⟨#[]⟩, .string ⟨#[99, 108, 111, 115, 101, 100]⟩, .string ⟨#[67, 76, 79, 83, 69]⟩, .string ⟨#[75, 101, 101, 112, 45, 65, 108, 105, 118, 101]⟩] 9))
  have HSl : Hid (Box (w1.alloc (.cells #[.string ⟨#[99, 108, 111, 115, 101]⟩, .string ⟨#[107, 101, 101, 112, 45, 97, 108, 105, 118, 101]⟩, .string ⟨#[97]⟩, .string ⟨#[]⟩, .string ⟨#[99, 108, 111, 115, 101, 100]⟩, .string ⟨#[67, 76, 79, 83, 69]⟩, .string ⟨#[75, 101, 101, 112, 45, 65, 108, 105, 118, 101]⟩] 9)) w1.heap.size 9 (svs its7).toArray) := Lib.hid (Box.new w1 9 #[.string ⟨#[99, 108, 111, 115, 101]⟩, .string ⟨#[107, 101, 101, 112, 45, 97, 108, 105, 118, 101]⟩, .string ⟨#[97]⟩, .string ⟨#[]⟩, .string ⟨#[99, 108, 111, 115, 101, 100]⟩, .string ⟨#[67, 76, 79, 83, 69]⟩, .string ⟨#[75, 101, 101, 112, 45, 65, 108, 105, 118, 101]⟩])
  obtain ⟨gl, hg⟩ : ∃ g, w1.heap.size = g := ⟨_, rfl⟩
  rw [hg] at HSl ⊢
  clear hg hb1
  generalize w1.alloc (.cells #[.string ⟨#[99, 108, 111, 115, 101]⟩, .string ⟨#[107, 101, 101, 112, 45, 97, 108, 105, 118, 101]⟩, .string ⟨#[97]⟩, .string ⟨#[]⟩, .string ⟨#[99, 108, 111, 115, 101, 100]⟩, .string ⟨#[67, 76, 79, 83, 69]⟩, .string ⟨#[75, 101, 101, 112, 45, 65, 108, 105, 118, 101]⟩] 9) = W1 at *
  obtain ⟨ra, hra⟩ : ∃ r, a % 7 = r := ⟨_, rfl⟩
  obtain ⟨rb, hrb⟩ : ∃ r, b % 7 = r := ⟨_, rfl⟩
  have ra7 : ra < 7 := by omega
  have rb7 : rb < 7 := by omega
  have u1 : IntKind.i64.wrap (a : Int) = (a : Int) := IntWalk.i64_in _ (by omega)
  have u2 : (a : Int).tmod 7 = (ra : Int) := by rw [Int.tmod_eq_emod_of_nonneg (by omega), ← hra]; simp
  have u3 : (a : Int) % 7 = (ra : Int) := by rw [← hra]; simp
  have u4 : IntKind.i64.wrap (ra : Int) = (ra : Int) := IntWalk.i64_in _ (by omega)
  have u5 : IntKind.i64.wrap (b : Int) = (b : Int) := IntWalk.i64_in _ (by omega)
  have u6 : (b : Int).tmod 7 = (rb : Int) := by rw [Int.tmod_eq_emod_of_nonneg (by omega), ← hrb]; simp
  have u7 : (b : Int) % 7 = (rb : Int) := by rw [← hrb]; simp
  have u8 : IntKind.i64.wrap (rb : Int) = (rb : Int) := IntWalk.i64_in _ (by omega)
  have v1 : (ra : Int) < 7 := by omega
  have v2 : (0 : Int) ≤ (ra : Int) := by omega
  have v3 : (rb : Int) < 7 := by omega
  have v4 : (0 : Int) ≤ (rb : Int) := by omega
  clear hra hrb
  obtain ⟨x, hx, cx⟩ := lit_cell (xs := its7) HSl.out (p := ra) ra7
  obtain ⟨y, hy, cy⟩ := lit_cell (xs := its7) HSl.out (p := rb) rb7
  have hxs := its7_le x hx
  have hys := its7_le y hy
  clear hx hy HSl
  go_quiet (fail)
  rename_i nq
  have hdq : Below w.heap.size w (W1.drewN nq) := below_drewN hd1 _
  clear hd1 cx cy u1 u2 u3 u4 u5 u6 u7 u8 v1 v2 v3 v4
  generalize W1.drewN nq = W2 at *
  go_wp2_with fail
  refine (HM.out _ hdq).mono ?_
  rintro e w3 ⟨m, t, st, r, mi, S, fs, rfl, hG, hF, hb3⟩
  obtain ⟨SA, Sn, Sc⟩ := S
  simp only
  go_upto_region 7 with fail
  have hd3 := bon hb3 (ba1 w3 (.cells #[.string m, .string t, .int .i64 st, .string r, .int .i64 mi, .slice SA Sn Sc] 25))
  have bh := Box.new w3 25 #[.string m, .string t, .int .i64 st, .string r, .int .i64 mi, .slice SA Sn Sc]
  have F3 := hF.up (ba1 w3 (.cells #[.string m, .string t, .int .i64 st, .string r, .int .i64 mi, .slice SA Sn Sc] 25))
  have hB3 := bon hdq hd3
  obtain ⟨g, hg⟩ : ∃ g, w3.heap.size = g := ⟨_, rfl⟩
  rw [hg] at bh ⊢
  clear hg hb3 hF hd3 hdq HM
  generalize w3.alloc (.cells #[.string m, .string t, .int .i64 st, .string r, .int .i64 mi, .slice SA Sn Sc] 25) = W3 at *
  obtain ⟨c0, c1, c2, c3, c4, c5⟩ := bh.six
  have hglt := bh.lt
  go_cut [14, 15, 16] (Cut3 W3 #[.string m, .string t, .int .i64 st, .string r, .int .i64 mi, .slice SA Sn Sc])
  case first =>
    have e1_0 : ∀ o, (W3.alloc o).cell? ⟨g, 0, none⟩ = some (.string m) := fun o => (bh.alloc o).c 0 rfl
    have e2_0 : ∀ o o', ((W3.alloc o).alloc o').cell? ⟨g, 0, none⟩ = some (.string m) := fun o o' => ((bh.alloc o).alloc o').c 0 rfl
    have e3_0 : ∀ o o' o'', (((W3.alloc o).alloc o').alloc o'').cell? ⟨g, 0, none⟩ = some (.string m) := fun o o' o'' => (((bh.alloc o).alloc o').alloc o'').c 0 rfl
    have e1_1 : ∀ o, (W3.alloc o).cell? ⟨g, 1, none⟩ = some (.string t) := fun o => (bh.alloc o).c 1 rfl
    have e2_1 : ∀ o o', ((W3.alloc o).alloc o').cell? ⟨g, 1, none⟩ = some (.string t) := fun o o' => ((bh.alloc o).alloc o').c 1 rfl
    have e3_1 : ∀ o o' o'', (((W3.alloc o).alloc o').alloc o'').cell? ⟨g, 1, none⟩ = some (.string t) := fun o o' o'' => (((bh.alloc o).alloc o').alloc o'').c 1 rfl
    have e1_2 : ∀ o, (W3.alloc o).cell? ⟨g, 2, none⟩ = some (.int .i64 st) := fun o => (bh.alloc o).c 2 rfl
    have e2_2 : ∀ o o', ((W3.alloc o).alloc o').cell? ⟨g, 2, none⟩ = some (.int .i64 st) := fun o o' => ((bh.alloc o).alloc o').c 2 rfl
    have e3_2 : ∀ o o' o'', (((W3.alloc o).alloc o').alloc o'').cell? ⟨g, 2, none⟩ = some (.int .i64 st) := fun o o' o'' => (((bh.alloc o).alloc o').alloc o'').c 2 rfl
    have e1_3 : ∀ o, (W3.alloc o).cell? ⟨g, 3, none⟩ = some (.string r) := fun o => (bh.alloc o).c 3 rfl
    have e2_3 : ∀ o o', ((W3.alloc o).alloc o').cell? ⟨g, 3, none⟩ = some (.string r) := fun o o' => ((bh.alloc o).alloc o').c 3 rfl
    have e3_3 : ∀ o o' o'', (((W3.alloc o).alloc o').alloc o'').cell? ⟨g, 3, none⟩ = some (.string r) := fun o o' o'' => (((bh.alloc o).alloc o').alloc o'').c 3 rfl
    have e1_4 : ∀ o, (W3.alloc o).cell? ⟨g, 4, none⟩ = some (.int .i64 mi) := fun o => (bh.alloc o).c 4 rfl
    have e2_4 : ∀ o o', ((W3.alloc o).alloc o').cell? ⟨g, 4, none⟩ = some (.int .i64 mi) := fun o o' => ((bh.alloc o).alloc o').c 4 rfl
    have e3_4 : ∀ o o' o'', (((W3.alloc o).alloc o').alloc o'').cell? ⟨g, 4, none⟩ = some (.int .i64 mi) := fun o o' o'' => (((bh.alloc o).alloc o').alloc o'').c 4 rfl
    have e1_5 : ∀ o, (W3.alloc o).cell? ⟨g, 5, none⟩ = some (.slice SA Sn Sc) := fun o => (bh.alloc o).c 5 rfl
    have e2_5 : ∀ o o', ((W3.alloc o).alloc o').cell? ⟨g, 5, none⟩ = some (.slice SA Sn Sc) := fun o o' => ((bh.alloc o).alloc o').c 5 rfl
    have e3_5 : ∀ o o' o'', (((W3.alloc o).alloc o').alloc o'').cell? ⟨g, 5, none⟩ = some (.slice SA Sn Sc) := fun o o' o'' => (((bh.alloc o).alloc o').alloc o'').c 5 rfl
    have K0 : Box ((((W3.alloc (.cells #[.string m, .string t, .int .i64 st, .string r, .int .i64 mi, .slice SA Sn Sc] 25)).alloc (.cells #[.string m, .string t, .int .i64 st, .string r, .int .i64 mi, .slice SA Sn Sc] 25)).alloc (.cells #[.string m, .string t, .int .i64 st, .string r, .int .i64 mi, .slice SA Sn Sc] 25)).drew) W3.heap.size 25 #[.string m, .string t, .int .i64 st, .string r, .int .i64 mi, .slice SA Sn Sc] := ((Box.new W3 25 #[.string m, .string t, .int .i64 st, .string r, .int .i64 mi, .slice SA Sn Sc]).alloc (.cells #[.string m, .string t, .int .i64 st, .string r, .int .i64 mi, .slice SA Sn Sc] 25)).alloc (.cells #[.string m, .string t, .int .i64 st, .string r, .int .i64 mi, .slice SA Sn Sc] 25)
    have K1 : Box ((((W3.alloc (.cells #[.string m, .string t, .int .i64 st, .string r, .int .i64 mi, .slice SA Sn Sc] 25)).alloc (.cells #[.string m, .string t, .int .i64 st, .string r, .int .i64 mi, .slice SA Sn Sc] 25)).alloc (.cells #[.string m, .string t, .int .i64 st, .string r, .int .i64 mi, .slice SA Sn Sc] 25)).drew) (W3.heap.size + 1) 25 #[.string m, .string t, .int .i64 st, .string r, .int .i64 mi, .slice SA Sn Sc] := (Box.mk' (W3.alloc (.cells #[.string m, .string t, .int .i64 st, .string r, .int .i64 mi, .slice SA Sn Sc] 25)) 25 #[.string m, .string t, .int .i64 st, .string r, .int .i64 mi, .slice SA Sn Sc] (W3.heap.size + 1) (by simp)).alloc (.cells #[.string m, .string t, .int .i64 st, .string r, .int .i64 mi, .slice SA Sn Sc] 25)
    have K2 : Box ((((W3.alloc (.cells #[.string m, .string t, .int .i64 st, .string r, .int .i64 mi, .slice SA Sn Sc] 25)).alloc (.cells #[.string m, .string t, .int .i64 st, .string r, .int .i64 mi, .slice SA Sn Sc] 25)).alloc (.cells #[.string m, .string t, .int .i64 st, .string r, .int .i64 mi, .slice SA Sn Sc] 25)).drew) (W3.heap.size + 1 + 1) 25 #[.string m, .string t, .int .i64 st, .string r, .int .i64 mi, .slice SA Sn Sc] := Box.mk' ((W3.alloc (.cells #[.string m, .string t, .int .i64 st, .string r, .int .i64 mi, .slice SA Sn Sc] 25)).alloc (.cells #[.string m, .string t, .int .i64 st, .string r, .int .i64 mi, .slice SA Sn Sc] 25)) 25 #[.string m, .string t, .int .i64 st, .string r, .int .i64 mi, .slice SA Sn Sc] (W3.heap.size + 1 + 1) (by simp)
    have K3 : Below W3.heap.size W3 ((((W3.alloc (.cells #[.string m, .string t, .int .i64 st, .string r, .int .i64 mi, .slice SA Sn Sc] 25)).alloc (.cells #[.string m, .string t, .int .i64 st, .string r, .int .i64 mi, .slice SA Sn Sc] 25)).alloc (.cells #[.string m, .string t, .int .i64 st, .string r, .int .i64 mi, .slice SA Sn Sc] 25)).drew) := (ba3 W3 (.cells #[.string m, .string t, .int .i64 st, .string r, .int .i64 mi, .slice SA Sn Sc] 25) (.cells #[.string m, .string t, .int .i64 st, .string r, .int .i64 mi, .slice SA Sn Sc] 25) (.cells #[.string m, .string t, .int .i64 st, .string r, .int .i64 mi, .slice SA Sn Sc] 25)).drew
    go_region
    all_goals (go_wp2_with fail; go_meet)
    all_goals exact ⟨_, _, _, rfl, rfl, rfl, by first | exact K0 | exact K1 | exact K2, by first | exact K0 | exact K1 | exact K2, by first | exact K0 | exact K1 | exact K2, by omega, by omega, by omega, by omega, by omega, by omega, K3⟩
  case rest =>
    obtain ⟨g1, g2, g3, rfl, rfl, rfl, b1, b2, b3, n12, n13, n23, l1, l2, l3, hbc⟩ := hcut
    have bh := bh.up hbc
    have HB := Lib.hid hbc
    have q1 := b1.lt
    have q2 := b2.lt
    have q3 := b3.lt
    clear c0 c1 c2 c3 c4 c5 hbc
    obtain ⟨Bc, hBc⟩ : ∃ k, wc.heap.size = k := ⟨_, rfl⟩
    rw [hBc] at q1 q2 q3
    have hBk : Bc ≤ wc.heap.size := by omega
    clear hBc
    have ng1 : g ≠ g1 := by omega
    have ng2 : g ≠ g2 := by omega
    have ng3 : g ≠ g3 := by omega
    have hSn := F3.len
    obtain ⟨e1, e2, e3, e4, e5⟩ := good_few hG
    have e6 := hG.2.2.2.2.1
    simp only at hSn
    have hSn6 : Sn ≤ 6 := by omega
    have z0 : (⟨#[44]⟩ : ByteArray).size = 1 := rfl
    have z1 : (x ++ (⟨#[44]⟩ : ByteArray)).size = x.size + 1 := by rw [ByteArray.size_append, z0]
    have z2 : (x ++ (⟨#[44]⟩ : ByteArray) ++ y).size = x.size + 1 + y.size := by rw [ByteArray.size_append, z1]
    have HF3 := Lib.hid F3
    clear F3 hSn e1 e2 e3 e4 e6
    have Fk := HF3.out.up HB.out
    have c5 := bh.c 5 (v := .slice SA Sn Sc) rfl
    have HSrc := Lib.hid (Rd.src (sz := 2) (m := Sn) (c := Sc) (by decide) Fk.rd (by rw [fvs_len, Fk.len]) Fk.cap)
    have HO := Lib.hid (Out.nil 32 2 wc wc (Below.refl _ _))
    clear Fk
    go_wp2_with (at_builtin; refine wpList_app _ rfl _ _ 23 rfl wc.heap.size 32 i32 _ 2 32 (by decide) Tryd.underlying23 hi hz0 hz1 hz2 rfl (.slice none 0 0) 0 [] rfl HO.out.row SA Sn Sc (fvs fs) rfl HSrc.out (fvs_one _) ?_ ?_ (Nat.le_refl _) Sn (Nat.zero_add _) ?_; (unfold maxLen; omega); omega; intro A1 k1 w5 h1 h2 h3; refine Hid.out ?_)
    have HO1 := Lib.hid (HO.out.app (cs' := fvs fs) h1 h2)
    clear h1 h2 h3 HO HSrc c5
    refine Lib.hid ?_
    have HO2 := Lib.hid (HO1.out.up (ba1 w5 (.cells #[.string ⟨#[67, 111, 110, 110, 101, 99, 116, 105, 111, 110]⟩, .string (x ++ (⟨#[44]⟩ : ByteArray) ++ y)] 32)))
    have HSrc2 := Lib.hid (src_one w5 32 (fvs [(⟨#[67, 111, 110, 110, 101, 99, 116, 105, 111, 110]⟩, (x ++ (⟨#[44]⟩ : ByteArray) ++ y))]) 1 2 rfl)
    have hBw : wc.heap.size ≤ (w5.alloc (.cells #[.string ⟨#[67, 111, 110, 110, 101, 99, 116, 105, 111, 110]⟩, .string (x ++ (⟨#[44]⟩ : ByteArray) ++ y)] 32)).heap.size := HO2.out.le
    clear HO1
    go_wp2_with (at_builtin; refine wpList_app _ rfl _ _ 23 rfl wc.heap.size 32 i32 _ 2 32 (by decide) Tryd.underlying23 hi hz0 hz1 hz2 rfl (.slice A1 Sn k1) Sn (fvs fs) rfl HO2.out.row (some ⟨w5.heap.size, 0, none⟩) 1 1 (fvs [(⟨#[67, 111, 110, 110, 101, 99, 116, 105, 111, 110]⟩, (x ++ (⟨#[44]⟩ : ByteArray) ++ y))]) rfl HSrc2.out (fvs_one _) ?_ ?_ hBw (Sn + 1) rfl ?_; (unfold maxLen; omega); omega; intro A21 k21 w7 h1 h2 h3; refine Hid.out ?_)
    have HO3 := HO2.out.app (cs' := fvs (fs ++ [(⟨#[67, 111, 110, 110, 101, 99, 116, 105, 111, 110]⟩, (x ++ (⟨#[44]⟩ : ByteArray) ++ y))])) (by rw [fvs_app]; exact h1) h2
    clear h1 h2 h3 HO2 HSrc2 hBw
    have k5 := (b1.up HO3.hb).c 5 (v := .slice SA Sn Sc) rfl
    have f5 := (b1.up HO3.hb).f 5
    have hA1 : ∀ ad, A21 = some ad → Bc ≤ ad.block := fun ad h => Nat.le_trans hBk (HO3.row.base ad h)
    have bh' := (bh.up HO3.hb).far (p := ⟨g1, 5, none⟩) ng1 (.slice A21 (Sn + 1) k21)
    have HB' := Lib.hid ((bon HB.out HO3.hb).setCell (p := ⟨g1, 5, none⟩) l1 (.slice A21 (Sn + 1) k21))
    have FA1 := (HO3.row.fs).set (p := ⟨g1, 5, none⟩) (fun ad h => by have := hA1 ad h; simp only; omega) (.slice A21 (Sn + 1) k21)
    have hBk' : Bc ≤ (w7.setCell ⟨g1, 5, none⟩ (.slice A21 (Sn + 1) k21)).heap.size := Nat.le_trans hBk (Nat.le_trans HO3.hb.size (by simp))
    have b1' := (b1.up HO3.hb).set5 (.slice A21 (Sn + 1) k21)
    have b2' := (b2.up HO3.hb).far (p := ⟨g1, 5, none⟩) n12.symm (.slice A21 (Sn + 1) k21)
    have b3' := (b3.up HO3.hb).far (p := ⟨g1, 5, none⟩) n13.symm (.slice A21 (Sn + 1) k21)
    clear bh b1 b2 b3 HB HO3 hBk
    refine Lib.hid ?_
    go_upto_region 9 with fail
    clear k5 f5
    generalize w7.setCell ⟨g1, 5, none⟩ (.slice A21 (Sn + 1) k21) = W5 at *
    have bh := bh'
    have HB := HB'
    have hBk := hBk'
    have b1 := b1'
    have b2 := b2'
    have b3 := b3'
    clear bh' HB' hBk' b1' b2' b3'
    have Fk := HF3.out.up HB.out
    have c5 := bh.c 5 (v := .slice SA Sn Sc) rfl
    have HSrc := Lib.hid (Rd.src (sz := 2) (m := Sn) (c := Sc) (by decide) Fk.rd (by rw [fvs_len, Fk.len]) Fk.cap)
    have HO := Lib.hid (Out.nil 32 2 W5 W5 (Below.refl _ _))
    clear Fk
    go_wp2_with (at_builtin; refine wpList_app _ rfl _ _ 23 rfl W5.heap.size 32 i32 _ 2 32 (by decide) Tryd.underlying23 hi hz0 hz1 hz2 rfl (.slice none 0 0) 0 [] rfl HO.out.row SA Sn Sc (fvs fs) rfl HSrc.out (fvs_one _) ?_ ?_ (Nat.le_refl _) Sn (Nat.zero_add _) ?_; (unfold maxLen; omega); omega; intro A1 k1 w5 h1 h2 h3; refine Hid.out ?_)
    have HO1 := Lib.hid (HO.out.app (cs' := fvs fs) h1 h2)
    clear h1 h2 h3 HO HSrc c5
    refine Lib.hid ?_
    go_wp2_with fail
    refine (rlower_any y (by omega) _).mono ?_
    rintro e w6 ⟨z, rfl, hz, hb6⟩
    have HZ := Lib.hid hz
    have hzs : z.size = y.size := by
      have h := congrArg List.length hz
      rw [dl_len, low_len, dl_len] at h
      exact h
    have HO1 := Lib.hid (HO1.out.up hb6)
    clear hz hb6
    have HO2 := Lib.hid (HO1.out.up (ba1 w6 (.cells #[.string ⟨#[99, 111, 110, 110, 101, 99, 116, 105, 111, 110]⟩, .string z, .string ⟨#[67, 79, 78, 78, 69, 67, 84, 73, 79, 78]⟩, .string x] 32)))
    have HSrc2 := Lib.hid (src_one w6 32 (fvs [(⟨#[99, 111, 110, 110, 101, 99, 116, 105, 111, 110]⟩, z), (⟨#[67, 79, 78, 78, 69, 67, 84, 73, 79, 78]⟩, x)]) 2 2 rfl)
    have hBw : W5.heap.size ≤ (w6.alloc (.cells #[.string ⟨#[99, 111, 110, 110, 101, 99, 116, 105, 111, 110]⟩, .string z, .string ⟨#[67, 79, 78, 78, 69, 67, 84, 73, 79, 78]⟩, .string x] 32)).heap.size := HO2.out.le
    clear HO1
    go_wp2_with (at_builtin; refine wpList_app _ rfl _ _ 23 rfl W5.heap.size 32 i32 _ 2 32 (by decide) Tryd.underlying23 hi hz0 hz1 hz2 rfl (.slice A1 Sn k1) Sn (fvs fs) rfl HO2.out.row (some ⟨w6.heap.size, 0, none⟩) 2 2 (fvs [(⟨#[99, 111, 110, 110, 101, 99, 116, 105, 111, 110]⟩, z), (⟨#[67, 79, 78, 78, 69, 67, 84, 73, 79, 78]⟩, x)]) rfl HSrc2.out (fvs_one _) ?_ ?_ hBw (Sn + 2) rfl ?_; (unfold maxLen; omega); omega; intro A22 k22 w7 h1 h2 h3; refine Hid.out ?_)
    have HO3 := HO2.out.app (cs' := fvs (fs ++ [(⟨#[99, 111, 110, 110, 101, 99, 116, 105, 111, 110]⟩, z), (⟨#[67, 79, 78, 78, 69, 67, 84, 73, 79, 78]⟩, x)])) (by rw [fvs_app]; exact h1) h2
    clear h1 h2 h3 HO2 HSrc2 hBw
    have k5 := (b2.up HO3.hb).c 5 (v := .slice SA Sn Sc) rfl
    have f5 := (b2.up HO3.hb).f 5
    have hA2 : ∀ ad, A22 = some ad → Bc ≤ ad.block := fun ad h => Nat.le_trans hBk (HO3.row.base ad h)
    have bh' := (bh.up HO3.hb).far (p := ⟨g2, 5, none⟩) ng2 (.slice A22 (Sn + 2) k22)
    have HB' := Lib.hid ((bon HB.out HO3.hb).setCell (p := ⟨g2, 5, none⟩) l2 (.slice A22 (Sn + 2) k22))
    have FA2 := (HO3.row.fs).set (p := ⟨g2, 5, none⟩) (fun ad h => by have := hA2 ad h; simp only; omega) (.slice A22 (Sn + 2) k22)
    have hBk' : Bc ≤ (w7.setCell ⟨g2, 5, none⟩ (.slice A22 (Sn + 2) k22)).heap.size := Nat.le_trans hBk (Nat.le_trans HO3.hb.size (by simp))
    have b1' := (b1.up HO3.hb).far (p := ⟨g2, 5, none⟩) n12 (.slice A22 (Sn + 2) k22)
    have b2' := (b2.up HO3.hb).set5 (.slice A22 (Sn + 2) k22)
    have b3' := (b3.up HO3.hb).far (p := ⟨g2, 5, none⟩) n23.symm (.slice A22 (Sn + 2) k22)
    have FA1' := (FA1.up HO3.hb).set (p := ⟨g2, 5, none⟩) (fun ad h => by have := hA1 ad h; simp only; omega) (.slice A22 (Sn + 2) k22)
    clear bh b1 b2 b3 HB HO3 hBk FA1
    refine Lib.hid ?_
    go_upto_region 10 with fail
    clear k5 f5
    generalize w7.setCell ⟨g2, 5, none⟩ (.slice A22 (Sn + 2) k22) = W6 at *
    have bh := bh'
    have HB := HB'
    have hBk := hBk'
    have b1 := b1'
    have b2 := b2'
    have b3 := b3'
    have FA1 := FA1'
    clear bh' HB' hBk' b1' b2' b3' FA1'
    have Fk := HF3.out.up HB.out
    have c5 := bh.c 5 (v := .slice SA Sn Sc) rfl
    have HSrc := Lib.hid (Rd.src (sz := 2) (m := Sn) (c := Sc) (by decide) Fk.rd (by rw [fvs_len, Fk.len]) Fk.cap)
    have HO := Lib.hid (Out.nil 32 2 W6 W6 (Below.refl _ _))
    clear Fk
    go_wp2_with (at_builtin; refine wpList_app _ rfl _ _ 23 rfl W6.heap.size 32 i32 _ 2 32 (by decide) Tryd.underlying23 hi hz0 hz1 hz2 rfl (.slice none 0 0) 0 [] rfl HO.out.row SA Sn Sc (fvs fs) rfl HSrc.out (fvs_one _) ?_ ?_ (Nat.le_refl _) Sn (Nat.zero_add _) ?_; (unfold maxLen; omega); omega; intro A1 k1 w5 h1 h2 h3; refine Hid.out ?_)
    have HO1 := Lib.hid (HO.out.app (cs' := fvs fs) h1 h2)
    clear h1 h2 h3 HO HSrc c5
    refine Lib.hid ?_
    have HO2 := Lib.hid (HO1.out.up (ba1 w5 (.cells #[.string ⟨#[67, 111, 110, 110, 101, 99, 116, 105, 111, 110]⟩, .string ⟨#[120, 44, 32, 99, 108, 111, 115, 101]⟩] 32)))
    have HSrc2 := Lib.hid (src_one w5 32 (fvs [(⟨#[67, 111, 110, 110, 101, 99, 116, 105, 111, 110]⟩, ⟨#[120, 44, 32, 99, 108, 111, 115, 101]⟩)]) 1 2 rfl)
    have hBw : W6.heap.size ≤ (w5.alloc (.cells #[.string ⟨#[67, 111, 110, 110, 101, 99, 116, 105, 111, 110]⟩, .string ⟨#[120, 44, 32, 99, 108, 111, 115, 101]⟩] 32)).heap.size := HO2.out.le
    clear HO1
    go_wp2_with (at_builtin; refine wpList_app _ rfl _ _ 23 rfl W6.heap.size 32 i32 _ 2 32 (by decide) Tryd.underlying23 hi hz0 hz1 hz2 rfl (.slice A1 Sn k1) Sn (fvs fs) rfl HO2.out.row (some ⟨w5.heap.size, 0, none⟩) 1 1 (fvs [(⟨#[67, 111, 110, 110, 101, 99, 116, 105, 111, 110]⟩, ⟨#[120, 44, 32, 99, 108, 111, 115, 101]⟩)]) rfl HSrc2.out (fvs_one _) ?_ ?_ hBw (Sn + 1) rfl ?_; (unfold maxLen; omega); omega; intro A23 k23 w7 h1 h2 h3; refine Hid.out ?_)
    have HO3 := HO2.out.app (cs' := fvs (fs ++ [(⟨#[67, 111, 110, 110, 101, 99, 116, 105, 111, 110]⟩, ⟨#[120, 44, 32, 99, 108, 111, 115, 101]⟩)])) (by rw [fvs_app]; exact h1) h2
    clear h1 h2 h3 HO2 HSrc2 hBw
    have k5 := (b3.up HO3.hb).c 5 (v := .slice SA Sn Sc) rfl
    have f5 := (b3.up HO3.hb).f 5
    have hA3 : ∀ ad, A23 = some ad → Bc ≤ ad.block := fun ad h => Nat.le_trans hBk (HO3.row.base ad h)
    have bh' := (bh.up HO3.hb).far (p := ⟨g3, 5, none⟩) ng3 (.slice A23 (Sn + 1) k23)
    have HB' := Lib.hid ((bon HB.out HO3.hb).setCell (p := ⟨g3, 5, none⟩) l3 (.slice A23 (Sn + 1) k23))
    have FA3 := (HO3.row.fs).set (p := ⟨g3, 5, none⟩) (fun ad h => by have := hA3 ad h; simp only; omega) (.slice A23 (Sn + 1) k23)
    have hBk' : Bc ≤ (w7.setCell ⟨g3, 5, none⟩ (.slice A23 (Sn + 1) k23)).heap.size := Nat.le_trans hBk (Nat.le_trans HO3.hb.size (by simp))
    have b1' := (b1.up HO3.hb).far (p := ⟨g3, 5, none⟩) n13 (.slice A23 (Sn + 1) k23)
    have b2' := (b2.up HO3.hb).far (p := ⟨g3, 5, none⟩) n23 (.slice A23 (Sn + 1) k23)
    have b3' := (b3.up HO3.hb).set5 (.slice A23 (Sn + 1) k23)
    have FA1' := (FA1.up HO3.hb).set (p := ⟨g3, 5, none⟩) (fun ad h => by have := hA1 ad h; simp only; omega) (.slice A23 (Sn + 1) k23)
    have FA2' := (FA2.up HO3.hb).set (p := ⟨g3, 5, none⟩) (fun ad h => by have := hA2 ad h; simp only; omega) (.slice A23 (Sn + 1) k23)
    clear bh b1 b2 b3 HB HO3 hBk FA1 FA2
    refine Lib.hid ?_
    go_upto_region 11 with fail
    clear k5 f5
    generalize w7.setCell ⟨g3, 5, none⟩ (.slice A23 (Sn + 1) k23) = W7 at *
    have bh := bh'
    have HB := HB'
    have hBk := hBk'
    have b1 := b1'
    have b2 := b2'
    have b3 := b3'
    have FA1 := FA1'
    have FA2 := FA2'
    clear bh' HB' hBk' b1' b2' b3' FA1' FA2'
    have hfx : Few (fs ++ [(⟨#[67, 111, 110, 110, 101, 99, 116, 105, 111, 110]⟩, (x ++ (⟨#[44]⟩ : ByteArray) ++ y))]) := few_app e5 (few_two (by decide) (by omega) (fun f hf => by cases hf))
    have hfy : Few (fs ++ [(⟨#[99, 111, 110, 110, 101, 99, 116, 105, 111, 110]⟩, z), (⟨#[67, 79, 78, 78, 69, 67, 84, 73, 79, 78]⟩, x)]) := few_app e5 (few_two (by decide) (by omega) (few_two (by decide) (by omega) (fun f hf => by cases hf)))
    have hfz : Few (fs ++ [(⟨#[67, 111, 110, 110, 101, 99, 116, 105, 111, 110]⟩, ⟨#[120, 44, 32, 99, 108, 111, 115, 101]⟩)]) := few_app e5 (few_of (by decide +kernel))
    have HE := Lib.hid (stays_same fs x y z (x ++ (⟨#[44]⟩ : ByteArray) ++ y) mi HZ.out (by rw [dl_app, dl_app, List.append_assoc]; rfl))
    obtain ⟨bs, hbs⟩ : ∃ b, staysH (fs ++ [(⟨#[67, 111, 110, 110, 101, 99, 116, 105, 111, 110]⟩, (x ++ (⟨#[44]⟩ : ByteArray) ++ y))]) mi = b := ⟨_, rfl⟩
    have Q1 : Known W7 A21 (Sn + 1) k21 mi bs := ⟨fun m t st r W h => by
      rw [← hbs]
      exact stays_any m t st r mi A21 (Sn + 1) k21 _ W (FA1.up h) (by omega) hfx⟩
    have Q2 : Known W7 A22 (Sn + 2) k22 mi bs := ⟨fun m t st r W h => by
      rw [← hbs, HE.out]
      exact stays_any m t st r mi A22 (Sn + 2) k22 _ W (FA2.up h) (by omega) hfy⟩
    have Q3 : Known W7 A23 (Sn + 1) k23 mi false := ⟨fun m t st r W h => by
      rw [← stays_close fs mi]
      exact stays_any m t st r mi A23 (Sn + 1) k23 _ W (FA3.up h) (by omega) hfz⟩
    have Q4 : Known W7 none 0 0 1 true := ⟨fun m t st r W h => by
      rw [← aw_5]
      exact stays_any m t st r 1 none 0 0 [] W (Fs.nil W) (by decide) (few_of rfl)⟩
    have hHW := HB.out
    have Hfin := Lib.hid (bon hB3 hHW)
    have c4 := bh.c 4 (v := .int .i64 mi) rfl
    obtain ⟨r0, r1, r2, r3, r4, r5⟩ := b1.six
    obtain ⟨s0, s1, s2, s3, s4, s5⟩ := b2.six
    obtain ⟨t0, t1, t2, t3, t4, t5⟩ := b3.six
    clear hfx hfy hfz HE hbs FA1 FA2 FA3 HB HZ HF3 z0 z1 z2 b1 b2 b3 hG e5 hA1 hA2 hA3
    have HKn : Hid (∀ (A : Option Addr) (n c : Nat) (mi : Int) (b : Bool) (m t : ByteArray) (st : Int) (r : ByteArray) W, Known W7 A n c mi b → Below W7.heap.size W7 W → Calls Tryd.prog 15 #[.agg #[.string m, .string t, .int .i64 st, .string r, .int .i64 mi, .slice A n c]] W (BoolEnds b W)) := Lib.hid (fun A n c mi b m t st r W hk h => hk.k m t st r W h)
    have hBb : Below W7.heap.size W7 W7 := Below.refl _ _
    have hcase : mi = 0 ∨ mi ≠ 0 := by omega
    rcases hcase with hmi | hmi
    · subst hmi
      have hW : Below W7.heap.size W7 W7.drew := (Below.refl _ _).drew
      first | (go_region_law (first
        | (go_simp; go_at_call 15; refine (HKn.out _ _ _ _ _ _ _ _ _ _ (by first | exact Q1 | exact Q2 | exact Q3 | exact Q4) hW).mono ?_; rintro e wP ⟨rfl, hbP⟩; obtain ⟨hW, c4, r0, r1, r2, r3, r4, r5, s0, s1, s2, s3, s4, s5, t0, t1, t2, t3, t4, t5⟩ := held19 hbP ⟨hW, c4, r0, r1, r2, r3, r4, r5, s0, s1, s2, s3, s4, s5, t0, t1, t2, t3, t4, t5⟩)
        | fail)) | fail
      all_goals
        go_wp2
        go_ret
        exact ⟨by first | rfl | simp, bon Hfin.out hW⟩
    · have hm1 : (mi == 0) = false := beq_eq_false_iff_ne.2 hmi
      clear hmi
      go_region_held3 (fun w' => Below W7.heap.size W7 w' ∧ w'.cell? ⟨g, 4, none⟩ = some (.int .i64 mi) ∧ w'.cell? ⟨g1, 0, none⟩ = some (.string m) ∧ w'.cell? ⟨g1, 1, none⟩ = some (.string t) ∧ w'.cell? ⟨g1, 2, none⟩ = some (.int .i64 st) ∧ w'.cell? ⟨g1, 3, none⟩ = some (.string r) ∧ w'.cell? ⟨g1, 4, none⟩ = some (.int .i64 mi) ∧ w'.cell? ⟨g1, 5, none⟩ = some (.slice A21 (Sn + 1) k21) ∧ w'.cell? ⟨g2, 0, none⟩ = some (.string m) ∧ w'.cell? ⟨g2, 1, none⟩ = some (.string t) ∧ w'.cell? ⟨g2, 2, none⟩ = some (.int .i64 st) ∧ w'.cell? ⟨g2, 3, none⟩ = some (.string r) ∧ w'.cell? ⟨g2, 4, none⟩ = some (.int .i64 mi) ∧ w'.cell? ⟨g2, 5, none⟩ = some (.slice A22 (Sn + 2) k22) ∧ w'.cell? ⟨g3, 0, none⟩ = some (.string m) ∧ w'.cell? ⟨g3, 1, none⟩ = some (.string t) ∧ w'.cell? ⟨g3, 2, none⟩ = some (.int .i64 st) ∧ w'.cell? ⟨g3, 3, none⟩ = some (.string r) ∧ w'.cell? ⟨g3, 4, none⟩ = some (.int .i64 mi) ∧ w'.cell? ⟨g3, 5, none⟩ = some (.slice A23 (Sn + 1) k23))
        (first | assumption | exact held19 hbP (by assumption) | exact ⟨(Below.refl _ _).drew, c4, r0, r1, r2, r3, r4, r5, s0, s1, s2, s3, s4, s5, t0, t1, t2, t3, t4, t5⟩)
        (first
          | (go_at_call 15; refine (HKn.out _ _ _ _ _ _ _ _ _ _ (by first | exact Q1 | exact Q2 | exact Q3 | exact Q4) ?_).mono ?_; (simp only [*]); rintro e wP ⟨rfl, hbP⟩)
          | fail)
      all_goals
        rename_i hHeld
        have hfin := hHeld.1
        clear hHeld
        go_wp2
        go_ret
        exact ⟨by first | rfl | simp, bon Hfin.out hfin⟩

end Go.Proofs.YtginijeajenghaaDoor
