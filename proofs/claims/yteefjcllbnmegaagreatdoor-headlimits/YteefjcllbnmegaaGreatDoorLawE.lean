/-
  The walks of the laws' own Made and Pieces.
-/
import Derived.Test.YteefjcllbnmegaaGreatDoorLawD
namespace Go.Proofs.YteefjcllbnmegaaGreatDoor
open Go.RowKit

/-- a head that was made is handed back -/
def MadeEnds (a : Bool) (w : World) (e : Ending) (w' : World) : Prop :=
  ∃ (m t : ByteArray) (st : Int) (r : ByteArray) (mi : Int) (S : Sli) (fs : List Fd), e = .returned (.agg #[.string m, .string t, .int .i64 st, .string r, .int .i64 mi, .slice S.A S.n S.c]) ∧ GoodH a m t st r mi fs ∧ Fs w' S fs ∧ Below w.heap.size w w'

set_option maxRecDepth 100000 in
set_option maxHeartbeats 2000000 in
theorem made_any (A : Option Addr) (L c : Nat) (ys : List UInt8) (a : Bool) (w : World) (hl : ys.length = L) (hm : L ≤ maxLen) (hU : Us w w.heap.size A ys) : Calls Tryz.prog 9 #[.slice A L c, .bool a] w (MadeEnds a w) := by
  have hb0 := ba2 w (.cells #[.string ⟨#[]⟩, .string ⟨#[]⟩, .int .i64 0, .string ⟨#[]⟩, .int .i64 0, .slice none 0 0] 30) (.cells #[.slice A L c, .int .i64 0] 48)
  have bm := Box.new (w.alloc (.cells #[.string ⟨#[]⟩, .string ⟨#[]⟩, .int .i64 0, .string ⟨#[]⟩, .int .i64 0, .slice none 0 0] 30)) 48 #[.slice A L c, .int .i64 0]
  have hsz : (w.alloc (.cells #[.string ⟨#[]⟩, .string ⟨#[]⟩, .int .i64 0, .string ⟨#[]⟩, .int .i64 0, .slice none 0 0] 30)).heap.size = w.heap.size + 1 := by simp
  rw [hsz] at bm
  have HC := Lib.hid (mhead_any (w.heap.size + 1) A L c ys a _ bm hl hm ((hU.low hb0).mono (Nat.le_succ _)))
  have bz := (Box.new w 30 #[.string ⟨#[]⟩, .string ⟨#[]⟩, .int .i64 0, .string ⟨#[]⟩, .int .i64 0, .slice none 0 0]).alloc (.cells #[.slice A L c, .int .i64 0] 48)
  clear bm hsz
  go_enter Tryz.func9, Tryz.ntmps9
  go_wp2_with fail
  refine HC.out.mono ?_
  rintro e w2 ⟨m, t, st, r, mi, S, fs, rfl, hG, hF, hfr, hb2⟩
  have bg := bz.below hb2 (Nat.lt_succ_self _)
  have hbw : Below w.heap.size w w2 := hb0.trans (hb2.mono (Nat.le_succ _))
  have HF6 := Lib.hid (fun u0 u1 u2 u3 u4 u5 => Fs.set6 hF (g := w.heap.size) (fun ad h => by have := hfr ad h; omega) u0 u1 u2 u3 u4 u5)
  have HGd := Lib.hid hG
  clear hG hF hfr hb2 bz hb0 HC
  obtain ⟨g, hg⟩ : ∃ g, w.heap.size = g := ⟨_, rfl⟩
  rw [hg] at bg HF6 ⊢
  have HG := Lib.hid hg
  clear hg
  have HQ := Lib.hid (bg.set6 (.string m) (.string t) (.int .i64 st) (.string r) (.int .i64 mi) (.slice S.A S.n S.c)).six
  have HW := Lib.hid (below_set6 hbw (g := g) (by rw [HG.out]; exact Nat.le_refl _) (.string m) (.string t) (.int .i64 st) (.string r) (.int .i64 mi) (.slice S.A S.n S.c))
  obtain ⟨k0, k1, k2, k3, k4, k5⟩ := bg.six
  obtain ⟨f0, f1, f2, f3, f4, f5⟩ := bg.sixf
  go_wp2
  obtain ⟨q0, q1, q2, q3, q4, q5⟩ := HQ.out
  refine bodyPost_ret (v := .agg #[.string m, .string t, .int .i64 st, .string r, .int .i64 mi, .slice S.A S.n S.c]) (by simp [results, Tryz.results9, go_sem, q0, q1, q2, q3, q4, q5]) rfl ?_
  exact ⟨_, _, _, _, _, S, fs, rfl, HGd.out, HF6.out _ _ _ _ _ _, HW.out⟩

def pcs : List ByteArray := [⟨#[71, 69, 84]⟩, ⟨#[80, 79, 83, 84]⟩, ⟨#[32]⟩, ⟨#[47, 97]⟩, ⟨#[47, 98, 63, 99, 61, 49]⟩, ⟨#[72, 84, 84, 80, 47, 49, 46, 49]⟩, ⟨#[72, 84, 84, 80, 47, 49, 46, 48]⟩, ⟨#[72, 84, 84, 80, 47, 50, 46, 48]⟩, ⟨#[72, 84, 84, 80, 47, 49]⟩, ⟨#[50, 48, 48]⟩, ⟨#[57, 57]⟩, ⟨#[54, 48, 48]⟩, ⟨#[79, 75]⟩, ⟨#[13, 10]⟩, ⟨#[72, 111, 115, 116, 58, 32, 120]⟩, ⟨#[65, 58, 98]⟩, ⟨#[65, 32, 58, 32, 98]⟩, ⟨#[58]⟩, ⟨#[13]⟩, ⟨#[10]⟩, ⟨#[9]⟩, ⟨#[67, 111, 110, 116, 101, 110, 116, 45, 76, 101, 110, 103, 116, 104, 58, 32, 51]⟩, ⟨#[32, 99]⟩, ⟨#[]⟩]
theorem pcs_le : ∀ x ∈ pcs, x.size ≤ 17 := by decide +kernel
/-- a text of few pieces is handed back -/
def PcEnds (w : World) (e : Ending) (w' : World) : Prop := ∃ r : ByteArray, e = .returned (.string r) ∧ r.size ≤ 272 ∧ Below w.heap.size w w'

set_option maxRecDepth 100000 in
set_option maxHeartbeats 2000000 in
theorem pieces_any (A : Option Addr) (len cap : Nat) (ys : List UInt8) (w : World) (hl : ys.length = len) (hm : len ≤ maxLen) (hU : Us w w.heap.size A ys) : Calls Tryz.prog 8 #[.slice A len cap] w (PcEnds w) := by
  unfold maxLen at hm
  have HL := Lib.hid hl
  have HU := Lib.hid hU
  have HS : Hid (Box (w.alloc (.cells #[.string ⟨#[71, 69, 84]⟩, .string ⟨#[80, 79, 83, 84]⟩, .string ⟨#[32]⟩, .string ⟨#[47, 97]⟩, .string ⟨#[47, 98, 63, 99, 61, 49]⟩, .string ⟨#[72, 84, 84, 80, 47, 49, 46, 49]⟩, .string ⟨#[72, 84, 84, 80, 47, 49, 46, 48]⟩, .string ⟨#[72, 84, 84, 80, 47, 50, 46, 48]⟩, .string ⟨#[72, 84, 84, 80, 47, 49]⟩, .string ⟨#[50, 48, 48]⟩, .string ⟨#[57, 57]⟩, .string ⟨#[54, 48, 48]⟩, .string ⟨#[79, 75]⟩, .string ⟨#[13, 10]⟩, .string ⟨#[72, 111, 115, 116, 58, 32, 120]⟩, .string ⟨#[65, 58, 98]⟩, .string ⟨#[65, 32, 58, 32, 98]⟩, .string ⟨#[58]⟩, .string ⟨#[13]⟩, .string ⟨#[10]⟩, .string ⟨#[9]⟩, .string ⟨#[67, 111, 110, 116, 101, 110, 116, 45, 76, 101, 110, 103, 116, 104, 58, 32, 51]⟩, .string ⟨#[32, 99]⟩, .string ⟨#[]⟩] 9)) w.heap.size 9 (svs pcs).toArray) := Lib.hid (Box.new w 9 #[.string ⟨#[71, 69, 84]⟩, .string ⟨#[80, 79, 83, 84]⟩, .string ⟨#[32]⟩, .string ⟨#[47, 97]⟩, .string ⟨#[47, 98, 63, 99, 61, 49]⟩, .string ⟨#[72, 84, 84, 80, 47, 49, 46, 49]⟩, .string ⟨#[72, 84, 84, 80, 47, 49, 46, 48]⟩, .string ⟨#[72, 84, 84, 80, 47, 50, 46, 48]⟩, .string ⟨#[72, 84, 84, 80, 47, 49]⟩, .string ⟨#[50, 48, 48]⟩, .string ⟨#[57, 57]⟩, .string ⟨#[54, 48, 48]⟩, .string ⟨#[79, 75]⟩, .string ⟨#[13, 10]⟩, .string ⟨#[72, 111, 115, 116, 58, 32, 120]⟩, .string ⟨#[65, 58, 98]⟩, .string ⟨#[65, 32, 58, 32, 98]⟩, .string ⟨#[58]⟩, .string ⟨#[13]⟩, .string ⟨#[10]⟩, .string ⟨#[9]⟩, .string ⟨#[67, 111, 110, 116, 101, 110, 116, 45, 76, 101, 110, 103, 116, 104, 58, 32, 51]⟩, .string ⟨#[32, 99]⟩, .string ⟨#[]⟩])
  clear hl hU
  go_enter Tryz.func8, Tryz.ntmps8
  go_wp2_with fail
  have hb0 := ba1 w (.cells #[.string ⟨#[71, 69, 84]⟩, .string ⟨#[80, 79, 83, 84]⟩, .string ⟨#[32]⟩, .string ⟨#[47, 97]⟩, .string ⟨#[47, 98, 63, 99, 61, 49]⟩, .string ⟨#[72, 84, 84, 80, 47, 49, 46, 49]⟩, .string ⟨#[72, 84, 84, 80, 47, 49, 46, 48]⟩, .string ⟨#[72, 84, 84, 80, 47, 50, 46, 48]⟩, .string ⟨#[72, 84, 84, 80, 47, 49]⟩, .string ⟨#[50, 48, 48]⟩, .string ⟨#[57, 57]⟩, .string ⟨#[54, 48, 48]⟩, .string ⟨#[79, 75]⟩, .string ⟨#[13, 10]⟩, .string ⟨#[72, 111, 115, 116, 58, 32, 120]⟩, .string ⟨#[65, 58, 98]⟩, .string ⟨#[65, 32, 58, 32, 98]⟩, .string ⟨#[58]⟩, .string ⟨#[13]⟩, .string ⟨#[10]⟩, .string ⟨#[9]⟩, .string ⟨#[67, 111, 110, 116, 101, 110, 116, 45, 76, 101, 110, 103, 116, 104, 58, 32, 51]⟩, .string ⟨#[32, 99]⟩, .string ⟨#[]⟩] 9)
  obtain ⟨g, hg⟩ : ∃ g, w.heap.size = g := ⟨_, rfl⟩
  rw [hg] at HS ⊢
  clear hg
  generalize w.alloc (.cells #[.string ⟨#[71, 69, 84]⟩, .string ⟨#[80, 79, 83, 84]⟩, .string ⟨#[32]⟩, .string ⟨#[47, 97]⟩, .string ⟨#[47, 98, 63, 99, 61, 49]⟩, .string ⟨#[72, 84, 84, 80, 47, 49, 46, 49]⟩, .string ⟨#[72, 84, 84, 80, 47, 49, 46, 48]⟩, .string ⟨#[72, 84, 84, 80, 47, 50, 46, 48]⟩, .string ⟨#[72, 84, 84, 80, 47, 49]⟩, .string ⟨#[50, 48, 48]⟩, .string ⟨#[57, 57]⟩, .string ⟨#[54, 48, 48]⟩, .string ⟨#[79, 75]⟩, .string ⟨#[13, 10]⟩, .string ⟨#[72, 111, 115, 116, 58, 32, 120]⟩, .string ⟨#[65, 58, 98]⟩, .string ⟨#[65, 32, 58, 32, 98]⟩, .string ⟨#[58]⟩, .string ⟨#[13]⟩, .string ⟨#[10]⟩, .string ⟨#[9]⟩, .string ⟨#[67, 111, 110, 116, 101, 110, 116, 45, 76, 101, 110, 103, 116, 104, 58, 32, 51]⟩, .string ⟨#[32, 99]⟩, .string ⟨#[]⟩] 9) = W at *
  go_loopw [5, 4] (fun i v wr => ∃ (k : Nat) (t : ByteArray), k ≤ len ∧ k ≤ 16 ∧ i = .int .i64 (k : Int) ∧ v = .string t ∧ t.size ≤ 17 * k ∧ W = wr) (fun i _ _ => 16 - (intOf i).toNat)
  case atStart => exact ⟨0, ⟨#[]⟩, Nat.zero_le _, Nat.zero_le _, rfl, rfl, Nat.le_refl _, rfl⟩
  case round =>
    obtain ⟨k, t, hk, hk16, rfl, rfl, ht, rfl⟩ := hrel
    by_cases hlt : k < len ∧ k < 16
    · obtain ⟨h1, h2⟩ := hlt
      obtain ⟨b, o, hA, hb, hc⟩ := (HU.out.low hb0) (by rw [HL.out]; omega)
      have c1 := hc k (by rw [HL.out]; omega)
      clear hc
      obtain ⟨y, hy⟩ : ∃ y, ys[k]?.getD 0 = y := ⟨_, rfl⟩
      rw [hy] at c1
      have hyb := y.toNat_lt
      clear hy
      obtain ⟨n, hn⟩ : ∃ n, y.toNat = n := ⟨_, rfl⟩
      rw [hn] at c1 hyb
      clear hn
      subst hA
      obtain ⟨r, hr⟩ : ∃ r, n % 24 = r := ⟨_, rfl⟩
      have hr24 : r < 24 := by omega
      have t1 : IntKind.i64.wrap (n : Int) = (n : Int) := IntWalk.i64_in _ (by omega)
      have t2 : (n : Int).tmod 24 = (r : Int) := by rw [Int.tmod_eq_emod_of_nonneg (by omega), ← hr]; simp
      have t3 : (n : Int) % 24 = (r : Int) := by rw [← hr]; simp
      have t4 : IntKind.i64.wrap (r : Int) = (r : Int) := IntWalk.i64_in _ (by omega)
      clear hr
      obtain ⟨x, hx, c2⟩ := lit_cell (xs := pcs) HS.out (p := r) hr24
      have hxs := pcs_le x hx
      clear hx
      have hsz : (t ++ x).size = t.size + x.size := ByteArray.size_append
      go_wp2
      go_roundw
      case rel => exact ⟨k + 1, t ++ x, by omega, by omega, by go_num, rfl, by omega, trivial⟩
      case measure => simp [intOf]; omega
    · have hcase : ¬ k < len ∨ (k < len ∧ ¬ k < 16) := by omega
      clear hlt
      rcases hcase with h1 | ⟨h1, h2⟩
      all_goals
        go_wp2
        go_ret
        exact ⟨t, rfl, by omega, hb0⟩

/-- the text of a head that was made is not long -/
theorem good_len {a : Bool} {m t : ByteArray} {st : Int} {r : ByteArray} {mi : Int} {fs : List Fd} (h : GoodH a m t st r mi fs) : (textH (hdOf m t st r mi fs) a).length ≤ 2004 := by
  obtain ⟨h1, h2, h3, h4, h5, h6⟩ := h
  obtain ⟨hmi, hst⟩ := right_bounds h1
  have v1 := verT_len hmi
  have v2 := text_small hst (x := ⟨(textN st 10).toArray⟩) (dl_mk _)
  rw [← dl_len, dl_mk] at v2
  have v3 : (fT fs).length ≤ fs.length * 84 := by
    clear h1 h5
    induction fs with
    | nil => simp [fT, dls]
    | cons f q ih =>
      have a1 := h6 f (by simp)
      have a2 := ih (fun g hg => h6 g (by simp [hg]))
      have e : fT (f :: q) = fieldT (dl f.1, dl f.2) ++ fT q := by simp [fT, dls]
      have e2 : (fieldT (dl f.1, dl f.2)).length = f.1.size + 2 + f.2.size + 2 := by
        simp only [fieldT, crlf, List.length_append, List.length_cons, List.length_nil]
        rw [dl_len, dl_len]
      rw [e, List.length_append]
      simp only [List.length_cons]
      omega
  rw [text_parts]
  have e1 : (hdOf m t st r mi []).m.length = m.size := dl_len m
  have e2 : (hdOf m t st r mi []).t.length = t.size := dl_len t
  have e3 : (hdOf m t st r mi []).r.length = r.size := dl_len r
  have e4 : (hdOf m t st r mi []).mi = mi := rfl
  have e5 : (hdOf m t st r mi []).st = st := rfl
  unfold firstT
  rw [e4, e5]
  split
  · simp only [List.length_append, List.length_cons, List.length_nil, e3, crlf]
    omega
  · simp only [List.length_append, List.length_cons, List.length_nil, e1, e2, crlf]
    omega
theorem good_few {a : Bool} {m t : ByteArray} {st : Int} {r : ByteArray} {mi : Int} {fs : List Fd} (h : GoodH a m t st r mi fs) : m.size ≤ 4096 ∧ t.size ≤ 4096 ∧ r.size ≤ 4096 ∧ fs.length ≤ 4096 ∧ Few fs :=
  ⟨by have := h.2.1; omega, by have := h.2.2.1; omega, by have := h.2.2.2.1; omega, by have := h.2.2.2.2.1; omega, fun f hf => by have := h.2.2.2.2.2 f hf; omega⟩

end Go.Proofs.YteefjcllbnmegaaGreatDoor
