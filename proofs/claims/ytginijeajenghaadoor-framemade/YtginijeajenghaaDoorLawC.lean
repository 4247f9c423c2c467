/-
  The walks of the laws' own Maker: Head, and of Made.
-/
import Derived.Test.YtginijeajenghaaDoorLawB
namespace Go.Proofs.YtginijeajenghaaDoor
open Go.RowKit

theorem Row.base {w : World} {B : Nat} {e : TypeId} {sz : Nat} {S : Sli} {cs : List Value} (h : Row w B e sz S cs) : ∀ ad, S.A = some ad → B ≤ ad.block := by
  intro ad hA
  rcases h.2 with ⟨h1, _⟩ | ⟨g, cap, cur, h1, hb, _⟩
  · simp only [Value.slice.injEq] at h1
    rw [h1.1] at hA
    cases hA
  · simp only [Value.slice.injEq] at h1
    rw [h1.1] at hA
    obtain rfl := Option.some.inj hA
    exact hb

def lsM : List ByteArray := [⟨#[71, 69, 84]⟩, ⟨#[80, 79, 83, 84]⟩, ⟨#[72, 69, 65, 68]⟩, ⟨#[80, 85, 84]⟩, ⟨#[120, 45, 121]⟩]
def lsT : List ByteArray := [⟨#[47]⟩, ⟨#[47, 97, 47, 98]⟩, ⟨#[47, 97, 63, 120, 61, 49]⟩, ⟨#[42]⟩, ⟨#[47, 37, 52, 49]⟩]
def lsR : List ByteArray := [⟨#[79, 75]⟩, ⟨#[]⟩, ⟨#[78, 111, 116, 32, 70, 111, 117, 110, 100]⟩, ⟨#[97, 9, 98]⟩]
def lsN : List ByteArray := [⟨#[72, 111, 115, 116]⟩, ⟨#[67, 111, 110, 116, 101, 110, 116, 45, 76, 101, 110, 103, 116, 104]⟩, ⟨#[84, 114, 97, 110, 115, 102, 101, 114, 45, 69, 110, 99, 111, 100, 105, 110, 103]⟩, ⟨#[67, 111, 110, 110, 101, 99, 116, 105, 111, 110]⟩, ⟨#[67, 111, 111, 107, 105, 101]⟩, ⟨#[86, 97, 114, 121]⟩, ⟨#[65]⟩, ⟨#[97, 99, 99, 101, 112, 116]⟩, ⟨#[82, 97, 110, 103, 101]⟩, ⟨#[67, 97, 99, 104, 101, 45, 67, 111, 110, 116, 114, 111, 108]⟩, ⟨#[65, 117, 116, 104, 111, 114, 105, 122, 97, 116, 105, 111, 110]⟩, ⟨#[88, 45, 70, 111, 114, 119, 97, 114, 100, 101, 100, 45, 70, 111, 114]⟩, ⟨#[75, 101, 101, 112, 45, 65, 108, 105, 118, 101]⟩]
def lsV : List ByteArray := [⟨#[]⟩, ⟨#[51]⟩, ⟨#[99, 104, 117, 110, 107, 101, 100]⟩, ⟨#[99, 108, 111, 115, 101]⟩, ⟨#[107, 101, 101, 112, 45, 97, 108, 105, 118, 101, 44, 32, 65]⟩, ⟨#[97, 44, 32, 98]⟩, ⟨#[110, 111, 45, 115, 116, 111, 114, 101]⟩, ⟨#[48]⟩, ⟨#[120]⟩, ⟨#[65, 99, 99, 101, 112, 116]⟩, ⟨#[97, 99, 99, 101, 112, 116, 44, 32, 65]⟩]
def lsS : List Int := [200, 404, 304, 204, 100, 599, 503]
theorem lsM_ok : ∀ x ∈ lsM, nameB (dl x) = true ∧ x.size ≤ 40 := by decide +kernel
theorem lsT_ok : ∀ x ∈ lsT, targetB (dl x) = true ∧ x.size ≤ 40 := by decide +kernel
theorem lsR_ok : ∀ x ∈ lsR, reasonB (dl x) = true ∧ x.size ≤ 40 := by decide +kernel
theorem lsN_ok : ∀ x ∈ lsN, nameB (dl x) = true ∧ x.size ≤ 40 := by decide +kernel
theorem lsV_ok : ∀ x ∈ lsV, valueB (dl x) = true ∧ x.size ≤ 40 := by decide +kernel
theorem lsS_ok : ∀ x ∈ lsS, statB x = true := by decide +kernel
theorem lit_cell {W : World} {g : Nat} {xs : List ByteArray} (h : Box W g 9 (svs xs).toArray) {p : Nat} (hp : p < xs.length) : ∃ x, x ∈ xs ∧ W.cell? ⟨g, p, none⟩ = some (.string x) :=
  ⟨xs[p], List.getElem_mem hp, h.c p (by simp [svs, hp])⟩
theorem lit_int {W : World} {g : Nat} {xs : List Int} (h : Box W g 3 (xs.map (Value.int .i64)).toArray) {p : Nat} (hp : p < xs.length) : ∃ x, x ∈ xs ∧ W.cell? ⟨g, p, none⟩ = some (.int .i64 x) :=
  ⟨xs[p], List.getElem_mem hp, h.c p (by simp [hp])⟩

/-- while a head is made -/
structure MS (w W : World) (gm gr gh : Nat) (A : Option Addr) (L c B : Nat) (m t : ByteArray) (st : Int) (r : ByteArray) (mi : Int) (O : Sli) (fs : List Fd) : Prop where
  low : Below gm w W
  mkr : ∃ ix : Int, 0 ≤ ix ∧ ix ≤ (B : Int) ∧ Box W gm 49 #[.slice A L c, .int .i64 ix]
  rb : Box W gr 25 #[.string ⟨#[]⟩, .string ⟨#[]⟩, .int .i64 0, .string ⟨#[]⟩, .int .i64 0, .slice none 0 0]
  hb : Box W gh 25 #[.string m, .string t, .int .i64 st, .string r, .int .i64 mi, .slice O.A O.n O.c]
  row : Row W (gh + 1) 32 2 O (fvs fs)
  o1 : gm < gr
  o2 : gr < gh
  o3 : w.heap.size ≤ gr
section
variable {w W w' : World} {gm gr gh : Nat} {A : Option Addr} {L c B : Nat} {m t : ByteArray} {st : Int} {r : ByteArray} {mi : Int} {O : Sli} {fs : List Fd}
theorem below_gm {w W w' : World} {gm : Nat} (h : Below gm w W) (hb : Below W.heap.size W w') (hg : gm ≤ W.heap.size) : Below gm w w' := h.trans (hb.mono hg)
theorem MS.le (h : MS w W gm gr gh A L c B m t st r mi O fs) : gh + 1 ≤ W.heap.size := h.hb.lt
theorem MS.up (h : MS w W gm gr gh A L c B m t st r mi O fs) (hb : Below W.heap.size W w') : MS w w' gm gr gh A L c B m t st r mi O fs := by
  obtain ⟨ix, h0, h1, h2⟩ := h.mkr
  exact ⟨below_gm h.low hb (Nat.le_of_lt h2.lt), ⟨ix, h0, h1, h2.up hb⟩, h.rb.up hb, h.hb.up hb, h.row.up hb, h.o1, h.o2, h.o3⟩
theorem MS.mono {B' : Nat} (h : MS w W gm gr gh A L c B m t st r mi O fs) (hB : B ≤ B') : MS w W gm gr gh A L c B' m t st r mi O fs := by
  obtain ⟨ix, h0, h1, h2⟩ := h.mkr
  exact ⟨h.low, ⟨ix, h0, by omega, h2⟩, h.rb, h.hb, h.row, h.o1, h.o2, h.o3⟩
/-- a store into a block that is no row of fields -/
theorem row_far {W : World} {Bs : Nat} {O : Sli} {fs : List Fd} (h : Row W Bs 32 2 O (fvs fs)) {p : Addr} (hp : p.block < Bs) (v : Value) : Row (W.setCell p v) Bs 32 2 O (fvs fs) := by
  refine ⟨h.1, ?_⟩
  rcases h.2 with hn | ⟨g, cap, cur, e1, hb, hgc, q⟩
  · exact .inl hn
  · exact .inr ⟨g, cap, cur, e1, hb, (Below.heap_setCell W p v g (by omega)).trans hgc, q⟩
theorem MS.setH (h : MS w W gm gr gh A L c B m t st r mi O fs) (i : Nat) (v : Value) {m' t' : ByteArray} {st' : Int} {r' : ByteArray} (he : (#[Value.string m, .string t, .int .i64 st, .string r, .int .i64 mi, .slice O.A O.n O.c]).setIfInBounds i v = #[.string m', .string t', .int .i64 st', .string r', .int .i64 mi, .slice O.A O.n O.c]) :
    MS w (W.setCell ⟨gh, i, none⟩ v) gm gr gh A L c B m' t' st' r' mi O fs := by
  obtain ⟨ix, h0, h1, h2⟩ := h.mkr
  have o1 := h.o1
  have o2 := h.o2
  refine ⟨h.low.setCell (p := ⟨gh, i, none⟩) (by simp only; omega) _, ⟨ix, h0, h1, h2.far (p := ⟨gh, i, none⟩) (by simp only; omega) _⟩, h.rb.far (p := ⟨gh, i, none⟩) (by simp only; omega) _, ?_, row_far h.row (p := ⟨gh, i, none⟩) (by simp only; omega) _, o1, o2, h.o3⟩
  have := h.hb.set i v
  rw [he] at this
  exact this
theorem MS.app (h : MS w W gm gr gh A L c B m t st r mi O fs) {A' : Option Addr} {n c' : Nat} {fs' : List Fd} (h1 : w'.ownsRow (gh + 1) 32 2 (.slice A' n c') n (fvs fs')) (h2 : W.grownBy w' (Value.slice O.A O.n O.c).ownBlock) :
    MS w (w'.setCell ⟨gh, 5, none⟩ (.slice A' n c')) gm gr gh A L c B m t st r mi ⟨A', n, c'⟩ fs' ∧ w'.cell? ⟨gh, 5, none⟩ = some (.slice O.A O.n O.c) ∧ w'.frozen? ⟨gh, 5, none⟩ = false := by
  have hne : ∀ k, (Value.slice O.A O.n O.c).ownBlock = some k → gh + 1 ≤ k := by
    intro k hk
    rcases h.row.2 with ⟨e1, _⟩ | ⟨g, cap, cur, e1, hb, _⟩
    · rw [e1] at hk
      cases hk
    · rw [e1] at hk
      have : g = k := Option.some.inj hk
      omega
  have hst : ∀ j ty cs, j ≤ gh → Box W j ty cs → Box w' j ty cs := by
    intro j ty cs hj hbx
    have := h2.block j hbx.lt (fun e => by have := hne j e.symm; omega)
    unfold Box
    rw [this]
    exact hbx
  obtain ⟨ix, i0, i1, i2⟩ := h.mkr
  have o1 := h.o1
  have o2 := h.o2
  have hbx := hst gh _ _ (Nat.le_refl _) h.hb
  have hlow : Below gm w w' := grown_base h.row h2 h.low (by omega) (Nat.le_of_lt i2.lt)
  refine ⟨⟨hlow.setCell (p := ⟨gh, 5, none⟩) (by simp only; omega) _, ⟨ix, i0, i1, (hst gm _ _ (by omega) i2).far (p := ⟨gh, 5, none⟩) (by simp only; omega) _⟩, (hst gr _ _ (by omega) h.rb).far (p := ⟨gh, 5, none⟩) (by simp only; omega) _, hbx.set5 _, row_far (O := ⟨A', n, c'⟩) h1 (p := ⟨gh, 5, none⟩) (by simp only; omega) _, o1, o2, h.o3⟩, hbx.c 5 rfl, hbx.f 5⟩
/-- a pick, while a head is made -/
def PMS (w : World) (gm gr gh : Nat) (A : Option Addr) (L c B : Nat) (m t : ByteArray) (st : Int) (r : ByteArray) (mi : Int) (O : Sli) (fs : List Fd) (n : Nat) (W : World) (e : Ending) (w' : World) : Prop :=
  ∃ p : Nat, p < n ∧ e = .returned (.int .i64 (p : Int)) ∧ MS w w' gm gr gh A L c (B + 1) m t st r mi O fs ∧ ∀ g ty cs, Box W g ty cs → g ≠ gm → Box w' g ty cs
theorem pick_ms {ys : List UInt8} (h : MS w W gm gr gh A L c B m t st r mi O fs) (hU : Us w gm A ys) (hl : ys.length = L) (hm : L ≤ maxLen) (hB : B ≤ 1000) (n : Nat) (hn : 1 ≤ n) (hn2 : n ≤ 100) :
    Calls Tryd.prog 27 #[.pointer (some ⟨gm, 0, none⟩), .int .i64 (n : Int)] W (PMS w gm gr gh A L c B m t st r mi O fs n W) := by
  obtain ⟨ix, h0, h1, h2⟩ := h.mkr
  refine (pick_any gm n ix A L c ys W h2 h0 (by omega) hl hm (hU.low h.low) hn hn2).mono ?_
  rintro e w' ⟨p, hp, rfl, hb⟩
  have o1 := h.o1
  have o2 := h.o2
  have hX : MS w (W.setCell ⟨gm, 1, none⟩ (.int .i64 (ix + 1))) gm gr gh A L c (B + 1) m t st r mi O fs := by
    refine ⟨h.low.setCell (p := ⟨gm, 1, none⟩) (Nat.le_refl _) _, ⟨ix + 1, by omega, by omega, ?_⟩, h.rb.far (p := ⟨gm, 1, none⟩) (by simp only; omega) _, h.hb.far (p := ⟨gm, 1, none⟩) (by simp only; omega) _, row_far h.row (p := ⟨gm, 1, none⟩) (by simp only; omega) _, o1, o2, h.o3⟩
    have := h2.set 1 (.int .i64 (ix + 1))
    simpa using this
  exact ⟨p, hp, rfl, hX.up hb, fun g ty cs hbx hg => (hbx.far (p := ⟨gm, 1, none⟩) hg _).up hb⟩
end

/-- heads as the Maker makes them -/
def GoodH (a : Bool) (m t : ByteArray) (st : Int) (r : ByteArray) (mi : Int) (fs : List Fd) : Prop :=
  rightB (hdOf m t st r mi fs) a = true ∧ m.size ≤ 40 ∧ t.size ≤ 40 ∧ r.size ≤ 40 ∧ fs.length ≤ 6 ∧ ∀ f ∈ fs, f.1.size ≤ 40 ∧ f.2.size ≤ 40
/-- the first part of such a head -/
def GoodF (a : Bool) (m t : ByteArray) (st : Int) (r : ByteArray) : Prop := kindB ⟨dl m, dl t, st, dl r, 0, []⟩ a = true ∧ m.size ≤ 40 ∧ t.size ≤ 40 ∧ r.size ≤ 40
def GoodL (fs : List Fd) : Prop := ∀ f ∈ fs, nameB (dl f.1) = true ∧ valueB (dl f.2) = true ∧ f.1.size ≤ 40 ∧ f.2.size ≤ 40
theorem goodH_of {a : Bool} {m t : ByteArray} {st : Int} {r : ByteArray} {p : Nat} {fs : List Fd} (h : GoodF a m t st r) (hp : p < 2) (hl : fs.length ≤ 6) (hf : GoodL fs) : GoodH a m t st r (1 - (p : Int)) fs := by
  refine ⟨?_, h.2.1, h.2.2.1, h.2.2.2, hl, fun f hm => (hf f hm).2.2⟩
  unfold rightB fieldsB
  simp only [Bool.and_eq_true, Bool.or_eq_true, decide_eq_true_eq, List.all_eq_true]
  refine ⟨⟨?_, ?_, ?_⟩, h.1⟩
  · show (1 - (p : Int) = 0) ∨ (1 - (p : Int) = 1)
    omega
  · show (dls fs).length ≤ 20
    rw [List.length_map]
    omega
  · intro f hfm
    obtain ⟨g, hg, rfl⟩ := List.mem_map.1 hfm
    have := hf g hg
    unfold fieldB
    simp only [this.1, this.2.1]
    rfl
theorem goodF_req {m t : ByteArray} (hm : m ∈ lsM) (ht : t ∈ lsT) : GoodF false m t 0 ⟨#[]⟩ := by
  refine ⟨?_, (lsM_ok m hm).2, (lsT_ok t ht).2, by decide⟩
  unfold kindB
  rw [if_neg (by decide)]
  simp only [(lsM_ok m hm).1, (lsT_ok t ht).1]
  rfl
theorem goodF_ans {st : Int} {r : ByteArray} (hs : st ∈ lsS) (hr : r ∈ lsR) : GoodF true ⟨#[]⟩ ⟨#[]⟩ st r := by
  refine ⟨?_, by decide, by decide, (lsR_ok r hr).2⟩
  unfold kindB
  rw [if_pos rfl]
  simp only [(lsS_ok st hs), (lsR_ok r hr).1]
  rfl
/-- a head that was made is handed back -/
def HEnds (a : Bool) (gm : Nat) (w : World) (e : Ending) (w' : World) : Prop :=
  ∃ (m t : ByteArray) (st : Int) (r : ByteArray) (mi : Int) (S : Sli) (fs : List Fd), e = .returned (.agg #[.string m, .string t, .int .i64 st, .string r, .int .i64 mi, .slice S.A S.n S.c]) ∧ GoodH a m t st r mi fs ∧ Fs w' S fs ∧ (∀ ad, S.A = some ad → gm < ad.block) ∧ Below gm w w'

end Go.Proofs.YtginijeajenghaaDoor
