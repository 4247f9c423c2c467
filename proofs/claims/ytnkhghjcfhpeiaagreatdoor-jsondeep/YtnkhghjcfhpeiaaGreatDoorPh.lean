/-
  The closure of the program's list, walked over what value does.
-/
import Derived.Test.YtnkhghjcfhpeiaaGreatDoorJPe
import Derived.Deep.RegionLaw
import Derived.Deep.DeepCutAuto
namespace Go.Proofs.YtnkhghjcfhpeiaaGreatDoor
open Go.RowKit
/-- a value is handed back, or the reading ends -/
def VEnds (g h : Nat) (s : Bs) (o : Nat) (w : World) (res : Res) (E : Ending) (w' : World) : Prop := match res with
  | .error (e, r) => Thr g s e r w E w'
  | .ok (v, m, l) => ∃ K S : Sli, E = .returned (jx v K S) ∧ JV w' (fun b => w.heap.size ≤ b) v (jx v K S) ∧ But g w w' ∧ RS w' g h s l m o
theorem vends_cases {g h : Nat} {s : Bs} {o : Nat} {w : World} {res : Res} {E : Ending} {w' : World} (h1 : VEnds g h s o w res E w') : (∃ e r, res = .error (e, r) ∧ E = .panicked [{ v := .iface 48 (.agg #[.int .i64 e, .int .i64 ((s.length : Int) - (r.length : Int))]), recovered := false }] ∧ But g w w') ∨ (∃ v m l K S, res = .ok (v, m, l) ∧ E = .returned (jx v K S) ∧ JV w' (fun b => w.heap.size ≤ b) v (jx v K S) ∧ But g w w' ∧ RS w' g h s l m o) := by
  unfold VEnds at h1
  split at h1
  · exact .inl ⟨_, _, rfl, h1.1, h1.2⟩
  · obtain ⟨K, S, a, b, c, d⟩ := h1
    exact .inr ⟨_, _, _, K, S, rfl, a, b, c, d⟩
/-- what is told of value, for texts of so many bytes -/
def VAll (g h : Nat) (s : Bs) (N : Nat) : Prop := ∀ (o m : Nat) (l : Bs) (w : World), l.length ≤ N → o ≤ 16 → m ≤ 500 → RS w g h s l m o → Calls Tryz.prog 44 #[.pointer (some ⟨g, 0, none⟩)] w (VEnds g h s o w (runU (.val o) m l))
abbrev zlit : Array Value := #[.int .i64 0, .string ⟨#[]⟩, .slice none 0 0, .slice none 0 0]
section
variable {w W W' : World} {g h gb gr gv : Nat} {kd : Int} {K S : Sli} {ks : List Bs} {vs : List Jv} {cs : List Value}
theorem arr3 (a b c d v : Value) : (#[a, b, c, d] : Array Value).setIfInBounds 3 v = #[a, b, c, v] := by simp
/-- the row of values is another one, of one value more -/
theorem ML.more (h1 : ML w W g h gb gr gv kd K ks S vs cs) {v : Jv} {x y z u : Value} (hv : JV W (PB gv K S) v (.agg #[x, y, z, u])) {A' : Option Addr} {n c' : Nat} {Wf : World}
    (hos : Wf.os = W.os) (htp : Wf.tape = W.tape) (hout : Wf.output = W.output) (hsz : W.heap.size ≤ Wf.heap.size)
    (hbl : ∀ b, b < W.heap.size → b ≠ gv → some b ≠ (Value.slice S.A S.n S.c).ownBlock → Wf.heap[b]? = W.heap[b]?)
    (hgv : Box Wf gv 25 #[.int .i64 kd, .string ⟨#[]⟩, .slice K.A K.n K.c, .slice A' n c'])
    (hrow : Row Wf (gv + 1) 25 4 ⟨A', n, c'⟩ (cs ++ [x, y, z, u]))
    (q3 : (Value.slice A' n c').ownBlock = (Value.slice S.A S.n S.c).ownBlock ∨ (Value.slice A' n c').ownBlock = some W.heap.size) :
    ML w Wf g h gb gr gv kd K ks ⟨A', n, c'⟩ (vs ++ [v]) (cs ++ [x, y, z, u]) := by
  have o1 := h1.lo
  have o2 := h1.rv
  have o3 := h1.mr
  have o4 := h1.br
  have hne : ∀ b, b ≤ gv → some b ≠ (Value.slice S.A S.n S.c).ownBlock := fun b hb e => by have := (row_own h1.vrow e).1; omega
  have hgl := h1.bx.lt
  have hbw : ∀ {k : Nat} {t : TypeId} {ps : Array Value}, Box W k t ps → k < gv → Box Wf k t ps := fun hb hk => (hbl _ hb.lt (by omega) (hne _ (by omega))).trans hb
  refine ⟨⟨hos.trans h1.but.os, htp.trans h1.but.tape, hout.trans h1.but.output, Nat.le_trans h1.but.size hsz, fun k hk hkg => ?_⟩, hbw h1.rb (by omega), hbw h1.res (by omega), hgv, ?_, hrow, ?_, h1.lo, h1.br, h1.rv, h1.mr, h1.mh⟩
  · have := h1.but.size
    exact (hbl k (by omega) (by omega) (hne k (by omega))).trans (h1.but.block k hk hkg)
  · refine h1.krow.keep fun b cur hg => ?_
    have hlt := (Array.getElem?_eq_some_iff.1 hg).1
    refine hbl b hlt (fun e => ?_) (fun e => ?_)
    · rw [e] at hg
      have := h1.bx
      unfold Box at this
      rw [this] at hg
      simp at hg
    · rcases h1.vrow.2 with ⟨e1, _⟩ | ⟨b2, cap, cur2, e1, _, hg2, _⟩
      · rw [e1] at e
        cases e
      · rw [e1] at e
        have : b = b2 := Option.some.inj e
        subst this
        rw [hg] at hg2
        simp at hg2
  · refine JL.to ⟨fun b hp hl o => cell_heap (hbl b hl (by have := hp.1; omega) hp.2.2) o, hsz, fun b hp hl => ⟨hp.1, hp.2.1, ?_⟩⟩ _ _ (h1.jl.app hv)
    intro e
    rcases q3 with q3 | q3
    · exact hp.2.2 (e.trans q3)
    · have := Option.some.inj (e.trans q3)
      omega
theorem sz5 (W : World) (a b c d e : Addr) (x y z u v : Value) : (((((W.setCell a x).setCell b y).setCell c z).setCell d u).setCell e v).heap.size = W.heap.size := by simp only [World.setCell, Array.size_modify]
theorem os1 (W : World) (a : Addr) (x : Value) : (W.setCell a x).os = W.os := rfl
theorem tp1 (W : World) (a : Addr) (x : Value) : (W.setCell a x).tape = W.tape := rfl
theorem ou1 (W : World) (a : Addr) (x : Value) : (W.setCell a x).output = W.output := rfl
theorem os5 (W : World) (a b c d e : Addr) (x y z u v : Value) : (((((W.setCell a x).setCell b y).setCell c z).setCell d u).setCell e v).os = W.os ∧ (((((W.setCell a x).setCell b y).setCell c z).setCell d u).setCell e v).tape = W.tape ∧ (((((W.setCell a x).setCell b y).setCell c z).setCell d u).setCell e v).output = W.output := by
  refine ⟨?_, ?_, ?_⟩
  · rw [os1, os1, os1, os1, os1]
  · rw [tp1, tp1, tp1, tp1, tp1]
  · rw [ou1, ou1, ou1, ou1, ou1]
set_option maxHeartbeats 2000000 in
/-- a kid was appended: first an empty one, then what was read is stored there, and the row -/
theorem ML.kid (h1 : ML w W g h gb gr gv kd K ks S vs cs) {v : Jv} {x y z u : Value} (hv : JV W (PB gv K S) v (.agg #[x, y, z, u])) {A' : Option Addr} {n c' : Nat} {z0 z1 z2 z3 : Value} (q1 : W'.ownsRow (gv + 1) 25 4 (.slice A' (n + 1) c') (n + 1) (cs ++ [z0, z1, z2, z3])) (q2 : W.grownBy W' (Value.slice S.A S.n S.c).ownBlock) (q3 : (Value.slice A' (n + 1) c').ownBlock = (Value.slice S.A S.n S.c).ownBlock ∨ (Value.slice A' (n + 1) c').ownBlock = some W.heap.size) :
    ∃ ab, A' = some ⟨ab, 0, none⟩ ∧ gv < ab ∧ (W'.cell? ⟨ab, n * 4, none⟩ = some z0 ∧ W'.cell? ⟨ab, n * 4 + 1, none⟩ = some z1 ∧ W'.cell? ⟨ab, n * 4 + 2, none⟩ = some z2 ∧ W'.cell? ⟨ab, n * 4 + 3, none⟩ = some z3) ∧ (∀ i, W'.frozen? ⟨ab, i, none⟩ = false) ∧ W'.cell? ⟨gv, 3, none⟩ = some (.slice S.A S.n S.c) ∧ W'.frozen? ⟨gv, 3, none⟩ = false ∧
    (ML w (((((W'.setCell ⟨ab, n * 4, none⟩ x).setCell ⟨ab, n * 4 + 1, none⟩ y).setCell ⟨ab, n * 4 + 2, none⟩ z).setCell ⟨ab, n * 4 + 3, none⟩ u).setCell ⟨gv, 3, none⟩ (.slice A' (n + 1) c')) g h gb gr gv kd K ks ⟨A', n + 1, c'⟩ (vs ++ [v]) (cs ++ [x, y, z, u]) ∧
    (∀ b, b < w.heap.size → (((((W'.setCell ⟨ab, n * 4, none⟩ x).setCell ⟨ab, n * 4 + 1, none⟩ y).setCell ⟨ab, n * 4 + 2, none⟩ z).setCell ⟨ab, n * 4 + 3, none⟩ u).setCell ⟨gv, 3, none⟩ (.slice A' (n + 1) c')).heap[b]? = W.heap[b]?)) ∧
    (ML w (((((W'.setCell ⟨gv, 3, none⟩ (.slice A' (n + 1) c')).setCell ⟨ab, n * 4, none⟩ x).setCell ⟨ab, n * 4 + 1, none⟩ y).setCell ⟨ab, n * 4 + 2, none⟩ z).setCell ⟨ab, n * 4 + 3, none⟩ u) g h gb gr gv kd K ks ⟨A', n + 1, c'⟩ (vs ++ [v]) (cs ++ [x, y, z, u]) ∧
    (∀ b, b < w.heap.size → (((((W'.setCell ⟨gv, 3, none⟩ (.slice A' (n + 1) c')).setCell ⟨ab, n * 4, none⟩ x).setCell ⟨ab, n * 4 + 1, none⟩ y).setCell ⟨ab, n * 4 + 2, none⟩ z).setCell ⟨ab, n * 4 + 3, none⟩ u).heap[b]? = W.heap[b]?)) := by
  have o1 := h1.lo
  have o2 := h1.rv
  have o3 := h1.mr
  have o4 := h1.br
  have hne : ∀ b, b ≤ gv → some b ≠ (Value.slice S.A S.n S.c).ownBlock := fun b hb e => by have := (row_own h1.vrow e).1; omega
  have hbx := grown_box q2 h1.bx (hne _ (Nat.le_refl _))
  have hgl := h1.bx.lt
  obtain ⟨ab, cur, rfl, hge, hcl, hab, htk, _⟩ := row_set4 q1
  have habo : some ab = (Value.slice S.A S.n S.c).ownBlock ∨ ab = W.heap.size := by
    rcases q3 with q3 | q3
    · exact .inl q3
    · exact .inr (Option.some.inj q3)
  have hcell : ∀ (i : Nat) (zz : Value), ([z0, z1, z2, z3] : List Value)[i]? = some zz → cur[n * 4 + i]? = some zz := by
    intro i zz hi
    have hlt := (List.getElem?_eq_some_iff.1 hi).1
    simp only [List.length_cons, List.length_nil] at hlt
    have h2 : (cs ++ [z0, z1, z2, z3])[n * 4 + i]? = some zz := by
      rw [List.getElem?_append_right (by omega), hcl, Nat.add_sub_cancel_left, hi]
    rw [← htk, List.getElem?_take] at h2
    split at h2
    · rwa [Array.getElem?_toList] at h2
    · cases h2
  have hblk : ∀ b, b < W.heap.size → b ≠ gv → some b ≠ (Value.slice S.A S.n S.c).ownBlock → b ≠ ab := by
    intro b hb _ hbo e
    rcases habo with h2 | h2
    · exact hbo (by rw [e, h2])
    · omega
  -- the two orders
  have hgne : gv ≠ ab := by omega
  have hA : Row (((((W'.setCell ⟨ab, n * 4, none⟩ x).setCell ⟨ab, n * 4 + 1, none⟩ y).setCell ⟨ab, n * 4 + 2, none⟩ z).setCell ⟨ab, n * 4 + 3, none⟩ u).setCell ⟨gv, 3, none⟩ (.slice (some ⟨ab, 0, none⟩) (n + 1) c')) (gv + 1) 25 4 ⟨some ⟨ab, 0, none⟩, n + 1, c'⟩ (cs ++ [x, y, z, u]) := by
    obtain ⟨ab2, cur2, e, _, _, _, _, hset⟩ := row_set4 q1
    cases e
    exact rowf (O := ⟨some ⟨ab, 0, none⟩, n + 1, c'⟩) (hset x y z u) (p := ⟨gv, 3, none⟩) (by simp only; omega) _
  have hB : Row (((((W'.setCell ⟨gv, 3, none⟩ (.slice (some ⟨ab, 0, none⟩) (n + 1) c')).setCell ⟨ab, n * 4, none⟩ x).setCell ⟨ab, n * 4 + 1, none⟩ y).setCell ⟨ab, n * 4 + 2, none⟩ z).setCell ⟨ab, n * 4 + 3, none⟩ u) (gv + 1) 25 4 ⟨some ⟨ab, 0, none⟩, n + 1, c'⟩ (cs ++ [x, y, z, u]) := by
    have q1' : (W'.setCell ⟨gv, 3, none⟩ (.slice (some ⟨ab, 0, none⟩) (n + 1) c')).ownsRow (gv + 1) 25 4 (.slice (some ⟨ab, 0, none⟩) (n + 1) c') (n + 1) (cs ++ [z0, z1, z2, z3]) := rowf (O := ⟨some ⟨ab, 0, none⟩, n + 1, c'⟩) q1 (p := ⟨gv, 3, none⟩) (by simp only; omega) _
    obtain ⟨ab2, cur2, e, _, _, _, _, hset⟩ := row_set4 q1'
    cases e
    exact hset x y z u
  have hsA : ∀ b, b ≠ gv → b ≠ ab → (((((W'.setCell ⟨ab, n * 4, none⟩ x).setCell ⟨ab, n * 4 + 1, none⟩ y).setCell ⟨ab, n * 4 + 2, none⟩ z).setCell ⟨ab, n * 4 + 3, none⟩ u).setCell ⟨gv, 3, none⟩ (.slice (some ⟨ab, 0, none⟩) (n + 1) c')).heap[b]? = W'.heap[b]? := by
    intro b k1 k2
    rw [Below.heap_setCell _ ⟨gv, 3, none⟩ _ b k1, Below.heap_setCell _ ⟨ab, n * 4 + 3, none⟩ _ b k2, Below.heap_setCell _ ⟨ab, n * 4 + 2, none⟩ _ b k2, Below.heap_setCell _ ⟨ab, n * 4 + 1, none⟩ _ b k2, Below.heap_setCell _ ⟨ab, n * 4, none⟩ _ b k2]
  have hsB : ∀ b, b ≠ gv → b ≠ ab → (((((W'.setCell ⟨gv, 3, none⟩ (.slice (some ⟨ab, 0, none⟩) (n + 1) c')).setCell ⟨ab, n * 4, none⟩ x).setCell ⟨ab, n * 4 + 1, none⟩ y).setCell ⟨ab, n * 4 + 2, none⟩ z).setCell ⟨ab, n * 4 + 3, none⟩ u).heap[b]? = W'.heap[b]? := by
    intro b k1 k2
    rw [Below.heap_setCell _ ⟨ab, n * 4 + 3, none⟩ _ b k2, Below.heap_setCell _ ⟨ab, n * 4 + 2, none⟩ _ b k2, Below.heap_setCell _ ⟨ab, n * 4 + 1, none⟩ _ b k2, Below.heap_setCell _ ⟨ab, n * 4, none⟩ _ b k2, Below.heap_setCell _ ⟨gv, 3, none⟩ _ b k1]
  have hbA : Box (((((W'.setCell ⟨ab, n * 4, none⟩ x).setCell ⟨ab, n * 4 + 1, none⟩ y).setCell ⟨ab, n * 4 + 2, none⟩ z).setCell ⟨ab, n * 4 + 3, none⟩ u).setCell ⟨gv, 3, none⟩ (.slice (some ⟨ab, 0, none⟩) (n + 1) c')) gv 25 #[.int .i64 kd, .string ⟨#[]⟩, .slice K.A K.n K.c, .slice (some ⟨ab, 0, none⟩) (n + 1) c'] := by
    have := ((((hbx.far (p := ⟨ab, n * 4, none⟩) hgne x).far (p := ⟨ab, n * 4 + 1, none⟩) hgne y).far (p := ⟨ab, n * 4 + 2, none⟩) hgne z).far (p := ⟨ab, n * 4 + 3, none⟩) hgne u).set 3 (.slice (some ⟨ab, 0, none⟩) (n + 1) c')
    rwa [arr3] at this
  have hbB : Box (((((W'.setCell ⟨gv, 3, none⟩ (.slice (some ⟨ab, 0, none⟩) (n + 1) c')).setCell ⟨ab, n * 4, none⟩ x).setCell ⟨ab, n * 4 + 1, none⟩ y).setCell ⟨ab, n * 4 + 2, none⟩ z).setCell ⟨ab, n * 4 + 3, none⟩ u) gv 25 #[.int .i64 kd, .string ⟨#[]⟩, .slice K.A K.n K.c, .slice (some ⟨ab, 0, none⟩) (n + 1) c'] := by
    have h2 := hbx.set 3 (.slice (some ⟨ab, 0, none⟩) (n + 1) c')
    rw [arr3] at h2
    exact (((h2.far (p := ⟨ab, n * 4, none⟩) hgne x).far (p := ⟨ab, n * 4 + 1, none⟩) hgne y).far (p := ⟨ab, n * 4 + 2, none⟩) hgne z).far (p := ⟨ab, n * 4 + 3, none⟩) hgne u
  refine ⟨ab, rfl, by omega, ⟨hab.c (n * 4) (hcell 0 z0 rfl), hab.c _ (hcell 1 z1 rfl), hab.c _ (hcell 2 z2 rfl), hab.c _ (hcell 3 z3 rfl)⟩, fun i => hab.f i, hbx.c 3 rfl, hbx.f 3, ⟨?_, ?_⟩, ⟨?_, ?_⟩⟩
  · exact h1.more hv ((os5 _ _ _ _ _ _ _ _ _ _ _).1.trans q2.os) ((os5 _ _ _ _ _ _ _ _ _ _ _).2.1.trans q2.tape) ((os5 _ _ _ _ _ _ _ _ _ _ _).2.2.trans q2.output) (by rw [sz5]; exact q2.size) (fun b k1 k2 k3 => (hsA b k2 (hblk b k1 k2 k3)).trans (q2.block b k1 k3)) hbA hA q3
  · intro b hb
    have hb2 : b < W.heap.size := Nat.lt_of_lt_of_le hb h1.but.size
    exact (hsA b (by omega) (by omega)).trans (q2.block b hb2 (hne b (by omega)))
  · exact h1.more hv ((os5 _ _ _ _ _ _ _ _ _ _ _).1.trans q2.os) ((os5 _ _ _ _ _ _ _ _ _ _ _).2.1.trans q2.tape) ((os5 _ _ _ _ _ _ _ _ _ _ _).2.2.trans q2.output) (by rw [sz5]; exact q2.size) (fun b k1 k2 k3 => (hsB b k2 (hblk b k1 k2 k3)).trans (q2.block b k1 k3)) hbB hB q3
  · intro b hb
    have hb2 : b < W.heap.size := Nat.lt_of_lt_of_le hb h1.but.size
    exact (hsB b (by omega) (by omega)).trans (q2.block b hb2 (hne b (by omega)))
end
theorem src_box {W : World} {b : Nat} {e : TypeId} {cs : Array Value} {m sz : Nat} (hb : Box W b e cs) (hl : cs.toList.length = m * sz) : Src W sz (some ⟨b, 0, none⟩) m m cs.toList := by
  refine .inr ⟨_, rfl, hl, fun j u hu => ?_⟩
  rw [Addr.add_lit, Nat.zero_add]
  exact hb.c j (by simpa using hu)
set_option maxRecDepth 100000 in
set_option maxHeartbeats 8000000 in
theorem listc_any (w0 : World) (g h gb gr gv : Nat) (s : Bs) (o N : Nat) (hV : VAll g h s N) (acc : List Jv) (m : Nat) (l : Bs) (S : Sli) (cs : List Value) (W : World) (hl : l.length ≤ N) (hm : m ≤ 500) (ho : o + 1 ≤ 16) (hct : acc.length ≤ m) (h1 : ML w0 W g h gb gr gv 6 ⟨none, 0, 0⟩ [] S acc cs) (r : RS W g h s l m (o + 1)) :
    Calls Tryz.prog 64 #[.pointer (some ⟨gv, 0, none⟩), .pointer (some ⟨gb, 0, none⟩)] W (CEnds (fun (a : List Jv) W => ∃ S cs, ML w0 W g h gb gr gv 6 ⟨none, 0, 0⟩ [] S a cs) g h s (o + 1) w0 (match runU (.val (o + 1)) m l with | .error e => .error e | .ok (v, m', l') => .ok (acc ++ [v], m', l'))) := by
  have hSn : S.n ≤ 500 := by
    have e1 := h1.vrow.1
    have e2 := h1.jl.len
    omega
  have HV : Hid (∀ W', RS W' g h s l m (o + 1) → Calls Tryz.prog 44 #[.pointer (some ⟨g, 0, none⟩)] W' (VEnds g h s (o + 1) W' (runU (.val (o + 1)) m l))) := Lib.hid (fun W' r => hV (o + 1) m l W' hl ho hm r)
  have hbA := (ba1 W (.cells zlit 25)).drew
  have HM0 := Lib.hid (h1.up (Below.refl _ _).drew)
  have HR0 := Lib.hid (r.up (Below.refl _ _).drew)
  have HM1 := Lib.hid (h1.up hbA)
  have HR1 := Lib.hid (r.up hbA)
  clear h1 r hV hbA
  have k0 : W.drew.cell? ⟨gb, 0, none⟩ = some (.pointer (some ⟨g, 0, none⟩)) := HM0.out.rb.c 0 rfl
  have k1 : W.drew.cell? ⟨gv, 3, none⟩ = some (.slice S.A S.n S.c) := HM0.out.bx.c 3 rfl
  have k2 : (W.alloc (.cells zlit 25)).cell? ⟨gb, 0, none⟩ = some (.pointer (some ⟨g, 0, none⟩)) := HM1.out.rb.c 0 rfl
  have k3 : (W.alloc (.cells zlit 25)).cell? ⟨gv, 3, none⟩ = some (.slice S.A S.n S.c) := HM1.out.bx.c 3 rfl
  obtain ⟨iV, hi, hz0, hz1, hz2⟩ := info_parts infoV
  obtain ⟨SA, Sn, Sc⟩ := S
  simp only at hSn k1 k3
  have hOn : ∀ u ∈ zlit.toList, u.oneCell' = true := by
    intro u hu
    simp only [List.mem_cons, List.not_mem_nil, or_false] at hu
    rcases hu with rfl | rfl | rfl | rfl <;> rfl
  have HOn := Lib.hid hOn
  clear hOn
  have hidx0 : (0 : Int) ≤ (Sn : Int) := by omega
  have hidx1 : (Sn : Int) < (Sn : Int) + 1 := by omega
  have HLit : Hid (Box (W.alloc (.cells zlit 25)).drew W.heap.size 25 zlit) := Lib.hid (Box.new W 25 zlit)
  have hgW : W.heap.size ≠ g := by have := HR0.out.lt; exact fun e => absurd (e ▸ this) (Nat.lt_irrefl _)
  go_enter Tryz.func64, Tryz.ntmps64
  go_region_law (first
    | (go_simp; go_at_call 44; refine (HV.out _ (by first | exact HR0.out | exact HR1.out)).mono ?_; intro E w5 h5; rcases vends_cases h5 with ⟨e, rr, hr, rfl, hb5⟩ | ⟨v, m', l', K3, S3, hr, rfl, hjv, hb5, hr5⟩; exact ⟨rfl, by rw [hr]; exact ⟨rfl, by first | exact HM0.out.but.on hb5 | exact HM1.out.but.on hb5⟩⟩; obtain ⟨KA3, Kn3, Kc3⟩ := K3; obtain ⟨SA3, Sn3, Sc3⟩ := S3; simp only [jx] at hjv ⊢; first
      | (have hb6 : But g W.drew w5 := hb5; have hM5 := HM0.out.call hb6 HR0.out.bx; have hj5 := HM0.out.apart hjv; have hbL := ba1 w5 (.cells zlit 25); have hM6 := hM5.up hbL; have hj6 := hj5.up hbL; have hS6 := Lib.hid (src_box (m := 1) (sz := 4) (Box.new w5 25 zlit) rfl); have hr6 := hr5.up hbL; have k5 : w5.cell? ⟨gv, 3, none⟩ = some (.slice SA Sn Sc) := hM5.bx.c 3 rfl; have k6 : (w5.alloc (.cells zlit 25)).cell? ⟨gv, 3, none⟩ = some (.slice SA Sn Sc) := hM6.bx.c 3 rfl; have hgs : gv + 1 ≤ (w5.alloc (.cells zlit 25)).heap.size := hM6.bx.lt)
      | (have hb6 : But g (W.alloc (.cells zlit 25)).drew w5 := hb5; have hM6 := HM1.out.call hb6 HR1.out.bx; have hj6 := HM1.out.apart hjv; have hS6 := Lib.hid (src_box (m := 1) (sz := 4) (HLit.out.but hb6 hgW) rfl); have hr6 := hr5; have k6 : w5.cell? ⟨gv, 3, none⟩ = some (.slice SA Sn Sc) := hM6.bx.c 3 rfl; have hgs : gv + 1 ≤ w5.heap.size := hM6.bx.lt))
    | (refine step_app _ (by rfl) _ _ 23 (by rfl) (gv + 1) 25 iV _ 4 72 (by decide) Tryz.underlying23 hi hz0 hz1 hz2 rfl (.slice SA Sn Sc) Sn cs (by rfl) hM6.vrow _ 1 1 [.int .i64 0, .string ⟨#[]⟩, .slice none 0 0, .slice none 0 0] (by rfl) hS6.out HOn.out ?_ ?_ hgs (Sn + 1) rfl ?_; (unfold maxLen; omega); omega; intro A' c' w7 q1 q2 q3; obtain ⟨ab, rfl, hab, ⟨cz0, cz1, cz2, cz3⟩, fz, k7, f7, ⟨hMa, hHa⟩, ⟨hMb, hHb⟩⟩ := hM6.kid hj6 q1 q2 q3; have fz0 := fz (Sn * 4); have fz1 := fz (Sn * 4 + 1); have fz2 := fz (Sn * 4 + 2); have fz3 := fz (Sn * 4 + 3); have hn1 : gv ≠ ab := (by omega); have hn2 : ab ≠ gv := (by omega); clear fz)
    | fail)
  all_goals
    rw [hr]
    refine ⟨rfl, .tuple #[], end_unit rfl, rfl, ⟨⟨some ⟨ab, 0, none⟩, Sn + 1, c'⟩, cs ++ [.int .i64 v.k, .string (tb v.t), .slice KA3 Kn3 Kc3, .slice SA3 Sn3 Sc3], ?_⟩, ?_⟩
    · with_reducible first | exact hMa | exact hMb
    · with_reducible first | exact hr6.stay hM6.mr hM6.mh hHa | exact hr6.stay hM6.mr hM6.mh hHb
end Go.Proofs.YtnkhghjcfhpeiaaGreatDoor
