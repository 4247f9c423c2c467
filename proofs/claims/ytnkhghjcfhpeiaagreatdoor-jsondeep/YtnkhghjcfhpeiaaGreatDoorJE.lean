/-
  The walk of the laws' own Pick, and of Value: values by numbers.
-/
import Derived.Test.YtnkhghjcfhpeiaaGreatDoorJD
import Derived.Test.YtnkhghjcfhpeiaaGreatDoorJWords
import Derived.BigQuiet
namespace Go.Proofs.YtnkhghjcfhpeiaaGreatDoor
open Go.RowKit

/-- a number below n, and one more pick is counted -/
def PickEnds (gm n : Nat) (ix : Int) (w : World) (e : Ending) (w' : World) : Prop :=
  ∃ p : Nat, p < n ∧ e = .returned (.int .i64 (p : Int)) ∧ Below (w.setCell ⟨gm, 1, none⟩ (.int .i64 (ix + 1))).heap.size (w.setCell ⟨gm, 1, none⟩ (.int .i64 (ix + 1))) w'

set_option maxRecDepth 100000 in
set_option maxHeartbeats 2000000 in
theorem pick_any (gm n : Nat) (ix : Int) (A : Option Addr) (L c : Nat) (ys : List UInt8) (w : World) (hbx : Box w gm 35 #[.slice A L c, .int .i64 ix]) (h0 : 0 ≤ ix) (h1 : ix ≤ 1000) (hl : ys.length = L) (hm : L ≤ maxLen) (hU : Us w gm A ys) (hn : 1 ≤ n) (hn2 : n ≤ 100) :
    Calls Tryz.prog 21 #[.pointer (some ⟨gm, 0, none⟩), .int .i64 (n : Int)] w (PickEnds gm n ix w) := by
  unfold maxLen at hm
  have c0 := hbx.c 0 rfl
  have c1 := hbx.c 1 rfl
  have f0 := hbx.f 0
  have f1 := hbx.f 1
  have hb2 := hbx.set 1 (.int .i64 (ix + 1))
  have d0 := hb2.c 0 (v := .slice A L c) (by simp)
  have d1 := hb2.c 1 (v := .int .i64 (ix + 1)) (by simp)
  have HU := Lib.hid (hU.low ((Below.refl gm w).setCell (p := ⟨gm, 1, none⟩) (Nat.le_refl _) (.int .i64 (ix + 1))))
  have HL := Lib.hid hl
  clear hl hU hbx hb2
  go_enter Tryz.func21, Tryz.ntmps21
  go_wp2_with fail
  clear c0 c1 f0 f1
  obtain ⟨X, hX⟩ : ∃ X, w.setCell ⟨gm, 1, none⟩ (.int .i64 (ix + 1)) = X := ⟨_, rfl⟩
  rw [hX] at d0 d1 HU ⊢
  have HX := Lib.hid hX
  clear hX
  by_cases hbig : (L : Int) < ix + 1
  · go_quiet (fail)
    go_wp2
    go_ret
    exact ⟨0, by omega, by go_num, by rw [HX.out]; exact below_drewN (Below.refl _ _) _⟩
  · obtain ⟨j, rfl⟩ := Int.eq_ofNat_of_zero_le h0
    have hj : j < L := by omega
    obtain ⟨b, o, hA, hb, hc⟩ := HU.out (by rw [HL.out]; omega)
    have cj := hc j (by rw [HL.out]; omega)
    clear hc
    obtain ⟨y, hy⟩ : ∃ y, ys[j]?.getD 0 = y := ⟨_, rfl⟩
    rw [hy] at cj
    have hyb := y.toNat_lt
    clear hy
    obtain ⟨v, hv⟩ : ∃ v, y.toNat = v := ⟨_, rfl⟩
    rw [hv] at cj hyb
    clear hv
    subst hA
    obtain ⟨r, hr⟩ : ∃ r, v % n = r := ⟨_, rfl⟩
    have hrn : r < n := by rw [← hr]; exact Nat.mod_lt _ (by omega)
    have t0 : (j : Int) + 1 - 1 = (j : Int) := by omega
    have t9 : IntKind.i64.wrap ((j : Int) + 1 - 1) = (j : Int) := by rw [t0]; exact IntWalk.i64_in _ (by omega)
    have t8 : IntKind.i64.wrap (j : Int) = (j : Int) := IntWalk.i64_in _ (by omega)
    have t1 : IntKind.i64.wrap (v : Int) = (v : Int) := IntWalk.i64_in _ (by omega)
    have t2 : (v : Int).tmod (n : Int) = (r : Int) := by rw [Int.tmod_eq_emod_of_nonneg (by omega), ← hr]; simp
    have t3 : (v : Int) % (n : Int) = (r : Int) := by rw [← hr]; simp
    have t4 : IntKind.i64.wrap (r : Int) = (r : Int) := IntWalk.i64_in _ (by omega)
    have t5 : (j : Int) < (L : Int) := by omega
    have t6 : (0 : Int) ≤ (j : Int) := by omega
    have t7 : ¬ (n : Int) = 0 := by omega
    clear hr
    go_quiet (fail)
    rename_i nq
    have d0' : (X.drewN nq).cell? ⟨gm, 0, none⟩ = some (.slice (some ⟨b, o, none⟩) L c) := d0
    have d1' : (X.drewN nq).cell? ⟨gm, 1, none⟩ = some (.int .i64 ((j : Int) + 1)) := d1
    have cj' : (X.drewN nq).cell? ⟨b, o + j, none⟩ = some (.int .u8 (v : Int)) := cj
    have hbn : Below X.heap.size X (X.drewN nq) := below_drewN (Below.refl _ _) _
    go_wp2_with fail
    generalize X.drewN nq = Y at *
    clear d0 d1 cj
    go_quiet (fail)
    go_wp2
    go_ret
    exact ⟨r, hrn, by go_num, by rw [HX.out]; exact below_drewN hbn _⟩

/-- a pick: a number below n, the maker counts one more, all else stands -/
def PickB (gm n : Nat) (ix : Int) (A : Option Addr) (L c : Nat) (w : World) (E : Ending) (w' : World) : Prop := ∃ p : Nat, p < n ∧ E = .returned (.int .i64 (p : Int)) ∧ But gm w w' ∧ Box w' gm 35 #[.slice A L c, .int .i64 (ix + 1)]
theorem pickb_any (gm n : Nat) (ix : Int) (A : Option Addr) (L c : Nat) (ys : List UInt8) (w : World) (hbx : Box w gm 35 #[.slice A L c, .int .i64 ix]) (h0 : 0 ≤ ix) (h1 : ix ≤ 1000) (hl : ys.length = L) (hm : L ≤ maxLen) (hU : Us w gm A ys) (hn : 1 ≤ n) (hn2 : n ≤ 100) :
    Calls Tryz.prog 21 #[.pointer (some ⟨gm, 0, none⟩), .int .i64 (n : Int)] w (PickB gm n ix A L c w) := by
  refine (pick_any gm n ix A L c ys w hbx h0 h1 hl hm hU hn hn2).mono ?_
  rintro E w' ⟨p, hp, rfl, hb⟩
  have h2 := hbx.set 1 (.int .i64 (ix + 1))
  have hs : But gm w (w.setCell ⟨gm, 1, none⟩ (.int .i64 (ix + 1))) := ⟨rfl, rfl, rfl, by simp [World.setCell], fun k _ hk => Below.heap_setCell w ⟨gm, 1, none⟩ _ k hk⟩
  refine ⟨p, hp, rfl, hs.on (But.of hb), ?_⟩
  have h3 := h2.up hb
  simpa using h3
def lenJ : Nat → Nat | 0 => 7 | d + 1 => 3 * lenJ d + 24
def nodJ : Nat → Nat | 0 => 1 | d + 1 => 3 * nodJ d + 1
def cntJ : Nat → Nat | 0 => 2 | d + 1 => 3 * cntJ d + 2
theorem cnt_ge (d : Nat) : 2 ≤ cntJ d := by cases d <;> simp [cntJ]
theorem len_ge (d : Nat) : 7 ≤ lenJ d := by cases d <;> simp [lenJ]
theorem nod_ge (d : Nat) : 1 ≤ nodJ d := by cases d <;> simp [nodJ]
/-- a value of so much depth, by numbers -/
def MadeJ (d : Nat) (v : Jv) : Prop := rightF (d + 1) v = true ∧ (textJ v).length ≤ lenJ d ∧ nodesJ v ≤ nodJ d
def ValEnds (gm : Nat) (A : Option Addr) (L c : Nat) (ix : Int) (d : Nat) (w : World) (E : Ending) (w' : World) : Prop :=
  ∃ (v : Jv) (K S : Sli) (ix' : Int), E = .returned (jx v K S) ∧ MadeJ d v ∧ JV w' (fun b => w.heap.size ≤ b) v (jx v K S) ∧ But gm w w' ∧ Box w' gm 35 #[.slice A L c, .int .i64 ix'] ∧ 0 ≤ ix' ∧ ix' ≤ ix + (cntJ d : Int)
/-- what the walk holds while a value is made: the maker, the result's box -/
structure VS (w W : World) (gm gr : Nat) (A : Option Addr) (L c : Nat) (ix : Int) : Prop where
  but : But gm w W
  mkr : Box W gm 35 #[.slice A L c, .int .i64 ix]
  res : Box W gr 25 #[.int .i64 0, .string ⟨#[]⟩, .slice none 0 0, .slice none 0 0]
  lo : w.heap.size ≤ gr
  mr : gm < w.heap.size
theorem us_but {w w' : World} {gm : Nat} {A : Option Addr} {ys : List UInt8} (h : Us w gm A ys) (hb : But gm w w') (hg : gm < w.heap.size) : Us w' gm A ys := by
  intro hx
  obtain ⟨b, o, rfl, hl, hc⟩ := h hx
  exact ⟨b, o, rfl, hl, fun j hj => (cell_heap (hb.block b (by omega) (by omega)) _).trans (hc j hj)⟩
theorem lit_c {W : World} {g : Nat} {xs : List Bs} (h : Box W g 9 (svs (xs.map tb)).toArray) {p : Nat} (hp : p < xs.length) : ∃ x, x ∈ xs ∧ W.cell? ⟨g, p, none⟩ = some (.string (tb x)) := by
  refine ⟨xs[p], List.getElem_mem hp, h.c p ?_⟩
  simp [svs, hp]
def lsNum : List Bs := [[48], [45, 49], [49, 46, 53], [50, 101, 51], [45, 48, 46, 49, 69, 45, 55], [50, 48, 48]]
def lsTxt : List Bs := [[], [97], [195, 169, 10], [34], [120, 32, 121]]
def lsKey : List Bs := [[97], [98, 92], [99]]
theorem num_ok : ∀ x ∈ lsNum, numT x = true ∧ x.length ≤ 7 := by decide +kernel
theorem txt_ok : ∀ x ∈ lsTxt, validL x = true ∧ (quoteL x).length ≤ 7 := by decide +kernel
theorem key_ok : ∀ x ∈ lsKey, validL x = true ∧ (quoteL x).length ≤ 5 := by decide +kernel
theorem made_word {d k : Nat} (h : k < 3) : MadeJ d (.mk (1 + (k : Int)) [] [] []) := by
  have hd := len_ge d
  have hn := nod_ge d
  have hk : k = 0 ∨ k = 1 ∨ k = 2 := by omega
  rcases hk with rfl | rfl | rfl
  · exact ⟨rfl, by show 4 ≤ _; omega, by show 1 ≤ _; omega⟩
  · exact ⟨rfl, by show 5 ≤ _; omega, by show 1 ≤ _; omega⟩
  · exact ⟨rfl, by show 4 ≤ _; omega, by show 1 ≤ _; omega⟩
theorem made_num {d : Nat} {x : Bs} (h : x ∈ lsNum) : MadeJ d (.mk 4 x [] []) := by
  have hd := len_ge d
  have hn := nod_ge d
  obtain ⟨h1, h2⟩ := num_ok x h
  refine ⟨?_, by show x.length ≤ _; omega, by show 1 ≤ _; omega⟩
  show (shapeJ 4 x [] [] && numT x) = true
  rw [h1]
  rfl
theorem made_txt {d : Nat} {x : Bs} (h : x ∈ lsTxt) : MadeJ d (.mk 5 x [] []) := by
  have hd := len_ge d
  have hn := nod_ge d
  obtain ⟨h1, h2⟩ := txt_ok x h
  refine ⟨?_, by show (quoteQ x).1.length ≤ _; rw [quote_ok h1]; omega, by show 1 ≤ _; omega⟩
  show (shapeJ 5 x [] [] && validL x) = true
  rw [h1]
  rfl


/-! a list while it is made -/
structure LS (w W : World) (gm gr gv : Nat) (A : Option Addr) (L c : Nat) (ix kd : Int) (K : Sli) (ks : List Bs) (S : Sli) (vs : List Jv) (cs : List Value) : Prop where
  but : But gm w W
  mkr : Box W gm 35 #[.slice A L c, .int .i64 ix]
  res : Box W gr 25 #[.int .i64 0, .string ⟨#[]⟩, .slice none 0 0, .slice none 0 0]
  bx : Box W gv 25 #[.int .i64 kd, .string ⟨#[]⟩, .slice K.A K.n K.c, .slice S.A S.n S.c]
  krow : Row W (gv + 1) 9 1 K (svs (ks.map tb))
  vrow : Row W (gv + 1) 25 4 S cs
  jl : JL W (PB gv K S) vs cs
  lo : w.heap.size ≤ gr
  rv : gr < gv
  mr : gm < w.heap.size
section
variable {w W W' : World} {gm gr gv : Nat} {A : Option Addr} {L c : Nat} {ix ix' kd : Int} {K S : Sli} {ks : List Bs} {vs : List Jv} {cs : List Value}
theorem LS.up (h : LS w W gm gr gv A L c ix kd K ks S vs cs) (hb : Below W.heap.size W W') : LS w W' gm gr gv A L c ix kd K ks S vs cs :=
  ⟨h.but.on (But.of hb), h.mkr.up hb, h.res.up hb, h.bx.up hb, h.krow.up hb, h.vrow.up hb, h.jl.up hb, h.lo, h.rv, h.mr⟩
theorem LS.call (h : LS w W gm gr gv A L c ix kd K ks S vs cs) (hb : But gm W W') (hm : Box W' gm 35 #[.slice A L c, .int .i64 ix']) : LS w W' gm gr gv A L c ix' kd K ks S vs cs := by
  have h1 := h.lo
  have h2 := h.rv
  have h3 := h.mr
  exact ⟨h.but.on hb, hm, h.res.but hb (by omega), h.bx.but hb (by omega), row_but h.krow hb h.mkr (by decide), row_but h.vrow hb h.mkr (by decide), JL.to (Keeps.but hb (fun b hp => by have := hp.1; omega) (fun _ hp _ => hp)) _ _ h.jl, h.lo, h.rv, h.mr⟩
theorem LS.key (h : LS w W gm gr gv A L c ix kd K ks S vs cs) {A' : Option Addr} {n c' : Nat} {ks' : List Bs} (h1 : W'.ownsRow (gv + 1) 9 1 (.slice A' n c') n (svs (ks'.map tb))) (h2 : W.grownBy W' (Value.slice K.A K.n K.c).ownBlock) (h3 : (Value.slice A' n c').ownBlock = (Value.slice K.A K.n K.c).ownBlock ∨ (Value.slice A' n c').ownBlock = some W.heap.size) :
    LS w (W'.setCell ⟨gv, 2, none⟩ (.slice A' n c')) gm gr gv A L c ix kd ⟨A', n, c'⟩ ks' S vs cs ∧ W'.cell? ⟨gv, 2, none⟩ = some (.slice K.A K.n K.c) ∧ W'.frozen? ⟨gv, 2, none⟩ = false := by
  have o1 := h.lo
  have o2 := h.rv
  have o3 := h.mr
  have hne : ∀ b, b ≤ gv → some b ≠ (Value.slice K.A K.n K.c).ownBlock := fun b hb e => by have := (row_own h.krow e).1; omega
  have hbx := grown_box h2 h.bx (hne _ (Nat.le_refl _))
  have hv' : Row W' (gv + 1) 25 4 S cs := h.vrow.keep fun g _ hg => grown_other h.krow h2 hg (by decide)
  refine ⟨⟨?_, (grown_box h2 h.mkr (hne _ (by omega))).far (p := ⟨gv, 2, none⟩) (by simp only; omega) _, (grown_box h2 h.res (hne _ (by omega))).far (p := ⟨gv, 2, none⟩) (by simp only; omega) _, ?_, rowf (O := ⟨A', n, c'⟩) h1 (p := ⟨gv, 2, none⟩) (by simp only; omega) _, rowf hv' (p := ⟨gv, 2, none⟩) (by simp only; omega) _, ?_, h.lo, h.rv, h.mr⟩, hbx.c 2 rfl, hbx.f 2⟩
  · exact but_set (but_grown h.but h2 (fun b hb => hne b (by omega))) (by omega) 2 _
  · have := hbx.set 2 (.slice A' n c')
    simpa using this
  · refine JL.to (keep_set (fun b hp => by have := hp.1; omega)) _ _ (JL.to (grown_keep h2 (fun b hp => hp.2.1) (fun b hp hl => ⟨hp.1, ?_, hp.2.2⟩)) _ _ h.jl)
    intro e
    rcases h3 with h3 | h3
    · exact hp.2.1 (e.trans h3)
    · have := Option.some.inj (e.trans h3)
      omega
theorem LS.kid (h : LS w W gm gr gv A L c ix kd K ks S vs cs) {v : Jv} {x y z u : Value} (hv : JV W (PB gv K S) v (.agg #[x, y, z, u])) {A' : Option Addr} {n c' : Nat} (h1 : W'.ownsRow (gv + 1) 25 4 (.slice A' n c') n (cs ++ [x, y, z, u])) (h2 : W.grownBy W' (Value.slice S.A S.n S.c).ownBlock) (h3 : (Value.slice A' n c').ownBlock = (Value.slice S.A S.n S.c).ownBlock ∨ (Value.slice A' n c').ownBlock = some W.heap.size) :
    LS w (W'.setCell ⟨gv, 3, none⟩ (.slice A' n c')) gm gr gv A L c ix kd K ks ⟨A', n, c'⟩ (vs ++ [v]) (cs ++ [x, y, z, u]) ∧ W'.cell? ⟨gv, 3, none⟩ = some (.slice S.A S.n S.c) ∧ W'.frozen? ⟨gv, 3, none⟩ = false := by
  have o1 := h.lo
  have o2 := h.rv
  have o3 := h.mr
  have hne : ∀ b, b ≤ gv → some b ≠ (Value.slice S.A S.n S.c).ownBlock := fun b hb e => by have := (row_own h.vrow e).1; omega
  have hbx := grown_box h2 h.bx (hne _ (Nat.le_refl _))
  have hk' : Row W' (gv + 1) 9 1 K (svs (ks.map tb)) := h.krow.keep fun g _ hg => grown_other h.vrow h2 hg (by decide)
  have hmr := grown_box h2 h.mkr (hne _ (by omega))
  refine ⟨⟨?_, hmr.far (p := ⟨gv, 3, none⟩) (by simp only; omega) _, (grown_box h2 h.res (hne _ (by omega))).far (p := ⟨gv, 3, none⟩) (by simp only; omega) _, ?_, rowf hk' (p := ⟨gv, 3, none⟩) (by simp only; omega) _, rowf (O := ⟨A', n, c'⟩) h1 (p := ⟨gv, 3, none⟩) (by simp only; omega) _, ?_, h.lo, h.rv, h.mr⟩, hbx.c 3 rfl, hbx.f 3⟩
  · exact but_set (but_grown h.but h2 (fun b hb => hne b (by omega))) (by omega) 3 _
  · have := hbx.set 3 (.slice A' n c')
    simpa using this
  · refine JL.to (keep_set (fun b hp => by have := hp.1; omega)) _ _ (JL.to (grown_keep h2 (fun b hp => hp.2.2) (fun b hp hl => ⟨hp.1, hp.2.1, ?_⟩)) _ _ (h.jl.app hv))
    intro e
    rcases h3 with h3 | h3
    · exact hp.2.2 (e.trans h3)
    · have := Option.some.inj (e.trans h3)
      omega
/-- a kid that was made lies apart from the rows -/
theorem LS.apart (h : LS w W gm gr gv A L c ix kd K ks S vs cs) {v : Jv} {X : Value} (hv : JV W' (fun b => W.heap.size ≤ b) v X) : JV W' (PB gv K S) v X := by
  refine JV.to (Keeps.same (fun b hp hl => ⟨?_, fun e => ?_, fun e => ?_⟩)) _ _ hv
  · have := h.bx.lt
    omega
  · have := (row_own h.krow e).2
    omega
  · have := (row_own h.vrow e).2
    omega
end
theorem apart_app (k : Bs) : ∀ ks : List Bs, apartL (ks ++ [k]) = (apartL ks && !ks.contains k)
  | [] => rfl
  | x :: r => by
    rw [List.cons_append, apartL, apartL, apart_app k r, Bool.eq_iff_iff]
    simp only [Bool.and_eq_true, Bool.not_eq_true', List.contains_eq_mem, decide_eq_false_iff_not, List.mem_append, List.mem_cons, not_or]
    constructor
    · rintro ⟨⟨h1, h2⟩, h3, h4⟩
      exact ⟨⟨h1, h3⟩, fun e => h2.1 e.symm, h4⟩
    · rintro ⟨⟨h1, h3⟩, h2, h4⟩
      exact ⟨⟨h1, fun e => h2 e.symm, by simp⟩, h3, h4⟩
/-- the list that was made so far -/
def ListJ (d : Nat) (kd : Int) (i : Nat) (ks : List Bs) (vs : List Jv) : Prop :=
  vs.length + i ≤ 3 ∧ (∀ v ∈ vs, MadeJ d v) ∧ (kd = 6 → ks = []) ∧ (kd = 7 → ks.length = vs.length ∧ apartL ks = true ∧ ∀ k ∈ ks, ∃ j, i ≤ j ∧ lsKey[j]? = some k)
theorem tail_max {M : Nat} : ∀ l : List Bs, (∀ x ∈ l, x.length ≤ M) → (tailC l).length ≤ l.length * (M + 1)
  | [], _ => Nat.zero_le _
  | x :: r, h => by
    have h1 := h x (by simp)
    have h2 := tail_max r (fun y hy => h y (by simp [hy]))
    rw [tailC, List.length_cons, List.length_append, List.length_cons, Nat.succ_mul]
    omega
theorem join_max {M : Nat} (l : List Bs) (h : ∀ x ∈ l, x.length ≤ M) : (joinC l).length ≤ l.length * (M + 1) := by
  cases l with
  | nil => exact Nat.zero_le _
  | cons x r =>
    have h1 := h x (by simp)
    have h2 := tail_max r (fun y hy => h y (by simp [hy]))
    rw [joinC, List.length_append, List.length_cons, Nat.succ_mul]
    omega
theorem texts_len : ∀ vs : List Jv, (textsJ vs).length = vs.length
  | [] => rfl
  | v :: r => by rw [textsJ, List.length_cons, List.length_cons, texts_len r]
theorem texts_mem {M : Nat} : ∀ vs : List Jv, (∀ v ∈ vs, (textJ v).length ≤ M) → ∀ x ∈ textsJ vs, x.length ≤ M
  | [], _, x, hx => by rw [textsJ] at hx; cases hx
  | v :: r, h, x, hx => by
    rw [textsJ, List.mem_cons] at hx
    rcases hx with rfl | hx
    · exact h v (by simp)
    · exact texts_mem r (fun y hy => h y (by simp [hy])) x hx
theorem memb_mem {M : Nat} : ∀ (ks : List Bs) (xs : List Bs), (∀ k ∈ ks, (quoteQ k).1.length ≤ 5) → (∀ x ∈ xs, x.length ≤ M) → ∀ y ∈ List.zipWith membC ks xs, y.length ≤ M + 6
  | [], xs, _, _, y, hy => by simp at hy
  | k :: kr, [], _, _, y, hy => by simp at hy
  | k :: kr, x :: xr, h1, h2, y, hy => by
    rw [List.zipWith_cons_cons, List.mem_cons] at hy
    rcases hy with rfl | hy
    · have a := h1 k (by simp)
      have b := h2 x (by simp)
      unfold membC
      rw [List.length_append, List.length_cons]
      omega
    · exact memb_mem kr xr (fun z hz => h1 z (by simp [hz])) (fun z hz => h2 z (by simp [hz])) y hy
theorem nodes_max {M : Nat} : ∀ vs : List Jv, (∀ v ∈ vs, nodesJ v ≤ M) → nodesL vs ≤ vs.length * M
  | [], _ => by rw [nodesL]; omega
  | v :: r, h => by
    have h1 := h v (by simp)
    have h2 := nodes_max r (fun y hy => h y (by simp [hy]))
    rw [nodesL, List.length_cons, Nat.succ_mul]
    omega
theorem made_list {d : Nat} {kd : Int} {ks : List Bs} {vs : List Jv} (hk : kd = 6 ∨ kd = 7) (h : ListJ d kd 0 ks vs) : MadeJ (d + 1) (.mk kd [] ks vs) := by
  obtain ⟨h1, h2, h3, h4⟩ := h
  have hn := nodes_max vs (M := nodJ d) (fun v hv => (h2 v hv).2.2)
  have hn3 : vs.length * nodJ d ≤ 3 * nodJ d := Nat.mul_le_mul_right _ (by omega)
  have ht := texts_mem vs (M := lenJ d) (fun v hv => (h2 v hv).2.1)
  have hall : vs.all (rightF (d + 1)) = true := List.all_eq_true.2 (fun v hv => (h2 v hv).1)
  have hnod : nodesJ (.mk kd [] ks vs) ≤ nodJ (d + 1) := by rw [nodesJ, nodJ]; omega
  rcases hk with rfl | rfl
  · obtain rfl := h3 rfl
    refine ⟨?_, ?_, hnod⟩
    · show (shapeJ 6 [] [] vs && vs.all (rightF (d + 1))) = true
      rw [hall]
      rfl
    · show (91 :: (joinC (textsJ vs) ++ [93])).length ≤ _
      have hj := join_max (textsJ vs) ht
      rw [texts_len] at hj
      have hj3 : vs.length * (lenJ d + 1) ≤ 3 * (lenJ d + 1) := Nat.mul_le_mul_right _ (by omega)
      simp only [List.length_cons, List.length_append, List.length_nil, lenJ]
      omega
  · obtain ⟨k1, k2, k3⟩ := h4 rfl
    have hkm : ∀ k ∈ ks, k ∈ lsKey := fun k hk => by
      obtain ⟨j, _, hj⟩ := k3 k hk
      exact List.mem_of_getElem? hj
    have hval : ks.all validL = true := List.all_eq_true.2 (fun k hk => (key_ok k (hkm k hk)).1)
    refine ⟨?_, ?_, hnod⟩
    · show (shapeJ 7 [] ks vs && (decide (ks.length = vs.length) && vs.all (rightF (d + 1)) && ks.all validL && apartL ks)) = true
      rw [hall, hval, k2, decide_eq_true k1]
      rfl
    · show (123 :: (joinC (List.zipWith membC ks (textsJ vs)) ++ [125])).length ≤ _
      have hm := memb_mem ks (textsJ vs) (fun k hk => by
        have := key_ok k (hkm k hk)
        rw [quote_ok this.1]
        exact this.2) ht
      have hj := join_max _ hm
      have hzl : (List.zipWith membC ks (textsJ vs)).length ≤ 3 := by rw [List.length_zipWith, texts_len]; omega
      have hj3 : (List.zipWith membC ks (textsJ vs)).length * (lenJ d + 6 + 1) ≤ 3 * (lenJ d + 6 + 1) := Nat.mul_le_mul_right _ hzl
      simp only [List.length_cons, List.length_append, List.length_nil, lenJ]
      omega
/-- the list that was made stands for its value -/
theorem LS.jv {w W : World} {gm gr gv : Nat} {A : Option Addr} {L c : Nat} {ix kd : Int} {K S : Sli} {ks : List Bs} {vs : List Jv} {cs : List Value} (h : LS w W gm gr gv A L c ix kd K ks S vs cs) : JV W (fun b => gv + 1 ≤ b) (.mk kd [] ks vs) (jx (.mk kd [] ks vs) K S) := by
  rw [JV]
  have hk := h.krow.1
  have hv := h.vrow.1
  refine ⟨K, S, cs, rfl, row_slp h.krow (by rw [hk]) (fun e => ?_), row_slp h.vrow (by rw [hv]) (fun e => ?_), JL.to (Keeps.same (fun b hp _ => hp.1)) _ _ h.jl⟩
  · rw [e, Nat.zero_mul] at hk
    exact List.eq_nil_of_length_eq_zero hk
  · rw [e, Nat.zero_mul] at hv
    exact List.eq_nil_of_length_eq_zero hv
end Go.Proofs.YtnkhghjcfhpeiaaGreatDoor
