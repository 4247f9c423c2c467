/-
  The walks of the document's own Strings and Same, where the texts are the same.
-/
import Derived.Test.YtdlihfbaepjliaaGreatDoorJWords
import Derived.Test.YtdlihfbaepjliaaGreatDoorProg
import Derived.Lib.SlTrimSet
import Derived.WalkKit
import Derived.Lib.Split
import Derived.WalkSpells
import Derived.WalkLawsBesides
import Derived.WalkSmall
import Derived.Lib.Hide
import Derived.IntWalk
import Derived.BigQuiet
import Derived.Laws.OwnMore
import Derived.Deep.AppendLies
import Derived.Deep.RegionLaw
import Derived.Deep.Upon
import Derived.Deep.DeepCutAuto
import Derived.Lib.IndexLaws
import Derived.Test.YtdlihfbaepjliaaGreatDoorHm
namespace Go.Proofs.YtdlihfbaepjliaaGreatDoor
open Go.RowKit

set_option maxRecDepth 100000 in
set_option maxHeartbeats 2000000 in
theorem same_same (a b : Sli) (xs : List Fd) (w : World) (ha : Fs w a xs) (hb : Fs w b xs) : Calls Tryz.prog 23 #[a.v, b.v] w (BoolEnds true w) := by
  obtain ⟨A, n, c⟩ := a
  obtain ⟨A', n', c'⟩ := b
  obtain rfl : n = n' := ha.len.symm.trans hb.len
  have hn := Nat.le_trans ha.le.1 ha.le.2
  unfold maxLen at hn
  have HA := Lib.hid ha
  have HB := Lib.hid hb
  clear ha hb
  simp only [Sli.v]
  simp only at hn
  go_enter Tryz.func23, Tryz.ntmps23
  go_wp2_with fail
  go_loopw [5] (fun i wr => ∃ k : Nat, k ≤ n ∧ i = .int .i64 (k : Int) ∧ Below w.heap.size w wr) (fun i _ => n - (intOf i).toNat)
  case atStart => exact ⟨0, Nat.zero_le _, rfl, Below.refl _ _⟩
  case round =>
    obtain ⟨k, hk, rfl, hbw⟩ := hrel
    by_cases hlt : k < n
    · obtain ⟨b1, o1, x, y, hA, hl1, hx1, c1, d1⟩ := (HA.out.up hbw).cell (k := k) hlt
      obtain ⟨b2, o2, x', y', hB, hl2, hx2, c2, d2⟩ := (HB.out.up hbw).cell (k := k) hlt
      have hxy : (x, y) = (x', y') := by rw [hx1] at hx2; exact Option.some.inj hx2
      obtain ⟨rfl, rfl⟩ := Prod.mk.inj hxy
      simp only at hA hB
      subst hA hB
      clear hx1 hx2 hxy
      have hki : (k : Int) < (n : Int) := by omega
      have hk0 : (0 : Int) ≤ (k : Int) := by omega
      go_wp2_with fail
      go_quiet (fail)
      go_wp2
      go_roundw
      case rel => exact ⟨k + 1, by omega, by go_num, below_drewN hbw _⟩
      case measure => simp [intOf]; omega
    · obtain rfl : k = n := by omega
      go_wp2
      go_ret
      exact ⟨rfl, hbw⟩

end Go.Proofs.YtdlihfbaepjliaaGreatDoor

/-
  append onto a slice of the call's own, of whatever slice that can be read, for elements of any size.
-/
namespace Go.Proofs.YtdlihfbaepjliaaGreatDoor
open Go.RowKit

/-- the slice holds news, or is nil -/
def Src (w : World) (sz : Nat) (A : Option Addr) (m c : Nat) (news : List Value) : Prop :=
  (A = none ∧ m = 0 ∧ c = 0 ∧ news = []) ∨ ∃ ad, A = some ad ∧ news.length = m * sz ∧ ∀ j u, news[j]? = some u → w.cell? (ad.add j) = some u

theorem ownsRow_slice {w : World} {base n sz : Nat} {t : TypeId} {v : Value} {ys : List Value} (h : w.ownsRow base t sz v n ys) : ∃ A c, v = .slice A n c := by
  rcases h.2 with ⟨h1, h2⟩ | ⟨g, c, _, h1, _⟩
  · exact ⟨none, 0, by rw [h1, h2]⟩
  · exact ⟨some ⟨g, 0, none⟩, c, h1⟩

section
variable {P : Program} (w : World)

theorem run_app (t ty : TypeId) (base : Nat) (e : TypeId) (i : TypeInfo) (z : Value) (sz bytes : Nat) (hsz : 0 < sz) (ht : P.underlying t = some (.slice e)) (hi : P.info? e = some i) (hz : i.zero = some z)
    (hsize : i.size = sz) (hby : i.bytes = bytes) (hzs : z.cells.size = sz) (v : Value) (n : Nat) (xs : List Value) (hown : w.ownsRow base e sz v n xs)
    (A : Option Addr) (m c : Nat) (news : List Value) (hsrc : Src w sz A m c news) (h1 : ∀ u ∈ news, u.oneCell' = true) (h63 : n + m ≤ maxLen) (hbytes : (n + m) * bytes ≤ 140737488355328) (hbase : base ≤ w.heap.size) (L : Nat) (hL : n + m = L) :
    ∃ A' c' w', (Builtin.append_ #[t, t] ty #[v, .slice A m c]).run P w = .ok (.slice A' L c') w' ∧ w'.ownsRow base e sz (.slice A' L c') L (xs ++ news) ∧ w.grownBy w' v.ownBlock ∧ ((Value.slice A' L c').ownBlock = v.ownBlock ∨ (Value.slice A' L c').ownBlock = some w.heap.size) := by
  subst hL
  rcases hsrc with ⟨rfl, rfl, rfl, rfl⟩ | ⟨ad, rfl, hl, hn⟩
  · obtain ⟨A', c', rfl⟩ := ownsRow_slice hown
    refine ⟨A', c', w, ?_, by simpa using hown, ⟨rfl, rfl, rfl, Nat.le_refl _, fun _ _ _ => rfl⟩, .inl rfl⟩
    exact run_append_owned_none w base t ty e i sz ht hi _ n xs hown
  · obtain ⟨v', w', hr, h2, h3, _, h5⟩ := run_append_own_at (P := P) w base t ty e i z sz bytes ht hi hz hsize hby hzs hsz v n xs hown ad m c news hl hn h1 h63 hbytes hbase
    obtain ⟨A', c', rfl⟩ := ownsRow_slice h2
    exact ⟨A', c', w', hr, h2, h3, h5⟩

theorem wp_app {o : Oper} {a : Act} {K : Act → World → Prop} {Q : Exit → Act → World → Prop} (s x : Operand) (t : TypeId)
    (ho : o.op = .call { callee := .builtin .append, args := #[s, x], argTypes := #[t, t] })
    (base : Nat) (e : TypeId) (i : TypeInfo) (z : Value) (sz bytes : Nat) (hsz : 0 < sz) (ht : P.underlying t = some (.slice e)) (hi : P.info? e = some i) (hz : i.zero = some z)
    (hsize : i.size = sz) (hby : i.bytes = bytes) (hzs : z.cells.size = sz) (v : Value) (n : Nat) (xs : List Value) (hs : a.eval s = v) (hown : w.ownsRow base e sz v n xs)
    (A : Option Addr) (m c : Nat) (news : List Value) (hx : a.eval x = .slice A m c) (hsrc : Src w sz A m c news) (h1 : ∀ u ∈ news, u.oneCell' = true) (h63 : n + m ≤ maxLen) (hbytes : (n + m) * bytes ≤ 140737488355328) (hbase : base ≤ w.heap.size) (L : Nat) (hL : n + m = L)
    (h : ∀ A' c' w', w'.ownsRow base e sz (.slice A' L c') L (xs ++ news) → w.grownBy w' v.ownBlock → ((Value.slice A' L c').ownBlock = v.ownBlock ∨ (Value.slice A' L c').ownBlock = some w.heap.size) → K (a.put o.dst (.slice A' L c')) w') : o.wp P a w K Q := by
  obtain ⟨A', c', w', hr, h2, h3, h4⟩ := run_app (P := P) w t o.type base e i z sz bytes hsz ht hi hz hsize hby hzs v n xs hown A m c news hsrc h1 h63 hbytes hbase L hL
  unfold Oper.wp execOp
  simp only [ho, resolve, invoke, builtin, Sem.run_bind, Sem.run_pure, Result.andThen_ok, List.map_toArray, List.map_cons, List.map_nil, hs, hx, hr]
  exact h A' c' w' h2 h3 h4

theorem wpList_app {ops : Array Oper} {rest : List Oper} {o : Oper} {a : Act} {Q : Exit → Act → World → Prop} (hgd : o.guard = none) (s x : Operand) (t : TypeId)
    (ho : o.op = .call { callee := .builtin .append, args := #[s, x], argTypes := #[t, t] })
    (base : Nat) (e : TypeId) (i : TypeInfo) (z : Value) (sz bytes : Nat) (hsz : 0 < sz) (ht : P.underlying t = some (.slice e)) (hi : P.info? e = some i) (hz : i.zero = some z)
    (hsize : i.size = sz) (hby : i.bytes = bytes) (hzs : z.cells.size = sz) (v : Value) (n : Nat) (xs : List Value) (hs : a.eval s = v) (hown : w.ownsRow base e sz v n xs)
    (A : Option Addr) (m c : Nat) (news : List Value) (hx : a.eval x = .slice A m c) (hsrc : Src w sz A m c news) (h1 : ∀ u ∈ news, u.oneCell' = true) (h63 : n + m ≤ maxLen) (hbytes : (n + m) * bytes ≤ 140737488355328) (hbase : base ≤ w.heap.size) (L : Nat) (hL : n + m = L)
    (h : ∀ A' c' w', w'.ownsRow base e sz (.slice A' L c') L (xs ++ news) → w.grownBy w' v.ownBlock → ((Value.slice A' L c').ownBlock = v.ownBlock ∨ (Value.slice A' L c').ownBlock = some w.heap.size) → wpList P ops Q rest (a.put o.dst (.slice A' L c')) w') : wpList P ops Q (o :: rest) a w :=
  wpList_plain hgd fun _ hK => wp_app w s x t ho base e i z sz bytes hsz ht hi hz hsize hby hzs v n xs hs hown A m c news hx hsrc h1 h63 hbytes hbase L hL fun A' c' w' h2 h3 h4 => hK _ _ (h A' c' w' h2 h3 h4)

theorem step_app {ops : Array Oper} {o : Oper} {a : Act} {K : Act → World → Prop} {Q : Exit → Act → World → Prop} {E : Prop} (hgd : o.guard = none) (s x : Operand) (t : TypeId)
    (ho : o.op = .call { callee := .builtin .append, args := #[s, x], argTypes := #[t, t] })
    (base : Nat) (e : TypeId) (i : TypeInfo) (z : Value) (sz bytes : Nat) (hsz : 0 < sz) (ht : P.underlying t = some (.slice e)) (hi : P.info? e = some i) (hz : i.zero = some z)
    (hsize : i.size = sz) (hby : i.bytes = bytes) (hzs : z.cells.size = sz) (v : Value) (n : Nat) (xs : List Value) (hs : a.eval s = v) (hown : w.ownsRow base e sz v n xs)
    (A : Option Addr) (m c : Nat) (news : List Value) (hx : a.eval x = .slice A m c) (hsrc : Src w sz A m c news) (h1 : ∀ u ∈ news, u.oneCell' = true) (h63 : n + m ≤ maxLen) (hbytes : (n + m) * bytes ≤ 140737488355328) (hbase : base ≤ w.heap.size) (L : Nat) (hL : n + m = L)
    (h : ∀ A' c' w', w'.ownsRow base e sz (.slice A' L c') L (xs ++ news) → w.grownBy w' v.ownBlock → ((Value.slice A' L c').ownBlock = v.ownBlock ∨ (Value.slice A' L c').ownBlock = some w.heap.size) → K (a.put o.dst (.slice A' L c')) w') :
    if Region.wanted o (yielded ops a.tmps) = true then Oper.wp P o a w K Q else E := by
  have hw : Region.wanted o (yielded ops a.tmps) = true := by simp [Region.wanted, hgd]
  rw [if_pos hw]
  exact wp_app w s x t ho base e i z sz bytes hsz ht hi hz hsize hby hzs v n xs hs hown A m c news hx hsrc h1 h63 hbytes hbase L hL h

end


/-- what was grown beyond a block, or nothing else: all that is older stands -/
theorem grown_none {w w' : World} (h : w.grownBy w' none) : Below w.heap.size w w' := (Below.refl _ _).grown h (Nat.le_refl _) (fun j hj => by cases hj)


theorem info9 : (Tryz.prog.info? 9).map (fun i => (i.zero, i.size, i.bytes)) = some (some (.string ⟨#[]⟩), 1, 16) := by kernel_rfl
theorem info32 : (Tryz.prog.info? 40).map (fun i => (i.zero, i.size, i.bytes)) = some (some (.agg #[.string ⟨#[]⟩, .string ⟨#[]⟩]), 2, 32) := by kernel_rfl

theorem Rd.src {w : World} {A : Option Addr} {cs : List Value} {m c sz : Nat} (hsz : 0 < sz) (h : Rd w A cs) (hm : cs.length = m * sz) (hc : A = none → c = 0) : Src w sz A m c cs := by
  cases A with
  | none =>
    have hx : cs = [] := by
      cases cs with
      | nil => rfl
      | cons x r =>
        obtain ⟨b, o, hA, _⟩ := h (by simp)
        cases hA
    subst hx
    refine .inl ⟨rfl, ?_, hc rfl, rfl⟩
    rcases Nat.eq_zero_or_pos m with h0 | h0
    · exact h0
    · have := Nat.mul_pos h0 hsz
      simp at hm
      omega
  | some ad =>
    refine .inr ⟨ad, rfl, hm, fun j u hu => ?_⟩
    obtain ⟨b, o, hA, _, hcl⟩ := h (by have := (List.getElem?_eq_some_iff.1 hu).1; omega)
    obtain rfl := Option.some.inj hA
    rw [Addr.add_lit]
    exact hcl j u hu
theorem src_one (w : World) (t : TypeId) (cs : List Value) (m : Nat) (sz : Nat) (hl : cs.length = m * sz) : Src (w.alloc (.cells cs.toArray t)) sz (some ⟨w.heap.size, 0, none⟩) m m cs := by
  refine .inr ⟨_, rfl, hl, fun j u hu => ?_⟩
  rw [Addr.add_lit, Nat.zero_add]
  exact (Box.new w t cs.toArray).c j (by simpa using hu)

end Go.Proofs.YtdlihfbaepjliaaGreatDoor

/-
  The walk of the document's own Parse.
-/
namespace Go.Proofs.YtdlihfbaepjliaaGreatDoor
open Go.RowKit

/-- a field and an error are handed back -/
def ParseEnds (l : Bs) (w : World) (e : Ending) (w' : World) : Prop :=
  ∃ (a b : ByteArray) (c : Int), e = .returned (.tuple #[.agg #[.string a, .string b], .int .i64 c]) ∧ dl a = (parse3 l).1 ∧ dl b = (parse3 l).2.1 ∧ c = (parse3 l).2.2 ∧ Below w.heap.size w w'

theorem cut_len (c : UInt8) (l : Bs) : (befL c l).length ≤ l.length ∧ (aftL c l).length ≤ l.length := by
  refine ⟨bef_len c l, ?_⟩
  unfold aftL
  rw [List.length_drop]
  have := dropWhile_len (· != c) l
  omega
theorem parse_bad {l : Bs} (h : ¬ (l.contains 58 = true ∧ nameB (befL 58 l) = true ∧ valueB (trimL (aftL 58 l)) = true)) : parse3 l = ([], [], 21) := if_neg h

/-- a field's box -/
theorem Box.two {w : World} {g : Nat} {x y : Value} (h : Box w g 40 #[x, y]) : w.cell? ⟨g, 0, none⟩ = some x ∧ w.cell? ⟨g, 1, none⟩ = some y ∧ w.frozen? ⟨g, 0, none⟩ = false ∧ w.frozen? ⟨g, 1, none⟩ = false := ⟨h.c 0 rfl, h.c 1 rfl, h.f 0, h.f 1⟩
theorem Box.set2 {w : World} {g : Nat} {t : TypeId} {x y : Value} (h : Box w g t #[x, y]) (u v : Value) : Box ((w.setCell ⟨g, 0, none⟩ u).setCell ⟨g, 1, none⟩ v) g t #[u, v] := by
  have := (h.set 0 u).set 1 v
  simpa using this
theorem below_set2 {B : Nat} {a w : World} (h : Below B a w) {g : Nat} (hg : B ≤ g) (u v : Value) : Below B a ((w.setCell ⟨g, 0, none⟩ u).setCell ⟨g, 1, none⟩ v) :=
  (h.setCell (p := ⟨g, 0, none⟩) hg _).setCell (p := ⟨g, 1, none⟩) hg _

/-- the field that was made, in its box -/
def RpR (s : ByteArray) (k g : Nat) (w : World) (t : Bs) (p : Value) (W : World) : Prop :=
  ∃ (gf : Nat) (r : ByteArray), p = .pointer (some ⟨gf, 0, none⟩) ∧ Box W gf 40 #[.string (s.extract 0 k), .string r] ∧ dl r = t ∧ Box W g 40 #[.string ⟨#[]⟩, .string ⟨#[]⟩] ∧ Below w.heap.size w W

set_option maxRecDepth 100000 in
set_option maxHeartbeats 4000000 in
theorem rparse_any (s : ByteArray) (hs : s.size ≤ 4096) (w : World) : Calls Tryz.prog 99 #[.string s] w (ParseEnds (dl s) w) := by
  go_enter Tryz.func99, Tryz.ntmps99
  go_wp2_with fail
  have hg0 := Box.new w 40 #[.string ⟨#[]⟩, .string ⟨#[]⟩]
  have hb0 := ba1 w (.cells #[.string ⟨#[]⟩, .string ⟨#[]⟩] 40)
  obtain ⟨g, hg⟩ : ∃ g, w.heap.size = g := ⟨_, rfl⟩
  rw [hg] at hg0 ⊢
  have HG := Lib.hid hg
  clear hg
  generalize w.alloc (.cells #[.string ⟨#[]⟩, .string ⟨#[]⟩] 40) = W at *
  go_loopw [4] (fun i wr => ∃ k : Nat, k ≤ s.size ∧ i = .int .i64 (k : Int) ∧ Hid (∀ j, j < k → (dl s)[j]? ≠ some 58) ∧ W = wr) (fun i _ => s.size - (intOf i).toNat)
  case atStart => exact ⟨0, Nat.zero_le _, rfl, Lib.hid (fun j hj => absurd hj (by omega)), rfl⟩
  case round =>
    obtain ⟨k, hk, rfl, HK, rfl⟩ := hrel
    obtain ⟨p0, p1, f0, f1⟩ := hg0.two
    have HBad : Hid (parse3 (dl s) = ([], [], 21) → ParseEnds (dl s) w (.returned (.tuple #[.agg #[.string ⟨#[]⟩, .string ⟨#[]⟩], .int .i64 21])) ((W.setCell ⟨g, 0, none⟩ (.string ⟨#[]⟩)).setCell ⟨g, 1, none⟩ (.string ⟨#[]⟩))) := Lib.hid (fun h => ⟨_, _, _, rfl, by rw [h], by rw [h], by rw [h], below_set2 hb0 (by rw [HG.out]; exact Nat.le_refl _) _ _⟩)
    have HQ := Lib.hid (hg0.set2 (.string ⟨#[]⟩) (.string ⟨#[]⟩)).two
    by_cases hlt : k < s.size
    · have hc := (s[k]).toNat_lt
      obtain ⟨n, hn⟩ : ∃ n, (s[k]).toNat = n := ⟨_, rfl⟩
      rw [hn] at hc
      by_cases h58 : n = 58
      · have HX := Lib.hid (cut_at (c := 58) (l := dl s) (k := k) (by rw [dl_at hlt]; exact congrArg some (UInt8.toNat_inj.1 (by rw [hn, h58]; rfl))) HK.out)
        subst h58
        have HNm := Lib.hid (fun W => rname_any (s.extract 0 k) (by rw [ByteArray.size_extract]; omega) W)
        have hbf : dl (s.extract 0 k) = befL 58 (dl s) := by rw [dl_ext, HX.out.1, List.drop_zero]
        rw [hbf] at HNm
        have HBf := Lib.hid hbf
        clear hbf
        obtain ⟨b, hb⟩ : ∃ b, nameB (befL 58 (dl s)) = b := ⟨_, rfl⟩
        rw [hb] at HNm
        have HB := Lib.hid hb
        clear hb
        cases b with
        | false =>
          have HE := Lib.hid (HBad.out (parse_bad (fun h => by rw [HB.out] at h; cases h.2.1)))
          clear HBad HB HX HK HBf
          go_wp2_with fail
          refine (HNm.out _).mono ?_
          rintro e w' ⟨rfl, rfl⟩
          go_wp2
          obtain ⟨q0, q1, _, _⟩ := HQ.out
          refine bodyPost_ret (v := .tuple #[.agg #[.string ⟨#[]⟩, .string ⟨#[]⟩], .int .i64 21]) (by simp [results, Tryz.results99, go_sem, q0, q1]) rfl ?_
          exact HE.out
        | true =>
          have HTr := Lib.hid (fun W => rtrim_any (s.extract (k + 1) s.size) (by rw [ByteArray.size_extract]; omega) W)
          have haf : dl (s.extract (k + 1) s.size) = aftL 58 (dl s) := by rw [dl_ext, HX.out.2.1, List.take_of_length_le (by rw [dl_len]; exact Nat.le_refl _)]
          rw [haf] at HTr
          clear haf
          go_wp2_with fail
          refine (HNm.out _).mono ?_
          rintro e w' ⟨rfl, rfl⟩
          go_wp2_with fail
          go_cut [5] (RpR s k g w (trimL (aftL 58 (dl s))))
          case first =>
            have he1 : (0 : Int) ≤ (k : Int) := by omega
            have he2 : (k : Int) ≤ (s.size : Int) := by omega
            have he3 : (k : Int) + 1 ≤ (s.size : Int) := by omega
            have he4 : (0 : Int) ≤ (k : Int) + 1 := by omega
            have he5 : ((k : Int) + 1).toNat = k + 1 := by omega
            have he6 : k + 1 ≤ s.size := by omega
            have he7 : IntKind.i64.wrap ((k : Int) + 1) = (k : Int) + 1 := IntWalk.i64_in _ (by omega)
            go_region_law (first | (go_simp; go_at_call 114; refine (HTr.out _).mono ?_; rintro e wP ⟨r, rfl, hr, rfl⟩))
            all_goals (go_wp2_with fail; go_meet)
            all_goals exact ⟨_, r, rfl, Box.new _ _ _, hr, hg0.alloc _, (bon hb0 (ba1 _ _)).drew⟩
          case rest =>
            obtain ⟨gf, r, rfl, bf, hr, bg, hbw⟩ := hcut
            have hrs : r.size ≤ 4096 := by
              have h1 := trim_len (aftL 58 (dl s))
              have h2 := (cut_len 58 (dl s)).2
              rw [← hr, dl_len] at h1
              rw [dl_len] at h2
              omega
            have HVl := Lib.hid (fun W => rvalue_any r hrs W)
            rw [hr] at HVl
            have HR := Lib.hid hr
            obtain ⟨b, hb⟩ : ∃ b, valueB (trimL (aftL 58 (dl s))) = b := ⟨_, rfl⟩
            rw [hb] at HVl
            have HB2 := Lib.hid hb
            clear hb hr HBad HQ p0 p1 f0 f1
            obtain ⟨p0, p1, f0, f1⟩ := bg.two
            obtain ⟨c0, c1, _, _⟩ := bf.two
            have hbw2 : ∀ u v : Value, Hid (Below w.heap.size w ((wc.setCell ⟨g, 0, none⟩ u).setCell ⟨g, 1, none⟩ v)) := fun u v => Lib.hid (below_set2 hbw (by rw [HG.out]; exact Nat.le_refl _) u v)
            cases b with
            | false =>
              have HE : Hid (parse3 (dl s) = ([], [], 21)) := Lib.hid (parse_bad (fun h => by rw [HB2.out] at h; cases h.2.2))
              have HQ := Lib.hid (bg.set2 (.string ⟨#[]⟩) (.string ⟨#[]⟩)).two
              have HW := hbw2 (.string ⟨#[]⟩) (.string ⟨#[]⟩)
              clear HB2 HB HX HK HBf hbw2
              go_wp2_with fail
              refine (HVl.out _).mono ?_
              rintro e w' ⟨rfl, rfl⟩
              go_wp2
              obtain ⟨q0, q1, _, _⟩ := HQ.out
              refine bodyPost_ret (v := .tuple #[.agg #[.string ⟨#[]⟩, .string ⟨#[]⟩], .int .i64 21]) (by simp [results, Tryz.results99, go_sem, q0, q1]) rfl ?_
              exact ⟨_, _, _, rfl, by rw [HE.out], by rw [HE.out], by rw [HE.out], HW.out⟩
            | true =>
              have HE : Hid (parse3 (dl s) = (befL 58 (dl s), trimL (aftL 58 (dl s)), 0)) := Lib.hid (if_pos ⟨HX.out.2.2, HB.out, HB2.out⟩)
              have HQ := Lib.hid (bg.set2 (.string (s.extract 0 k)) (.string r)).two
              have HW := hbw2 (.string (s.extract 0 k)) (.string r)
              clear HB2 HB HX HK hbw2
              go_wp2_with fail
              refine (HVl.out _).mono ?_
              rintro e w' ⟨rfl, rfl⟩
              go_wp2
              obtain ⟨q0, q1, _, _⟩ := HQ.out
              refine bodyPost_ret (v := .tuple #[.agg #[.string (s.extract 0 k), .string r], .int .i64 0]) (by simp [results, Tryz.results99, go_sem, q0, q1]) rfl ?_
              exact ⟨_, _, _, rfl, by rw [HE.out]; exact HBf.out, by rw [HE.out]; exact HR.out, by rw [HE.out], HW.out⟩
      · have e1 : ((n : Int) != 58) = true := bne_iff_ne.2 (by omega)
        have HN : Hid (∀ j, j < k + 1 → (dl s)[j]? ≠ some 58) := Lib.hid (fun j hj => by
          by_cases hjk : j < k
          · exact HK.out j hjk
          · obtain rfl : j = k := by omega
            rw [dl_at hlt]
            intro he
            have : s[j] = 58 := Option.some.inj he
            rw [this] at hn
            exact h58 hn.symm)
        go_wp2
        go_roundw
        case rel => exact ⟨k + 1, by omega, by go_num, HN, trivial⟩
        case measure => simp [intOf]; omega
    · obtain rfl : k = s.size := by omega
      have HE := Lib.hid (HBad.out (parse_bad (fun h => by have := (cut_none (c := 58) (l := dl s) (by rw [dl_len]; exact HK.out)).2.2; rw [this] at h; cases h.1)))
      clear HBad HK
      go_wp2
      obtain ⟨q0, q1, _, _⟩ := HQ.out
      refine bodyPost_ret (v := .tuple #[.agg #[.string ⟨#[]⟩, .string ⟨#[]⟩], .int .i64 21]) (by simp [results, Tryz.results99, go_sem, q0, q1]) rfl ?_
      exact HE.out

end Go.Proofs.YtdlihfbaepjliaaGreatDoor
