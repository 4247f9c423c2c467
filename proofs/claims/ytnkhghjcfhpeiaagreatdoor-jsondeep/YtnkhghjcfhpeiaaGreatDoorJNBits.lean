/-
  strconv.FormatInt at base 16: the library's own text, walked.
-/
import Derived.Test.YtnkhghjcfhpeiaaGreatDoorJWords
import Derived.Lib.LaidTab
import Derived.Laws.Bits64b
import Derived.Lib.AppendIntMem
namespace Go.Proofs.YtnkhghjcfhpeiaaGreatDoor
open Go.RowKit
theorem gB64 : Tryz.prog.globalNamed "math/bits.deBruijn64tab" = some 5 := by kernel_rfl

def tab64 : List Int := [0, 1, 56, 2, 57, 49, 28, 3, 61, 58, 42, 50, 38, 29, 17, 4, 62, 47, 59, 36, 45, 43, 51, 22, 53, 39, 33, 30, 24, 18, 12, 5, 63, 55, 48, 27, 60, 41, 37, 16, 46, 35, 44, 21, 52, 32, 23, 11, 54, 26, 40, 15, 34, 20, 31, 10, 25, 14, 19, 9, 13, 8, 7, 6]

/-- the library's table, as its text lays it -/
structure Tabs (w : World) : Prop where
  deb : Lib.TabIs Tryz.prog w "math/bits.deBruijn64tab" .u8 tab64

theorem Tabs.up {w w' : World} (h : Tabs w) (hb : Below w.heap.size w w') : Tabs w' :=
  ⟨Lib.tabBelow_of_tabIs h.deb w' hb⟩

end Go.Proofs.YtnkhghjcfhpeiaaGreatDoor
namespace Go.Proofs.YtnkhghjcfhpeiaaGreatDoor.Nm
open Go.RowKit
set_option maxHeartbeats 400000 in
theorem pow2_16 (w : World) : Calls Tryz.prog 150 #[.int .i64 16] w fun e w' => e = .returned (.bool true) ∧ w' = w := by
  go_enter Tryz.func150, Tryz.ntmps150
  go_wp2
  go_ret
  exact ⟨rfl, rfl⟩

set_option maxHeartbeats 400000 in
theorem tz64_16 (w : World) (h : Tabs w) : Calls Tryz.prog 154 #[.int .u64 16] w fun e w' => e = .returned (.int .i64 4) ∧ w' = w := by
  have hc0 := h.deb.cell gB64 15 (by decide)
  have hc : w.cell? ⟨5, 15, none⟩ = some (Value.int .u8 4) := hc0
  clear h hc0
  have e1 : IntKind.u64.wrap (-16) = 18446744073709551600 := by decide +kernel
  have e2 : bits BinOp.and IntKind.u64 16 18446744073709551600 = 16 := by decide +kernel
  have e3 : IntKind.u64.wrap (16 * 285870213051353865) = 4573923408821661840 := by decide +kernel
  go_enter Tryz.func154, Tryz.ntmps154
  go_wp2
  go_ret
  exact ⟨rfl, rfl⟩

set_option maxHeartbeats 400000 in
theorem tz_16 (w : World) (h : Tabs w) : Calls Tryz.prog 151 #[.int .u64 16] w fun e w' => e = .returned (.int .i64 4) ∧ w' = w := by
  go_enter Tryz.func151, Tryz.ntmps151
  go_wp2_with fail
  refine (tz64_16 _ h).mono ?_
  rintro e w1 ⟨rfl, rfl⟩
  go_wp2
  go_ret
  exact ⟨rfl, rfl⟩

theorem and15 (n : Nat) (h : n < 18446744073709551616) : bits BinOp.and IntKind.u64 (n : Int) 15 = ((n % 16 : Nat) : Int) := by
  have := bits_and_u64_nat n 15 h (by omega)
  rw [show (15 : Nat) = 2 ^ 4 - 1 by rfl, Nat.and_two_pow_sub_one_eq_mod] at this
  exact this

/-- the library's text of all digits -/
def digs36 : ByteArray := ⟨#[48, 49, 50, 51, 52, 53, 54, 55, 56, 57, 97, 98, 99, 100, 101, 102, 103, 104, 105, 106, 107, 108, 109, 110, 111, 112, 113, 114, 115, 116, 117, 118, 119, 120, 121, 122]⟩
theorem digs36_sz : digs36.size = 36 := by decide +kernel
theorem digs36_at : ∀ r : Fin 16, digs36[r.val]'(by rw [digs36_sz]; omega) = chN r.val := by decide +kernel
theorem idx36 (k : IntKind) (r : Nat) (h : r < 16) (w : World) : (Instr.index 9 (.string digs36) (.int k (r : Int))).run Tryz.prog w = .ok (.int .u8 ((chN r).toNat : Int)) w := by
  have hs : digs36.size = 36 := by decide +kernel
  rw [run_index_string w 9 digs36 k _ Tryz.underlying9, dif_pos ⟨by omega, by rw [hs]; omega⟩]
  have e : ((r : Int)).toNat = r := by omega
  simp only [e]
  rw [← digs36_at ⟨r, h⟩]

def u8v (c : UInt8) : Value := .int .u8 (c.toNat : Int)

/-- what stands between two rounds: the last digits are written, from place i on; those of cur are still to come -/
structure Left16 (u cur i : Nat) (cs : Array Value) : Prop where
  sz : cs.size = 65
  le : i ≤ 65
  few : cur < 16 ^ (i - 49)
  have_ : ∃ ds : List UInt8, dgs 16 u = dgs 16 cur ++ ds ∧ cs.toList.drop i = ds.map u8v

theorem drop_set (cs : Array Value) (i : Nat) (v : Value) (h : i < cs.size) : (cs.setIfInBounds i v).toList.drop i = v :: cs.toList.drop (i + 1) := by
  rw [Array.toList_setIfInBounds, List.drop_eq_getElem_cons (by simpa using h)]
  simp [List.drop_set]

theorem Left16.step {u cur i : Nat} {cs : Array Value} (h : Left16 u cur (i + 1) cs) (hc : 16 ≤ cur) : 49 < i ∧ Left16 u (cur / 16) i (cs.setIfInBounds i (u8v (chN (cur % 16)))) := by
  obtain ⟨ds, h1, h2⟩ := h.have_
  have hf := h.few
  have hi : 49 < i := by
    rcases Nat.lt_or_ge 49 i with hi | hi
    · exact hi
    · exfalso
      have : 16 ^ (i + 1 - 49) ≤ 16 ^ 1 := Nat.pow_le_pow_right (by omega) (by omega)
      omega
  refine ⟨hi, by simp [h.sz], by have := h.le; omega, ?_, chN (cur % 16) :: ds, ?_, ?_⟩
  · rw [Nat.div_lt_iff_lt_mul (by omega), ← Nat.pow_succ]
    rw [show (i - 49).succ = i + 1 - 49 by omega]
    exact hf
  · rw [h1, dgs_big (by omega) hc]
    simp
  · rw [drop_set _ _ _ (by have := h.sz; have := h.le; omega), h2]
    rfl

theorem Left16.last {u cur i : Nat} {cs : Array Value} (h : Left16 u cur (i + 1) cs) (hc : cur < 16) : (cs.setIfInBounds i (u8v (chN cur))).toList.drop i = (dgs 16 u).map u8v ∧ (cs.setIfInBounds i (u8v (chN cur))).size = 65 := by
  obtain ⟨ds, h1, h2⟩ := h.have_
  refine ⟨?_, by simp [h.sz]⟩
  rw [drop_set _ _ _ (by have := h.sz; have := h.le; omega), h2, h1, dgs_small hc]
  rfl

set_option maxRecDepth 100000 in
set_option maxHeartbeats 4000000 in
theorem bits_16 (u : Nat) (hu : u ≤ 9007199254740992) (w : World) (h : Tabs w) : Calls Tryz.prog 145 #[.slice none 0 0, .int .u64 (u : Int), .int .i64 16, .bool false, .bool false] w fun e w' => ∃ s : ByteArray, e = .returned (.tuple #[.slice none 0 0, .string s]) ∧ s.data.toList = dgs 16 u ∧ Below w.heap.size w w' := by
  have hz : ∀ W, Sem.run Tryz.prog (zeroValue 165) W = .ok (.agg (Array.replicate 65 (.int .u8 0))) W := fun W => by kernel_rfl
  go_enter Tryz.func145, Tryz.ntmps145
  go_wp2_with fail
  refine (pow2_16 _).mono ?_
  rintro e w1 ⟨rfl, hw⟩
  cases hw
  go_wp2_with fail
  refine (tz_16 _ (h.up (ba1 _ _))).mono ?_
  rintro e w1 ⟨rfl, hw⟩
  cases hw
  go_wp2_with fail
  go_name_bytes SM hSM
  have eSM : SM = digs36 := by rw [← hSM]; rfl
  subst eSM
  clear hSM
  go_loopw [13, 1] (fun vi vu wr => ∃ (i cur : Nat) (cs : Array Value), 49 < i ∧ i ≤ 65 ∧ vi = .int .i64 (i : Int) ∧ vu = .int .u64 (cur : Int) ∧ cur ≤ 9007199254740992 ∧ Left16 u cur i cs ∧ Box wr w.heap.size 165 cs ∧ Below w.heap.size w wr) (fun _ vu _ => (intOf vu).toNat)
  case atStart =>
    refine ⟨65, u, _, by omega, by omega, rfl, rfl, hu, ⟨?_, by omega, ?_, [], by simp, ?_⟩, Box.new _ _ _, ba1 _ _⟩
    · simp
    · exact Nat.lt_of_le_of_lt hu (by decide)
    · simp
  case round =>
    obtain ⟨i1, cur, cs, hi, hi65, rfl, rfl, hcu, HL, hbox, hbel⟩ := hrel
    obtain ⟨i, rfl⟩ : ∃ i, i1 = i + 1 := ⟨i1 - 1, by omega⟩
    have hsz := HL.sz
    obtain ⟨v0, hv0⟩ : ∃ v0, cs[i]? = some v0 := ⟨_, Array.getElem?_eq_getElem (by omega)⟩
    have hci := hbox.c i hv0
    have hfi := hbox.f i
    clear hsz hv0
    by_cases hc : 16 ≤ cur
    · obtain ⟨h49, HS⟩ := HL.step hc
      have t1 := and15 cur (by omega)
      have hr : cur % 16 < 16 := Nat.mod_lt _ (by omega)
      have hX := fun W => idx36 .u64 (cur % 16) hr W
      generalize cur % 16 = r at *
      go_wp2
      refine ⟨⟨i, cur / 16, _, h49, by omega, rfl, by simp, by omega, HS, hbox.set i _, hbel.setCell (p := ⟨_, _, none⟩) (Nat.le_refl _) _⟩, by simp [intOf]; omega⟩
    · obtain ⟨h1, h2⟩ := HL.last (by omega)
      have hX := fun W => idx36 .u64 cur (by omega) W
      unfold digs36 at hX
      have hal : Tryz.prog.arrayLen 165 = 65 := by kernel_rfl
      have hsl : ∀ W, (Instr.sliceAt 165 (.pointer (some ⟨w.heap.size, 0, none⟩)) (some (.int .i64 (i : Int))) none none).run Tryz.prog W = .ok (.slice (some ⟨w.heap.size, i, none⟩) (65 - i) (65 - i)) W := fun W => by
        rw [run_sliceAt_array_l W 165 ⟨w.heap.size, 0, none⟩ (by kernel_rfl) .i64 (i : Int) (by omega) (by rw [hal]; omega)]
        go_simp
        omega
      clear hal
      have hlen : (dgs 16 u).length = 65 - i := by
        have := congrArg List.length h1
        simp only [List.length_drop, List.length_map, Array.length_toList, h2] at this
        omega
      have hcv : (convert 31 9 (.slice (some ⟨w.heap.size, i, none⟩) (65 - i) (65 - i))).run Tryz.prog (wr.setCell ⟨w.heap.size, i, none⟩ (.int .u8 ((chN cur).toNat : Int))) = .ok (.string ⟨(dgs 16 u).toArray⟩) (wr.setCell ⟨w.heap.size, i, none⟩ (.int .u8 ((chN cur).toNat : Int))) := by
        have h := run_convert_bytes_back (P := Tryz.prog) (wr.setCell ⟨w.heap.size, i, none⟩ (.int .u8 ((chN cur).toNat : Int))) 31 9 5 ⟨w.heap.size, i, none⟩ (65 - i) (dgs 16 u) Tryz.underlying31 Tryz.underlying5 Tryz.underlying9 (fun j hj => by
          have hb := (hbox.set i (u8v (chN cur))).c (i + j) (v := u8v (dgs 16 u)[j]) (by
            rw [← Array.getElem?_toList, ← List.getElem?_drop, h1, List.getElem?_map, List.getElem?_eq_getElem hj]
            rfl)
          rw [Lib.add_plain]
          exact hb)
        rw [hlen] at h
        exact h
      have HB := Lib.hid (hbel.setCell (p := ⟨w.heap.size, i, none⟩) (Nat.le_refl _) (Value.int .u8 ((chN cur).toNat : Int)))
      clear h1 h2 hlen HL hbox hbel h
      go_wp2
      refine bodyPost_ret (v := .tuple #[.slice none 0 0, .string ⟨(dgs 16 u).toArray⟩]) (by simp [results, Tryz.results145, go_sem]) rfl ?_
      exact ⟨_, rfl, rfl, HB.out⟩

/-- strconv.FormatInt at base 16 -/
theorem fmt_16 (u : Nat) (hu : u ≤ 9007199254740992) (w : World) (h : Tabs w) : Calls Tryz.prog 119 #[.int .i64 (u : Int), .int .i64 16] w (TextEnds (dgs 16 u) w) := by
  have key : Calls Tryz.prog 130 #[.int .i64 (u : Int), .int .i64 16] w (TextEnds (dgs 16 u) w) := by
    go_enter Tryz.func130, Tryz.ntmps130
    go_wp2_with fail
    refine (bits_16 u hu _ h).mono ?_
    rintro e w1 ⟨s, rfl, hs, hb⟩
    go_wp2
    go_ret
    exact ⟨s, rfl, hs, hb⟩
  go_enter Tryz.func119, Tryz.ntmps119
  go_wp2_with fail
  refine key.mono ?_
  rintro e w1 ⟨s, rfl, hs, hb⟩
  go_wp2
  go_ret
  exact ⟨s, rfl, hs, hb⟩



set_option maxHeartbeats 1000000 in
theorem text_16 (n : Int) (w : World) (h : Tabs w) (hf : fitN n = true) : Calls Tryz.prog 100 #[.int .i64 n, .int .i64 16] w (TextEnds (textN n 16) w) := by
  rw [textN, if_pos ⟨hf, .inr rfl⟩]
  obtain ⟨h0, h1⟩ := fit_iff.1 hf
  obtain ⟨u, rfl⟩ := Int.eq_ofNat_of_zero_le h0
  have key : Calls Tryz.prog 119 #[.int .i64 (u : Int), .int .i64 16] w (TextEnds (dgs 16 u) w) := fmt_16 u (by omega) w h
  go_enter Tryz.func100, Tryz.ntmps100
  go_wp2_with fail
  refine (fits_any (u : Int) _).mono ?_
  rintro e w1 ⟨rfl, hw⟩
  subst hw
  rw [hf]
  go_wp2_with fail
  refine (isBase_any 16 _).mono ?_
  rintro e w2 ⟨rfl, hw⟩
  subst hw
  rw [show baseN 16 = true from rfl]
  go_wp2_with fail
  refine key.mono ?_
  rintro e w3 ⟨s, rfl, hs, hbl⟩
  go_wp2
  go_ret
  exact ⟨s, rfl, by simpa using hs, hbl⟩
end Go.Proofs.YtnkhghjcfhpeiaaGreatDoor.Nm

/-
  What is asked of the calls of quote.
-/
namespace Go.Proofs.YtnkhghjcfhpeiaaGreatDoor
open Go.RowKit
/-- what a world must bear for the calls -/
def TQ (w : World) : Prop := Tabs w
theorem TQ.up {w w' : World} (h : TQ w) (hb : Below w.heap.size w w') : TQ w' := Tabs.up h hb
def UnqEnds (q : Bs × Nat × Int) (w : World) (E : Ending) (w' : World) : Prop := E = .returned (.tuple #[.string (tb q.1), .int .i64 (q.2.1 : Int), .int .i64 q.2.2]) ∧ Below w.heap.size w w'
def QuoEnds (q : Bs × Int) (w : World) (E : Ending) (w' : World) : Prop := E = .returned (.tuple #[.string (tb q.1), .int .i64 q.2]) ∧ Below w.heap.size w w'
def PV : Prop := ∀ (s : Bs) (W : World), s.length ≤ 4000 → TQ W → Calls Tryz.prog 71 #[.string (tb s)] W (BoolEnds (validL s) W)
def PQ : Prop := ∀ (s : Bs) (W : World), s.length ≤ 4000 → TQ W → Calls Tryz.prog 56 #[.string (tb s)] W (QuoEnds (quoteQ s) W)
def PU : Prop := ∀ (s : Bs) (W : World), s.length ≤ 4000 → TQ W → Calls Tryz.prog 88 #[.string (tb s)] W (UnqEnds (unqL s) W)
end Go.Proofs.YtnkhghjcfhpeiaaGreatDoor

/-
  What the laws of json ask of its calls.
-/
namespace Go.Proofs.YtnkhghjcfhpeiaaGreatDoor
open Go.RowKit
/-- what a world must bear for the calls -/
def TJ (w : World) : Prop := TQ w
theorem TJ.up {w w' : World} (h : TJ w) (hb : Below w.heap.size w w') : TJ w' := TQ.up h hb
mutual
/-- how great a value is: its values, texts and keys -/
def wtJ : Jv → Nat | .mk _ t ks vs => 1 + t.length + wtK ks + wtL vs
def wtL : List Jv → Nat | [] => 0 | v :: r => wtJ v + wtL r
def wtK : List Bs → Nat | [] => 0 | k :: r => 1 + k.length + wtK r
end
def anyB (_ : Nat) : Prop := True
def ParEnds (q : Jv × Int × Nat) (w : World) (E : Ending) (w' : World) : Prop := ∃ K S : Sli, E = .returned (.tuple #[jx q.1 K S, .int .i64 q.2.1, .int .i64 (q.2.2 : Int)]) ∧ JV w' anyB q.1 (jx q.1 K S) ∧ Below w.heap.size w w'
def PriEnds (q : Bs × Int) (w : World) (E : Ending) (w' : World) : Prop := E = .returned (.tuple #[.string (tb q.1), .int .i64 q.2]) ∧ Below w.heap.size w w'
def JPR : Prop := ∀ (v : Jv) (K S : Sli) (W : World), wtJ v ≤ 10000 → JV W anyB v (jx v K S) → TJ W → Calls Tryz.prog 16 #[jx v K S] W (BoolEnds (rightJ v) W)
def JPP : Prop := ∀ (v : Jv) (K S : Sli) (W : World), wtJ v ≤ 10000 → JV W anyB v (jx v K S) → TJ W → Calls Tryz.prog 12 #[jx v K S] W (PriEnds (printJ v) W)
def JPJ : Prop := ∀ (s : Bs) (W : World), s.length ≤ 1000000 → TJ W → Calls Tryz.prog 13 #[.string (tb s)] W (ParEnds (parseJ s) W)
def JPS : Prop := ∀ (a b : Jv) (K S K2 S2 : Sli) (W : World), wtJ a ≤ 10000 → JV W anyB a (jx a K S) → JV W anyB b (jx b K2 S2) → TJ W → Calls Tryz.prog 14 #[jx a K S, jx b K2 S2] W (BoolEnds (sameJ a b) W)
end Go.Proofs.YtnkhghjcfhpeiaaGreatDoor

/-
  Sameness by a list of what is still to do, as lists alone.
-/
namespace Go.Proofs.YtnkhghjcfhpeiaaGreatDoor
open Go.RowKit
/-- two lists of values that are to be the same -/
abbrev JPair := List Jv × List Jv
/-- are all of them the same? -/
def allT : List JPair → Bool | [] => true | p :: r => sameL p.1 p.2 && allT r
theorem allT_app : ∀ (a b : List JPair), allT (a ++ b) = (allT a && allT b)
  | [], b => by simp [allT]
  | p :: r, b => by simp [allT, allT_app r b, Bool.and_assoc]
/-- how much there is still to do -/
def wtT : List JPair → Nat | [] => 0 | p :: r => 1 + wtL p.1 + wtT r
theorem wtT_app : ∀ (a b : List JPair), wtT (a ++ b) = wtT a + wtT b
  | [], b => by simp [wtT]
  | p :: r, b => by
    have := wtT_app r b
    simp only [List.cons_append, wtT, this]
    omega
theorem wtT_len : ∀ a : List JPair, a.length ≤ wtT a
  | [] => Nat.le_refl _
  | p :: r => by
    have := wtT_len r
    rw [wtT, List.length_cons]
    omega
/-- what sameAlone tells -/
def aloneS (a b : Jv) : Bool := decide (a.k = b.k) && decide (a.t = b.t) && decide (a.ks = b.ks) && decide (a.vs.length = b.vs.length)
theorem alone_no {x y : Jv} (h : aloneS x y = false) : sameJ x y = false := by
  obtain ⟨k, t, ks, vs⟩ := x
  obtain ⟨k2, t2, ks2, vs2⟩ := y
  cases hs : sameJ (.mk k t ks vs) (.mk k2 t2 ks2 vs2) with
  | false => rfl
  | true =>
    have he := (same_iff _ _).1 hs
    rw [he] at h
    simp [aloneS] at h
theorem alone_yes {x y : Jv} (h : aloneS x y = true) : sameJ x y = sameL x.vs y.vs ∧ x.vs.length = y.vs.length := by
  obtain ⟨k, t, ks, vs⟩ := x
  obtain ⟨k2, t2, ks2, vs2⟩ := y
  simp only [aloneS, Jv.k, Jv.t, Jv.ks, Jv.vs, Bool.and_eq_true] at h
  obtain ⟨⟨⟨h1, h2⟩, h3⟩, h4⟩ := h
  obtain rfl := of_decide_eq_true h1
  obtain rfl := of_decide_eq_true h2
  obtain rfl := of_decide_eq_true h3
  replace h4 := of_decide_eq_true h4
  refine ⟨?_, h4⟩
  rw [sameJ]
  simp [Jv.vs]
theorem wt_kids (x : Jv) : 1 + wtL x.vs ≤ wtJ x := by
  obtain ⟨k, t, ks, vs⟩ := x
  rw [wtJ]
  simp only [Jv.vs]
  omega
/-- what a pair that is looked at adds to what is to do -/
def pushT (T : List JPair) (x y : Jv) : List JPair := if x.vs = [] then T else T ++ [(x.vs, y.vs)]
theorem push_step {T : List JPair} {x y : Jv} (h : aloneS x y = true) (b : Bool) : (allT (pushT T x y) && b) = (allT T && (sameJ x y && b)) := by
  obtain ⟨h1, h2⟩ := alone_yes h
  unfold pushT
  split
  · rename_i h3
    rw [h1, h3]
    have : y.vs = [] := by
      rw [h3] at h2
      exact List.eq_nil_of_length_eq_zero h2.symm
    rw [this]
    simp [sameL]
  · rw [allT_app, h1]
    simp only [allT, Bool.and_true]
    rw [Bool.and_assoc]
theorem push_wt {T : List JPair} {x y : Jv} : wtT (pushT T x y) ≤ wtT T + wtJ x := by
  unfold pushT
  have := wt_kids x
  split
  · omega
  · rw [wtT_app]
    simp only [wtT]
    omega
theorem sameL_drop {us ws : List Jv} {i : Nat} {x y : Jv} (hx : us[i]? = some x) (hy : ws[i]? = some y) : sameL (us.drop i) (ws.drop i) = (sameJ x y && sameL (us.drop (i + 1)) (ws.drop (i + 1))) := by
  obtain ⟨h1, h2⟩ := List.getElem?_eq_some_iff.1 hx
  obtain ⟨h3, h4⟩ := List.getElem?_eq_some_iff.1 hy
  rw [List.drop_eq_getElem_cons h1, List.drop_eq_getElem_cons h3, h2, h4, sameL]
theorem wtL_drop {us : List Jv} {i : Nat} {x : Jv} (hx : us[i]? = some x) : wtL (us.drop i) = wtJ x + wtL (us.drop (i + 1)) := by
  obtain ⟨h1, h2⟩ := List.getElem?_eq_some_iff.1 hx
  rw [List.drop_eq_getElem_cons h1, h2, wtL]
end Go.Proofs.YtnkhghjcfhpeiaaGreatDoor

/-
  What json.Same has still to do, in memory: a row of pairs of slices.
-/
namespace Go.Proofs.YtnkhghjcfhpeiaaGreatDoor
open Go.RowKit
theorem infoPr : (Tryz.prog.info? 54).map (fun i => (i.zero, i.size, i.bytes)) = some (some (.agg #[.slice none 0 0, .slice none 0 0]), 2, 48) := by kernel_rfl
/-- two slices that read as two lists of values -/
def PrP (w : World) (P : Nat → Prop) (p : JPair) (x y : Value) : Prop := ∃ (S S2 : Sli) (cs cs2 : List Value), x = .slice S.A S.n S.c ∧ y = .slice S2.A S2.n S2.c ∧ SlP w P S 4 cs ∧ JL w P p.1 cs ∧ SlP w P S2 4 cs2 ∧ JL w P p.2 cs2 ∧ p.1.length = p.2.length
/-- a row of pairs -/
def TL (w : World) (P : Nat → Prop) : List JPair → List Value → Prop
  | [], cs => cs = []
  | p :: r, cs => ∃ x y cs', cs = x :: y :: cs' ∧ PrP w P p x y ∧ TL w P r cs'
theorem TL.len {w : World} {P : Nat → Prop} : ∀ {T : List JPair} {cs : List Value}, TL w P T cs → cs.length = T.length * 2
  | [], cs, h => by
    rw [TL] at h
    subst h
    rfl
  | p :: r, cs, h => by
    rw [TL] at h
    obtain ⟨x, y, cs', rfl, _, h2⟩ := h
    have := TL.len h2
    simp only [List.length_cons]
    omega
theorem TL.snoc {w : World} {P : Nat → Prop} {p : JPair} {x y : Value} (hp : PrP w P p x y) : ∀ {T : List JPair} {cs : List Value}, TL w P T cs → TL w P (T ++ [p]) (cs ++ [x, y])
  | [], cs, h => by
    rw [TL] at h
    subst h
    rw [List.nil_append, TL]
    exact ⟨x, y, [], rfl, hp, by rw [TL]⟩
  | q :: r, cs, h => by
    rw [TL] at h
    obtain ⟨a, b, cs', rfl, h1, h2⟩ := h
    rw [List.cons_append, TL]
    exact ⟨a, b, cs' ++ [x, y], rfl, h1, TL.snoc hp h2⟩
theorem TL.last {w : World} {P : Nat → Prop} {p : JPair} : ∀ {T : List JPair} {cs : List Value}, TL w P (T ++ [p]) cs → ∃ cs' x y, cs = cs' ++ [x, y] ∧ TL w P T cs' ∧ PrP w P p x y
  | [], cs, h => by
    rw [List.nil_append, TL] at h
    obtain ⟨x, y, cs', rfl, h1, h2⟩ := h
    rw [TL] at h2
    subst h2
    exact ⟨[], x, y, rfl, by rw [TL], h1⟩
  | q :: r, cs, h => by
    rw [List.cons_append, TL] at h
    obtain ⟨a, b, cs', rfl, h1, h2⟩ := h
    obtain ⟨cs2, x, y, rfl, h3, h4⟩ := TL.last h2
    exact ⟨a :: b :: cs2, x, y, rfl, by rw [TL]; exact ⟨a, b, cs2, rfl, h1, h3⟩, h4⟩
/-- the last of a row of pairs, and the row without it -/
theorem row_last {w : World} {B : Nat} {e : TypeId} {A : Option Addr} {n m c : Nat} {cs : List Value} {x y : Value} (h : w.ownsRow B e 2 (.slice A n c) n (cs ++ [x, y])) (hn : n = m + 1) (hl : cs.length = m * 2) :
    ∃ g, A = some ⟨g, 0, none⟩ ∧ B ≤ g ∧ g < w.heap.size ∧ w.cell? ⟨g, m * 2, none⟩ = some x ∧ w.cell? ⟨g, m * 2 + 1, none⟩ = some y ∧ w.ownsRow B e 2 (.slice A m c) m cs ∧ n ≤ c ∧ c ≤ maxLen := by
  rcases h.2 with ⟨_, h2⟩ | ⟨g, cap, cur, h1, hb, hg, hnc, hm, hcs, hv⟩
  · omega
  · simp only [Value.slice.injEq] at h1
    obtain ⟨rfl, -, rfl⟩ := h1
    have hat : ∀ (j : Nat) u, (cs ++ [x, y])[j]? = some u → w.cell? ⟨g, j, none⟩ = some u := fun j u hu => by
      rw [cell_of_row w g j cur e (0, 0) hg, ← Array.getElem?_toList]
      rw [← hv, List.getElem?_take] at hu
      split at hu
      · exact hu
      · cases hu
    refine ⟨g, rfl, hb, (Array.getElem?_eq_some_iff.1 hg).1, hat _ _ ?_, hat _ _ ?_, ⟨hl, .inr ⟨g, c, cur, rfl, hb, hg, by omega, hm, hcs, ?_⟩⟩, hnc, hm⟩
    · rw [List.getElem?_append_right (by omega), hl, Nat.sub_self]
      rfl
    · rw [List.getElem?_append_right (by omega), hl, show m * 2 + 1 - m * 2 = 1 by omega]
      rfl
    · have h3 := congrArg (List.take (m * 2)) hv
      have h4 : (cs ++ [x, y]).take (m * 2) = cs := by rw [← hl]; exact List.take_left
      rw [List.take_take, Nat.min_eq_left (by omega), h4] at h3
      exact h3
/-- the blocks below -/
def BlP (gt : Nat) (b : Nat) : Prop := b < gt
theorem keep_gt {gt : Nat} {w w' : World} (h : Below gt w w') (hs : w.heap.size ≤ w'.heap.size) : Keeps (BlP gt) (BlP gt) w w' := ⟨fun b hp _ o => h.cell (p := ⟨b, o, none⟩) hp, hs, fun _ hp _ => hp⟩
/-- what is to do, in memory; all that is read lies below -/
structure Sm (w0 wr : World) (gt : Nat) (T : List JPair) (A : Option Addr) (c : Nat) : Prop where
  below : Below gt w0 wr
  row : ∃ cs, wr.ownsRow gt 54 2 (.slice A T.length c) T.length cs ∧ TL w0 (BlP gt) T cs
  lo : gt < w0.heap.size
theorem Sm.up {w0 wr w' : World} {gt : Nat} {T : List JPair} {A : Option Addr} {c : Nat} (h : Sm w0 wr gt T A c) (hb : Below wr.heap.size wr w') : Sm w0 w' gt T A c := by
  obtain ⟨cs, h1, h2⟩ := h.row
  exact ⟨h.below.trans (hb.mono (Nat.le_of_lt (Nat.lt_of_lt_of_le h.lo h.below.size))), ⟨cs, Row.up (s := ⟨A, T.length, c⟩) h1 hb, h2⟩, h.lo⟩
theorem Sm.keep {w0 wr : World} {gt : Nat} {T : List JPair} {A : Option Addr} {c : Nat} (h : Sm w0 wr gt T A c) : Keeps (BlP gt) (BlP gt) w0 wr := keep_gt h.below h.below.size
theorem Sm.last {w0 wr : World} {gt : Nat} {T : List JPair} {p : JPair} {A : Option Addr} {c : Nat} (h : Sm w0 wr gt (T ++ [p]) A c) :
    ∃ g x y, A = some ⟨g, 0, none⟩ ∧ g < wr.heap.size ∧ wr.cell? ⟨g, T.length * 2, none⟩ = some x ∧ wr.cell? ⟨g, T.length * 2 + 1, none⟩ = some y ∧ PrP w0 (BlP gt) p x y ∧ Sm w0 wr gt T A c ∧ T.length + 1 ≤ c ∧ c ≤ maxLen := by
  obtain ⟨cs, h1, h2⟩ := h.row
  obtain ⟨cs', x, y, rfl, h3, h4⟩ := TL.last h2
  obtain ⟨g, h5, h6, h7, h8, h9, h10, h11, h12⟩ := row_last h1 (by simp) h3.len
  exact ⟨g, x, y, h5, h7, h8, h9, h4, ⟨h.below, ⟨cs', h10, h3⟩, h.lo⟩, by simpa using h11, h12⟩
/-- a pair more -/
theorem Sm.push {w0 wr w' : World} {gt : Nat} {T : List JPair} {p : JPair} {A A' : Option Addr} {c c' : Nat} {x y : Value} {cs : List Value} (h : Sm w0 wr gt T A c) (hc : wr.ownsRow gt 54 2 (.slice A T.length c) T.length cs) (ht : TL w0 (BlP gt) T cs)
    (hp : PrP w0 (BlP gt) p x y) (h1 : w'.ownsRow gt 54 2 (.slice A' (T.length + 1) c') (T.length + 1) (cs ++ [x, y])) (h2 : wr.grownBy w' (Value.slice A T.length c).ownBlock) : Sm w0 w' gt (T ++ [p]) A' c' := by
  have hl : (T ++ [p]).length = T.length + 1 := by simp
  refine ⟨grown_base hc h2 h.below (Nat.le_refl _) (Nat.le_of_lt (Nat.lt_of_lt_of_le h.lo h.below.size)), ⟨cs ++ [x, y], ?_, TL.snoc hp ht⟩, h.lo⟩
  rw [hl]
  exact h1
end Go.Proofs.YtnkhghjcfhpeiaaGreatDoor
