/-
  The walk of the document's own lines; what its Same tells of the same heads.
-/
import Derived.Test.YteefjcllbnmegaaGreatDoorHdF
import Derived.Test.YteefjcllbnmegaaGreatDoorRefS
namespace Go.Proofs.YteefjcllbnmegaaGreatDoor
open Go.RowKit

/-- a row of the call's own that grows -/
structure Out (e : TypeId) (sz : Nat) (w wr : World) (s : Sli) (cs : List Value) : Prop where
  row : Row wr w.heap.size e sz s cs
  hb : Below w.heap.size w wr
section
variable {e : TypeId} {sz : Nat} {w wr w' : World} {s : Sli} {cs : List Value}
theorem Out.le (h : Out e sz w wr s cs) : w.heap.size ≤ wr.heap.size := h.hb.size
theorem Out.up (h : Out e sz w wr s cs) (hb : Below wr.heap.size wr w') : Out e sz w w' s cs := ⟨h.row.up hb, bon h.hb hb⟩
theorem Out.nil (e : TypeId) (sz : Nat) (w wr : World) (hb : Below w.heap.size w wr) : Out e sz w wr ⟨none, 0, 0⟩ [] := ⟨World.ownsRow_nil _ _ _ _, hb⟩
theorem Out.app (h : Out e sz w wr s cs) {A : Option Addr} {n c : Nat} {cs' : List Value} (h1 : w'.ownsRow w.heap.size e sz (.slice A n c) n cs') (h2 : wr.grownBy w' (Value.slice s.A s.n s.c).ownBlock) : Out e sz w w' ⟨A, n, c⟩ cs' :=
  ⟨h1, grown_base h.row h2 h.hb (Nat.le_refl _) h.le⟩
end
/-- texts are handed back -/
def StrsEnds (ls : List Bs) (w : World) (e : Ending) (w' : World) : Prop := ∃ (s : Sli) (xs : List ByteArray), e = .returned (.slice s.A s.n s.c) ∧ xs.map dl = ls ∧ Ss w' s xs ∧ Below w.heap.size w w'

theorem drop_cons {s : ByteArray} {k : Nat} (hk : k < s.size) : (dl s).drop k = s[k] :: (dl s).drop (k + 1) := by
  have h := dl_at hk
  obtain ⟨h1, h2⟩ := List.getElem?_eq_some_iff.1 h
  rw [List.drop_eq_getElem_cons h1, h2]
theorem ext_succ {s : ByteArray} {f k : Nat} (hf : f ≤ k) (hk : k < s.size) : dl (s.extract f (k + 1)) = dl (s.extract f k) ++ [s[k]] := by
  rw [dl_ext, dl_ext, List.take_add_one, dl_at hk, List.drop_append_of_le_length (by rw [List.length_take, dl_len]; omega)]
  rfl

theorem map_dl_inj {xs ys : List ByteArray} (h : xs.map dl = ys.map dl) : xs = ys := by
  induction xs generalizing ys with
  | nil => cases ys with
    | nil => rfl
    | cons y r => cases h
  | cons x r ih => cases ys with
    | nil => cases h
    | cons y t =>
      simp only [List.map_cons, List.cons.injEq] at h
      rw [dl_inj h.1, ih h.2]

/-- a text, of its bytes -/
abbrev tx (l : Bs) : ByteArray := ⟨l.toArray⟩
theorem Ss.new (w : World) (xs : List ByteArray) (n : Nat) (hn : xs.length = n) (hm : n ≤ 4096) : Ss (w.alloc (.cells (svs xs).toArray 9)) ⟨some ⟨w.heap.size, 0, none⟩, n, n⟩ xs where
  len := hn
  rd _ := ⟨w.heap.size, 0, rfl, by simp, fun j u hu => by rw [Nat.zero_add]; exact (Box.new w 9 (svs xs).toArray).c j (by simpa using hu)⟩
  cap h := by cases h
  le := ⟨Nat.le_refl _, by unfold maxLen; simp only; omega⟩
theorem Fs.new (w : World) (xs : List Fd) (n : Nat) (hn : xs.length = n) (hm : n ≤ 4096) : Fs (w.alloc (.cells (fvs xs).toArray 36)) ⟨some ⟨w.heap.size, 0, none⟩, n, n⟩ xs where
  len := hn
  rd _ := ⟨w.heap.size, 0, rfl, by simp, fun j u hu => by rw [Nat.zero_add]; exact (Box.new w 36 (fvs xs).toArray).c j (by simpa using hu)⟩
  cap h := by cases h
  le := ⟨Nat.le_refl _, by unfold maxLen; simp only; omega⟩
/-- a text told by its bytes -/
theorem tx_of {s : ByteArray} {l : Bs} (h : dl s = l) : s = tx l := dl_inj (h.trans (dl_mk l).symm)
theorem txs_of {xs : List ByteArray} {ls : List Bs} (h : xs.map dl = ls) : xs = ls.map tx := map_dl_inj (by rw [h, List.map_map]; exact (List.map_id' ls).symm.trans (List.map_congr_left fun l _ => (dl_mk l).symm))


/-- what lines has still to tell -/
def restL (s : ByteArray) (f k : Nat) : List Bs := linesA (dl (s.extract f k)) ((dl s).drop k)
theorem restL_start (s : ByteArray) : restL s 0 0 = linesL (dl s) := by
  rw [restL, dl_ext]
  rfl
theorem restL_step {s : ByteArray} {f k : Nat} (hf : f ≤ k) (hk : k + 1 < s.size) (h : ¬ ((s[k]'(by omega)).toNat = 13 ∧ (s[k + 1]).toNat = 10)) : restL s f k = restL s f (k + 1) := by
  have hne : ¬ (s[k]'(by omega) = 13 ∧ s[k + 1] = 10) := fun e => h ⟨by rw [e.1]; rfl, by rw [e.2]; rfl⟩
  rw [restL, restL, drop_cons (show k < s.size by omega), drop_cons hk, linesA, if_neg hne, ext_succ hf (by omega)]
theorem restL_cut {s : ByteArray} {f k : Nat} (hk : k + 1 < s.size) (h1 : (s[k]'(by omega)).toNat = 13) (h2 : (s[k + 1]).toNat = 10) : restL s f k = dl (s.extract f k) :: restL s (k + 2) (k + 2) := by
  have e1 : s[k]'(by omega) = 13 := UInt8.toNat_inj.1 h1
  have e2 : s[k + 1] = 10 := UInt8.toNat_inj.1 h2
  rw [restL, restL, drop_cons (show k < s.size by omega), drop_cons hk, linesA, if_pos ⟨e1, e2⟩]
  congr 2
  rw [dl_ext, List.drop_take]
  simp
theorem restL_end {s : ByteArray} {f k : Nat} (hf : f ≤ k) (hk : k ≤ s.size) (h : ¬ k + 1 < s.size) : restL s f k = [dl (s.extract f s.size)] := by
  by_cases hlt : k < s.size
  · obtain he : s.size = k + 1 := by omega
    rw [restL, drop_cons hlt, List.drop_of_length_le (by rw [dl_len]; omega), linesA, ← ext_succ hf hlt, he]
  · obtain rfl : k = s.size := by omega
    rw [restL, List.drop_of_length_le (by rw [dl_len]; exact Nat.le_refl _), linesA]
theorem info_parts {P : Program} {t : TypeId} {z : Value} {n b : Nat} (h : (P.info? t).map (fun i => (i.zero, i.size, i.bytes)) = some (some z, n, b)) : ∃ i, P.info? t = some i ∧ i.zero = some z ∧ i.size = n ∧ i.bytes = b := by
  cases hi : P.info? t with
  | none => rw [hi] at h; cases h
  | some i =>
    rw [hi] at h
    simp only [Option.map_some, Option.some.injEq, Prod.mk.injEq] at h
    exact ⟨i, rfl, h.1, h.2.1, h.2.2⟩

set_option maxRecDepth 100000 in
set_option maxHeartbeats 2000000 in
theorem rlines_any (s : ByteArray) (hs : s.size ≤ 4096) (w : World) : Calls Tryz.prog 30 #[.string s] w (StrsEnds (linesL (dl s)) w) := by
  obtain ⟨i9, hi, hz0, hz1, hz2⟩ := info_parts info9
  go_enter Tryz.func30, Tryz.ntmps30
  go_wp2_with fail
  go_loopw [5, 4, 3] (fun i f o wr => ∃ (k m : Nat) (O : Sli) (xs : List ByteArray), k ≤ s.size ∧ m ≤ k ∧ O.n ≤ k ∧ i = .int .i64 (k : Int) ∧ f = .int .i64 (m : Int) ∧ o = .slice O.A O.n O.c ∧ Hid (linesL (dl s) = xs.map dl ++ restL s m k) ∧ Hid (Out 9 1 w wr O (svs xs))) (fun i _ _ _ => s.size + 1 - (intOf i).toNat)
  case atStart => exact ⟨0, 0, ⟨none, 0, 0⟩, [], by omega, by omega, Nat.le_refl _, rfl, rfl, rfl, Lib.hid (by rw [restL_start]; rfl), Lib.hid (Out.nil _ _ _ _ (Below.refl _ _))⟩
  case round =>
    obtain ⟨k, m, O, xs, hk, hm, hn, rfl, rfl, rfl, HX, HO⟩ := hrel
    by_cases hlt : k + 1 < s.size
    · have hlti : (k : Int) + 1 < (s.size : Int) := by omega
      have hk1 : k < s.size := by omega
      have hs1 : ((k : Int) + 1).toNat = k + 1 := by omega
      have hc := (s[k]).toNat_lt
      have hc1 := (s[k + 1]).toNat_lt
      by_cases hgo : (s[k]).toNat = 13 ∧ (s[k + 1]).toNat = 10
      · have HC := Lib.hid (restL_cut (f := m) hlt hgo.1 hgo.2)
        obtain ⟨h13, h10⟩ := hgo
        have hki : (m : Int) ≤ (k : Int) := by omega
        have HN : Hid (linesL (dl s) = (xs ++ [s.extract m k]).map dl ++ restL s (k + 2) (k + 2)) := Lib.hid (by
          rw [HX.out, HC.out]
          simp)
        have HSrc := Lib.hid (src_one wr 9 (svs [s.extract m k]) 1 1 rfl)
        have HO2 := Lib.hid (HO.out.up (ba1 wr (.cells #[.string (s.extract m k)] 9)))
        have hBw : w.heap.size ≤ (wr.alloc (.cells #[.string (s.extract m k)] 9)).heap.size := HO2.out.le
        go_wp2_with (at_builtin; refine wpList_app _ rfl _ _ 25 rfl w.heap.size 9 i9 _ 1 16 (by decide) Tryz.underlying25 hi hz0 hz1 hz2 rfl (.slice O.A O.n O.c) O.n (svs xs) rfl HO2.out.row (some ⟨wr.heap.size, 0, none⟩) 1 1 (svs [s.extract m k]) rfl HSrc.out (svs_one _) ?_ ?_ hBw (O.n + 1) rfl ?_; (unfold maxLen; omega); omega; intro A' c' w2 h1 h2 h3; refine Hid.out ?_)
        have HO3 := Lib.hid (HO2.out.app (cs' := svs (xs ++ [s.extract m k])) (by rw [svs, List.map_append]; exact h1) h2)
        clear h1 h2 h3 HO2 HSrc
        refine Lib.hid ?_
        go_wp2
        go_roundw
        case rel => exact ⟨k + 2, k + 2, ⟨A', O.n + 1, c'⟩, xs ++ [s.extract m k], by omega, by omega, by simp only; omega, by go_num, by go_num, rfl, HN, HO3⟩
        case measure => simp [intOf]; omega
      · have HN : Hid (linesL (dl s) = xs.map dl ++ restL s m (k + 1)) := Lib.hid (by rw [HX.out, restL_step hm hlt hgo])
        obtain ⟨a, ha⟩ : ∃ a, (s[k]).toNat = a := ⟨_, rfl⟩
        obtain ⟨b, hb⟩ : ∃ b, (s[k + 1]).toNat = b := ⟨_, rfl⟩
        rw [ha] at hgo hc
        rw [hb] at hgo hc1
        by_cases h13 : a = 13
        · have h10 : ((b : Int) == 10) = false := beq_eq_false_iff_ne.2 (by omega)
          subst h13
          clear hgo
          go_wp2
          go_roundw
          case rel => exact ⟨k + 1, m, O, xs, by omega, by omega, by omega, by go_num, rfl, rfl, HN, HO⟩
          case measure => simp [intOf]; omega
        · have e13 : ((a : Int) == 13) = false := beq_eq_false_iff_ne.2 (by omega)
          clear hgo h13
          go_wp2
          go_roundw
          case rel => exact ⟨k + 1, m, O, xs, by omega, by omega, by omega, by go_num, rfl, rfl, HN, HO⟩
          case measure => simp [intOf]; omega
    · have hlti : ¬ (k : Int) + 1 < (s.size : Int) := by omega
      have hmi : (m : Int) ≤ (s.size : Int) := by omega
      have HE : Hid ((xs ++ [s.extract m s.size]).map dl = linesL (dl s)) := Lib.hid (by
        rw [HX.out, restL_end hm hk hlt]
        simp)
      have HSrc := Lib.hid (src_one wr 9 (svs [s.extract m s.size]) 1 1 rfl)
      have HO2 := Lib.hid (HO.out.up (ba1 wr (.cells #[.string (s.extract m s.size)] 9)))
      have hBw : w.heap.size ≤ (wr.alloc (.cells #[.string (s.extract m s.size)] 9)).heap.size := HO2.out.le
      go_wp2_with (at_builtin; refine wpList_app _ rfl _ _ 25 rfl w.heap.size 9 i9 _ 1 16 (by decide) Tryz.underlying25 hi hz0 hz1 hz2 rfl (.slice O.A O.n O.c) O.n (svs xs) rfl HO2.out.row (some ⟨wr.heap.size, 0, none⟩) 1 1 (svs [s.extract m s.size]) rfl HSrc.out (svs_one _) ?_ ?_ hBw (O.n + 1) rfl ?_; (unfold maxLen; omega); omega; intro A' c' w2 h1 h2 h3; refine Hid.out ?_)
      have HO3 := Lib.hid (HO2.out.app (cs' := svs (xs ++ [s.extract m s.size])) (by rw [svs, List.map_append]; exact h1) h2)
      clear h1 h2 h3 HO2 HSrc
      refine Lib.hid ?_
      go_wp2
      go_ret
      exact ⟨⟨A', O.n + 1, c'⟩, _, rfl, HE.out, HO3.out.row.ss, HO3.out.hb⟩

set_option maxRecDepth 100000 in
set_option maxHeartbeats 2000000 in
theorem heads_same (m t : ByteArray) (st : Int) (r : ByteArray) (mi : Int) (S T : Sli) (fs : List Fd) (w : World) (hS : Fs w S fs) (hT : Fs w T fs) :
    Calls Tryz.prog 16 #[.agg #[.string m, .string t, .int .i64 st, .string r, .int .i64 mi, .slice S.A S.n S.c], .agg #[.string m, .string t, .int .i64 st, .string r, .int .i64 mi, .slice T.A T.n T.c]] w (BoolEnds true w) := by
  have hb := ba2 w (.cells #[.string m, .string t, .int .i64 st, .string r, .int .i64 mi, .slice S.A S.n S.c] 30) (.cells #[.string m, .string t, .int .i64 st, .string r, .int .i64 mi, .slice T.A T.n T.c] 30)
  have HC := Lib.hid (same_same S T fs _ (hS.up hb) (hT.up hb))
  simp only [Sli.v] at HC
  clear hS hT
  go_enter Tryz.func16, Tryz.ntmps16
  go_wp2_with fail
  refine HC.out.mono ?_
  rintro e w1 ⟨rfl, hb1⟩
  go_wp2
  go_ret
  exact ⟨rfl, bon hb hb1⟩
end Go.Proofs.YteefjcllbnmegaaGreatDoor
