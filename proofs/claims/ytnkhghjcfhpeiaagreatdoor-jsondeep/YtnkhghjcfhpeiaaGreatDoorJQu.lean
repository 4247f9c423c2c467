/-
  The walk of quote's own written.
-/
import Derived.Test.YtnkhghjcfhpeiaaGreatDoorQt
import Derived.Laws.Runes
import Derived.Test.YtnkhghjcfhpeiaaGreatDoorJPa
namespace Go.Proofs.YtnkhghjcfhpeiaaGreatDoor
open Go.RowKit

theorem rep48 (c : Nat) : Lib.repeatL [48] c = List.replicate c 48 := by
  have h := Lib.repeatL_replicate 48 1 c
  rw [show List.replicate 1 (48 : UInt8) = [48] from rfl, Nat.mul_one] at h
  exact h
theorem conv_ch {ch : Bs} (hc : charB ch = true) (W : World) : (convert 21 9 (.int .i32 (cpL ch : Int))).run Tryz.prog W = .ok (.string (tb ch)) W := by
  obtain ⟨h1, h2, h3, _⟩ := enc_cp hc
  rw [run_convert_int_string W 21 9 .i32 _ (by rw [Tryz.underlying21]; rfl) Tryz.underlying9, utf_enc h2 h3, h1]
/-- the text of a character, as it is written -/
def WrEnds (t : Bs) (w : World) (e : Ending) (w' : World) : Prop := e = .returned (.string (tb t)) ∧ Below w.heap.size w w'
theorem dgs_tb {y : ByteArray} {l : Bs} (h : dl y = l) : y = tb l := tb_of h

set_option maxRecDepth 100000 in
set_option maxHeartbeats 2000000 in
/-- what is written as it is -/
theorem wr_plain (ch : Bs) (hc : charB ch = true) (z : Int) (hz : (cpL ch : Int) = z) (h34 : ¬ z = 34) (h92 : ¬ z = 92) (h32 : ¬ z < 32) (w : World) : Calls Tryz.prog 79 #[.int .i32 z] w (WrEnds ch w) := by
  have hcv := fun W => conv_ch hc W
  rw [hz] at hcv
  have h10 : ¬ z = 10 := by omega
  have h13 : ¬ z = 13 := by omega
  have h9 : ¬ z = 9 := by omega
  clear hz hc
  go_enter Tryz.func79, Tryz.ntmps79
  go_wp2
  go_ret
  exact ⟨rfl, Below.refl _ _⟩
set_option maxRecDepth 100000 in
set_option maxHeartbeats 2000000 in
theorem wr_q (w : World) : Calls Tryz.prog 79 #[.int .i32 34] w (WrEnds [92, 34] w) := by
  have hcv : ∀ W, (convert 21 9 (.int .i32 34)).run Tryz.prog W = .ok (.string ⟨#[34]⟩) W := fun W => conv_ch (ch := [34]) (by decide) W
  go_enter Tryz.func79, Tryz.ntmps79
  go_wp2
  go_ret
  exact ⟨rfl, Below.refl _ _⟩
set_option maxRecDepth 100000 in
set_option maxHeartbeats 2000000 in
theorem wr_b (w : World) : Calls Tryz.prog 79 #[.int .i32 92] w (WrEnds [92, 92] w) := by
  have hcv : ∀ W, (convert 21 9 (.int .i32 92)).run Tryz.prog W = .ok (.string ⟨#[92]⟩) W := fun W => conv_ch (ch := [92]) (by decide) W
  go_enter Tryz.func79, Tryz.ntmps79
  go_wp2
  go_ret
  exact ⟨rfl, Below.refl _ _⟩
set_option maxRecDepth 100000 in
set_option maxHeartbeats 2000000 in
theorem wr_n (w : World) : Calls Tryz.prog 79 #[.int .i32 10] w (WrEnds [92, 110] w) := by
  go_enter Tryz.func79, Tryz.ntmps79
  go_wp2
  go_ret
  exact ⟨rfl, Below.refl _ _⟩
set_option maxRecDepth 100000 in
set_option maxHeartbeats 2000000 in
theorem wr_r (w : World) : Calls Tryz.prog 79 #[.int .i32 13] w (WrEnds [92, 114] w) := by
  go_enter Tryz.func79, Tryz.ntmps79
  go_wp2
  go_ret
  exact ⟨rfl, Below.refl _ _⟩
set_option maxRecDepth 100000 in
set_option maxHeartbeats 2000000 in
theorem wr_t (w : World) : Calls Tryz.prog 79 #[.int .i32 9] w (WrEnds [92, 116] w) := by
  go_enter Tryz.func79, Tryz.ntmps79
  go_wp2
  go_ret
  exact ⟨rfl, Below.refl _ _⟩
set_option maxRecDepth 100000 in
set_option maxHeartbeats 2000000 in
/-- a character below 32, by its number -/
theorem wr_ctl (n : Nat) (hn : n < 32) (h9 : n ≠ 9) (h10 : n ≠ 10) (h13 : n ≠ 13) (w : World) (hT : Tabs w) : Calls Tryz.prog 79 #[.int .i32 (n : Int)] w (WrEnds (qb (UInt8.ofNat n)) w) := by
  obtain ⟨k1, k2, k3⟩ := qb_ctl ⟨n, hn⟩ h9 h10 h13
  simp only at k1 k2 k3
  have HTx := Lib.hid (Nm.text_16 (n : Int) w hT (fit_iff.2 ⟨by omega, by omega⟩))
  have htx : textN (n : Int) 16 = dgs 16 n := by rw [textN, if_pos ⟨fit_iff.2 ⟨by omega, by omega⟩, .inr rfl⟩]; simp
  rw [htx] at HTx
  obtain ⟨X, hX⟩ : ∃ X, dgs 16 n = X := ⟨_, rfl⟩
  rw [hX] at HTx k1 k2 k3
  obtain ⟨c, hc⟩ : ∃ c, 4 - X.length = c := ⟨_, rfl⟩
  rw [hc] at k1
  obtain ⟨F, hF⟩ : ∃ F, [92, 117] ++ List.replicate c 48 ++ X = F := ⟨_, rfl⟩
  rw [k1, hF]
  replace hF := Lib.hid hF
  have z0 : ¬ (n : Int) = 34 := by omega
  have z1 : ¬ (n : Int) = 92 := by omega
  have z2 : ¬ (n : Int) = 10 := by omega
  have z3 : ¬ (n : Int) = 13 := by omega
  have z4 : ¬ (n : Int) = 9 := by omega
  have z5 : (n : Int) < 32 := by omega
  have zw : IntKind.i64.wrap (n : Int) = (n : Int) := IntWalk.i64_in _ (by omega)
  clear hX htx k1 hT h9 h10 h13 hn
  generalize (n : Int) = z at *
  go_enter Tryz.func79, Tryz.ntmps79
  go_wp2_with fail
  refine HTx.out.mono ?_
  rintro e w1 ⟨y, rfl, hy, hb1⟩
  have hy2 := tb_of hy
  subst hy2
  clear hy HTx
  have zX : (tb X).size = X.length := tb_size X
  have zc : IntKind.i64.wrap (4 - (X.length : Int)) = (c : Int) := by rw [IntWalk.i64_in _ (by omega)]; omega
  have HRp := Lib.hid (sh_Repeat ⟨#[48]⟩ c (by omega) (by show 1 * c ≤ _; omega) w1)
  rw [show (⟨#[48]⟩ : ByteArray).data.toList = [48] from rfl, rep48] at HRp
  have hcl : c ≤ 3 := by omega
  obtain ⟨Y, hY⟩ : ∃ Y : ByteArray, (⟨(List.replicate c (48 : UInt8)).toArray⟩ : ByteArray) = Y := ⟨_, rfl⟩
  have s1 : Y.size = c := by rw [← hY]; show (tb (List.replicate c 48)).size = c; rw [tb_size, List.length_replicate]
  have a1 : (⟨#[92, 117]⟩ : ByteArray) ++ Y = tb ([92, 117] ++ List.replicate c 48) := by rw [← hY]; exact tb_app [92, 117] (List.replicate c 48)
  obtain ⟨Z, hZ⟩ : ∃ Z, tb ([92, 117] ++ List.replicate c 48) = Z := ⟨_, rfl⟩
  have s2 : Z.size = c + 2 := by rw [← hZ, tb_size]; simp
  have a2 : Z ++ tb X = tb F := by rw [← hZ, ← hF.out]; exact tb_app _ X
  rw [hZ] at a1
  rw [hY] at HRp
  clear hY hZ hF
  go_wp2_with fail
  refine HRp.out.mono ?_
  rintro e w2 ⟨rfl, hb2⟩
  have HB := Lib.hid (bon hb1 hb2)
  have b1 := fun W => run_string_add_sum (P := Tryz.prog) W (⟨#[92, 117]⟩ : ByteArray) Y (by rw [s1]; show 2 + c ≤ _; omega)
  have b2 := fun W => run_string_add_sum (P := Tryz.prog) W Z (tb X) (by rw [s2, zX]; omega)
  rw [a1] at b1
  rw [a2] at b2
  clear a1 a2 s1 s2 zX zc hc hb1 hb2 HRp hcl k2 k3
  go_wp2
  go_ret
  exact ⟨rfl, HB.out⟩
theorem written_any (ch : Bs) (hc : charB ch = true) (w : World) (hT : Tabs w) : Calls Tryz.prog 79 #[.int .i32 (cpL ch : Int)] w (WrEnds (ch.flatMap qb) w) := by
  rcases char_cases hc with ⟨a, rfl, ha⟩ | ⟨h1, a, t, rfl, ha⟩
  · rw [show [a].flatMap qb = qb a by simp]
    have hq : ∀ n : Nat, a.toNat = n → a = UInt8.ofNat n := fun n h => (u8_eq h.symm).symm
    have e : cpL [a] = a.toNat := rfl
    by_cases c1 : a.toNat = 34
    · rw [e, c1, hq 34 c1]; exact wr_q w
    by_cases c2 : a.toNat = 92
    · rw [e, c2, hq 92 c2]; exact wr_b w
    by_cases c3 : a.toNat = 10
    · rw [e, c3, hq 10 c3]; exact wr_n w
    by_cases c4 : a.toNat = 13
    · rw [e, c4, hq 13 c4]; exact wr_r w
    by_cases c5 : a.toNat = 9
    · rw [e, c5, hq 9 c5]; exact wr_t w
    have hne : ∀ m : UInt8, a.toNat ≠ m.toNat → ¬ a = m := fun m h hh => h (by rw [hh])
    by_cases c6 : a.toNat < 32
    · rw [e]
      have h := wr_ctl a.toNat c6 c5 c3 c4 w hT
      rw [UInt8.ofNat_toNat] at h
      exact h
    · have h := wr_plain [a] hc _ rfl (by rw [e]; omega) (by rw [e]; omega) (by rw [e]; omega) w
      have hqb : qb a = [a] := by
        unfold qb
        rw [if_neg (hne 34 c1), if_neg (hne 92 c2), if_neg (hne 10 c3), if_neg (hne 13 c4), if_neg (hne 9 c5), if_neg c6]
      rw [hqb]
      exact h
  · rw [h1]
    have hbig : 128 ≤ cpL (a :: t) := by
      have h := dec_big (a := a) (t := t) ha
      have hw := wid_char hc []
      rw [List.append_nil] at hw
      rw [dec_fst (by rw [hw]; simp), hw, List.take_length] at h
      exact h
    exact wr_plain (a :: t) hc _ rfl (by omega) (by omega) (by omega) w
end Go.Proofs.YtnkhghjcfhpeiaaGreatDoor

/-
  The walk of quote's own Quote.
-/
namespace Go.Proofs.YtnkhghjcfhpeiaaGreatDoor
open Go.RowKit

theorem at_up {T e : TypeId} {B b : Nat} {p : Value} {bs : List Value} {w w' : World} (h : Lib.BuilderAtF T e B b p bs w) (hb : Below w.heap.size w w') : Lib.BuilderAtF T e B b p bs w' := by
  obtain ⟨hB, v, hbk, hown, hne⟩ := h
  refine ⟨hB, v, (hb.block b (Array.getElem?_eq_some_iff.1 hbk).1).trans hbk, ⟨hown.1, ?_⟩, hne⟩
  rcases hown.2 with hn | ⟨g, cap, cur, fz, hv, hbg, hg, rest⟩
  · exact .inl hn
  · exact .inr ⟨g, cap, cur, fz, hv, hbg, (hb.block g (Array.getElem?_eq_some_iff.1 hg).1).trans hg, rest⟩
/-- the builder in block B holds those bytes -/
def Bd (W : World) (B : Nat) (t : Bs) : Prop := Lib.IsBuilderF 77 5 B B (Lib.byteCells t) W
theorem Bd.up {B : Nat} {t : Bs} {w w' : World} (h : Bd w B t) (hb : Below w.heap.size w w') : Bd w' B t :=
  Or.elim h (fun x => .inl (at_up x hb)) (fun x => .inr (at_up x hb))
theorem Bd.new (w : World) : Bd (w.alloc (.cells #[.pointer none, .slice none 0 0] 77)) w.heap.size [] :=
  .inl ⟨Nat.le_refl _, .slice none 0 0, heap_alloc_new w _, ⟨rfl, .inl ⟨rfl, rfl⟩⟩, by simp [Value.ownBlock]⟩
theorem Bd.it {W : World} {B g : Nat} {t s : Bs} {pos : Nat} (h : Bd W B t) (hi : ItAt W g s pos) (p : Nat) : Bd (W.iterAt g (tb s) p) B t := Lib.IsBuilderF.iterAt h hi p
/-- what is handed back when a text was written: the builder holds it behind what it held; iterators stand -/
def PutEnds (B : Nat) (t z : Bs) (w : World) (w' : World) : Prop := Bd w' B (t ++ z) ∧ Below B w w' ∧ ∀ g s pos, ItAt w g s pos → g ≠ B → ItAt w' g s pos
theorem put_any (B : Nat) (t z : Bs) (w : World) (h : Bd w B t) (hl : t.length + z.length ≤ 140737488355328) (hB : B ≤ w.heap.size) : Calls Tryz.prog 58 #[.pointer (some ⟨B, 0, none⟩), .string (tb z)] w (fun e w' => e = .returned (.tuple #[.int .i64 (z.length : Int), .nilIface]) ∧ PutEnds B t z w w') := by
  refine (sh_WriteString B B (Lib.byteCells t) (tb z) w h (by rw [Lib.byteCells_length, tb_size]; exact hl) hB).mono ?_
  rintro e w' ⟨rfl, h1, h2, h3⟩
  refine ⟨by rw [tb_size], ?_, h2, fun g s pos hg hne => h3.iter hg hne⟩
  refine .inr ?_
  rw [Lib.byteCells_append, ← show Lib.strCells (tb z) = Lib.byteCells z from Lib.strCells_eq (tb z)]
  exact h1
theorem text_any (B : Nat) (t : Bs) (w : World) (h : Bd w B t) (hB : B ≤ w.heap.size) : Calls Tryz.prog 59 #[.pointer (some ⟨B, 0, none⟩)] w (fun e w' => e = .returned (.string (tb t)) ∧ Below B w w') := by
  refine (sh_String B B t w h hB).mono ?_
  rintro e w' ⟨rfl, _, h2, _⟩
  exact ⟨rfl, h2⟩
theorem flat_max (s : Bs) : (s.flatMap qb).length ≤ 6 * s.length := by
  induction s with
  | nil => simp
  | cons c t ih =>
    have h : (qb c).length ≤ 6 := by
      unfold qb
      repeat' split
      all_goals simp
    rw [List.flatMap_cons, List.length_append]
    simp only [List.length_cons]
    omega

/-- where Quote stands: acc is written of the text up to pos -/
def QS (s : Bs) (pos : Nat) (acc : Bs) : Prop := pos ≤ s.length ∧ VL (s.drop pos) ∧ acc ++ (s.drop pos).flatMap qb = s.flatMap qb
theorem QS.len {s acc : Bs} {pos : Nat} (h : QS s pos acc) : acc.length ≤ 6 * s.length := by
  have h1 := congrArg List.length h.2.2
  have h2 := flat_max s
  rw [List.length_append] at h1
  omega
theorem QS.go {s acc : Bs} {pos : Nat} (h : QS s pos acc) (hlt : pos < s.length) : ∃ ch, charB ch = true ∧ decR (s.drop pos) = (cpL ch, ch.length) ∧ QS s (pos + ch.length) (acc ++ ch.flatMap qb) ∧ 0 < ch.length ∧ ch.length ≤ s.length - pos := by
  obtain ⟨h1, h2, h3⟩ := h
  have hl : (s.drop pos).length = s.length - pos := List.length_drop
  obtain ⟨l, hd⟩ : ∃ l, s.drop pos = l := ⟨_, rfl⟩
  rw [hd] at h2 h3 hl ⊢
  cases h2 with
  | nil => simp at hl; omega
  | cons ch r hc hr =>
    have hw := wid_char hc r
    have hp := char_pos hc
    rw [List.length_append] at hl
    have hdr : s.drop (pos + ch.length) = r := by rw [← List.drop_drop, hd, List.drop_left]
    refine ⟨ch, hc, ?_, ⟨by omega, by rw [hdr]; exact hr, ?_⟩, hp, by omega⟩
    · refine Prod.ext ?_ ?_
      · rw [dec_fst (by omega), hw, List.take_left]
      · rw [dec_snd (by omega), hw]
    · rw [hdr, ← h3, List.flatMap_append, List.append_assoc]

set_option maxRecDepth 100000 in
set_option maxHeartbeats 4000000 in
theorem quote_any (s : Bs) (hs : s.length ≤ 1000000) (w : World) (hT : TQ w) : Calls Tryz.prog 56 #[.string (tb s)] w (QuoEnds (quoteQ s) w) := by
  have HV := Lib.hid (valid_any s hs w)
  unfold quoteQ
  cases hv : validL s with
  | false =>
    rw [hv] at HV
    rw [if_neg (by decide)]
    clear hv
    go_enter Tryz.func56, Tryz.ntmps56
    go_wp2_with fail
    refine HV.out.mono ?_
    rintro e w1 ⟨rfl, hb⟩
    go_wp2
    refine bodyPost_ret (v := .tuple #[.string ⟨#[]⟩, .int .i64 30]) (by simp [results, Tryz.results56, go_sem]) rfl ?_
    exact ⟨rfl, hb⟩
  | true =>
    rw [hv] at HV
    rw [if_pos rfl]
    have HQ0 : Hid (QS s 0 []) := Lib.hid ⟨Nat.zero_le _, (valid_iff s).1 hv, rfl⟩
    obtain ⟨Q, hQ⟩ : ∃ Q, quoteL s = Q := ⟨_, rfl⟩
    rw [hQ]
    replace hQ := Lib.hid hQ
    have HT := Lib.hid hT
    have HS := Lib.hid hs
    clear hv hT hs
    go_enter Tryz.func56, Tryz.ntmps56
    go_wp2_with fail
    refine HV.out.mono ?_
    rintro e w1 ⟨rfl, hb1⟩
    clear HV
    go_upto_region 4 with fail
    have HB0 := Lib.hid (bon hb1 (ba1 w1 (.cells #[.pointer none, .slice none 0 0] 77)))
    have HD0 := Lib.hid (Bd.new w1)
    obtain ⟨B, hB⟩ : ∃ B, w1.heap.size = B := ⟨_, rfl⟩
    have HBs : Hid (w.heap.size ≤ B) := Lib.hid (by rw [← hB]; exact hb1.size)
    have HBz : Hid (B ≤ (w1.alloc (.cells #[.pointer none, .slice none 0 0] 77)).heap.size) := Lib.hid (by rw [← hB]; exact (ba1 w1 _).size)
    rw [hB] at HD0 ⊢
    clear hB hb1
    generalize w1.alloc (.cells #[.pointer none, .slice none 0 0] 77) = W0 at *
    have HW := Lib.hid (put_any B [] [34] W0 HD0.out (by decide) HBz.out)
    go_wp2_with fail
    refine HW.out.mono ?_
    rintro e W1 ⟨rfl, hd1, hc1, _⟩
    have HD1 := Lib.hid hd1
    have HB1 : Hid (Below w.heap.size w W1) := Lib.hid (HB0.out.trans (hc1.mono HBs.out))
    have HZ1 : Hid (B < W1.heap.size) := Lib.hid (by
      have h := hd1
      rcases h with ⟨_, _, h, _⟩ | ⟨_, _, h, _⟩
      · exact (Array.getElem?_eq_some_iff.1 h).1
      · exact (Array.getElem?_eq_some_iff.1 h).1)
    clear hd1 hc1 HW HD0 HB0 HBz
    go_wp2
    have HI2 := Lib.hid (ItAt.new W1 s)
    have hb2 : Below W1.heap.size W1 (W1.iter (tb s) 0) := ba1 W1 _
    have HD2 := Lib.hid (HD1.out.up hb2)
    have HB2 := Lib.hid (bon HB1.out hb2)
    obtain ⟨g, hg⟩ : ∃ g, W1.heap.size = g := ⟨_, rfl⟩
    rw [hg] at HI2 HZ1 ⊢
    clear hg hb2 HD1 HB1
    generalize W1.iter (tb s) 0 = W2 at *
    go_loopw [] (fun wr => ∃ (pos : Nat) (acc : Bs), Hid (QS s pos acc) ∧ Hid (Bd wr B (34 :: acc)) ∧ Hid (ItAt wr g s pos) ∧ Hid (Below w.heap.size w wr)) (fun wr => s.length - wr.iterPos g)
    case atStart => exact ⟨0, [], HQ0, HD2, HI2, HB2⟩
    case round =>
      obtain ⟨pos, acc, HQ, HD, HI, HB⟩ := hrel
      have hmu : wr.iterPos g = pos := HI.out.pos
      have hBw : B ≤ wr.heap.size := by have := HI.out.lt; have := HZ1.out; omega
      have hgB : B ≤ g := by have := HZ1.out; omega
      have HL := Lib.hid HQ.out.len
      by_cases hlt : pos < s.length
      case pos =>
        obtain ⟨ch, hc, hdc, hQ1, hp1, hp2⟩ := HQ.out.go hlt
        have hnx := fun ty => Lib.run_next_any_at (P := Tryz.prog) wr g (tb s) pos ty HI.out (by rw [tb_size]; exact hlt)
        rw [dec_tb s pos hlt, hdc] at hnx
        have HI1 : Hid (ItAt (wr.iterAt g (tb s) (pos + ch.length)) g s (pos + ch.length)) := Lib.hid (Lib.iterAt_heap wr g (tb s) pos (pos + ch.length) HI.out)
        have HB1 := Lib.hid (Lib.below_iterAt HB.out (k := g) (by have := HBs.out; omega) (tb s) (pos + ch.length))
        have HD1 := Lib.hid (HD.out.it HI.out (pos + ch.length))
        have hBw1 : B ≤ (wr.iterAt g (tb s) (pos + ch.length)).heap.size := by rw [Lib.iterAt_size]; exact hBw
        have HQ1 := Lib.hid hQ1
        have hfl : (ch.flatMap qb).length ≤ 24 := by
          have h := flat_max ch
          have := (enc_char (n := cpL ch) (enc_cp hc).2.1 (enc_cp hc).2.2.1).2
          rw [(enc_cp hc).1] at this
          omega
        simp only at hnx
        generalize wr.iterAt g (tb s) (pos + ch.length) = W3 at *
        have HW := Lib.hid (written_any ch hc W3 (HT.out.up HB1.out))
        obtain ⟨z, hz⟩ : ∃ z, (cpL ch : Int) = z := ⟨_, rfl⟩
        rw [hz] at HW hnx
        obtain ⟨X, hX⟩ : ∃ X, ch.flatMap qb = X := ⟨_, rfl⟩
        obtain ⟨K, hK⟩ : ∃ K, ch.length = K := ⟨_, rfl⟩
        rw [hX] at HW hfl HQ1
        rw [hK] at HI1 HQ1 hp1 hp2
        clear hz hX hK hdc hQ1 hc HQ HI HB HD hBw HD2 HI2 HB2 HQ0
        go_wp2_with fail
        refine HW.out.mono ?_
        rintro e w4 ⟨rfl, hb4⟩
        have HD4 := Lib.hid (HD1.out.up hb4)
        have HB4 := Lib.hid (bon HB1.out hb4)
        have HI4 : Hid (ItAt w4 g s (pos + K)) := Lib.hid (HI1.out.low HI1.out.lt hb4)
        have hBw4 : B ≤ w4.heap.size := Nat.le_trans hBw1 hb4.size
        have HP := Lib.hid (put_any B (34 :: acc) X w4 HD4.out (by rw [List.length_cons]; have := HL.out; have := HS.out; omega) hBw4)
        clear hb4 HW HD1 HB1 HI1 hBw1 hBw4 HD4
        go_wp2_with fail
        refine HP.out.mono ?_
        rintro e w5 ⟨rfl, hd5, hc5, hi5⟩
        have HD5 : Hid (Bd w5 B (34 :: (acc ++ X))) := Lib.hid hd5
        have HI5 := Lib.hid (hi5 g s (pos + K) HI4.out (by have := HZ1.out; omega))
        have HB5 : Hid (Below w.heap.size w w5) := Lib.hid (HB4.out.trans (hc5.mono HBs.out))
        have hmu5 : w5.iterPos g = pos + K := HI5.out.pos
        clear hd5 hc5 hi5 HP HI4 HB4
        go_wp2
        go_roundw
        case rel => exact ⟨pos + K, acc ++ X, HQ1, HD5, HI5, HB5⟩
        case measure =>
          rw [hmu, hmu5]
          omega
      case neg =>
        have hnx := fun ty => Lib.run_next_end_at (P := Tryz.prog) wr g (tb s) pos ty HI.out (by rw [tb_size]; exact hlt)
        have HF : Hid (34 :: (acc ++ [34]) = Q) := Lib.hid (by
          have h := HQ.out.2.2
          rw [List.drop_of_length_le (by omega), List.flatMap_nil, List.append_nil] at h
          rw [← hQ.out, quoteL, h])
        have HP := Lib.hid (put_any B (34 :: acc) [34] wr HD.out (by rw [List.length_cons]; have := HL.out; have := HS.out; simp; omega) hBw)
        clear HD HI hmu
        go_wp2_with fail
        refine HP.out.mono ?_
        rintro e w5 ⟨rfl, hd5, hc5, _⟩
        have HD5 : Hid (Bd w5 B Q) := Lib.hid (by rw [← HF.out]; exact hd5)
        have HB5 : Hid (Below w.heap.size w w5) := Lib.hid (HB.out.trans (hc5.mono HBs.out))
        have hBw5 : B ≤ w5.heap.size := Nat.le_trans hBw hc5.size
        clear hd5 HP HF
        have HG := Lib.hid (text_any B Q w5 HD5.out (Nat.le_trans hBw5 (Nat.le_refl _)))
        go_wp2_with fail
        refine HG.out.mono ?_
        rintro e w6 ⟨rfl, hc6⟩
        have HB6 : Hid (Below w.heap.size w w6) := Lib.hid (HB5.out.trans (hc6.mono HBs.out))
        clear hc6 HG hc5
        go_wp2
        refine bodyPost_ret (v := .tuple #[.string (tb Q), .int .i64 0]) (by simp [results, Tryz.results56, go_sem]) rfl ?_
        exact ⟨rfl, HB6.out⟩
end Go.Proofs.YtnkhghjcfhpeiaaGreatDoor

/-
  The walk of quote's own Unquote.
-/
namespace Go.Proofs.YtnkhghjcfhpeiaaGreatDoor
open Go.RowKit

theorem rune_any (B : Nat) (t : Bs) (r : Nat) (w : World) (h : Bd w B t) (h1 : r < 1114112) (h2 : r < 55296 ∨ 57343 < r) (hl : t.length + 4 ≤ 140737488355328) (hB : B ≤ w.heap.size) : Calls Tryz.prog 109 #[.pointer (some ⟨B, 0, none⟩), .int .i32 (r : Int)] w (fun e w' => (∃ k : Int, e = .returned (.tuple #[.int .i64 k, .nilIface])) ∧ PutEnds B t (encU r) w w') := by
  refine (sh_WriteRune B B (Lib.byteCells t) (r : Int) (by omega) (by omega) w h (by rw [Lib.byteCells_length]; exact hl) hB).mono ?_
  rintro e w' ⟨rfl, k1, k2, k3⟩
  refine ⟨⟨_, rfl⟩, ?_, k2, fun g s pos hg hne => k3.iter hg hne⟩
  refine .inr ?_
  rw [Lib.byteCells_append, ← lib_enc h1 h2, Lib.byteCells_encodeRune]
  exact k1
theorem Am.it {W : World} {g0 g : Nat} (h : Am W g0) (hne : g0 ≠ g) (s : Bs) (p : Nat) : Am (W.iterAt g (tb s) p) g0 := (Lib.iterAt_other W g g0 (tb s) p hne).trans h
/-- what is passed over has one byte each -/
def Low (s : Bs) (pos N : Nat) : Prop := ∀ p, pos ≤ p → p < N → ∃ a t, s.drop p = a :: t ∧ a.toNat < 128

set_option maxRecDepth 100000 in
set_option maxHeartbeats 4000000 in
theorem unquote_any (s : Bs) (hs : s.length ≤ 1000000) (w : World) : Calls Tryz.prog 88 #[.string (tb s)] w (UnqEnds (unqL s) w) := by
  have HP := Lib.hid (pre_tb s [34] w)
  have hpre : Lib.hasPrefix s [34] = true ↔ ∃ t, s = 34 :: t := pre_iff s [34]
  cases hv : Lib.hasPrefix s [34] with
  | false =>
    rw [hv] at HP
    rw [us_none (fun h => by rw [hpre.2 h] at hv; cases hv)]
    clear hv hpre
    go_enter Tryz.func88, Tryz.ntmps88
    go_wp2_with fail
    refine HP.out.mono ?_
    rintro e w1 ⟨rfl, hw⟩
    cases hw
    go_wp2
    refine bodyPost_ret (v := .tuple #[.string ⟨#[]⟩, .int .i64 0, .int .i64 30]) (by simp [results, Tryz.results88, go_sem]) rfl ?_
    exact ⟨rfl, Below.refl _ _⟩
  | true =>
    rw [hv] at HP
    have HU0 : Hid (US s 1 []) := Lib.hid (by obtain ⟨t, rfl⟩ := hpre.1 hv; exact us_start)
    have HL0 : Hid (Low s 0 1) := Lib.hid (by
      obtain ⟨t, rfl⟩ := hpre.1 hv
      intro p h1 h2
      obtain rfl : p = 0 := by omega
      exact ⟨34, t, rfl, by decide⟩)
    obtain ⟨Q, hQ⟩ : ∃ Q, unqL s = Q := ⟨_, rfl⟩
    rw [hQ]
    replace hQ := Lib.hid hQ
    have HS := Lib.hid hs
    have zs : (tb s).size = s.length := tb_size s
    have HM := Lib.hid (meanings_any w)
    clear hv hs hpre
    go_enter Tryz.func88, Tryz.ntmps88
    go_wp2_with fail
    refine HP.out.mono ?_
    rintro e w1 ⟨rfl, hw⟩
    cases hw
    go_wp2_with fail
    refine HM.out.mono ?_
    rintro e w1 ⟨rfl, ha1, hb1⟩
    have hz1 : w.heap.size < w1.heap.size := (Array.getElem?_eq_some_iff.1 (show w1.heap[w.heap.size]? = _ from ha1)).1
    obtain ⟨g0, hg0⟩ : ∃ g0, w.heap.size = g0 := ⟨_, rfl⟩
    have HA1 : Hid (Am w1 g0) := Lib.hid (by rw [← hg0]; exact ha1)
    have HZ1 : Hid (g0 < w1.heap.size) := Lib.hid (by rw [← hg0]; exact hz1)
    rw [hg0]
    replace hg0 := Lib.hid hg0
    clear HP HM ha1 hz1
    go_upto_region 5 with fail
    have HB0 := Lib.hid (bon hb1 (ba1 w1 (.cells #[.pointer none, .slice none 0 0] 77)))
    have HD0 := Lib.hid (Bd.new w1)
    have HA0 : Hid (Am (w1.alloc (.cells #[.pointer none, .slice none 0 0] 77)) g0) := Lib.hid (HA1.out.low HZ1.out (ba1 w1 _))
    obtain ⟨B, hB⟩ : ∃ B, w1.heap.size = B := ⟨_, rfl⟩
    have HBs : Hid (w.heap.size ≤ B) := Lib.hid (by rw [← hB]; exact hb1.size)
    have HBz : Hid (B < (w1.alloc (.cells #[.pointer none, .slice none 0 0] 77)).heap.size) := Lib.hid (by rw [← hB]; exact (Array.getElem?_eq_some_iff.1 (heap_alloc_new w1 (.cells #[.pointer none, .slice none 0 0] 77))).1)
    rw [hB] at HD0 HZ1 ⊢
    clear hB hb1 HA1
    generalize w1.alloc (.cells #[.pointer none, .slice none 0 0] 77) = W1 at *
    go_wp2
    have HI2 := Lib.hid (ItAt.new W1 s)
    have hb2 : Below W1.heap.size W1 (W1.iter (tb s) 0) := ba1 W1 _
    have HD2 := Lib.hid (HD0.out.up hb2)
    have HB2 := Lib.hid (bon HB0.out hb2)
    have HA2 := Lib.hid (HA0.out.low (B := W1.heap.size) (by have := HZ1.out; have := HBz.out; omega) hb2)
    obtain ⟨g, hg⟩ : ∃ g, W1.heap.size = g := ⟨_, rfl⟩
    rw [hg] at HI2 HBz ⊢
    clear hg hb2 HD0 HB0 HA0
    generalize W1.iter (tb s) 0 = W2 at *
    go_loopw [7] (fun nx wr => ∃ (pos N : Nat) (out : Bs), nx = .int .i64 (N : Int) ∧ pos ≤ N ∧ Hid (US s N out) ∧ Hid (Low s pos N) ∧ Hid (Bd wr B out) ∧ Hid (ItAt wr g s pos) ∧ Hid (Am wr g0) ∧ Hid (Below w.heap.size w wr)) (fun _ wr => s.length - wr.iterPos g)
    case atStart => exact ⟨0, 1, [], rfl, by omega, HU0, HL0, HD2, HI2, HA2, HB2⟩
    case round =>
      obtain ⟨pos, N, out, rfl, hpN, HU, HLo, HD, HI, HA, HB⟩ := hrel
      have hmu : wr.iterPos g = pos := HI.out.pos
      have hBw : B ≤ wr.heap.size := by have := HI.out.lt; have := HBz.out; omega
      have hgB : B ≤ g := by have := HBz.out; omega
      have hNs : N ≤ s.length := HU.out.1
      clear HD2 HI2 HA2 HB2 HU0 HL0
      by_cases hlt : pos < s.length
      case pos =>
        obtain ⟨a, t, hat⟩ : ∃ a t, s.drop pos = a :: t := ⟨_, _, List.drop_eq_getElem_cons hlt⟩
        have hnx := fun ty => Lib.run_next_any_at (P := Tryz.prog) wr g (tb s) pos ty HI.out (by rw [tb_size]; exact hlt)
        rw [dec_tb s pos hlt] at hnx
        have hmx := (dec_max (s.drop pos)).2.1
        have hlow : pos < N → a.toNat < 128 := fun h => by
          obtain ⟨a', t', k1, k2⟩ := HLo.out pos (Nat.le_refl _) h
          rw [hat] at k1
          rw [(List.cons.inj k1).1]
          exact k2
        have h34 : (decR (s.drop pos)).1 = 34 ↔ a = 34 := by
          rw [hat, dec_low (by decide)]
          exact ⟨fun h => UInt8.toNat_inj.1 h, fun h => by rw [h]; rfl⟩
        have h1b : a.toNat < 128 → (decR (s.drop pos)).2 = 1 := fun h => by rw [hat, decR_1 h]
        have hne : s.drop pos ≠ [] := by rw [hat]; simp
        have hdl : (s.drop pos).length ≤ 1000000 := by rw [List.length_drop]; have := HS.out; omega
        have HR := Lib.hid (fun W hW => read_any (s.drop pos) hne hdl g0 W hW)
        have HBad := Lib.hid (fun (h : pos = N) (h34 : a ≠ 34) (h0 : (readR (s.drop pos)).2 = 0) => us_bad (a := a) (t := t) HU.out (by rw [← h]; exact hat) h34 (by rw [← hat]; exact h0))
        have HGo := Lib.hid (fun (h : pos = N) (h34 : a ≠ 34) (h0 : (readR (s.drop pos)).2 ≠ 0) => us_go (a := a) (t := t) HU.out (by rw [← h]; exact hat) h34 (by rw [← hat]; exact h0))
        rw [← hat] at HGo
        have HQt := Lib.hid (fun (h : pos = N) (h34 : a = 34) => us_quote (t := t) HU.out (by rw [← h, ← h34]; exact hat))
        have HOut := Lib.hid HU.out.2.1
        obtain ⟨D, hD⟩ : ∃ D, (decR (s.drop pos)).1 = D := ⟨_, rfl⟩
        obtain ⟨K, hK⟩ : ∃ K, (decR (s.drop pos)).2 = K := ⟨_, rfl⟩
        rw [hD] at hnx h34 HR
        rw [hK] at hnx hmx h1b HGo
        have HI1 : Hid (ItAt (wr.iterAt g (tb s) (pos + K)) g s (pos + K)) := Lib.hid (Lib.iterAt_heap wr g (tb s) pos (pos + K) HI.out)
        have HB1 := Lib.hid (Lib.below_iterAt HB.out (k := g) (by have := HBs.out; omega) (tb s) (pos + K))
        have HD1 := Lib.hid (HD.out.it HI.out (pos + K))
        have HA1 := Lib.hid (HA.out.it (g := g) (by have := HZ1.out; omega) s (pos + K))
        have hBw1 : B ≤ (wr.iterAt g (tb s) (pos + K)).heap.size := by rw [Lib.iterAt_size]; exact hBw
        have hx : (tb s).extract pos s.length = tb (s.drop pos) := by rw [tb_ext, List.take_length]
        have hps : (pos : Int) ≤ (s.length : Int) := by omega
        obtain ⟨l, hl⟩ : ∃ l, s.drop pos = l := ⟨_, rfl⟩
        rw [hl] at HR HBad HGo hx
        generalize wr.iterAt g (tb s) (pos + K) = W3 at *
        have hmu3 : W3.iterPos g = pos + K := HI1.out.pos
        clear hD hK HI HB HD HA hBw hne hdl hl hat
        have HUU := HU
        clear HU
        by_cases hskip : pos < N
        case pos =>
          have hsi : (pos : Int) < (N : Int) := by omega
          have hK1 : K = 1 := h1b (hlow hskip)
          subst hK1
          have HL1 : Hid (Low s (pos + 1) N) := Lib.hid (fun p h1 h2 => HLo.out p (by omega) h2)
          have HU1 := HUU
          clear h34 HBad HGo HQt HR HOut HLo hlow h1b
          go_wp2
          go_roundw
          case rel => exact ⟨pos + 1, N, out, rfl, by omega, HU1, HL1, HD1, HI1, HA1, HB1⟩
          case measure =>
            rw [hmu, hmu3]
            omega
        case neg =>
          obtain rfl : pos = N := by omega
          have hsi : ¬ (pos : Int) < (pos : Int) := by omega
          clear hlow h1b HLo hskip hpN
          by_cases hq : a = 34
          case pos =>
            obtain rfl := h34.2 hq
            have HF : Hid (Q = (out, pos + 1, 0)) := Lib.hid (by rw [← hQ.out]; exact HQt.out rfl hq)
            have HG := Lib.hid (text_any B out W3 HD1.out hBw1)
            have hwr : IntKind.i64.wrap ((pos : Int) + 1) = (pos : Int) + 1 := IntWalk.i64_in _ (by have := HS.out; omega)
            clear h34 HBad HGo HQt HR HOut HD1 HA1 HI1
            go_wp2_with fail
            refine HG.out.mono ?_
            rintro e w6 ⟨rfl, hc6⟩
            have HB6 : Hid (Below w.heap.size w w6) := Lib.hid (HB1.out.trans (hc6.mono HBs.out))
            clear hc6 HG
            go_wp2
            refine bodyPost_ret (v := .tuple #[.string (tb out), .int .i64 ((pos : Int) + 1), .int .i64 0]) (by simp [results, Tryz.results88, go_sem]) rfl ?_
            exact ⟨by rw [HF.out]; rfl, HB6.out⟩
          case neg =>
            have hD34 : ¬ (D : Int) = 34 := fun h => hq (h34.1 (by omega))
            obtain ⟨q, hqq⟩ : ∃ q, readR l = q := ⟨_, rfl⟩
            rw [hqq] at HBad HGo
            have HR1 := Lib.hid (HR.out W3 HA1.out)
            rw [hqq] at HR1
            clear hqq HR h34 HQt
            obtain ⟨r, n⟩ := q
            by_cases hn : n = 0
            case pos =>
              have HF : Hid (Q = ([], pos, 30)) := Lib.hid (by rw [← hQ.out]; exact HBad.out rfl hq hn)
              subst hn
              clear HBad HGo HOut HD1 HI1 HA1
              generalize (D : Int) = z at *
              generalize (r : Int) = y at *
              go_wp2_with fail
              refine HR1.out.mono ?_
              rintro e w6 ⟨rfl, hw⟩
              cases hw
              go_wp2
              refine bodyPost_ret (v := .tuple #[.string ⟨#[]⟩, .int .i64 (pos : Int), .int .i64 30]) (by simp [results, Tryz.results88, go_sem]) rfl ?_
              exact ⟨by rw [HF.out]; rfl, HB1.out⟩
            case neg =>
              obtain ⟨k1, k2, k3, k4, k5⟩ := HGo.out rfl hq hn
              simp only at k1 k2 k3 k4 k5
              have HU1 := Lib.hid k1
              have HL1 : Hid (Low s (pos + K) (pos + n)) := Lib.hid k5
              have hn0 : ¬ (n : Int) = 0 := by omega
              have hnl := k1.1
              have hwr : IntKind.i64.wrap ((pos : Int) + (n : Int)) = ((pos + n : Nat) : Int) := by rw [IntWalk.i64_in _ (by have := HS.out; omega)]; omega
              have HW := Lib.hid (rune_any B out r W3 HD1.out k3 k4 (by have := HOut.out; have := HS.out; omega) hBw1)
              obtain ⟨X, hX⟩ : ∃ X, encU r = X := ⟨_, rfl⟩
              rw [hX] at HW HU1
              have HR2 : Hid (Calls Tryz.prog 108 #[.string (tb l), .int .i32 (D : Int), .map (some g0)] W3 (fun e w' => e = .returned (.tuple #[.int .i32 (r : Int), .int .i64 (n : Int)]) ∧ w' = W3)) := HR1
              clear HBad HGo HOut hX k1 k3 k4 k5 hn HR1
              generalize (D : Int) = z at *
              generalize (r : Int) = y at *
              go_wp2_with fail
              refine HR2.out.mono ?_
              rintro e w6 ⟨rfl, hw⟩
              cases hw
              go_wp2_with fail
              refine HW.out.mono ?_
              rintro e w5 ⟨⟨kk, rfl⟩, hd5, hc5, hi5⟩
              have HD5 : Hid (Bd w5 B (out ++ X)) := Lib.hid hd5
              have HI5 := Lib.hid (hi5 g s (pos + K) HI1.out (by have := HBz.out; omega))
              have HA5 := Lib.hid (HA1.out.low HZ1.out hc5)
              have HB5 : Hid (Below w.heap.size w w5) := Lib.hid (HB1.out.trans (hc5.mono HBs.out))
              have hmu5 : w5.iterPos g = pos + K := HI5.out.pos
              clear hd5 hc5 hi5 HW HI1 HD1 HA1 HB1 HR2
              go_wp2
              go_roundw
              case rel => exact ⟨pos + K, pos + n, out ++ X, rfl, by omega, HU1, HL1, HD5, HI5, HA5, HB5⟩
              case measure =>
                rw [hmu, hmu5]
                omega
      case neg =>
        have hnx := fun ty => Lib.run_next_end_at (P := Tryz.prog) wr g (tb s) pos ty HI.out (by rw [tb_size]; exact hlt)
        have hNe : N = s.length := by omega
        have HF : Hid (Q = ([], N, 30)) := Lib.hid (by
          rw [← hQ.out, hNe]
          exact us_end (out := out) (by rw [← hNe]; exact HU.out))
        clear HI HD HA HLo hNe hmu HU
        go_wp2
        refine bodyPost_ret (v := .tuple #[.string ⟨#[]⟩, .int .i64 (N : Int), .int .i64 30]) (by simp [results, Tryz.results88, go_sem]) rfl ?_
        exact ⟨by rw [HF.out]; rfl, HB.out⟩
end Go.Proofs.YtnkhghjcfhpeiaaGreatDoor

/-
  The program's literal and key, walked; slices.Index and Contains of texts.
-/
namespace Go.Proofs.YtnkhghjcfhpeiaaGreatDoor
open Go.RowKit

theorem tl_ne {a b : ByteArray} (h : a ≠ b) : (a.toList == b.toList) = false := beq_eq_false_iff_ne.2 fun e => h (dl_inj (by
  rw [Go.ByteArray.toList_eq, Go.ByteArray.toList_eq] at e
  exact e))
theorem has_succ {xs : List ByteArray} {k : Nat} {x : ByteArray} (h : xs[k]? = some x) (v : Bs) : ((xs.take (k + 1)).map dl).contains v = (((xs.take k).map dl).contains v || decide (dl x = v)) := by
  rw [List.take_add_one, h]
  simp only [Option.toList_some, List.map_append, List.map_cons, List.map_nil]
  by_cases hv : dl x = v
  · rw [decide_eq_true hv, Bool.or_true, List.contains_iff_mem]
    simp [hv]
  · rw [decide_eq_false hv, Bool.or_false, Bool.eq_iff_iff, List.contains_iff_mem, List.contains_iff_mem, List.mem_append]
    constructor
    · rintro (h | h)
      · exact h
      · exact absurd (List.mem_singleton.1 h).symm hv
    · exact .inl

/-- a place is handed back, or one below nought -/
def IdxEnds (b : Bool) (w : World) (e : Ending) (w' : World) : Prop := ∃ i : Int, e = .returned (.int .i64 i) ∧ decide (0 ≤ i) = b ∧ Below w.heap.size w w'
set_option maxRecDepth 100000 in
set_option maxHeartbeats 2000000 in
theorem sindex_any (N : Sli) (ns : List ByteArray) (v : ByteArray) (w : World) (hN : Ss w N ns) :
    Calls Tryz.prog 111 #[.slice N.A N.n N.c, .string v] w (IdxEnds ((ns.map dl).contains (dl v)) w) := by
  have HN := Lib.hid hN
  obtain ⟨Q, hQ⟩ : ∃ Q, (ns.map dl).contains (dl v) = Q := ⟨_, rfl⟩
  rw [hQ]
  have HD := Lib.hid hQ
  clear hQ
  obtain ⟨A, n, c⟩ := N
  have hn := Nat.le_trans hN.le.1 hN.le.2
  unfold maxLen at hn
  simp only at hn ⊢
  have hlen : Hid (ns.length = n) := Lib.hid hN.len
  clear hN
  go_enter Tryz.func111, Tryz.ntmps111
  go_wp2_with fail
  go_loopw [8] (fun i wr => ∃ k : Nat, k ≤ n ∧ i = .int .i64 (k : Int) ∧ Hid (((ns.take k).map dl).contains (dl v) = false) ∧ Below w.heap.size w wr) (fun i _ => n - (intOf i).toNat)
  case atStart => exact ⟨0, Nat.zero_le _, rfl, Lib.hid rfl, Below.refl _ _⟩
  case round =>
    obtain ⟨k, hk, rfl, HK, hbel⟩ := hrel
    by_cases hlt : k < n
    · obtain ⟨b, o, z, hA, hb, hz, c1⟩ := (HN.out.up hbel).cell (k := k) hlt
      simp only at hA
      subst hA
      have HH := Lib.hid (has_succ hz (dl v))
      have HZ := Lib.hid hz
      clear hz
      by_cases hq : v = z
      · have HE : Hid (Q = true) := Lib.hid (by
          rw [← HD.out, List.contains_iff_mem]
          exact List.mem_map.2 ⟨z, List.mem_of_getElem? HZ.out, by rw [hq]⟩)
        subst hq
        go_wp2
        go_ret
        exact ⟨_, rfl, by rw [HE.out]; exact decide_eq_true (by omega), hbel⟩
      · have HE : Hid (((ns.take (k + 1)).map dl).contains (dl v) = false) := Lib.hid (by rw [HH.out, HK.out, decide_eq_false (fun h => hq (dl_inj h.symm))]; rfl)
        have hrs : (v.toList == z.toList) = false := tl_ne hq
        go_wp2
        go_roundw
        case rel => exact ⟨k + 1, by omega, by go_num, HE, hbel⟩
        case measure => simp [intOf]; omega
    · obtain rfl : k = n := by omega
      have HE : Hid (Q = false) := Lib.hid (by rw [← HD.out]; have := HK.out; rw [List.take_of_length_le (by rw [hlen.out]; exact Nat.le_refl _)] at this; exact this)
      go_wp2
      go_ret
      exact ⟨_, rfl, by rw [HE.out]; rfl, hbel⟩

set_option maxHeartbeats 1000000 in
theorem scontains_any (N : Sli) (ns : List ByteArray) (v : ByteArray) (w : World) (hN : Ss w N ns) : Calls Tryz.prog 91 #[.slice N.A N.n N.c, .string v] w (BoolEnds ((ns.map dl).contains (dl v)) w) := by
  have HC := Lib.hid (sindex_any N ns v w hN)
  clear hN
  go_enter Tryz.func91, Tryz.ntmps91
  go_wp2_with fail
  refine HC.out.mono ?_
  rintro e w1 ⟨i, rfl, hi, hb1⟩
  have HI := Lib.hid hi
  clear hi
  go_wp2
  go_ret
  exact ⟨ret_bool HI.out, hb1⟩
theorem map_dl (ks : List Bs) : (ks.map tb).map dl = ks := by
  rw [List.map_map]
  have : (dl ∘ tb) = id := funext fun l => dl_tb l
  rw [this, List.map_id]
theorem kcontains_any (K : Sli) (ks : List Bs) (k : Bs) (w : World) (hK : Ss w K (ks.map tb)) : Calls Tryz.prog 91 #[.slice K.A K.n K.c, .string (tb k)] w (BoolEnds (ks.contains k) w) := by
  have := scontains_any K (ks.map tb) (tb k) w hK
  rwa [map_dl, dl_tb] at this
/-- what a literal leaves -/
def litE (l : Bs) (m o : Nat) : Except (Int × Bs) (Value × Bs × Nat × Nat) := if (unqL l).2.2 = 0 then .ok (.string (tb (unqL l).1), l.drop (unqL l).2.1, m, o) else .error ((unqL l).2.2, l.drop (unqL l).2.1)
set_option maxRecDepth 100000 in
set_option maxHeartbeats 2000000 in
theorem literal_any (g h : Nat) (s l : Bs) (m o : Nat) (w : World) (hs : s.length ≤ 1000000) (hl : l.length ≤ 1000000) (r : RS w g h s l m o) : Calls Tryz.prog 62 #[.pointer (some ⟨g, 0, none⟩)] w (RdEnds g h s w (litE l m o)) := by
  have HU := Lib.hid (unquote_any l hl w)
  have hgood := unq_good l
  obtain ⟨c0, c1, c2, c3, c4⟩ := r.cells
  unfold litE
  obtain ⟨⟨x, n, e⟩, hu⟩ : ∃ q, unqL l = q := ⟨_, rfl⟩
  rw [hu] at HU hgood ⊢
  simp only at hgood ⊢
  have hn := hgood.1
  have zl : (tb l).size = l.length := tb_size l
  have HR := Lib.hid r
  clear hu hgood r
  by_cases he : e = 0
  · subst he
    rw [if_pos rfl]
    have hx : (tb l).extract n l.length = tb (l.drop n) := by rw [tb_ext, List.take_length]
    have hni : (n : Int) ≤ (l.length : Int) := by omega
    go_enter Tryz.func62, Tryz.ntmps62
    go_wp2_with fail
    refine HU.out.mono ?_
    rintro E w1 ⟨rfl, hb⟩
    have HR1 := Lib.hid (HR.out.up hb)
    have f1 := HR1.out.bx.f 1
    have HS := Lib.hid (HR1.out.setl (l.drop n))
    have HB := Lib.hid ((But.of (g := g) hb).on (but_cell w1 g 1 (.string (tb (l.drop n)))))
    clear c0 c1 c2 c3 c4 hb
    obtain ⟨c0, c1, c2, c3, c4⟩ := HR1.out.cells
    go_wp2
    go_ret
    exact ⟨rfl, HB.out, HS.out⟩
  · rw [if_neg he]
    have hez : (e == 0) = false := beq_eq_false_iff_ne.2 he
    have hc := conc_fault
    have hw : IntKind.i64.wrap ((s.length : Int) - (l.length : Int) + (n : Int)) = (s.length : Int) - ((l.drop n).length : Int) := by rw [IntWalk.i64_in _ (by omega), List.length_drop]; omega
    have HA := Lib.hid (fun W (r : RS W g h s l m o) => at_any g h s l m o W hs hl r)
    go_enter Tryz.func62, Tryz.ntmps62
    go_wp2_with fail
    refine HU.out.mono ?_
    rintro E w1 ⟨rfl, hb⟩
    have HR1 := Lib.hid (HR.out.up hb)
    have HB1 := Lib.hid hb
    clear c0 c1 c2 c3 c4 hb
    go_wp2_with fail
    refine (HA.out _ HR1.out).mono ?_
    rintro E w2 ⟨rfl, hb⟩
    have HB2 := Lib.hid (bon HB1.out hb)
    clear hb
    go_wp2
    exact ⟨rfl, by first | rfl | rw [List.length_drop], But.of HB2.out⟩
/-- what a key leaves -/
def keyE (ks : List Bs) (l : Bs) (m o : Nat) : Except (Int × Bs) (Value × Bs × Nat × Nat) := match textR (skipB l) with
  | .error e => .error e
  | .ok (k, r) => if ks.contains k = true then .error (31, skipB l) else .ok (.string (tb k), r, m, o)
theorem pre1 (l : Bs) : Lib.hasPrefix l [34] = decide (l.take 1 = [34]) := by
  rw [Bool.eq_iff_iff, pre_iff, decide_eq_true_eq]
  constructor
  · rintro ⟨r, rfl⟩; rfl
  · intro h
    cases l with
    | nil => cases h
    | cons c t => exact ⟨t, by rw [(List.cons.inj (show [c] = [34] from h)).1]; rfl⟩
set_option maxRecDepth 100000 in
set_option maxHeartbeats 4000000 in
theorem key_any (g h : Nat) (s l : Bs) (m o : Nat) (K : Sli) (ks : List Bs) (w : World) (hs : s.length ≤ 1000000) (hl : l.length ≤ 1000000) (r : RS w g h s l m o) (hK : ∀ W, But g w W → Ss W K (ks.map tb)) : Calls Tryz.prog 66 #[.pointer (some ⟨g, 0, none⟩), .slice K.A K.n K.c] w (RdEnds g h s w (keyE ks l m o)) := by
  have HS := Lib.hid (skip_any g h s l m o w r)
  have HK := Lib.hid hK
  have hle := skip_le l
  have HA := Lib.hid (fun W (r : RS W g h s (skipB l) m o) => at_any g h s (skipB l) m o W hs (by omega) r)
  have HF := Lib.hid (fun W (r : RS W g h s (skipB l) m o) => fail_any g h s (skipB l) m o 31 W hs (by omega) r)
  have HL := Lib.hid (fun W (r : RS W g h s (skipB l) m o) => literal_any g h s (skipB l) m o W hs (by omega) r)
  have HP : Hid (∀ W, Calls Tryz.prog 90 #[.string (tb (skipB l)), .string ⟨#[34]⟩] W (fun e w' => e = .returned (.bool (decide ((skipB l).take 1 = [34]))) ∧ w' = W)) := Lib.hid (fun W => by have := pre_tb (skipB l) [34] W; rwa [pre1] at this)
  have HC := Lib.hid (fun k W (h : Ss W K (ks.map tb)) => kcontains_any K ks k W h)
  unfold keyE textR
  unfold litE at HL
  obtain ⟨l1, hl1⟩ : ∃ x, skipB l = x := ⟨_, rfl⟩
  rw [hl1] at HS HA HF HL HP hle ⊢
  have hl1s : l1.length ≤ 1000000 := by omega
  obtain ⟨KA, Kn, Kc⟩ := K
  simp only at HC ⊢
  clear r hK hl1 hle hl
  by_cases h34 : l1.take 1 = [34]
  case neg =>
    rw [if_neg h34]
    rw [decide_eq_false h34] at HP
    go_enter Tryz.func66, Tryz.ntmps66
    go_wp2_with fail
    refine HS.out.mono ?_
    rintro E w1 ⟨rfl, hb1, hr1⟩
    have HR1 := Lib.hid hr1
    have HB1 := Lib.hid hb1
    clear hr1 hb1
    go_wp2_with fail
    refine (HA.out _ HR1.out).mono ?_
    rintro E w2 ⟨rfl, hb⟩
    have HR2 := Lib.hid (HR1.out.up hb)
    have HB2 := Lib.hid (HB1.out.on (But.of hb))
    clear hb
    obtain ⟨c0, c1, c2, c3, c4⟩ := HR2.out.cells
    go_wp2_with fail
    refine (HP.out _).mono ?_
    rintro E w3 ⟨rfl, rfl⟩
    go_wp2_with fail
    refine (HF.out _ HR2.out).mono ?_
    rintro E w4 ⟨rfl, hb⟩
    go_wp2
    exact ⟨rfl, by first | rfl | rw [List.length_drop], HB2.out.on hb⟩
  case pos =>
    rw [if_pos h34]
    rw [decide_eq_true h34] at HP
    clear h34
    obtain ⟨⟨x, n, e⟩, hu⟩ : ∃ q, unqL l1 = q := ⟨_, rfl⟩
    rw [hu] at HL ⊢
    simp only at HL ⊢
    clear hu
    by_cases he : e = 0
    case neg =>
      rw [if_neg he] at HL ⊢
      go_enter Tryz.func66, Tryz.ntmps66
      go_wp2_with fail
      refine HS.out.mono ?_
      rintro E w1 ⟨rfl, hb1, hr1⟩
      have HR1 := Lib.hid hr1
      have HB1 := Lib.hid hb1
      clear hr1 hb1
      go_wp2_with fail
      refine (HA.out _ HR1.out).mono ?_
      rintro E w2 ⟨rfl, hb⟩
      have HR2 := Lib.hid (HR1.out.up hb)
      have HB2 := Lib.hid (HB1.out.on (But.of hb))
      clear hb
      obtain ⟨c0, c1, c2, c3, c4⟩ := HR2.out.cells
      go_wp2_with fail
      refine (HP.out _).mono ?_
      rintro E w3 ⟨rfl, rfl⟩
      go_wp2_with fail
      refine (HL.out _ HR2.out).mono ?_
      rintro E w4 ⟨rfl, hb⟩
      go_wp2
      exact ⟨rfl, by first | rfl | rw [List.length_drop], HB2.out.on hb⟩
    case pos =>
      subst he
      rw [if_pos rfl] at HL ⊢
      simp only
      have hp := pos_wrap hs hl1s
      have hc := conc_fault
      cases hk : ks.contains x with
      | true =>
        rw [if_pos rfl]
        go_enter Tryz.func66, Tryz.ntmps66
        go_wp2_with fail
        refine HS.out.mono ?_
        rintro E w1 ⟨rfl, hb1, hr1⟩
        have HR1 := Lib.hid hr1
        have HB1 := Lib.hid hb1
        clear hr1 hb1
        go_wp2_with fail
        refine (HA.out _ HR1.out).mono ?_
        rintro E w2 ⟨rfl, hb⟩
        have HR2 := Lib.hid (HR1.out.up hb)
        have HB2 := Lib.hid (HB1.out.on (But.of hb))
        clear hb
        obtain ⟨c0, c1, c2, c3, c4⟩ := HR2.out.cells
        go_wp2_with fail
        refine (HP.out _).mono ?_
        rintro E w3 ⟨rfl, rfl⟩
        go_wp2_with fail
        refine (HL.out _ HR2.out).mono ?_
        rintro E w4 ⟨rfl, hb, hr4⟩
        have HB4 := Lib.hid (HB2.out.on hb)
        have HC4 := Lib.hid (HC.out x w4 (HK.out w4 HB4.out))
        rw [hk] at HC4
        clear hb c0 c1 c2 c3 c4 hk
        go_wp2_with fail
        refine HC4.out.mono ?_
        rintro E w5 ⟨rfl, hb⟩
        have HB5 := Lib.hid (HB4.out.on (But.of hb))
        clear hb
        go_wp2
        exact ⟨rfl, rfl, HB5.out⟩
      | false =>
        rw [if_neg (by decide)]
        go_enter Tryz.func66, Tryz.ntmps66
        go_wp2_with fail
        refine HS.out.mono ?_
        rintro E w1 ⟨rfl, hb1, hr1⟩
        have HR1 := Lib.hid hr1
        have HB1 := Lib.hid hb1
        clear hr1 hb1
        go_wp2_with fail
        refine (HA.out _ HR1.out).mono ?_
        rintro E w2 ⟨rfl, hb⟩
        have HR2 := Lib.hid (HR1.out.up hb)
        have HB2 := Lib.hid (HB1.out.on (But.of hb))
        clear hb
        obtain ⟨c0, c1, c2, c3, c4⟩ := HR2.out.cells
        go_wp2_with fail
        refine (HP.out _).mono ?_
        rintro E w3 ⟨rfl, rfl⟩
        go_wp2_with fail
        refine (HL.out _ HR2.out).mono ?_
        rintro E w4 ⟨rfl, hb, hr4⟩
        have HB4 := Lib.hid (HB2.out.on hb)
        have HR4 := Lib.hid hr4
        have HC4 := Lib.hid (HC.out x w4 (HK.out w4 HB4.out))
        rw [hk] at HC4
        clear hb c0 c1 c2 c3 c4 hk hr4
        go_wp2_with fail
        refine HC4.out.mono ?_
        rintro E w5 ⟨rfl, hb⟩
        have HB5 := Lib.hid (HB4.out.on (But.of hb))
        have HR5 := Lib.hid (HR4.out.up hb)
        clear hb
        go_wp2
        go_ret
        exact ⟨rfl, HB5.out, HR5.out⟩
end Go.Proofs.YtnkhghjcfhpeiaaGreatDoor

/-
  The program's numbers, walked.
-/
namespace Go.Proofs.YtnkhghjcfhpeiaaGreatDoor
open Go.RowKit

/-- does a text begin with one of those bytes? -/
def begB (l bs : Bs) : Bool := match l with | [] => false | c :: _ => bs.contains c
theorem idx_has (l : Bs) (c : UInt8) : decide (0 ≤ Lib.indexByte l c) = l.contains c := by
  rw [Bool.eq_iff_iff, decide_eq_true_eq, List.contains_iff_mem]
  constructor
  · intro h
    obtain ⟨o, ho⟩ := Int.eq_ofNat_of_zero_le h
    exact List.mem_of_getElem? (Lib.indexByte_some ho).1
  · intro h
    have hge := Lib.indexByte_ge l c
    refine Classical.byContradiction fun hn => ?_
    have he : Lib.indexByte l c = -1 := by omega
    obtain ⟨i, hi, hx⟩ := List.mem_iff_getElem.1 h
    exact Lib.indexByte_none he i (by rw [List.getElem?_eq_getElem hi, hx])
theorem pidx0 {c : UInt8} {t : Bs} (W : World) : (Instr.index 9 (.string (tb (c :: t))) (.int .i64 0)).run Tryz.prog W = .ok (.int .u8 (c.toNat : Int)) W := idx_run (l := c :: t) (i := 0) rfl W
set_option maxRecDepth 100000 in
set_option maxHeartbeats 1000000 in
theorem beg_any (l bs : Bs) (w : World) : Calls Tryz.prog 85 #[.string (tb l), .string (tb bs)] w (fun e w' => e = .returned (.bool (begB l bs)) ∧ w' = w) := by
  match l with
  | [] =>
    have hem : (tb []).toList.isEmpty = true := by rw [isEmp, tb_size]; exact decide_eq_true rfl
    go_enter Tryz.func85, Tryz.ntmps85
    go_wp2
    go_ret
    exact ⟨rfl, rfl⟩
  | c :: t =>
    have hem : (tb (c :: t)).toList.isEmpty = false := by rw [isEmp, tb_size]; exact decide_eq_false (by simp)
    have hi0 := @pidx0 c t
    have HI := Lib.hid (fun W => sh_IndexByte (tb bs) (c.toNat : Int) W)
    have hd := idx_has bs c
    rw [show (tb bs).data.toList = bs from dl_tb bs, show ((c.toNat : Int)).toNat.toUInt8 = c by simp] at HI
    show Calls _ _ _ _ (fun e w' => e = .returned (.bool (bs.contains c)) ∧ w' = w)
    rw [← hd]
    clear hd
    generalize Lib.indexByte bs c = z at *
    generalize (c.toNat : Int) = y at *
    generalize tb (c :: t) = T at *
    by_cases hz : 0 ≤ z
    · have hzd := decide_eq_true hz
      rw [hzd]
      go_enter Tryz.func85, Tryz.ntmps85
      go_wp2_with fail
      refine (HI.out _).mono ?_
      rintro E w1 ⟨rfl, rfl⟩
      go_wp2
      go_ret
      exact ⟨rfl, rfl⟩
    · have hzd := decide_eq_false hz
      rw [hzd]
      go_enter Tryz.func85, Tryz.ntmps85
      go_wp2_with fail
      refine (HI.out _).mono ?_
      rintro E w1 ⟨rfl, rfl⟩
      go_wp2
      go_ret
      exact ⟨rfl, rfl⟩
def dgs10 : Bs := [48, 49, 50, 51, 52, 53, 54, 55, 56, 57]
theorem dgs10_is (c : UInt8) : dgs10.contains c = digB c := by
  have h : ∀ n : Fin 256, dgs10.contains (UInt8.ofNat n.1) = digB (UInt8.ofNat n.1) := by decide +kernel
  have := h ⟨c.toNat, c.toNat_lt⟩
  simpa using this
theorem dgs10_drop : ∀ l : Bs, Lib.trimLeftS l dgs10 = l.drop (digL l)
  | [] => rfl
  | c :: t => by
    have ih := dgs10_drop t
    unfold Lib.trimLeftS at ih ⊢
    rw [List.dropWhile_cons, dgs10_is, digL]
    cases h : digB c with
    | true => rw [if_pos rfl, if_pos rfl, ih, List.drop_succ_cons]
    | false => rw [if_neg (by decide), if_neg (by decide)]; rfl
theorem beg_dig (l : Bs) : begB l dgs10 = decide (digL l ≠ 0) := by
  cases l with
  | nil => rfl
  | cons c t =>
    show dgs10.contains c = _
    rw [dgs10_is, digL]
    cases digB c <;> simp
/-- two results: a text and a bool -/
def CutEnds (r : Bs) (b : Bool) (w : World) (E : Ending) (w' : World) : Prop := E = .returned (.tuple #[.string (tb r), .bool b]) ∧ Below w.heap.size w w'
set_option maxRecDepth 100000 in
set_option maxHeartbeats 1000000 in
theorem cutDigits_any (l : Bs) (w : World) : Calls Tryz.prog 86 #[.string (tb l)] w (CutEnds (l.drop (digL l)) (decide (digL l ≠ 0)) w) := by
  have HT : Hid (Calls Tryz.prog 67 #[.string (tb l), .string ⟨#[48, 49, 50, 51, 52, 53, 54, 55, 56, 57]⟩] w (TxtB (l.drop (digL l)) w)) := Lib.hid (by
    refine (sh_TrimLeft (tb l) ⟨#[48, 49, 50, 51, 52, 53, 54, 55, 56, 57]⟩ w (by decide) (ascii_of_all (by decide))).mono ?_
    rintro E w' ⟨rfl, hb⟩
    refine ⟨?_, hb⟩
    rw [show (tb l).data.toList = l from dl_tb l, show (⟨#[48, 49, 50, 51, 52, 53, 54, 55, 56, 57]⟩ : ByteArray).data.toList = dgs10 from rfl, dgs10_drop]
    rfl)
  have HB : Hid (∀ W, Calls Tryz.prog 85 #[.string (tb l), .string ⟨#[48, 49, 50, 51, 52, 53, 54, 55, 56, 57]⟩] W (fun e w' => e = .returned (.bool (decide (digL l ≠ 0))) ∧ w' = W)) := Lib.hid (fun W => by have := beg_any l dgs10 W; rwa [beg_dig] at this)
  obtain ⟨b, hb⟩ : ∃ b, decide (digL l ≠ 0) = b := ⟨_, rfl⟩
  rw [hb] at HB ⊢
  clear hb
  go_enter Tryz.func86, Tryz.ntmps86
  go_wp2_with fail
  refine HT.out.mono ?_
  rintro E w1 ⟨rfl, hb1⟩
  go_wp2_with fail
  refine (HB.out _).mono ?_
  rintro E w2 ⟨rfl, rfl⟩
  go_wp2
  go_ret2
  exact ⟨rfl, hb1⟩
set_option maxRecDepth 100000 in
set_option maxHeartbeats 1000000 in
theorem cutSign_any (l : Bs) (w : World) : Calls Tryz.prog 87 #[.string (tb l)] w (fun e w' => e = .returned (.string (tb (l.drop (sg2L l)))) ∧ w' = w) := by
  have HB : Hid (∀ W, Calls Tryz.prog 85 #[.string (tb l), .string ⟨#[43, 45]⟩] W (fun e w' => e = .returned (.bool (begB l [43, 45])) ∧ w' = W)) := Lib.hid (fun W => beg_any l [43, 45] W)
  have zl : (tb l).size = l.length := tb_size l
  match l with
  | [] =>
    go_enter Tryz.func87, Tryz.ntmps87
    go_wp2_with fail
    refine (HB.out _).mono ?_
    rintro E w1 ⟨rfl, rfl⟩
    simp only [begB]
    go_wp2
    go_ret
    exact ⟨rfl, rfl⟩
  | c :: t =>
    have hbe : begB (c :: t) [43, 45] = decide (c = 43 ∨ c = 45) := by
      show ([43, 45] : Bs).contains c = _
      rw [Bool.eq_iff_iff, List.contains_iff_mem, decide_eq_true_eq]
      simp
    rw [hbe] at HB
    have hx : (tb (c :: t)).extract 1 (t.length + 1) = tb t := by
      rw [show t.length + 1 = (c :: t).length from rfl, tb_ext, List.take_length]; rfl
    rw [List.length_cons] at zl
    rw [sg2L]
    clear hbe
    by_cases h : c = 43 ∨ c = 45
    · rw [decide_eq_true h] at HB
      rw [if_pos h]
      clear h
      go_enter Tryz.func87, Tryz.ntmps87
      go_wp2_with fail
      refine (HB.out _).mono ?_
      rintro E w1 ⟨rfl, rfl⟩
      go_wp2
      go_ret
      exact ⟨rfl, rfl⟩
    · rw [decide_eq_false h] at HB
      rw [if_neg h]
      clear h
      go_enter Tryz.func87, Tryz.ntmps87
      go_wp2_with fail
      refine (HB.out _).mono ?_
      rintro E w1 ⟨rfl, rfl⟩
      go_wp2
      go_ret
      exact ⟨rfl, rfl⟩
set_option maxRecDepth 100000 in
set_option maxHeartbeats 1000000 in
theorem cutWhole_any (l : Bs) (w : World) : Calls Tryz.prog 83 #[.string (tb l)] w (CutEnds (l.drop (intL l)) (decide (intL l ≠ 0)) w) := by
  have HC : Hid (∀ W, Calls Tryz.prog 104 #[.string (tb l), .string ⟨#[48]⟩] W (fun e w' => e = .returned (.tuple #[.string (tb (cutP [48] l).1), .bool (cutP [48] l).2]) ∧ w' = W)) := Lib.hid (fun W => cut_any l [48] W)
  have HD := Lib.hid (fun W => cutDigits_any l W)
  by_cases h : ∃ t, l = 48 :: t
  · obtain ⟨t, rfl⟩ := h
    have e1 : cutP [48] (48 :: t) = (t, true) := by
      unfold cutP
      rw [if_pos (by rw [List.isPrefixOf_iff_prefix]; exact ⟨t, rfl⟩)]
      rfl
    have e2 : intL (48 :: t) = 1 := by rw [intL, if_pos rfl]
    rw [e1] at HC
    rw [e2]
    clear HD e1 e2
    go_enter Tryz.func83, Tryz.ntmps83
    go_wp2_with fail
    refine (HC.out _).mono ?_
    rintro E w1 ⟨rfl, rfl⟩
    go_wp2
    go_ret2
    exact ⟨rfl, Below.refl _ _⟩
  · have e1 : cutP [48] l = (l, false) := by
      unfold cutP
      rw [if_neg]
      intro h1
      rw [List.isPrefixOf_iff_prefix] at h1
      obtain ⟨r, hr⟩ := h1
      exact h ⟨r, hr.symm⟩
    have e2 : intL l = digL l := by
      cases l with
      | nil => rfl
      | cons c t => rw [intL, if_neg (fun e => h ⟨t, by rw [e]⟩)]
    rw [e1] at HC
    rw [e2]
    obtain ⟨n, hn⟩ : ∃ n, digL l = n := ⟨_, rfl⟩
    rw [hn] at HD ⊢
    obtain ⟨b, hb⟩ : ∃ b, decide (n ≠ 0) = b := ⟨_, rfl⟩
    rw [hb] at HD ⊢
    clear e1 e2 h hn hb
    go_enter Tryz.func83, Tryz.ntmps83
    go_wp2_with fail
    refine (HC.out _).mono ?_
    rintro E w1 ⟨rfl, rfl⟩
    go_wp2_with fail
    refine (HD.out _).mono ?_
    rintro E w2 ⟨rfl, hb⟩
    go_wp2
    go_ret2
    exact ⟨rfl, hb⟩
theorem frac_cases (l : Bs) : (begB l [46] = false ∧ fracL l = some 0) ∨ (begB l [46] = true ∧ l ≠ [] ∧ ((digL (l.drop 1) = 0 ∧ fracL l = none) ∨ (digL (l.drop 1) ≠ 0 ∧ fracL l = some (1 + digL (l.drop 1))))) := by
  cases l with
  | nil => exact .inl ⟨rfl, rfl⟩
  | cons c t =>
    have hb : begB (c :: t) [46] = decide (c = 46) := by
      show ([46] : Bs).contains c = _
      rw [Bool.eq_iff_iff, List.contains_iff_mem, decide_eq_true_eq, List.mem_singleton]
    rw [hb, fracL]
    by_cases h : c = 46
    · rw [if_pos h, decide_eq_true h, List.drop_succ_cons, List.drop_zero]
      by_cases hd : digL t = 0
      · exact .inr ⟨rfl, by simp, .inl ⟨hd, if_pos hd⟩⟩
      · exact .inr ⟨rfl, by simp, .inr ⟨hd, if_neg hd⟩⟩
    · rw [if_neg h, decide_eq_false h]
      exact .inl ⟨rfl, rfl⟩
theorem exp_cases (l : Bs) : (begB l [101, 69] = false ∧ expL l = some 0) ∨ (begB l [101, 69] = true ∧ l ≠ [] ∧ ((digL ((l.drop 1).drop (sg2L (l.drop 1))) = 0 ∧ expL l = none) ∨ (digL ((l.drop 1).drop (sg2L (l.drop 1))) ≠ 0 ∧ expL l = some (1 + sg2L (l.drop 1) + digL ((l.drop 1).drop (sg2L (l.drop 1))))))) := by
  cases l with
  | nil => exact .inl ⟨rfl, rfl⟩
  | cons c t =>
    have hb : begB (c :: t) [101, 69] = decide (c = 101 ∨ c = 69) := by
      show ([101, 69] : Bs).contains c = _
      rw [Bool.eq_iff_iff, List.contains_iff_mem, decide_eq_true_eq]
      simp
    rw [hb, expL]
    by_cases h : c = 101 ∨ c = 69
    · rw [if_pos h, decide_eq_true h, List.drop_succ_cons, List.drop_zero]
      by_cases hd : digL (t.drop (sg2L t)) = 0
      · exact .inr ⟨rfl, by simp, .inl ⟨hd, if_pos hd⟩⟩
      · exact .inr ⟨rfl, by simp, .inr ⟨hd, if_neg hd⟩⟩
    · rw [if_neg h, decide_eq_false h]
      exact .inl ⟨rfl, rfl⟩
theorem trimP_any (l : Bs) (w : World) : Calls Tryz.prog 84 #[.string (tb l), .string ⟨#[45]⟩] w (fun e w' => e = .returned (.string (tb (l.drop (sgnL l)))) ∧ w' = w) := by
  refine (sh_TrimPrefix (tb l) ⟨#[45]⟩ w).mono ?_
  rintro E w' ⟨rfl, rfl⟩
  refine ⟨?_, rfl⟩
  rw [show (tb l).data.toList = l from dl_tb l, show (⟨#[45]⟩ : ByteArray).data.toList = [45] from rfl]
  unfold Lib.trimPrefix
  rw [hasP_iff]
  cases l with
  | nil => rfl
  | cons c t =>
    rw [sgnL]
    by_cases h : c = 45
    · subst h
      rw [if_pos rfl, if_pos (by rw [List.isPrefixOf_iff_prefix]; exact ⟨t, rfl⟩)]
      rfl
    · rw [if_neg h, if_neg]
      · rfl
      · intro h1
        rw [List.isPrefixOf_iff_prefix] at h1
        obtain ⟨r, hr⟩ := h1
        exact h (List.cons.inj hr).1.symm
/-- what is left behind a number, and whether there is one -/
def NumCut (l : Bs) (w : World) (E : Ending) (w' : World) : Prop := ∃ r, E = .returned (.tuple #[.string (tb r), .bool (decide (numberL l ≠ 0))]) ∧ (numberL l ≠ 0 → r = l.drop (numberL l)) ∧ Below w.heap.size w w'
set_option maxRecDepth 100000 in
set_option maxHeartbeats 4000000 in
theorem cutNumber_any (l : Bs) (hl : l.length ≤ 1000000) (w : World) : Calls Tryz.prog 61 #[.string (tb l)] w (NumCut l w) := by
  unfold NumCut
  have HT := Lib.hid (fun W => trimP_any l W)
  obtain ⟨l1, h1⟩ : ∃ x, l.drop (sgnL l) = x := ⟨_, rfl⟩
  have HW := Lib.hid (fun W => cutWhole_any l1 W)
  obtain ⟨Q, hQ⟩ : ∃ Q, numberL l = Q := ⟨_, rfl⟩
  rw [hQ]
  obtain ⟨p0, hp0⟩ : ∃ x, sgnL l = x := ⟨_, rfl⟩
  have HQ : Hid (Q = if intL l1 = 0 then 0 else match fracL (l1.drop (intL l1)) with
    | none => 0
    | some a => match expL ((l1.drop (intL l1)).drop a) with
      | none => 0
      | some b => p0 + intL l1 + a + b) := Lib.hid (by
    rw [← hQ, numberL, ← h1, hp0, List.drop_drop]
    simp only [List.drop_drop]
    rfl)
  rw [h1] at HT
  have HL : Hid (l1 = l.drop p0) := Lib.hid (by rw [← h1, hp0])
  have hl1 : l1.length ≤ 1000000 := by rw [← h1, List.length_drop]; omega
  clear hQ h1 hp0
  obtain ⟨i, hi⟩ : ∃ i, intL l1 = i := ⟨_, rfl⟩
  rw [hi] at HW HQ
  clear hi
  obtain ⟨r1, hr1⟩ : ∃ x, l1.drop i = x := ⟨_, rfl⟩
  rw [hr1] at HW HQ
  have hr1l : r1.length ≤ 1000000 := by rw [← hr1, List.length_drop]; omega
  have HR1 : Hid (r1 = l.drop (p0 + i)) := Lib.hid (by rw [← hr1, HL.out, List.drop_drop])
  clear hr1
  by_cases hi0 : i = 0
  · have hq : Q = 0 := by rw [HQ.out, if_pos hi0]
    subst hq
    subst hi0
    clear HQ
    rw [show decide ((0 : Nat) ≠ 0) = false from rfl] at HW ⊢
    go_enter Tryz.func61, Tryz.ntmps61
    go_wp2_with fail
    refine (HT.out _).mono ?_
    rintro E w1 ⟨rfl, rfl⟩
    go_wp2_with fail
    refine (HW.out _).mono ?_
    rintro E w2 ⟨rfl, hb⟩
    go_wp2
    go_ret2
    exact ⟨_, rfl, fun h => absurd rfl h, hb⟩
  · rw [decide_eq_true hi0] at HW
    replace HQ := Lib.hid (HQ.out.trans (if_neg hi0))
    have hfc := frac_cases r1
    have HB1 : Hid (∀ W, Calls Tryz.prog 85 #[.string (tb r1), .string ⟨#[46]⟩] W (fun e w' => e = .returned (.bool (begB r1 [46])) ∧ w' = W)) := Lib.hid (fun W => beg_any r1 [46] W)
    have HD1 := Lib.hid (fun W => cutDigits_any (r1.drop 1) W)
    have z1 : (tb r1).size = r1.length := tb_size r1
    have hx1 : (tb r1).extract 1 r1.length = tb (r1.drop 1) := by rw [tb_ext, List.take_length]
    obtain ⟨t1, ht1⟩ : ∃ x, r1.drop 1 = x := ⟨_, rfl⟩
    rw [ht1] at hx1 HD1 hfc
    rcases hfc with ⟨hb1, hf⟩ | ⟨hb1, hne, ⟨hd, hf⟩ | ⟨hd, hf⟩⟩
    · rw [hb1] at HB1
      replace HQ : Hid (Q = match expL r1 with | none => 0 | some b => p0 + i + 0 + b) := Lib.hid (by have h := HQ.out; rw [hf] at h; exact h)
      clear hb1 hf HD1 hx1 ht1
      have HR2 : Hid (r1 = l.drop (p0 + i + 0)) := Lib.hid HR1.out
      have hec := exp_cases r1
      have HB2 : Hid (∀ W, Calls Tryz.prog 85 #[.string (tb r1), .string ⟨#[101, 69]⟩] W (fun e w' => e = .returned (.bool (begB r1 [101, 69])) ∧ w' = W)) := Lib.hid (fun W => beg_any r1 [101, 69] W)
      have HSg := Lib.hid (fun W => cutSign_any (r1.drop 1) W)
      obtain ⟨r3, hr3⟩ : ∃ x, (r1.drop 1).drop (sg2L (r1.drop 1)) = x := ⟨_, rfl⟩
      rw [hr3] at hec HSg
      have HD2 := Lib.hid (fun W => cutDigits_any r3 W)
      have z2 : (tb r1).size = r1.length := tb_size r1
      have hx2 : (tb r1).extract 1 r1.length = tb (r1.drop 1) := by rw [tb_ext, List.take_length]
      obtain ⟨t2, ht2⟩ : ∃ x, r1.drop 1 = x := ⟨_, rfl⟩
      rw [ht2] at hx2 hec HSg hr3
      rcases hec with ⟨hb2, he⟩ | ⟨hb2, hne2, ⟨hd2, he⟩ | ⟨hd2, he⟩⟩
      · have hq : Q = p0 + i + 0 + 0 := by have h := HQ.out; rw [he] at h; exact h
        have hqn : decide (Q ≠ 0) = true := decide_eq_true (by omega)
        have hqr : Q ≠ 0 → r1 = l.drop Q := fun _ => by rw [hq, Nat.add_zero]; exact HR2.out
        rw [hb2] at HB2
        rw [hqn]
        clear hq hqn he hb2 HQ hr3
        go_enter Tryz.func61, Tryz.ntmps61
        go_wp2_with fail
        refine (HT.out _).mono ?_
        rintro E w1 ⟨rfl, rfl⟩
        go_wp2_with fail
        refine (HW.out _).mono ?_
        rintro E w2 ⟨rfl, hb⟩
        have HBe := Lib.hid hb
        clear hb HT HW
        go_wp2_with fail
        refine (HB1.out _).mono ?_
        rintro E w3 ⟨rfl, rfl⟩
        go_wp2_with fail
        refine (HB2.out _).mono ?_
        rintro E w5 ⟨rfl, rfl⟩
        go_wp2
        go_ret2
        exact ⟨_, rfl, hqr, HBe.out⟩
      · have hl2 : (1 : Int) ≤ (r1.length : Int) := by have := List.length_pos_iff.2 hne2; omega
        have hq : Q = 0 := by have h := HQ.out; rw [he] at h; exact h
        subst hq
        rw [hb2] at HB2
        rw [hd2] at HD2
        rw [show decide ((0 : Nat) ≠ 0) = false from rfl] at HD2 ⊢
        clear he hb2 hd2 hne2 HQ hr3
        go_enter Tryz.func61, Tryz.ntmps61
        go_wp2_with fail
        refine (HT.out _).mono ?_
        rintro E w1 ⟨rfl, rfl⟩
        go_wp2_with fail
        refine (HW.out _).mono ?_
        rintro E w2 ⟨rfl, hb⟩
        have HBe := Lib.hid hb
        clear hb HT HW
        go_wp2_with fail
        refine (HB1.out _).mono ?_
        rintro E w3 ⟨rfl, rfl⟩
        go_wp2_with fail
        refine (HB2.out _).mono ?_
        rintro E w5 ⟨rfl, rfl⟩
        go_wp2_with fail
        refine (HSg.out _).mono ?_
        rintro E w6 ⟨rfl, rfl⟩
        go_wp2_with fail
        refine (HD2.out _).mono ?_
        rintro E w7 ⟨rfl, hb⟩
        have HBf := bon HBe.out hb
        go_wp2
        go_ret2
        exact ⟨_, rfl, fun h => absurd rfl h, HBf⟩
      · have hl2 : (1 : Int) ≤ (r1.length : Int) := by have := List.length_pos_iff.2 hne2; omega
        obtain ⟨n2, hn2⟩ : ∃ x, digL r3 = x := ⟨_, rfl⟩
        rw [hn2] at hd2 he HD2
        obtain ⟨n3, hn3⟩ : ∃ x, sg2L t2 = x := ⟨_, rfl⟩
        rw [hn3] at he hr3
        have hq : Q = p0 + i + 0 + (1 + n3 + n2) := by have h := HQ.out; rw [he] at h; exact h
        have hqn : decide (Q ≠ 0) = true := decide_eq_true (by omega)
        have hqr : Q ≠ 0 → r3.drop n2 = l.drop Q := fun _ => by rw [hq, ← hr3, ← ht2, HR2.out, List.drop_drop, List.drop_drop, List.drop_drop]; congr 1; omega
        rw [hb2] at HB2
        rw [decide_eq_true hd2] at HD2
        rw [hqn]
        clear hq hqn he hb2 hd2 hne2 HQ hr3 hn2 hn3
        go_enter Tryz.func61, Tryz.ntmps61
        go_wp2_with fail
        refine (HT.out _).mono ?_
        rintro E w1 ⟨rfl, rfl⟩
        go_wp2_with fail
        refine (HW.out _).mono ?_
        rintro E w2 ⟨rfl, hb⟩
        have HBe := Lib.hid hb
        clear hb HT HW
        go_wp2_with fail
        refine (HB1.out _).mono ?_
        rintro E w3 ⟨rfl, rfl⟩
        go_wp2_with fail
        refine (HB2.out _).mono ?_
        rintro E w5 ⟨rfl, rfl⟩
        go_wp2_with fail
        refine (HSg.out _).mono ?_
        rintro E w6 ⟨rfl, rfl⟩
        go_wp2_with fail
        refine (HD2.out _).mono ?_
        rintro E w7 ⟨rfl, hb⟩
        have HBf := bon HBe.out hb
        go_wp2
        go_ret2
        exact ⟨_, rfl, hqr, HBf⟩
    · have hl1 : (1 : Int) ≤ (r1.length : Int) := by have := List.length_pos_iff.2 hne; omega
      have hq : Q = 0 := by have h := HQ.out; rw [hf] at h; exact h
      subst hq
      rw [hb1] at HB1
      rw [hd] at HD1
      rw [show decide ((0 : Nat) ≠ 0) = false from rfl] at HD1 ⊢
      clear hf hb1 hd hne HQ
      go_enter Tryz.func61, Tryz.ntmps61
      go_wp2_with fail
      refine (HT.out _).mono ?_
      rintro E w1 ⟨rfl, rfl⟩
      go_wp2_with fail
      refine (HW.out _).mono ?_
      rintro E w2 ⟨rfl, hb⟩
      have HBe := Lib.hid hb
      clear hb HT HW
      go_wp2_with fail
      refine (HB1.out _).mono ?_
      rintro E w3 ⟨rfl, rfl⟩
      go_wp2_with fail
      refine (HD1.out _).mono ?_
      rintro E w4 ⟨rfl, hb⟩
      replace HBe := Lib.hid (bon HBe.out hb)
      clear hb
      go_wp2
      go_ret2
      exact ⟨_, rfl, fun h => absurd rfl h, HBe.out⟩
    · have hl1 : (1 : Int) ≤ (r1.length : Int) := by have := List.length_pos_iff.2 hne; omega
      rw [hb1] at HB1
      obtain ⟨n1, hn1⟩ : ∃ x, digL t1 = x := ⟨_, rfl⟩
      rw [hn1] at hd hf HD1
      rw [decide_eq_true hd] at HD1
      obtain ⟨r2, hr2⟩ : ∃ x, t1.drop n1 = x := ⟨_, rfl⟩
      rw [hr2] at HD1
      replace HQ : Hid (Q = match expL r2 with | none => 0 | some b => p0 + i + (1 + n1) + b) := Lib.hid (by have h := HQ.out; rw [hf] at h; dsimp only at h; rw [show r1.drop (1 + n1) = r2 by rw [← hr2, ← ht1, List.drop_drop]] at h; exact h)
      have HR2 : Hid (r2 = l.drop (p0 + i + (1 + n1))) := Lib.hid (by rw [← hr2, ← ht1, HR1.out, List.drop_drop, List.drop_drop, Nat.add_assoc])
      have hr2l : r2.length ≤ 1000000 := by rw [← hr2, ← ht1, List.length_drop, List.length_drop]; omega
      clear hb1 hf hd hne hn1 hr2 ht1
      have hec := exp_cases r2
      have HB2 : Hid (∀ W, Calls Tryz.prog 85 #[.string (tb r2), .string ⟨#[101, 69]⟩] W (fun e w' => e = .returned (.bool (begB r2 [101, 69])) ∧ w' = W)) := Lib.hid (fun W => beg_any r2 [101, 69] W)
      have HSg := Lib.hid (fun W => cutSign_any (r2.drop 1) W)
      obtain ⟨r3, hr3⟩ : ∃ x, (r2.drop 1).drop (sg2L (r2.drop 1)) = x := ⟨_, rfl⟩
      rw [hr3] at hec HSg
      have HD2 := Lib.hid (fun W => cutDigits_any r3 W)
      have z2 : (tb r2).size = r2.length := tb_size r2
      have hx2 : (tb r2).extract 1 r2.length = tb (r2.drop 1) := by rw [tb_ext, List.take_length]
      obtain ⟨t2, ht2⟩ : ∃ x, r2.drop 1 = x := ⟨_, rfl⟩
      rw [ht2] at hx2 hec HSg hr3
      rcases hec with ⟨hb2, he⟩ | ⟨hb2, hne2, ⟨hd2, he⟩ | ⟨hd2, he⟩⟩
      · have hq : Q = p0 + i + (1 + n1) + 0 := by have h := HQ.out; rw [he] at h; exact h
        have hqn : decide (Q ≠ 0) = true := decide_eq_true (by omega)
        have hqr : Q ≠ 0 → r2 = l.drop Q := fun _ => by rw [hq, Nat.add_zero]; exact HR2.out
        rw [hb2] at HB2
        rw [hqn]
        clear hq hqn he hb2 HQ hr3
        go_enter Tryz.func61, Tryz.ntmps61
        go_wp2_with fail
        refine (HT.out _).mono ?_
        rintro E w1 ⟨rfl, rfl⟩
        go_wp2_with fail
        refine (HW.out _).mono ?_
        rintro E w2 ⟨rfl, hb⟩
        have HBe := Lib.hid hb
        clear hb HT HW
        go_wp2_with fail
        refine (HB1.out _).mono ?_
        rintro E w3 ⟨rfl, rfl⟩
        go_wp2_with fail
        refine (HD1.out _).mono ?_
        rintro E w4 ⟨rfl, hb⟩
        replace HBe := Lib.hid (bon HBe.out hb)
        clear hb
        go_wp2_with fail
        refine (HB2.out _).mono ?_
        rintro E w5 ⟨rfl, rfl⟩
        go_wp2
        go_ret2
        exact ⟨_, rfl, hqr, HBe.out⟩
      · have hl2 : (1 : Int) ≤ (r2.length : Int) := by have := List.length_pos_iff.2 hne2; omega
        have hq : Q = 0 := by have h := HQ.out; rw [he] at h; exact h
        subst hq
        rw [hb2] at HB2
        rw [hd2] at HD2
        rw [show decide ((0 : Nat) ≠ 0) = false from rfl] at HD2 ⊢
        clear he hb2 hd2 hne2 HQ hr3
        go_enter Tryz.func61, Tryz.ntmps61
        go_wp2_with fail
        refine (HT.out _).mono ?_
        rintro E w1 ⟨rfl, rfl⟩
        go_wp2_with fail
        refine (HW.out _).mono ?_
        rintro E w2 ⟨rfl, hb⟩
        have HBe := Lib.hid hb
        clear hb HT HW
        go_wp2_with fail
        refine (HB1.out _).mono ?_
        rintro E w3 ⟨rfl, rfl⟩
        go_wp2_with fail
        refine (HD1.out _).mono ?_
        rintro E w4 ⟨rfl, hb⟩
        replace HBe := Lib.hid (bon HBe.out hb)
        clear hb
        go_wp2_with fail
        refine (HB2.out _).mono ?_
        rintro E w5 ⟨rfl, rfl⟩
        go_wp2_with fail
        refine (HSg.out _).mono ?_
        rintro E w6 ⟨rfl, rfl⟩
        go_wp2_with fail
        refine (HD2.out _).mono ?_
        rintro E w7 ⟨rfl, hb⟩
        have HBf := bon HBe.out hb
        go_wp2
        go_ret2
        exact ⟨_, rfl, fun h => absurd rfl h, HBf⟩
      · have hl2 : (1 : Int) ≤ (r2.length : Int) := by have := List.length_pos_iff.2 hne2; omega
        obtain ⟨n2, hn2⟩ : ∃ x, digL r3 = x := ⟨_, rfl⟩
        rw [hn2] at hd2 he HD2
        obtain ⟨n3, hn3⟩ : ∃ x, sg2L t2 = x := ⟨_, rfl⟩
        rw [hn3] at he hr3
        have hq : Q = p0 + i + (1 + n1) + (1 + n3 + n2) := by have h := HQ.out; rw [he] at h; exact h
        have hqn : decide (Q ≠ 0) = true := decide_eq_true (by omega)
        have hqr : Q ≠ 0 → r3.drop n2 = l.drop Q := fun _ => by rw [hq, ← hr3, ← ht2, HR2.out, List.drop_drop, List.drop_drop, List.drop_drop]; congr 1; omega
        rw [hb2] at HB2
        rw [decide_eq_true hd2] at HD2
        rw [hqn]
        clear hq hqn he hb2 hd2 hne2 HQ hr3 hn2 hn3
        go_enter Tryz.func61, Tryz.ntmps61
        go_wp2_with fail
        refine (HT.out _).mono ?_
        rintro E w1 ⟨rfl, rfl⟩
        go_wp2_with fail
        refine (HW.out _).mono ?_
        rintro E w2 ⟨rfl, hb⟩
        have HBe := Lib.hid hb
        clear hb HT HW
        go_wp2_with fail
        refine (HB1.out _).mono ?_
        rintro E w3 ⟨rfl, rfl⟩
        go_wp2_with fail
        refine (HD1.out _).mono ?_
        rintro E w4 ⟨rfl, hb⟩
        replace HBe := Lib.hid (bon HBe.out hb)
        clear hb
        go_wp2_with fail
        refine (HB2.out _).mono ?_
        rintro E w5 ⟨rfl, rfl⟩
        go_wp2_with fail
        refine (HSg.out _).mono ?_
        rintro E w6 ⟨rfl, rfl⟩
        go_wp2_with fail
        refine (HD2.out _).mono ?_
        rintro E w7 ⟨rfl, hb⟩
        have HBf := bon HBe.out hb
        go_wp2
        go_ret2
        exact ⟨_, rfl, hqr, HBf⟩
set_option maxRecDepth 100000 in
set_option maxHeartbeats 1000000 in
theorem isNumber_any (l : Bs) (hl : l.length ≤ 1000000) (w : World) : Calls Tryz.prog 70 #[.string (tb l)] w (BoolEnds (numT l) w) := by
  have HC := Lib.hid (cutNumber_any l hl w)
  have hT : numT l = (decide (numberL l ≠ 0) && decide (l.drop (numberL l) = [])) := by
    unfold numT
    have hle := jn_le l
    rw [Bool.eq_iff_iff]
    cases l with
    | nil => simp [numberL, intL, sgnL]
    | cons c t =>
      simp only [List.isEmpty_cons, Bool.not_false, Bool.true_and, decide_eq_true_eq, Bool.and_eq_true, List.drop_eq_nil_iff]
      constructor
      · intro h; rw [h]; simp
      · intro h; omega
  rw [hT]
  unfold NumCut at HC
  obtain ⟨n, hn⟩ : ∃ x, numberL l = x := ⟨_, rfl⟩
  rw [hn] at HC ⊢
  clear hT hn
  by_cases h0 : n = 0
  · subst h0
    rw [show decide ((0 : Nat) ≠ 0) = false from rfl] at HC ⊢
    rw [Bool.false_and]
    go_enter Tryz.func70, Tryz.ntmps70
    go_wp2_with fail
    refine HC.out.mono ?_
    rintro E w1 ⟨r, rfl, _, hb⟩
    go_wp2
    go_ret
    exact ⟨rfl, hb⟩
  · rw [decide_eq_true h0] at HC ⊢
    rw [Bool.true_and]
    by_cases hd : l.drop n = []
    · rw [decide_eq_true hd]
      go_enter Tryz.func70, Tryz.ntmps70
      go_wp2_with fail
      refine HC.out.mono ?_
      rintro E w1 ⟨r, rfl, hr, hb⟩
      have hr2 := hr h0
      rw [hd] at hr2
      have hem : (tb r).toList.isEmpty = true := by rw [hr2, isEmp, tb_size]; exact decide_eq_true rfl
      clear hr hr2 hd
      go_wp2
      go_ret
      exact ⟨rfl, hb⟩
    · rw [decide_eq_false hd]
      go_enter Tryz.func70, Tryz.ntmps70
      go_wp2_with fail
      refine HC.out.mono ?_
      rintro E w1 ⟨r, rfl, hr, hb⟩
      have hr2 := hr h0
      have hem : (tb r).toList.isEmpty = false := by rw [hr2, isEmp, tb_size]; exact decide_eq_false (fun e => hd (List.eq_nil_of_length_eq_zero e))
      clear hr hr2 hd
      go_wp2
      go_ret
      exact ⟨rfl, hb⟩
end Go.Proofs.YtnkhghjcfhpeiaaGreatDoor
