/-
  The document's own reader: a quoted text.
-/
import Derived.Test.YtnkhghjcfhpeiaaGreatDoorXb
import Derived.Test.YtnkhghjcfhpeiaaGreatDoorRf
import Derived.Deep.RegionHeld3
namespace Go.Proofs.YtnkhghjcfhpeiaaGreatDoor
open Go.RowKit
/-- how a part that was read, or an error, leaves the reader -/
def ResX (res : Except (Int × Bs) (Bs × Bs)) (x : Bs) (l : Bs) (e : Int) : Prop := match res with
  | .error (e', r) => l = r ∧ e = e' ∧ e ≠ 0
  | .ok (x', r) => x = x' ∧ l = r ∧ e = 0
/-- a text is handed back, right or not -/
def TxD (g : Nat) (s : Bs) (m : Nat) (res : Except (Int × Bs) (Bs × Bs)) (w : World) (E : Ending) (w' : World) : Prop := ∃ (x l : Bs) (e : Int), x.length ≤ s.length ∧ ResX res x l e ∧ DEnds g s w (.string (tb x)) l m e E w'
theorem held2 {W X w' : World} {a0 a1 : Addr} {v0 v1 : Value} (hb : Below X.heap.size X w') (h : Below W.heap.size W X ∧ X.cell? a0 = some v0 ∧ X.cell? a1 = some v1) : Below W.heap.size W w' ∧ w'.cell? a0 = some v0 ∧ w'.cell? a1 = some v1 := ⟨bon h.1 hb, cell_up hb h.2.1, cell_up hb h.2.2⟩
theorem unq_le (l : Bs) : (unqL l).1.length ≤ l.length := by
  have h := unq_good l
  by_cases h0 : (unqL l).2.2 = 0
  · have := h.2.2 h0
    omega
  · rw [(h.2.1 h0).1]
    simp
theorem nq_len {s : Bs} {p : Nat} {l : Bs} {n : Nat} (h : s.drop p = l) (hn : n ≤ l.length) (hp : p ≤ s.length) : s.drop (p + n) = l.drop n ∧ p + n ≤ s.length := by
  constructor
  · rw [← List.drop_drop, h]
  · have : l.length = s.length - p := by rw [← h, List.length_drop]
    omega
set_option maxRecDepth 100000 in
set_option maxHeartbeats 4000000 in
theorem stext_ok (g : Nat) (s l : Bs) (m : Nat) (w : World) (hs : s.length ≤ 1000000) (h : DS w g s l m 0) : Calls Tryz.prog 52 #[.pointer (some ⟨g, 0, none⟩)] w (TxD g s m (textR (skipB l)) w) := by
  have zs : (tb s).size = s.length := tb_size s
  have HS := Lib.hid (sskip_ok g s l m w hs h)
  have hll : l.length ≤ s.length := h.le
  have hsl := skip_le l
  clear h
  cases hsk : skipB l with
  | nil =>
    rw [hsk] at HS
    have ht : textR [] = .error (31, []) := rfl
    rw [ht]
    clear hsk ht hsl hll
    go_enter Tryz.func52, Tryz.ntmps52
    go_wp2_with fail
    refine HS.out.mono ?_
    rintro E w1 ⟨rfl, hb1, hd1⟩
    obtain ⟨c0, c1, c2, c3⟩ := hd1.cells
    rw [List.length_nil, Nat.sub_zero] at c1
    have hpp : (s.length : Int) ≤ (s.length : Int) := by omega
    have hdd : decide ((s.length : Int) ≤ (s.length : Int)) = true := decide_eq_true hpp
    have HD1 := Lib.hid hd1
    have HB1 := Lib.hid hb1
    clear hd1 hb1 HS
    go_wp2_with fail
    go_quiet (fail)
    rename_i nq
    have hbq := below_drewN (Below.refl w1.heap.size w1) nq
    have HD3 := Lib.hid (HD1.out.up hbq)
    have HB3 := Lib.hid (HB1.out.on (But.of hbq))
    clear HD1 HB1 c0 c1 c2 c3 hbq
    generalize w1.drewN nq = W2 at *
    have HF := Lib.hid (sfail_any g s [] m 0 31 W2 HD3.out)
    go_wp2_with fail
    refine HF.out.mono ?_
    rintro E w3 ⟨rfl, hb, hd⟩
    have HB4 := HB3.out.on hb
    go_wp2
    go_ret
    exact ⟨[], [], 31, Nat.zero_le _, ⟨rfl, rfl, by decide⟩, rfl, HB4, hd⟩
  | cons x r =>
    rw [hsk] at HS hsl
    have hxr : (x :: r).length ≤ s.length := by omega
    obtain ⟨I, hI⟩ : ∃ I, textR (x :: r) = I := ⟨_, rfl⟩
    rw [hI]
    have HI := Lib.hid hI
    clear hsk hI hsl hll
    go_enter Tryz.func52, Tryz.ntmps52
    go_wp2_with fail
    refine HS.out.mono ?_
    rintro E w1 ⟨rfl, hb1, hd1⟩
    obtain ⟨c0, c1, c2, c3⟩ := hd1.cells
    have hsf := hd1.suf
    obtain ⟨p, hp⟩ : ∃ p, s.length - (x :: r).length = p := ⟨_, rfl⟩
    rw [hp] at c1 hsf
    have HPq := Lib.hid hp
    obtain ⟨hd2, hps, hat⟩ := drop_cons hsf
    have hpi : (p : Int) < (s.length : Int) := by omega
    have hpn : ¬ (s.length : Int) ≤ (p : Int) := by omega
    have hpd : decide ((s.length : Int) ≤ (p : Int)) = false := decide_eq_false hpn
    have hpN : ¬ s.length ≤ p := by omega
    have hpE : decide (s.length ≤ p) = false := decide_eq_false hpN
    have hp0 : (0 : Int) ≤ (p : Int) := by omega
    have hix := fun W => jidx hat W
    have HD1 := Lib.hid hd1
    have HB1 := Lib.hid hb1
    by_cases hx34 : x = 34
    · subst hx34
      have hc34 : ((UInt8.toNat 34 : Nat) : Int) = 34 := rfl
      rw [hc34] at hix
      have hxe : (tb s).extract p s.length = tb (34 :: r) := by rw [tb_ext, List.take_length, hsf]
      obtain ⟨⟨q, n, e⟩, hq⟩ : ∃ q, unqL (34 :: r) = q := ⟨_, rfl⟩
      have HU := Lib.hid (fun W => runquote_any (34 :: r) (by omega) W)
      have hul := unq_le (34 :: r)
      have hug := (unq_good (34 :: r))
      rw [hq] at HU hul hug
      simp only at HU hul hug
      have hI2 := HI.out
      rw [textR, if_pos (show List.take 1 (34 :: r) = [34] from rfl), hq] at hI2
      simp only at hI2
      have hpn1 : (p : Int) ≤ (s.length : Int) := by omega
      obtain ⟨hn1, hn2⟩ := nq_len hsf hug.1 (by omega)
      obtain ⟨p1, hp1⟩ : ∃ p1, p + n = p1 := ⟨_, rfl⟩
      rw [hp1] at hn1 hn2
      have hwp : IntKind.i64.wrap ((p : Int) + (n : Int)) = (p1 : Int) := by rw [IntWalk.i64_in _ (by omega)]; omega
      have HSet := Lib.hid (fun W (h : DS W g s (34 :: r) m 0) => h.setp hn1 hn2)
      have hql : q.length ≤ s.length := by omega
      have Hn1 := Lib.hid hn1
      have HI2 := Lib.hid hI2
      clear hd1 hb1 HS hp hsf hps hat hd2 hq hug hul hI2 HI hp1 hn1 hn2
      go_upto_region 4 with fail
      go_quiet (fail)
      rename_i nq
      have hbq := below_drewN (Below.refl w1.heap.size w1) nq
      have HD3 := Lib.hid (HD1.out.up hbq)
      have HB3 := Lib.hid (HB1.out.on (But.of hbq))
      clear HD1 HB1 c0 c1 c2 c3 hbq hix
      generalize w1.drewN nq = W2 at *
      obtain ⟨c0, c1, c2, c3⟩ := HD3.out.cells
      rw [HPq.out] at c1
      go_upto_region 7 with fail
      go_region_held3 (fun W' => Below W2.heap.size W2 W' ∧ W'.cell? ⟨g, 0, none⟩ = some (.string (tb s)) ∧ W'.cell? ⟨g, 1, none⟩ = some (.int .i64 (p : Int)))
        (first | exact ⟨(Below.refl _ _).drew, c0, c1⟩ | exact held2 hbP (by assumption) | fail)
        (first
          | (go_at_call 76; refine (HU.out _).mono ?_; rintro E wP ⟨rfl, hbP⟩)
          | fail)
      rename_i hHeld
      obtain ⟨hd5, k0, k1⟩ := hHeld
      have HD5 := Lib.hid (HD3.out.up hd5)
      have HB5 := Lib.hid (HB3.out.on (But.of hd5))
      have HD6 := Lib.hid (HSet.out wP HD5.out)
      have HB6 := Lib.hid (HB5.out.on (but_cell wP g 1 (.int .i64 (p1 : Int))))
      have f1 := HD5.out.bx.f 1
      clear hd5 HD3 HB3 c0 c1 c2 c3
      by_cases he : e = 0
      · subst he
        have hq : I = .ok (q, (34 :: r).drop n) := by rw [← HI2.out]; rfl
        subst hq
        clear HI2
        go_wp2
        go_ret
        exact ⟨q, _, 0, hql, ⟨rfl, rfl, rfl⟩, rfl, HB6.out, HD6.out⟩
      · have hq : I = .error (e, (34 :: r).drop n) := by rw [← HI2.out, if_neg he]
        subst hq
        have he1 : (e == 0) = false := beq_eq_false_iff_ne.2 he
        have he2 : (e != 0) = true := by rw [bne, he1]; rfl
        have he3 : decide (e = 0) = false := decide_eq_false he
        have HE := Lib.hid he
        clear HI2 he
        go_upto_region 9 with fail
        generalize wP.setCell ⟨g, 1, none⟩ (.int .i64 (p1 : Int)) = W7 at *
        have HF := Lib.hid (sfail_any g s _ m 0 e W7 HD6.out)
        rw [if_pos rfl] at HF
        go_wp2_with fail
        refine HF.out.mono ?_
        rintro E w8 ⟨rfl, hb, hd⟩
        have HB8 := HB6.out.on hb
        go_wp2
        go_ret
        exact ⟨q, _, e, hql, ⟨rfl, rfl, HE.out⟩, rfl, HB8, hd⟩
    · have hxn : ((x.toNat : Int) == 34) = false := beq_eq_false_iff_ne.2 (fun h => hx34 (UInt8.toNat_inj.1 (by rw [show (34 : UInt8).toNat = 34 from rfl]; omega)))
      have hxn2 : ((x.toNat : Int) != 34) = true := by rw [bne, hxn]; rfl
      have hxn3 : ¬ (x.toNat : Int) = 34 := fun h => by rw [h] at hxn; exact absurd hxn (by decide)
      have hxn4 : decide ((x.toNat : Int) = 34) = false := decide_eq_false hxn3
      have hq : I = .error (31, x :: r) := by
        rw [← HI.out, textR, if_neg]
        intro h
        exact hx34 (List.cons.inj h).1
      subst hq
      clear hd1 hb1 HS hp hsf hps hat hd2 hx34 HI
      generalize (x.toNat : Int) = z at *
      go_wp2_with fail
      go_quiet (fail)
      rename_i nq
      have hbq := below_drewN (Below.refl w1.heap.size w1) nq
      have HD3 := Lib.hid (HD1.out.up hbq)
      have HB3 := Lib.hid (HB1.out.on (But.of hbq))
      clear HD1 HB1 c0 c1 c2 c3 hbq
      generalize w1.drewN nq = W2 at *
      have HF := Lib.hid (sfail_any g s (x :: r) m 0 31 W2 HD3.out)
      go_wp2_with fail
      refine HF.out.mono ?_
      rintro E w3 ⟨rfl, hb, hd⟩
      have HB4 := HB3.out.on hb
      go_wp2
      go_ret
      exact ⟨[], x :: r, 31, Nat.zero_le _, ⟨rfl, rfl, by decide⟩, rfl, HB4, hd⟩
end Go.Proofs.YtnkhghjcfhpeiaaGreatDoor
