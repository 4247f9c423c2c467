/-
  What strings.Join says of texts separated by commas; the parts of a value's text.
-/
import Derived.Test.YtnkhghjcfhpeiaaGreatDoorJPn
import Derived.Test.YtnkhghjcfhpeiaaGreatDoorJSc
import Derived.Lib.Join
import Derived.Test.YtnkhghjcfhpeiaaGreatDoorJWords
namespace Go.Proofs.YtnkhghjcfhpeiaaGreatDoor
open Go.RowKit
theorem inter_tail (x : Bs) : ∀ r : List Bs, (List.intersperse [44] (x :: r)).flatten = x ++ tailC r
  | [] => by simp [tailC]
  | y :: r => by
    rw [List.intersperse_cons_cons, List.flatten_cons, List.flatten_cons, inter_tail y r, tailC]
    rfl
theorem join_lib (xs : List Bs) : Lib.join xs [44] = joinC xs := by
  unfold Lib.join List.intercalate
  cases xs with
  | nil => rfl
  | cons x r => exact inter_tail x r
theorem join_map (xs : List Bs) : (⟨(Lib.join ((xs.map tb).map (·.data.toList)) (⟨#[44]⟩ : ByteArray).data.toList).toArray⟩ : ByteArray) = tb (joinC xs) := by
  have h : (xs.map tb).map (·.data.toList) = xs := by
    rw [List.map_map]
    conv => rhs; rw [← List.map_id xs]
    rfl
  rw [h]
  exact congrArg (fun l : Bs => (⟨l.toArray⟩ : ByteArray)) (join_lib xs)
/-- members hands back a new row of texts -/
def MemEnds (ps : List Bs) (w : World) (E : Ending) (w' : World) : Prop := ∃ S : Sli, E = .returned (.slice S.A S.n S.c) ∧ S.n = ps.length ∧ S.n ≤ S.c ∧ Rd w' S.A (svs (ps.map tb)) ∧ Below w.heap.size w w'
/-- the parts, joined -/
theorem join_mem {ps : List Bs} {S : Sli} {w : World} (hn : S.n = ps.length) (hc : S.n ≤ S.c) (hr : Rd w S.A (svs (ps.map tb))) (hl : (joinC ps).length ≤ 1000000) (hp : ps.length ≤ 1000000) :
    Calls Tryz.prog 35 #[.slice S.A S.n S.c, .string ⟨#[44]⟩] w (fun E w' => E = .returned (.string (tb (joinC ps))) ∧ Below w.heap.size w w') := by
  obtain ⟨A, n, c⟩ := S
  simp only at hn hc hr ⊢
  subst hn
  cases ps with
  | nil =>
    exact (sh_Join_none A c _ w).mono fun E w' h => ⟨h.1, h.2 ▸ Below.refl _ _⟩
  | cons p r =>
    obtain ⟨b, o, rfl, hb, hcl⟩ := hr (by simp [svs])
    have hj := join_map (p :: r)
    have h := sh_Join b o c ((p :: r).map tb) ⟨#[44]⟩ w (fun j x hx => hcl j _ (by rw [svs, List.getElem?_map, hx]; rfl)) hb (by rw [List.length_map]; omega) (by rw [List.length_map]; omega) (by
      have : (Lib.join (((p :: r).map tb).map (·.data.toList)) (⟨#[44]⟩ : ByteArray).data.toList).length = (joinC (p :: r)).length := by
        have h2 := congrArg ByteArray.size hj
        rw [tb_size] at h2
        exact h2
      omega)
    rw [hj, List.length_map] at h
    exact h
end Go.Proofs.YtnkhghjcfhpeiaaGreatDoor

/-
  The program's members, walked: the texts of the values in one.
-/
namespace Go.Proofs.YtnkhghjcfhpeiaaGreatDoor
open Go.RowKit
/-- written, of all values of so many values or fewer -/
def WrAll (N : Nat) : Prop := ∀ (P : Nat → Prop) (v : Jv) (X : Value) (d : Nat) (w : World), nodesJ v ≤ N → wtJ v ≤ 10000 → rightF d v = true → JV w P v X → TQ w → Calls Tryz.prog 22 #[X] w (TxtEnds (textJ v) w)
theorem part_step {k : Int} {ks : List Bs} {vs : List Jv} {j : Nat} {v : Jv} (hv : vs[j]? = some v) : (k ≠ 7 → (partsJ k ks vs).take (j + 1) = (partsJ k ks vs).take j ++ [textJ v]) ∧ (∀ x, k = 7 → ks[j]? = some x → (partsJ k ks vs).take (j + 1) = (partsJ k ks vs).take j ++ [((quoteQ x).1 ++ [58]) ++ textJ v]) := by
  have h := part_at (k := k) (ks := ks) hv
  refine ⟨fun h1 => ?_, fun x h1 h2 => ?_⟩
  · rw [List.take_add_one, h.1 h1]
    rfl
  · rw [List.take_add_one, h.2 x h1 h2]
    simp
theorem svs_snoc (ps : List Bs) (x : Bs) : svs ((ps ++ [x]).map tb) = svs (ps.map tb) ++ [.string (tb x)] := by simp [svs]
set_option maxRecDepth 100000 in
set_option maxHeartbeats 8000000 in
theorem members_step (N : Nat) (ih : WrAll N) (P : Nat → Prop) (k : Int) (t : Bs) (ks : List Bs) (vs : List Jv) (X : Value) (d : Nat) (w : World) (hN : nodesL vs ≤ N) (hw : wtJ (.mk k t ks vs) ≤ 10000) (hk : k = 6 ∨ k = 7) (hr : rightF d (.mk k t ks vs) = true) (hX : JV w P (.mk k t ks vs) X) (hT : TQ w) :
    Calls Tryz.prog 36 #[X] w (MemEnds (partsJ k ks vs) w) := by
  rw [JV] at hX
  obtain ⟨K, S, cs, rfl, hK, hS, hL⟩ := hX
  obtain ⟨_, hk7, hkid⟩ := right_list hr
  have hnk := hK.keys
  have hnv := hS.num hL
  have hwt : wtJ (.mk k t ks vs) = 1 + t.length + wtK ks + wtL vs := by rw [wtJ]
  have hlk := wtK_len ks
  have hlv := wtL_len vs
  have HPl := Lib.hid (parts_len (k := k) (ks := ks) (vs := vs) hk7)
  have HPt : Hid (∀ (j : Nat) (v : Jv), vs[j]? = some v → (k ≠ 7 → (partsJ k ks vs).take (j + 1) = (partsJ k ks vs).take j ++ [textJ v]) ∧ (∀ x, k = 7 → ks[j]? = some x → (partsJ k ks vs).take (j + 1) = (partsJ k ks vs).take j ++ [((quoteQ x).1 ++ [58]) ++ textJ v])) := Lib.hid (fun j v h => part_step h)
  obtain ⟨ps, hps⟩ : ∃ ps, partsJ k ks vs = ps := ⟨_, rfl⟩
  rw [hps] at HPl HPt ⊢
  have HK := Lib.hid hK
  have HS := Lib.hid hS
  have HL := Lib.hid hL
  have HT := Lib.hid hT
  have HKid : Hid (∀ (i : Nat) (v : Jv), vs[i]? = some v → rightF (d - 1) v = true) := Lib.hid (fun i v h => hkid i v hk h)
  have HK7 := Lib.hid hk7
  have HW : Hid (1 + t.length + wtK ks + wtL vs ≤ 10000) := Lib.hid (by omega)
  have HIH : Hid (∀ (j : Nat) (v : Jv) (X : Value) (w : World), vs[j]? = some v → JV w P v X → TQ w → Calls Tryz.prog 22 #[X] w (TxtEnds (textJ v) w)) := Lib.hid (fun j v X w hv hx ht => ih P v X (d - 1) w (by have := nodes_at hv; omega) (by have := wt_kid hv; omega) (hkid j v hk hv) hx ht)
  clear hK hS hL ih hps hr hkid hk7 hT
  obtain ⟨KA, Kn, Kc⟩ := K
  obtain ⟨SA, Sn, Sc⟩ := S
  simp only at hnk hnv ⊢
  have hKn : Kn ≤ 10000 := by omega
  have hSn : Sn ≤ 10000 := by omega
  replace hnk := Lib.hid hnk
  replace hnv := Lib.hid hnv
  clear hw hwt hlk hlv hN
  have hb0 := Lib.hid (ba1 w (.cells #[.int .i64 k, .string (tb t), .slice KA Kn Kc, .slice SA Sn Sc] 25))
  have bx := Lib.hid (Box.new w 25 #[.int .i64 k, .string (tb t), .slice KA Kn Kc, .slice SA Sn Sc])
  have HT0 : Hid (TQ (w.alloc (.cells #[.int .i64 k, .string (tb t), .slice KA Kn Kc, .slice SA Sn Sc] 25))) := Lib.hid (HT.out.up hb0.out)
  go_enter Tryz.func36, Tryz.ntmps36
  go_upto_region 1 with fail
  generalize w.alloc (.cells #[.int .i64 k, .string (tb t), .slice KA Kn Kc, .slice SA Sn Sc] 25) = W0 at *
  obtain ⟨g, hg⟩ : ∃ g, w.heap.size = g := ⟨_, rfl⟩
  rw [hg] at bx ⊢
  replace hg := Lib.hid hg
  obtain ⟨c0, c1, c2, c3⟩ := box4 bx.out
  clear HT
  obtain ⟨iT, hi, hz0, hz1, hz2⟩ := info_parts infoT
  go_wp2_with fail
  clear c0 c1 c2 c3
  go_loopw [3, 10] (fun s e wr => ∃ (j : Nat) (A : Option Addr) (c : Nat), j ≤ Sn ∧ s = .slice A j c ∧ e = .int .i64 (j : Int) ∧ Hid (wr.ownsRow W0.heap.size 9 1 (.slice A j c) j (svs ((ps.take j).map tb))) ∧ Hid (Below W0.heap.size W0 wr)) (fun _ e _ => Sn - (intOf e).toNat)
  case atStart => exact ⟨0, none, 0, Nat.zero_le _, rfl, rfl, Lib.hid (World.ownsRow_nil _ _ _ _), Lib.hid (Below.refl _ _)⟩
  case round =>
    obtain ⟨j, A, c, hj, rfl, rfl, HR, HB⟩ := hrel
    by_cases hlt : j < Sn
    case neg =>
      have hjs : j = Sn := by omega
      subst hjs
      have hji : ¬ (j : Int) < (j : Int) := by omega
      have e1 : ps.take j = ps := List.take_of_length_le (by rw [HPl.out, ← hnv.out]; exact Nat.le_refl _)
      have HE : Hid (MemEnds ps w (.returned (.slice A j c)) wr) := Lib.hid (by
        have hr := HR.out
        rw [e1] at hr
        have hpl : j = ps.length := by rw [HPl.out]; exact hnv.out
        have hsl := row_slp (S := ⟨A, j, c⟩) hr (by simp [svs, ← hpl]) (fun h => by have h' : j = 0 := h; rw [h'] at hpl; rw [List.eq_nil_of_length_eq_zero hpl.symm]; rfl)
        exact ⟨⟨A, j, c⟩, rfl, hpl, hsl.le.1, fun hx => by
          obtain ⟨b, o, h1, _, h2, h3⟩ := hsl.rd hx
          exact ⟨b, o, h1, h2, h3⟩, bon hb0.out HB.out⟩)
      clear hlt e1
      go_wp2
      go_ret
      exact HE.out
    case pos =>
      have hji : (j : Int) < (Sn : Int) := by omega
      have hj0 : (0 : Int) ≤ (j : Int) := by omega
      obtain ⟨v, hv⟩ : ∃ v, vs[j]? = some v := ⟨_, List.getElem?_eq_getElem (by rw [← hnv.out]; exact hlt)⟩
      obtain ⟨b1, o1, x1, x2, x3, x4, hA1, e1, e2, e3, e4, e5⟩ := ((HS.out.up hb0.out).up HB.out).kid ((HL.out.up hb0.out).up HB.out) hv
      simp only at hA1
      subst hA1
      obtain ⟨⟨KA3, Kn3, Kc3⟩, ⟨SA3, Sn3, Sc3⟩, hjj⟩ := e5.jx
      rw [hjj] at e5
      simp only [jx, Value.agg.injEq, Array.mk.injEq, List.cons.injEq, and_true] at hjj
      obtain ⟨rfl, rfl, rfl, rfl⟩ := hjj
      have hwk := wt_kid hv
      have hTl := text_wt v
      have hw9 := HW.out
      have hba := ba1 wr (.cells #[.int .i64 v.k, .string (tb v.t), .slice KA3 Kn3 Kc3, .slice SA3 Sn3 Sc3] 25)
      have HB1 := Lib.hid (bon HB.out hba)
      have HR1 := Lib.hid (Row.up (s := ⟨A, j, c⟩) HR.out hba)
      have HC := Lib.hid (HIH.out j v _ _ hv (e5.up hba) (HT0.out.up HB1.out))
      have hpt := HPt.out j v hv
      replace hTl : (textJ v).length ≤ 1000000 := by omega
      by_cases hk7 : k = 7
      · subst hk7
        have hke := HK7.out rfl
        obtain ⟨x, hx⟩ : ∃ x, ks[j]? = some x := ⟨_, List.getElem?_eq_getElem (by rw [hke, ← hnv.out]; exact hlt)⟩
        obtain ⟨b2, o2, hA2, k2⟩ := ((HK.out.up hb0.out).up HB.out).text hx
        simp only at hA2
        subst hA2
        have hkk := wt_key hx
        have hjk : (j : Int) < (Kn : Int) := by have h1 := hnk.out; have h2 := hnv.out; omega
        have hst := Lib.hid (hpt.2 x rfl hx)
        have HU := Lib.hid (fun W (h : TQ W) => quoted_any x (by omega) W h)
        have hql := quote_len x
        replace hql : (quoteQ x).1.length ≤ 1000000 := by omega
        replace k2 := Lib.hid (cell_up hba k2)
        obtain ⟨T, hT⟩ : ∃ T, textJ v = T := ⟨_, rfl⟩
        obtain ⟨⟨q, qe⟩, hq⟩ : ∃ q, quoteQ x = q := ⟨_, rfl⟩
        rw [hT] at hst HC hTl
        rw [hq] at hst HU hql
        simp only at hst hql HU
        have hap1 := fun W => run_string_add_sum (P := Tryz.prog) W (tb q) (tb [58]) (by rw [tb_size, tb_size, List.length_singleton]; omega)
        obtain ⟨Y1, hY1⟩ : ∃ Y1, q ++ [58] = Y1 := ⟨_, rfl⟩
        have hl1 : Y1.length ≤ 20000000 := by rw [← hY1, List.length_append, List.length_singleton]; omega
        have hap2 := fun W => run_string_add_sum (P := Tryz.prog) W (tb Y1) (tb T) (by rw [tb_size, tb_size]; omega)
        rw [tb_app] at hap1 hap2
        rw [hY1] at hap1 hst
        rw [show tb [58] = ⟨#[58]⟩ from rfl] at hap1
        obtain ⟨Z, hZ⟩ : ∃ Z, Y1 ++ T = Z := ⟨_, rfl⟩
        rw [hZ] at hap2 hst
        obtain ⟨c0, c1, c2, c3⟩ := box4 (bx.out.up HB1.out)
        clear hba e5 hwk hw9 hkk hpt hT hq hY1 hl1 hZ hlt hv hx HB HR
        go_wp2_with fail
        refine HC.out.mono ?_
        rintro E w2 ⟨rfl, hb⟩
        have HB2 := Lib.hid (bon HB1.out hb)
        have HR2 := Lib.hid (Row.up (s := ⟨A, j, c⟩) HR1.out hb)
        have HK2 := Lib.hid (cell_up hb k2.out)
        have kc := HK2.out
        clear hb HC HB1 HR1 c0 c1 c2 c3 e1 e2 e3 e4 k2
        obtain ⟨c0, c1, c2, c3⟩ := box4 (bx.out.up HB2.out)
        go_wp2_with fail
        refine (HU.out _ (HT0.out.up HB2.out)).mono ?_
        rintro E w3 ⟨rfl, hb⟩
        have HB3 := Lib.hid (bon HB2.out hb)
        have HR3 := Lib.hid (Row.up (s := ⟨A, j, c⟩) HR2.out hb)
        clear hb HB2 HR2 c0 c1 c2 c3 HK2 kc HU
        have hba := ba1 w3 (.cells #[.string (tb Z)] 9)
        have HB4 := Lib.hid (bon HB3.out hba)
        have HR4 := Lib.hid (Row.up (s := ⟨A, j, c⟩) HR3.out hba)
        have HSrc := Lib.hid (src_one w3 9 [.string (tb Z)] 1 1 rfl)
        have hBw : W0.heap.size ≤ (w3.alloc (.cells #[.string (tb Z)] 9)).heap.size := HB4.out.size
        clear hba HB3 HR3
        go_wp2_with (at_builtin; refine wpList_app _ rfl _ _ 22 rfl W0.heap.size 9 iT _ 1 16 (by decide) Tryz.underlying22 hi hz0 hz1 hz2 rfl (.slice A j c) j (svs ((ps.take j).map tb)) rfl HR4.out (some ⟨w3.heap.size, 0, none⟩) 1 1 [.string (tb Z)] rfl HSrc.out (by simp [Value.oneCell']) ?_ ?_ hBw (j + 1) rfl ?_; (unfold maxLen; omega); omega; intro A' c' w5 h1 h2 h3; refine Hid.out ?_)
        have HB5 := Lib.hid (grown_base HR4.out h2 HB4.out (Nat.le_refl _) hBw)
        rw [← svs_snoc, ← hst.out] at h1
        have HR5 := Lib.hid h1
        clear h1 h2 h3 HSrc hBw HB4 HR4
        refine Lib.hid ?_
        go_wp2
        go_roundw
        case rel => exact ⟨j + 1, A', c', by omega, by go_num, by go_num, HR5, HB5⟩
        case measure => simp [intOf]; omega
      · have hkd : (k == 7) = false := beq_eq_false_iff_ne.2 hk7
        have hst := Lib.hid (hpt.1 hk7)
        obtain ⟨Z, hZ⟩ : ∃ Z, textJ v = Z := ⟨_, rfl⟩
        rw [hZ] at hst HC hTl
        obtain ⟨c0, c1, c2, c3⟩ := box4 (bx.out.up HB1.out)
        clear hba e5 hwk hw9 hpt hZ hlt hv HB HR
        go_wp2_with fail
        refine HC.out.mono ?_
        rintro E w3 ⟨rfl, hb⟩
        have HB3 := Lib.hid (bon HB1.out hb)
        have HR3 := Lib.hid (Row.up (s := ⟨A, j, c⟩) HR1.out hb)
        clear hb HC HB1 HR1 c0 c1 c2 c3 e1 e2 e3 e4
        obtain ⟨c0, c1, c2, c3⟩ := box4 (bx.out.up HB3.out)
        have hba := ba1 w3 (.cells #[.string (tb Z)] 9)
        have HB4 := Lib.hid (bon HB3.out hba)
        have HR4 := Lib.hid (Row.up (s := ⟨A, j, c⟩) HR3.out hba)
        have HSrc := Lib.hid (src_one w3 9 [.string (tb Z)] 1 1 rfl)
        have hBw : W0.heap.size ≤ (w3.alloc (.cells #[.string (tb Z)] 9)).heap.size := HB4.out.size
        clear hba HB3 HR3
        go_wp2_with (at_builtin; refine wpList_app _ rfl _ _ 22 rfl W0.heap.size 9 iT _ 1 16 (by decide) Tryz.underlying22 hi hz0 hz1 hz2 rfl (.slice A j c) j (svs ((ps.take j).map tb)) rfl HR4.out (some ⟨w3.heap.size, 0, none⟩) 1 1 [.string (tb Z)] rfl HSrc.out (by simp [Value.oneCell']) ?_ ?_ hBw (j + 1) rfl ?_; (unfold maxLen; omega); omega; intro A' c' w5 h1 h2 h3; refine Hid.out ?_)
        have HB5 := Lib.hid (grown_base HR4.out h2 HB4.out (Nat.le_refl _) hBw)
        rw [← svs_snoc, ← hst.out] at h1
        have HR5 := Lib.hid h1
        clear h1 h2 h3 HSrc hBw HB4 HR4 c0 c1 c2 c3
        refine Lib.hid ?_
        go_wp2
        go_roundw
        case rel => exact ⟨j + 1, A', c', by omega, by go_num, by go_num, HR5, HB5⟩
        case measure => simp [intOf]; omega
end Go.Proofs.YtnkhghjcfhpeiaaGreatDoor

/-
  The program's written and Print, walked.
-/
namespace Go.Proofs.YtnkhghjcfhpeiaaGreatDoor
open Go.RowKit
set_option maxRecDepth 100000 in
set_option maxHeartbeats 8000000 in
theorem written_step (N : Nat) (ih : WrAll N) : WrAll (N + 1) := by
  rintro P ⟨k, t, ks, vs⟩ X d w hn hw hr hX hT
  have hMb := fun (h67 : k = 6 ∨ k = 7) W X (hX : JV W P (.mk k t ks vs) X) (hT : TQ W) => members_step N ih P k t ks vs X d W (by rw [nodesJ] at hn; omega) hw h67 hr hX hT
  have hX0 := hX
  rw [JV] at hX
  obtain ⟨K, S, cs, rfl, hK, hS, hL⟩ := hX
  obtain ⟨hk, hk7, hkid⟩ := right_list hr
  have hnk := hK.keys
  have hnv := hS.num hL
  have hwt : wtJ (.mk k t ks vs) = 1 + t.length + wtK ks + wtL vs := by rw [wtJ]
  have htw := text_wt (.mk k t ks vs)
  have hlv := wtL_len vs
  have hlk := wtK_len ks
  have HTx : Hid ((k = 6 ∨ k = 7) → textJ (.mk k t ks vs) = if k = 7 then 123 :: (joinC (partsJ k ks vs) ++ [125]) else 91 :: (joinC (partsJ k ks vs) ++ [93])) := Lib.hid text_parts
  obtain ⟨Q, hQ⟩ : ∃ Q, textJ (.mk k t ks vs) = Q := ⟨_, rfl⟩
  rw [hQ] at HTx htw ⊢
  have HQ := Lib.hid hQ
  have HMb := Lib.hid hMb
  have HPl := Lib.hid (parts_len (k := k) (ks := ks) (vs := vs) hk7)
  have HX := Lib.hid hX0
  have hQl : Q.length ≤ 1000000 := by omega
  have hte : t.length ≤ 10000 := by omega
  have hvl : vs.length ≤ 10000 := by omega
  clear hK hS hL ih hn hQ hr hkid hk7 hMb hX0
  obtain ⟨KA, Kn, Kc⟩ := K
  obtain ⟨SA, Sn, Sc⟩ := S
  simp only at hnk hnv HX ⊢
  have hKn : Kn ≤ 10000 := by omega
  have hSn : Sn ≤ 10000 := by omega
  replace hnk := Lib.hid hnk
  replace hnv := Lib.hid hnv
  clear hw hwt htw hlv hlk
  have hb0 := Lib.hid (ba1 w (.cells #[.int .i64 k, .string (tb t), .slice KA Kn Kc, .slice SA Sn Sc] 25))
  have bx := Lib.hid (Box.new w 25 #[.int .i64 k, .string (tb t), .slice KA Kn Kc, .slice SA Sn Sc])
  have HX0 : Hid (JV (w.alloc (.cells #[.int .i64 k, .string (tb t), .slice KA Kn Kc, .slice SA Sn Sc] 25)) P (.mk k t ks vs) (.agg #[.int .i64 k, .string (tb t), .slice KA Kn Kc, .slice SA Sn Sc])) := Lib.hid (HX.out.up hb0.out)
  have HT0 : Hid (TQ (w.alloc (.cells #[.int .i64 k, .string (tb t), .slice KA Kn Kc, .slice SA Sn Sc] 25))) := Lib.hid (TQ.up hT hb0.out)
  clear HX hT
  go_enter Tryz.func22, Tryz.ntmps22
  go_upto_region 1 with fail
  generalize w.alloc (.cells #[.int .i64 k, .string (tb t), .slice KA Kn Kc, .slice SA Sn Sc] 25) = W0 at *
  obtain ⟨g, hg⟩ : ∃ g, w.heap.size = g := ⟨_, rfl⟩
  rw [hg] at bx ⊢
  replace hg := Lib.hid hg
  obtain ⟨c0, c1, c2, c3⟩ := box4 bx.out
  have hk5 : (k = 1 ∨ k = 2 ∨ k = 3) ∨ k = 4 ∨ k = 5 ∨ (k = 6 ∨ k = 7) := by omega
  clear hk
  rcases hk5 with h123 | rfl | rfl | h67
  · clear HMb HTx
    rcases h123 with rfl | rfl | rfl
    · have hq : Q = [110, 117, 108, 108] := HQ.out.symm
      subst hq
      go_wp2
      go_ret
      exact ⟨rfl, hb0.out⟩
    · have hq : Q = [102, 97, 108, 115, 101] := HQ.out.symm
      subst hq
      go_wp2
      go_ret
      exact ⟨rfl, hb0.out⟩
    · have hq : Q = [116, 114, 117, 101] := HQ.out.symm
      subst hq
      go_wp2
      go_ret
      exact ⟨rfl, hb0.out⟩
  · have hq : Q = t := HQ.out.symm
    subst hq
    clear HQ HTx HMb
    go_wp2
    go_ret
    exact ⟨rfl, hb0.out⟩
  · have hq : Q = (quoteQ t).1 := HQ.out.symm
    have HU := Lib.hid (quoted_any t (by omega) W0 HT0.out)
    rw [← hq] at HU
    clear HQ HTx HMb hq
    go_wp2_with fail
    refine HU.out.mono ?_
    rintro E w1 ⟨rfl, hb⟩
    have HB1 := bon hb0.out hb
    go_wp2
    go_ret
    exact ⟨rfl, HB1⟩
  · have HQ1 := Lib.hid (HTx.out h67)
    have HM := Lib.hid (HMb.out h67 W0 _ HX0.out HT0.out)
    have hJl : (joinC (partsJ k ks vs)).length ≤ 1000000 := by
      have h := HQ1.out
      have h2 : Q.length = (joinC (partsJ k ks vs)).length + 2 := by rw [h]; split <;> simp
      omega
    have hpl : (partsJ k ks vs).length ≤ 1000000 := by have := HPl.out; omega
    obtain ⟨ps, hps⟩ : ∃ ps, partsJ k ks vs = ps := ⟨_, rfl⟩
    rw [hps] at HPl HQ1 hJl HM hpl
    clear hps HTx HQ HMb
    rcases h67 with rfl | rfl
    · replace HQ1 : Hid (Q = 91 :: (joinC ps ++ [93])) := Lib.hid HQ1.out
      have k1 := fun W => run_string_add_sum (P := Tryz.prog) W (tb [91]) (tb (joinC ps)) (by rw [tb_size, tb_size, List.length_singleton]; omega)
      rw [tb_app] at k1
      obtain ⟨Y, hY⟩ : ∃ Y, [91] ++ joinC ps = Y := ⟨_, rfl⟩
      have hYl : Y.length = (joinC ps).length + 1 := by rw [← hY]; simp
      have hYQ : Y ++ [93] = Q := by rw [← hY, HQ1.out]; rfl
      have k2 := fun W => run_string_add_sum (P := Tryz.prog) W (tb Y) (tb [93]) (by rw [tb_size, tb_size, List.length_singleton]; omega)
      rw [hY] at k1
      rw [tb_app, hYQ] at k2
      clear hY hYl hYQ HQ1
      rw [show tb [91] = ⟨#[91]⟩ from rfl] at k1
      rw [show tb [93] = ⟨#[93]⟩ from rfl] at k2
      replace hJl := Lib.hid hJl
      replace hpl := Lib.hid hpl
      go_wp2_with fail
      refine HM.out.mono ?_
      rintro E w1 ⟨R, rfl, hn, hc, hrd, hb⟩
      have HJ := Lib.hid (join_mem hn hc hrd hJl.out hpl.out)
      have HB1 := Lib.hid (bon hb0.out hb)
      obtain ⟨RA, Rn, Rc⟩ := R
      simp only at HJ ⊢
      clear hn hc hrd hb HM c0 c1 c2 c3
      go_wp2_with fail
      refine HJ.out.mono ?_
      rintro E w2 ⟨rfl, hb⟩
      have HB2 := bon HB1.out hb
      go_wp2
      go_ret
      exact ⟨rfl, HB2⟩
    · replace HQ1 : Hid (Q = 123 :: (joinC ps ++ [125])) := Lib.hid HQ1.out
      have k1 := fun W => run_string_add_sum (P := Tryz.prog) W (tb [123]) (tb (joinC ps)) (by rw [tb_size, tb_size, List.length_singleton]; omega)
      rw [tb_app] at k1
      obtain ⟨Y, hY⟩ : ∃ Y, [123] ++ joinC ps = Y := ⟨_, rfl⟩
      have hYl : Y.length = (joinC ps).length + 1 := by rw [← hY]; simp
      have hYQ : Y ++ [125] = Q := by rw [← hY, HQ1.out]; rfl
      have k2 := fun W => run_string_add_sum (P := Tryz.prog) W (tb Y) (tb [125]) (by rw [tb_size, tb_size, List.length_singleton]; omega)
      rw [hY] at k1
      rw [tb_app, hYQ] at k2
      clear hY hYl hYQ HQ1
      rw [show tb [123] = ⟨#[123]⟩ from rfl] at k1
      rw [show tb [125] = ⟨#[125]⟩ from rfl] at k2
      replace hJl := Lib.hid hJl
      replace hpl := Lib.hid hpl
      go_wp2_with fail
      refine HM.out.mono ?_
      rintro E w1 ⟨R, rfl, hn, hc, hrd, hb⟩
      have HJ := Lib.hid (join_mem hn hc hrd hJl.out hpl.out)
      have HB1 := Lib.hid (bon hb0.out hb)
      obtain ⟨RA, Rn, Rc⟩ := R
      simp only at HJ ⊢
      clear hn hc hrd hb HM c0 c1 c2 c3
      go_wp2_with fail
      refine HJ.out.mono ?_
      rintro E w2 ⟨rfl, hb⟩
      have HB2 := bon HB1.out hb
      go_wp2
      go_ret
      exact ⟨rfl, HB2⟩
theorem written_all : ∀ N, WrAll N
  | 0 => fun P v X d w hn => by
    have := nodes_pos v
    omega
  | N + 1 => written_step N (written_all N)
set_option maxRecDepth 100000 in
set_option maxHeartbeats 4000000 in
/-- json.Print does what the document says -/
theorem jpp : JPP := by
  intro v K S w hw hX hT
  obtain ⟨KA, Kn, Kc⟩ := K
  obtain ⟨SA, Sn, Sc⟩ := S
  simp only [jx] at hX ⊢
  have hb0 := Lib.hid (ba1 w (.cells #[.int .i64 v.k, .string (tb v.t), .slice KA Kn Kc, .slice SA Sn Sc] 25))
  have bx := Lib.hid (Box.new w 25 #[.int .i64 v.k, .string (tb v.t), .slice KA Kn Kc, .slice SA Sn Sc])
  have HX := Lib.hid (hX.up hb0.out)
  have HT := Lib.hid (TJ.up hT hb0.out)
  clear hX hT
  obtain ⟨Q, hQ⟩ : ∃ Q, printJ v = Q := ⟨_, rfl⟩
  rw [hQ]
  have HQ : Hid (Q = if rightJ v = true then (textJ v, 0) else ([], 1)) := Lib.hid hQ.symm
  clear hQ
  go_enter Tryz.func12, Tryz.ntmps12
  go_upto_region 1 with fail
  generalize w.alloc (.cells #[.int .i64 v.k, .string (tb v.t), .slice KA Kn Kc, .slice SA Sn Sc] 25) = W0 at *
  obtain ⟨c0, c1, c2, c3⟩ := box4 bx.out
  have HR := Lib.hid (jpr v ⟨KA, Kn, Kc⟩ ⟨SA, Sn, Sc⟩ W0 hw HX.out HT.out)
  simp only [jx] at HR
  cases hr : rightJ v with
  | false =>
    have hq : Q = ([], 1) := by rw [HQ.out, hr]; rfl
    subst hq
    rw [hr] at HR
    clear HQ hr
    go_wp2_with fail
    refine HR.out.mono ?_
    rintro E w1 ⟨rfl, hb⟩
    have HB1 := bon hb0.out hb
    go_wp2
    go_ret2
    exact ⟨rfl, HB1⟩
  | true =>
    have hq : Q = (textJ v, 0) := by rw [HQ.out, hr]; rfl
    subst hq
    rw [hr] at HR
    have hrf : rightF 16 v = true := by
      rw [rightJ, Bool.and_eq_true] at hr
      exact hr.2
    have HTx := Lib.hid (fun W (h : JV W anyB v (.agg #[.int .i64 v.k, .string (tb v.t), .slice KA Kn Kc, .slice SA Sn Sc])) (t : TQ W) => written_all (nodesJ v) anyB v _ 16 W (Nat.le_refl _) hw hrf h t)
    clear HQ hr hrf
    go_wp2_with fail
    refine HR.out.mono ?_
    rintro E w1 ⟨rfl, hb⟩
    have HB1 := Lib.hid (bon hb0.out hb)
    have HX1 := Lib.hid (HX.out.up hb)
    have HT1 := Lib.hid (TJ.up HT.out hb)
    have bx1 := Lib.hid (bx.out.up hb)
    clear hb HX bx HR c0 c1 c2 c3 HT
    obtain ⟨c0, c1, c2, c3⟩ := box4 bx1.out
    go_wp2_with fail
    refine (HTx.out _ HX1.out HT1.out).mono ?_
    rintro E w2 ⟨rfl, hb⟩
    have HB2 := bon HB1.out hb
    go_wp2
    go_ret2
    exact ⟨rfl, HB2⟩
end Go.Proofs.YtnkhghjcfhpeiaaGreatDoor
