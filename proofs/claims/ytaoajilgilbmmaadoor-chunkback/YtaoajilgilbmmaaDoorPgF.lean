/-
  The walk of chunk's own Feed.
-/
import Derived.Test.YtaoajilgilbmmaaDoorPgC
import Derived.Test.YtaoajilgilbmmaaDoorApp
import Derived.Test.YtaoajilgilbmmaaDoorNBits
import Derived.Laws.BytesArg
import Derived.Laws.IdiomStrings
namespace Go.Proofs.YtaoajilgilbmmaaDoor
open Go.RowKit

/-- a row of the call's own that grows -/
structure Out (e : TypeId) (sz : Nat) (w wr : World) (s : Sli) (cs : List Value) : Prop where
  row : Row wr w.heap.size e sz s cs
  hb : Below w.heap.size w wr
section
variable {e : TypeId} {sz : Nat} {w wr w' : World} {s : Sli} {cs : List Value}
theorem Out.le (h : Out e sz w wr s cs) : w.heap.size ≤ wr.heap.size := h.hb.size
theorem Out.up (h : Out e sz w wr s cs) (hb : Below wr.heap.size wr w') : Out e sz w w' s cs := ⟨h.row.up hb, bon h.hb hb⟩
theorem Out.nil (e : TypeId) (sz : Nat) (w wr : World) (hb : Below w.heap.size w wr) : Out e sz w wr ⟨none, 0, 0⟩ [] := ⟨World.ownsRow_nil _ _ _ _, hb⟩
theorem Out.app (h : Out e sz w wr s cs) {A : Option Addr} {n c : Nat} {cs' : List Value} (h1 : w'.ownsRow w.heap.size e sz (.slice A n c) n cs') (h2 : wr.grownBy w' (Value.slice s.A s.n s.c).ownBlock) : Out e sz w w' ⟨A, n, c⟩ cs' :=
  ⟨h1, grown_base h.row h2 h.hb (Nat.le_refl _) h.le⟩
theorem Out.but {g : Nat} {t : TypeId} {ps : Array Value} (h : Out e sz w wr s cs) (hb : But g wr w') (hg : Box wr g t ps) (ht : t ≠ e) (hw : w.heap.size ≤ g) : Out e sz w w' s cs :=
  ⟨h.row.but hb hg ht, But.below h.hb hb hw h.le⟩
theorem Out.box {k : Nat} {t : TypeId} {ps : Array Value} (h : Out e sz w wr s cs) (h2 : wr.grownBy w' (Value.slice s.A s.n s.c).ownBlock) (hk : Box wr k t ps) (ht : t ≠ e) : Box w' k t ps := (grown_other h.row h2 hk ht).trans hk
end
theorem info5 : (Tryd.prog.info? 5).map (fun i => (i.zero, i.size, i.bytes)) = some (some (.int .u8 0), 1, 1) := by kernel_rfl
/-- bytes in cells -/
def bvs (l : Bs) : List Value := l.map fun c => .int .u8 (c.toNat : Int)
theorem bvs_one (l : Bs) : ∀ u ∈ bvs l, u.oneCell' = true := by
  intro u hu
  obtain ⟨x, _, rfl⟩ := List.mem_map.1 hu
  rfl
theorem conv_row {W : World} {B : Nat} {A : Option Addr} {n c : Nat} {bs : Bs} (h : Row W B 5 1 ⟨A, n, c⟩ (bvs bs)) (hn : n = bs.length) : (convert 26 9 (.slice A n c)).run Tryd.prog W = .ok (.string ⟨bs.toArray⟩) W := by
  subst hn
  cases hA : A with
  | none =>
    have hr := h.rd (fun e => by rw [bvs, List.length_eq_zero_iff.1 e]; rfl)
    have h0 : bs = [] := by
      cases bs with
      | nil => rfl
      | cons x r =>
        obtain ⟨b, o, h1, _⟩ := hr (by simp [bvs])
        simp only at h1
        rw [hA] at h1
        cases h1
    subst h0
    exact run_convert_bytes_nil W 26 5 Tryd.underlying26 Tryd.underlying5 _ _ 9 Tryd.underlying9
  | some ad =>
    have hr := h.rd (fun e => by rw [bvs, List.length_eq_zero_iff.1 e]; rfl)
    simp only at hr
    rw [hA] at hr
    refine run_convert_bytes_back (P := Tryd.prog) W 26 9 5 ad c bs Tryd.underlying26 Tryd.underlying5 Tryd.underlying9 (fun j hj => ?_)
    obtain ⟨b, off, h1, _, h3⟩ := hr (by simp [bvs]; omega)
    obtain rfl := Option.some.inj h1
    rw [Lib.add_plain]
    exact h3 j _ (by rw [bvs, List.getElem?_map, List.getElem?_eq_getElem hj]; rfl)

/-- what holds of the chunks while bytes are read -/
def InvP (c : Ck) : Prop := InvF c ∧ 0 ≤ c.s ∧ c.s ≤ 4
theorem line_st {c : Ck} (l : Bs) (h : 0 ≤ c.s ∧ c.s ≤ 4) : 0 ≤ (lineC c l).1.s ∧ (lineC c l).1.s ≤ 4 := by
  unfold lineC
  repeat' split
  all_goals (first | exact h | exact ⟨show (0 : Int) ≤ 3 by decide, show (3 : Int) ≤ 4 by decide⟩ | exact ⟨show (0 : Int) ≤ 1 by decide, show (1 : Int) ≤ 4 by decide⟩ | exact ⟨show (0 : Int) ≤ 0 by decide, show (0 : Int) ≤ 4 by decide⟩ | exact ⟨show (0 : Int) ≤ 4 by decide, show (4 : Int) ≤ 4 by decide⟩)
theorem inv_step {c : Ck} {b : UInt8} (h : InvP c) (he : (stepC c b).2.2 = 0) : InvP (stepC c b).1 := by
  obtain ⟨hi, h0, h4⟩ := h
  have hi' := hi
  obtain ⟨a1, a2, a3, a4, a5, a6⟩ := hi
  revert he
  unfold stepC
  by_cases s1 : c.s = 1
  · rw [if_pos s1]
    intro _
    have := a6 s1
    refine ⟨⟨?_, ?_, ?_, ?_, a5, ?_⟩, ?_, ?_⟩
    · show 0 ≤ c.l - 1; omega
    · show c.l - 1 ≤ 4000; omega
    · show 0 ≤ c.m + 1; omega
    · show c.m + 1 + (c.l - 1) ≤ 8000; omega
    · show (if c.l - 1 = 0 then (2 : Int) else 1) = 1 → 0 < c.l - 1
      split
      · intro h; cases h
      · intro _; omega
    · show 0 ≤ (if c.l - 1 = 0 then (2 : Int) else 1)
      split <;> decide
    · show (if c.l - 1 = 0 then (2 : Int) else 1) ≤ 4
      split <;> decide
  · rw [if_neg s1]
    by_cases hE : endsL (c.ln ++ [b]) = true
    · rw [if_pos hE]
      intro he
      have hst := line_st (c := c) ((c.ln ++ [b]).take (c.ln.length - 1)) ⟨h0, h4⟩
      exact ⟨inv_line hi' _ he, hst⟩
    · rw [if_neg hE]
      by_cases hb : 200 < c.ln.length + 1
      · rw [if_pos hb]
        intro h; cases h
      · rw [if_neg hb]
        intro _
        refine ⟨⟨a1, a2, a3, a4, ?_, a6⟩, h0, h4⟩
        show (c.ln ++ [b]).length ≤ 200
        rw [List.length_append]
        simp only [List.length_cons, List.length_nil]
        omega
theorem step_none {s l : Int} {ln : Bs} {m : Int} {b : UInt8} (h1 : s ≠ 1) : (stepC ⟨s, l, ln, m⟩ b).2.1 = [] := by
  unfold stepC
  rw [if_neg h1]
  split
  · rfl
  · split <;> rfl

set_option maxRecDepth 100000 in
set_option maxHeartbeats 8000000 in
theorem cfeed_any (s l : Int) (ln : ByteArray) (m : Int) (S : ByteArray) (hS : S.size ≤ 140737488355328) (w : World) : Calls Tryd.prog 15 #[.agg #[.int .i64 s, .int .i64 l, .string ln, .int .i64 m], .string S] w (FeedEnds (feedC (ckOf s l ln m) (dl S)) w) := by
  obtain ⟨i5, hi, hz0, hz1, hz2⟩ := info_parts info5
  obtain ⟨Q, hQ⟩ : ∃ Q, feedC (ckOf s l ln m) (dl S) = Q := ⟨_, rfl⟩
  rw [hQ]
  have HD := Lib.hid hQ.symm
  clear hQ
  have HR := Lib.hid (fun W => cright_any s l ln m W)
  have HOk := Lib.hid (fun h : okC (ckOf s l ln m) => (⟨inv_ok h, h.1, h.2.1⟩ : InvP (ckOf s l ln m)))
  have hb0 := ba2 w (.cells #[.int .i64 s, .int .i64 l, .string ln, .int .i64 m] 23) (.cells #[.int .i64 0, .int .i64 0, .string ⟨#[]⟩, .int .i64 0] 23)
  have bc := (Box.new w 23 #[.int .i64 s, .int .i64 l, .string ln, .int .i64 m]).alloc (.cells #[.int .i64 0, .int .i64 0, .string ⟨#[]⟩, .int .i64 0] 23)
  have br := Box.mk' (w.alloc (.cells #[.int .i64 s, .int .i64 l, .string ln, .int .i64 m] 23)) 23 #[.int .i64 0, .int .i64 0, .string ⟨#[]⟩, .int .i64 0] (w.heap.size + 1) (by simp)
  go_enter Tryd.func15, Tryd.ntmps15
  go_wp2_with fail
  obtain ⟨g, hg⟩ : ∃ g, w.heap.size = g := ⟨_, rfl⟩
  rw [hg] at bc br ⊢
  have HG : Hid (w.heap.size ≤ g + 1) := Lib.hid (by omega)
  clear hg
  generalize (w.alloc (.cells #[.int .i64 s, .int .i64 l, .string ln, .int .i64 m] 23)).alloc (.cells #[.int .i64 0, .int .i64 0, .string ⟨#[]⟩, .int .i64 0] 23) = W0 at *
  refine (HR.out _).mono ?_
  rintro e w1 ⟨rfl, hb1⟩
  have bc := bc.up hb1
  have br := br.up hb1
  have hbw := Lib.hid (bon hb0 hb1)
  clear hb0 hb1 HR
  obtain ⟨c0, c1, c2, c3⟩ := bc.four
  by_cases hok : okC (ckOf s l ln m)
  case neg =>
    rw [decide_eq_false hok]
    have HV : Hid (Q = (ckOf s l ln m, 0, [], 1)) := Lib.hid (by rw [HD.out, feedC, if_neg hok])
    clear hok
    have HQ := Lib.hid (br.set4 (.int .i64 (s)) (.int .i64 (l)) (.string ln) (.int .i64 (m))).four
    have HW := Lib.hid (below_set4 hbw.out (g := g + 1) HG.out (.int .i64 (s)) (.int .i64 (l)) (.string ln) (.int .i64 (m)))
    obtain ⟨k0, k1, k2, k3⟩ := br.four
    obtain ⟨f0, f1, f2, f3⟩ := br.fourf
    go_wp2
    obtain ⟨q0, q1, q2, q3⟩ := HQ.out
    refine bodyPost_ret (v := .tuple #[.agg #[.int .i64 (s), .int .i64 (l), .string ln, .int .i64 (m)], .int .i64 (0), .string ⟨#[]⟩, .int .i64 (1)]) (by simp [results, Tryd.results15, go_sem, q0, q1, q2, q3]) rfl ?_
    exact ⟨ln, ⟨#[]⟩, by rw [HV.out]; try rfl, by rw [HV.out]; try rfl, by rw [HV.out]; try rfl, HW.out⟩
  case pos =>
    rw [decide_eq_true hok]
    have hinv := HOk.out hok
    have HE : Hid (Q = if (feedA (ckOf s l ln m) [] 0 (dl S)).2.2.2 = 0 then feedA (ckOf s l ln m) [] 0 (dl S) else (ckOf s l ln m, 0, [], (feedA (ckOf s l ln m) [] 0 (dl S)).2.2.2)) := Lib.hid (by rw [HD.out, feedC, if_pos hok])
    have HI0 := Lib.hid hinv
    clear hok hinv HD HOk
    go_upto_region 4 with fail
    have hd := ba1 w1 (.cells #[.int .i64 s, .int .i64 l, .string ln, .int .i64 m] 54)
    have hgn := br.lt
    have bc1 := bc.up hd
    have br1 := br.up hd
    have hbw1 := Lib.hid (bon hbw.out hd)
    have bn := Box.new w1 54 #[.int .i64 s, .int .i64 l, .string ln, .int .i64 m]
    obtain ⟨gn, hg⟩ : ∃ g, w1.heap.size = g := ⟨_, rfl⟩
    rw [hg] at bn hgn ⊢
    clear hg hd c0 c1 c2 c3 bc br hbw
    generalize w1.alloc (.cells #[.int .i64 s, .int .i64 l, .string ln, .int .i64 m] 54) = W1 at *
    have HGN : Hid (w.heap.size ≤ gn) := Lib.hid (by have := HG.out; omega)
    obtain ⟨F0, hF0⟩ : ∃ F, feedA (ckOf s l ln m) [] 0 (dl S) = F := ⟨_, rfl⟩
    rw [hF0] at HE
    have HF0 := Lib.hid hF0
    clear hF0
    go_wp2_with fail
    go_loopw [10, 9] (fun i o wr => ∃ (k : Nat) (OA : Option Addr) (On Oc : Nat) (bs : Bs) (s1 l1 : Int) (n1 : ByteArray) (m1 : Int), k ≤ S.size ∧ i = .int .i64 (k : Int) ∧ o = .slice OA On Oc ∧ On ≤ k ∧ Hid (On = bs.length) ∧ Hid (InvP (ckOf s1 l1 n1 m1)) ∧ Hid (F0 = feedA (ckOf s1 l1 n1 m1) bs k ((dl S).drop k)) ∧ Hid (Box wr gn 54 #[.int .i64 s1, .int .i64 l1, .string n1, .int .i64 m1]) ∧ Hid (Box wr g 23 #[.int .i64 s, .int .i64 l, .string ln, .int .i64 m]) ∧ Hid (Box wr (g + 1) 23 #[.int .i64 0, .int .i64 0, .string ⟨#[]⟩, .int .i64 0]) ∧ Hid (Out 5 1 w wr ⟨OA, On, Oc⟩ (bvs bs))) (fun i _ _ => S.size - (intOf i).toNat)
    case atStart => exact ⟨0, none, 0, 0, [], s, l, ln, m, Nat.zero_le _, rfl, rfl, Nat.le_refl _, Lib.hid rfl, HI0, Lib.hid (by rw [← HF0.out]; rfl), Lib.hid bn, Lib.hid bc1, Lib.hid br1, Lib.hid (Out.nil 5 1 w _ hbw1.out)⟩
    case round =>
      obtain ⟨k, OA, On, Oc, bs, s1, l1, n1, m1, hk, rfl, rfl, hOk, HN, HInv, HX, Hn, Hc, Hr, HO⟩ := hrel
      obtain ⟨⟨i1, i2, i3, i4, i5', i6⟩, i7, i8⟩ := HInv.out
      simp only [ckOf, dl_len] at i1 i2 i3 i4 i5' i6 i7 i8
      have c1 := Hn.out.four
      obtain ⟨c0, c1, c2, c3⟩ := c1
      by_cases hgo : k < S.size ∧ s1 ≠ 4
      · obtain ⟨hlt, h4⟩ := hgo
        have h4b : (s1 != 4) = true := bne_iff_ne.2 h4
        have hki : (k : Int) < (S.size : Int) := by omega
        have hk0 : (0 : Int) ≤ (k : Int) := by omega
        have hk1 : (k : Int) + 1 ≤ (S.size : Int) := by omega
        have tk : IntKind.i64.wrap ((k : Int) + 1) = (k : Int) + 1 := IntWalk.i64_in _ (by omega)
        have tkn : ((k : Int) + 1).toNat = k + 1 := by omega
        have hdrop : (dl S).drop k = S[k] :: (dl S).drop (k + 1) := by
          obtain ⟨z1, z2⟩ := List.getElem?_eq_some_iff.1 (dl_at hlt)
          rw [List.drop_eq_getElem_cons z1, z2]
        have HX1 : Hid (F0 = if (stepC ⟨s1, l1, dl n1, m1⟩ S[k]).2.2 ≠ 0 then (⟨s1, l1, dl n1, m1⟩, k, bs, (stepC ⟨s1, l1, dl n1, m1⟩ S[k]).2.2) else feedA (stepC ⟨s1, l1, dl n1, m1⟩ S[k]).1 (bs ++ (stepC ⟨s1, l1, dl n1, m1⟩ S[k]).2.1) (k + 1) ((dl S).drop (k + 1))) := Lib.hid (by
          rw [HX.out, hdrop, feed_cons (show (ckOf s1 l1 n1 m1).s ≠ 4 from h4)]
          rfl)
        have HIS : Hid ((stepC ⟨s1, l1, dl n1, m1⟩ S[k]).2.2 = 0 → InvP (stepC ⟨s1, l1, dl n1, m1⟩ S[k]).1) := Lib.hid (fun he => inv_step HInv.out he)
        clear hdrop HX HInv
        by_cases h1 : s1 = 1
        · subst h1
          have hl1 := i6 rfl
          have HX2 : Hid (F0 = feedA ⟨if l1 - 1 = 0 then 2 else 1, l1 - 1, dl n1, m1 + 1⟩ (bs ++ [S[k]]) (k + 1) ((dl S).drop (k + 1))) := Lib.hid (by
            rw [HX1.out, step_one, if_neg (by simp)])
          have HI2 : Hid (InvP ⟨if l1 - 1 = 0 then 2 else 1, l1 - 1, dl n1, m1 + 1⟩) := Lib.hid (by
            have := HIS.out (by rw [step_one])
            rw [step_one] at this
            exact this)
          have HN2 : Hid (On + 1 = (bs ++ [S[k]]).length) := Lib.hid (by rw [List.length_append, ← HN.out]; rfl)
          clear HX1 HIS HN i6
          obtain ⟨sv, hsv⟩ : ∃ x : Int, (if l1 - 1 = 0 then (2 : Int) else 1) = x := ⟨_, rfl⟩
          rw [hsv] at HX2 HI2
          have HSV := Lib.hid hsv
          clear hsv
          obtain ⟨bk, hbk⟩ : ∃ b, S[k] = b := ⟨_, rfl⟩
          rw [hbk] at HX2 HN2
          have HSrc := Lib.hid (src_one wr 5 (bvs [bk]) 1 1 rfl)
          have HO2 := Lib.hid (HO.out.up (ba1 wr (.cells #[.int .u8 (bk.toNat : Int)] 5)))
          have Hn2 := Lib.hid (Hn.out.alloc (.cells #[.int .u8 (bk.toNat : Int)] 5))
          have Hc2 := Lib.hid (Hc.out.alloc (.cells #[.int .u8 (bk.toNat : Int)] 5))
          have Hr2 := Lib.hid (Hr.out.alloc (.cells #[.int .u8 (bk.toNat : Int)] 5))
          have hBw : w.heap.size ≤ (wr.alloc (.cells #[.int .u8 (bk.toNat : Int)] 5)).heap.size := HO2.out.le
          clear Hn Hc Hr HO
          go_wp2_with (at_builtin; refine wpList_app _ rfl _ _ 26 rfl w.heap.size 5 i5 _ 1 1 (by decide) Tryd.underlying26 hi hz0 hz1 hz2 rfl (.slice OA On Oc) On (bvs bs) rfl HO2.out.row (some ⟨wr.heap.size, 0, none⟩) 1 1 (bvs [bk]) rfl HSrc.out (bvs_one _) ?_ ?_ hBw (On + 1) rfl ?_; (unfold maxLen; omega); omega; intro A' c' w2 y1 y2 y3; refine Hid.out ?_)
          have HO3 := Lib.hid (HO2.out.app (cs' := bvs (bs ++ [bk])) (by rw [bvs, List.map_append]; exact y1) y2)
          have Hn3 := Lib.hid (HO2.out.box y2 Hn2.out (by decide))
          have Hc3 := Lib.hid (HO2.out.box y2 Hc2.out (by decide))
          have Hr3 := Lib.hid (HO2.out.box y2 Hr2.out (by decide))
          clear y1 y2 y3 HO2 HSrc Hn2 Hc2 Hr2 hBw c0 c1 c2 c3
          refine Lib.hid ?_
          have HPs := Lib.hid (pass_any gn l1 n1 m1 w2 Hn3.out (by omega) (by omega))
          rw [HSV.out] at HPs
          go_wp2_with fail
          refine HPs.out.mono ?_
          rintro e w3 ⟨rfl, b3, hu3⟩
          have Hn4 := Lib.hid b3
          have Hc4 := Lib.hid (Hc3.out.but hu3 (by omega))
          have Hr4 := Lib.hid (Hr3.out.but hu3 (by omega))
          have HO4 := Lib.hid (HO3.out.but hu3 Hn3.out (by decide) HGN.out)
          clear b3 hu3 HPs Hn3 Hc3 Hr3 HO3
          go_wp2
          go_roundw
          case rel => exact ⟨k + 1, A', On + 1, c', bs ++ [bk], sv, l1 - 1, n1, m1 + 1, by omega, by go_num, rfl, by omega, HN2, HI2, HX2, Hn4, Hc4, Hr4, HO4⟩
          case measure => simp [intOf]; omega
        · have h1b : (s1 == 1) = false := beq_eq_false_iff_ne.2 h1
          have hs : s1 = 0 ∨ s1 = 2 ∨ s1 = 3 := by omega
          have hxl : dl (S.extract k (k + 1)) = [S[k]] := by
            rw [dl_ext, List.take_add_one, dl_at hlt, List.drop_append_of_le_length (by rw [List.length_take, dl_len]; omega), List.drop_of_length_le (by rw [List.length_take]; omega)]
            rfl
          have HRd := Lib.hid (read_any gn s1 l1 n1 m1 (S.extract k (k + 1)) S[k] hxl (by omega) hs (by omega) wr Hn.out)
          have HX2 : Hid (F0 = if (stepQ s1 l1 (dl n1) m1 S[k]).2 ≠ 0 then (⟨s1, l1, dl n1, m1⟩, k, bs, (stepQ s1 l1 (dl n1) m1 S[k]).2) else feedA (stepQ s1 l1 (dl n1) m1 S[k]).1 bs (k + 1) ((dl S).drop (k + 1))) := Lib.hid (by
            rw [HX1.out, step_none h1, List.append_nil]
            rfl)
          have HI2 : Hid ((stepQ s1 l1 (dl n1) m1 S[k]).2 = 0 → InvP (stepQ s1 l1 (dl n1) m1 S[k]).1) := HIS
          clear hxl HX1 HIS hs h1 h4
          obtain ⟨q, hq⟩ : ∃ q, stepQ s1 l1 (dl n1) m1 S[k] = q := ⟨_, rfl⟩
          rw [hq] at HRd HX2 HI2
          clear hq
          obtain ⟨⟨sq, lq, nq, mq⟩, er⟩ := q
          simp only at HX2 HI2
          go_wp2_with fail
          refine HRd.out.mono ?_
          rintro e w3 ⟨nR, rfl, hnR, b3, hu3⟩
          simp only at hnR b3 ⊢
          subst hnR
          have Hn4 := Lib.hid b3
          have Hc4 := Lib.hid (Hc.out.but hu3 (by omega))
          have Hr4 := Lib.hid (Hr.out.but hu3 (by omega))
          have HO4 := Lib.hid (HO.out.but hu3 Hn.out (by decide) HGN.out)
          clear b3 hu3 HRd Hn Hc Hr HO c0 c1 c2 c3
          by_cases her : er = 0
          · subst her
            have HX3 : Hid (F0 = feedA (ckOf sq lq nR mq) bs (k + 1) ((dl S).drop (k + 1))) := Lib.hid (by rw [HX2.out, if_neg (by simp)]; rfl)
            have HI3 : Hid (InvP (ckOf sq lq nR mq)) := Lib.hid (HI2.out rfl)
            clear HX2 HI2 i6
            go_wp2
            go_roundw
            case rel => exact ⟨k + 1, OA, On, Oc, bs, sq, lq, nR, mq, by omega, by go_num, rfl, by omega, HN, HI3, HX3, Hn4, Hc4, Hr4, HO4⟩
            case measure => simp [intOf]; omega
          · have HV : Hid (Q = (ckOf s l ln m, 0, [], er)) := Lib.hid (by rw [HE.out, HX2.out, if_pos her, if_neg her])
            have t0 : (er != 0) = true := bne_iff_ne.2 her
            obtain ⟨c0, c1, c2, c3⟩ := Hc4.out.four
            clear her HX2 HI2
            have HQ := Lib.hid (Hr4.out.set4 (.int .i64 (s)) (.int .i64 (l)) (.string ln) (.int .i64 (m))).four
            have HW := Lib.hid (below_set4 HO4.out.hb (g := g + 1) HG.out (.int .i64 (s)) (.int .i64 (l)) (.string ln) (.int .i64 (m)))
            obtain ⟨k0, k1, k2, k3⟩ := Hr4.out.four
            obtain ⟨f0, f1, f2, f3⟩ := Hr4.out.fourf
            go_wp2
            obtain ⟨q0, q1, q2, q3⟩ := HQ.out
            refine bodyPost_ret (v := .tuple #[.agg #[.int .i64 (s), .int .i64 (l), .string ln, .int .i64 (m)], .int .i64 (0), .string ⟨#[]⟩, .int .i64 (er)]) (by simp [results, Tryd.results15, go_sem, q0, q1, q2, q3]) rfl ?_
            exact ⟨ln, ⟨#[]⟩, by rw [HV.out]; try rfl, by rw [HV.out]; try rfl, by rw [HV.out]; try rfl, HW.out⟩
      · have HV : Hid (Q = (ckOf s1 l1 n1 m1, k, bs, 0)) := Lib.hid (by
          have e : F0 = (ckOf s1 l1 n1 m1, k, bs, 0) := by
            rw [HX.out]
            by_cases h4 : s1 = 4
            · exact feed_end (show (ckOf s1 l1 n1 m1).s = 4 from h4) _ _ _
            · rw [List.drop_of_length_le (by rw [dl_len]; omega)]
              rfl
          rw [HE.out, e]
          rfl)
        have hcase : ¬ k < S.size ∨ (k < S.size ∧ s1 = 4) := by omega
        clear hgo HX HInv i6
        have k1 := conv_row HO.out.row HN.out
        have k2 : (convert 26 9 (.slice OA On Oc)).run Tryd.prog wr.drew = .ok (.string ⟨bs.toArray⟩) wr.drew := conv_row (W := wr.drew) HO.out.row HN.out
        rcases hcase with hh | ⟨hh, rfl⟩
        · have hki : ¬ (k : Int) < (S.size : Int) := by omega
          have HQ := Lib.hid (Hr.out.set4 (.int .i64 (s1)) (.int .i64 (l1)) (.string n1) (.int .i64 (m1))).four
          have HW := Lib.hid (below_set4 HO.out.hb (g := g + 1) HG.out (.int .i64 (s1)) (.int .i64 (l1)) (.string n1) (.int .i64 (m1)))
          have hu4 : But (g + 1) wr ((((wr.setCell ⟨g + 1, 0, none⟩ (.int .i64 s1)).setCell ⟨g + 1, 1, none⟩ (.int .i64 l1)).setCell ⟨g + 1, 2, none⟩ (.string n1)).setCell ⟨g + 1, 3, none⟩ (.int .i64 m1)) := ((((But.refl (g + 1) wr).set 0 _).set 1 _).set 2 _).set 3 _
          have hrow4 := HO.out.row.but hu4 Hr.out (by decide)
          have k3 := conv_row hrow4 HN.out
          have k4 : (convert 26 9 (.slice OA On Oc)).run Tryd.prog ((((wr.setCell ⟨g + 1, 0, none⟩ (.int .i64 s1)).setCell ⟨g + 1, 1, none⟩ (.int .i64 l1)).setCell ⟨g + 1, 2, none⟩ (.string n1)).setCell ⟨g + 1, 3, none⟩ (.int .i64 m1)).drew = .ok (.string ⟨bs.toArray⟩) ((((wr.setCell ⟨g + 1, 0, none⟩ (.int .i64 s1)).setCell ⟨g + 1, 1, none⟩ (.int .i64 l1)).setCell ⟨g + 1, 2, none⟩ (.string n1)).setCell ⟨g + 1, 3, none⟩ (.int .i64 m1)).drew := conv_row (W := ((((wr.setCell ⟨g + 1, 0, none⟩ (.int .i64 s1)).setCell ⟨g + 1, 1, none⟩ (.int .i64 l1)).setCell ⟨g + 1, 2, none⟩ (.string n1)).setCell ⟨g + 1, 3, none⟩ (.int .i64 m1)).drew) hrow4 HN.out
          clear hu4 hrow4
          obtain ⟨x0, x1, x2, x3⟩ := Hr.out.four
          obtain ⟨f0, f1, f2, f3⟩ := Hr.out.fourf
          go_upto_region 14 with fail
          go_region
          all_goals
            go_wp2
            obtain ⟨q0, q1, q2, q3⟩ := HQ.out
            refine bodyPost_ret (v := .tuple #[.agg #[.int .i64 (s1), .int .i64 (l1), .string n1, .int .i64 (m1)], .int .i64 (k), .string ⟨bs.toArray⟩, .int .i64 (0)]) (by simp [results, Tryd.results15, go_sem, q0, q1, q2, q3]) rfl ?_
            exact ⟨n1, ⟨bs.toArray⟩, by rw [HV.out]; try rfl, by rw [HV.out]; try rfl, by rw [HV.out, dl_mk], by first | exact HW.out | exact HW.out.drew⟩
        · have hki : (k : Int) < (S.size : Int) := by omega
          have HQ := Lib.hid (Hr.out.set4 (.int .i64 (4)) (.int .i64 (l1)) (.string n1) (.int .i64 (m1))).four
          have HW := Lib.hid (below_set4 HO.out.hb (g := g + 1) HG.out (.int .i64 (4)) (.int .i64 (l1)) (.string n1) (.int .i64 (m1)))
          have hu4 : But (g + 1) wr ((((wr.setCell ⟨g + 1, 0, none⟩ (.int .i64 4)).setCell ⟨g + 1, 1, none⟩ (.int .i64 l1)).setCell ⟨g + 1, 2, none⟩ (.string n1)).setCell ⟨g + 1, 3, none⟩ (.int .i64 m1)) := ((((But.refl (g + 1) wr).set 0 _).set 1 _).set 2 _).set 3 _
          have hrow4 := HO.out.row.but hu4 Hr.out (by decide)
          have k3 := conv_row hrow4 HN.out
          have k4 : (convert 26 9 (.slice OA On Oc)).run Tryd.prog ((((wr.setCell ⟨g + 1, 0, none⟩ (.int .i64 4)).setCell ⟨g + 1, 1, none⟩ (.int .i64 l1)).setCell ⟨g + 1, 2, none⟩ (.string n1)).setCell ⟨g + 1, 3, none⟩ (.int .i64 m1)).drew = .ok (.string ⟨bs.toArray⟩) ((((wr.setCell ⟨g + 1, 0, none⟩ (.int .i64 4)).setCell ⟨g + 1, 1, none⟩ (.int .i64 l1)).setCell ⟨g + 1, 2, none⟩ (.string n1)).setCell ⟨g + 1, 3, none⟩ (.int .i64 m1)).drew := conv_row (W := ((((wr.setCell ⟨g + 1, 0, none⟩ (.int .i64 4)).setCell ⟨g + 1, 1, none⟩ (.int .i64 l1)).setCell ⟨g + 1, 2, none⟩ (.string n1)).setCell ⟨g + 1, 3, none⟩ (.int .i64 m1)).drew) hrow4 HN.out
          clear hu4 hrow4
          obtain ⟨x0, x1, x2, x3⟩ := Hr.out.four
          obtain ⟨f0, f1, f2, f3⟩ := Hr.out.fourf
          go_upto_region 14 with fail
          go_region
          all_goals
            go_wp2
            obtain ⟨q0, q1, q2, q3⟩ := HQ.out
            refine bodyPost_ret (v := .tuple #[.agg #[.int .i64 (4), .int .i64 (l1), .string n1, .int .i64 (m1)], .int .i64 (k), .string ⟨bs.toArray⟩, .int .i64 (0)]) (by simp [results, Tryd.results15, go_sem, q0, q1, q2, q3]) rfl ?_
            exact ⟨n1, ⟨bs.toArray⟩, by rw [HV.out]; try rfl, by rw [HV.out]; try rfl, by rw [HV.out, dl_mk], by first | exact HW.out | exact HW.out.drew⟩
end Go.Proofs.YtaoajilgilbmmaaDoor
