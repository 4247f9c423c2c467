/-
  The walk of the law WheelOnce.
-/
import Derived.Test.YtncbfkoldllbpaaOnceW
import Derived.Test.YtncbfkoldllbpaaMade
import Derived.Deep.DeepCutAuto
namespace Go.Proofs.Ytncbfkoldllbpaa
open Go.RowKit

theorem zero_step (d : Nat → Int) (l : List Int) {k : Nat} {x : Nat} (h : l[k]? = some (x : Int)) : upd (zeroed d (l.take k)) x 0 = zeroed d (l.take (k + 1)) := by
  funext j
  have e : l.take (k + 1) = l.take k ++ [(x : Int)] := by rw [List.take_add_one, h]; rfl
  rw [e]
  by_cases hj : j = x
  · subst hj
    simp [upd, zeroed]
  · have : ¬ (j : Int) = (x : Int) := by omega
    simp [upd, zeroed, hj, this]
theorem zero_free (d : Nat → Int) {l : List Int} (hn : l.Nodup) {k : Nat} {x : Nat} (h : l[k]? = some (x : Int)) : zeroed d (l.take k) x = d x := by
  have hx : ¬ (x : Int) ∈ l.take k := by
    intro hm
    obtain ⟨j, hj, he⟩ := List.mem_iff_getElem.1 hm
    have hj' : j < k ∧ j < l.length := by simp at hj; omega
    rw [List.getElem_take] at he
    obtain ⟨hk, h2⟩ := List.getElem?_eq_some_iff.1 h
    rw [List.Nodup, List.pairwise_iff_getElem] at hn
    exact hn j k hj'.2 hk hj'.1 (he.trans h2.symm)
  simp [zeroed, hx]
theorem Ints.far {w w' : World} {s : Sli} {xs : List Int} (h : Ints w s xs) (hs : w.heap.size ≤ w'.heap.size) (hk : 0 < xs.length → ∀ q, s.A = some q → w'.heap[q.block]? = w.heap[q.block]?) : Ints w' s xs := by
  refine ⟨h.len, fun hx => ?_⟩
  obtain ⟨b, o, hA, hl, hc⟩ := h.is hx
  have hh := hk hx _ hA
  refine ⟨b, o, hA, Nat.lt_of_lt_of_le hl hs, fun j hj => ?_⟩
  have e : ∀ i, w'.cell? ⟨b, i, none⟩ = w.cell? ⟨b, i, none⟩ := fun i => by simp only [World.cell?]; simp only at hh; rw [hh]
  rw [e]
  exact hc j hj

set_option maxRecDepth 100000 in
set_option maxHeartbeats 12000000 in
theorem once_any (P : P4N) (A : Option Addr) (n c : Nat) (ys : List UInt8) (w : World) (hl : ys.length = n) (hmx : n ≤ maxLen) (hu : Us w A ys) : Calls Try.prog 6 #[.slice A n c] w (BoolEnds true w) := by
  have hmx' := hmx
  unfold maxLen at hmx'
  clear hmx
  have HL := Lib.hid hl
  have HU := Lib.hid hu
  have HA := Lib.hid (awake_any P.p4)
  have HPt := Lib.hid P.tick
  have HPc := Lib.hid P.cancel
  have HPs := Lib.hid P.set
  have HPr := Lib.hid P.right
  clear hl hu P
  go_enter Try.func6, Try.ntmps6
  go_wp2_with fail
  refine (HA.out _).mono ?_
  rintro e w1 ⟨rfl, hb1⟩
  go_wp2_with fail
  obtain ⟨g, hgg⟩ : ∃ g, w1.heap.size = g := ⟨_, rfl⟩
  have hst : OnW w.heap.size g (g + 1) W0 (fun _ => 0) SN w ((w1.alloc (.cells (wcs 0 SN) 25)).alloc (.cells (dcs (fun _ => 0)) 36)) :=
    ⟨(Box.mk' w1 25 (wcs 0 SN) g hgg).alloc _, at_nil _ 0, (fun i _ h => by cases h), Box.mk' _ 36 _ _ (by simp [hgg]), bon hb1 (ba2 _ _ _), by omega, ⟨by rw [← hgg]; exact hb1.size, by have := hb1.size; omega⟩⟩
  rw [hgg]
  go_loopw [6] (fun vi wr => ∃ (i : Nat) (W : Wl) (d : Nat → Int) (U : Nat → Sli), i ≤ 100 ∧ vi = .int .i64 (i : Int) ∧ Hid (Inv W d) ∧ W.now ≤ i ∧ OnW w.heap.size g (g + 1) W d U w wr) (fun vi _ => 100 - (intOf vi).toNat)
  case atStart => exact ⟨0, W0, _, SN, by omega, rfl, Lib.hid inv_W0, by decide, hst⟩
  case round =>
    clear hst hb1 HA
    obtain ⟨i, W, d, U, hi100, rfl, HI, hni, hW⟩ := hrel
    obtain ⟨now, hn⟩ : ∃ now, W.now = now := ⟨_, rfl⟩
    have HN := Lib.hid hn
    have hg := hW.hg
    rw [hn] at hni hg
    clear hn
    have hlo : 0 ≤ now := by have := HI.out.ok.lo; rw [HN.out] at this; exact this
    have hsz := hW.sz
    have hfew := HI.out.few
    have HW := Lib.hid hW
    obtain ⟨c0, c1, c2, c3, c4, c5, c6, c7, c8⟩ := hg.nine
    by_cases hlt : i < n ∧ i < 100
    · obtain ⟨hin, hi1⟩ := hlt
      obtain ⟨b, o, hA, hbl, z, hz, hc⟩ := (HU.out.up hW.hb).two (k := i) (by rw [HL.out]; exact hin)
      subst hA
      obtain ⟨r, hr⟩ : ∃ r, z % 4 = r := ⟨_, rfl⟩
      obtain ⟨q, hq⟩ : ∃ q, z / 4 = q := ⟨_, rfl⟩
      obtain ⟨id, hid⟩ : ∃ id, q % 16 = id := ⟨_, rfl⟩
      obtain ⟨m, hm⟩ : ∃ m, z % 19 = m := ⟨_, rfl⟩
      have z1 : (z : Int).tmod 4 = (r : Int) := by rw [Int.tmod_eq_emod_of_nonneg (by omega)]; omega
      have z2 : (z : Int) % 4 = (r : Int) := by omega
      have z3 : (z : Int).tdiv 4 = (q : Int) := by rw [Int.tdiv_eq_ediv_of_nonneg (by omega)]; omega
      have z4 : (z : Int) / 4 = (q : Int) := by omega
      have z5 : (q : Int).tmod 16 = (id : Int) := by rw [Int.tmod_eq_emod_of_nonneg (by omega)]; omega
      have z6 : (q : Int) % 16 = (id : Int) := by omega
      have z7 : (z : Int).tmod 19 = (m : Int) := by rw [Int.tmod_eq_emod_of_nonneg (by omega)]; omega
      have z8 : (z : Int) % 19 = (m : Int) := by omega
      have hr4 : r < 4 := by omega
      have hid16 : id < 16 := by omega
      have hm19 : m < 19 := by omega
      have hqz : q < 64 := by omega
      clear hr hq hid hm
      have x1 : IntKind.i64.wrap (z : Int) = (z : Int) := IntWalk.i64_in _ (by omega)
      have x2 : IntKind.i64.wrap (q : Int) = (q : Int) := IntWalk.i64_in _ (by omega)
      have x3 : IntKind.i64.wrap (id : Int) = (id : Int) := IntWalk.i64_in _ (by omega)
      have x4 : IntKind.i64.wrap (m : Int) = (m : Int) := IntWalk.i64_in _ (by omega)
      have hdc : wr.cell? ⟨g + 1, id, none⟩ = some (.int .i64 (d id)) := hW.hd.c id (dcs_at d hid16)
      obtain ⟨di, hdi⟩ : ∃ di, d id = di := ⟨_, rfl⟩
      rw [hdi] at hdc
      have HDi := Lib.hid hdi
      clear hdi hW
      have hcase : r = 0 ∨ r = 1 ∨ r = 2 ∨ r = 3 := by omega
      rcases hcase with rfl | rfl | rfl | rfl
      · have hne9 : W.now ≠ 9007199254740992 := by rw [HN.out]; omega
        have HC := Lib.hid (HPt.out W U wr HW.out.at_ HI.out.wf (by omega))
        rw [tick_yes HI.out.ok hne9, HN.out] at HC
        have HE1 : Hid (W.tick.now = now + 1) := Lib.hid (by simp [Wl.tick, HN.out])
        have HI2 := Lib.hid (HI.out.tick hne9)
        have HDue := Lib.hid HI.out.due
        have hglt := hg.lt
        have hgdlt := HW.out.hd.lt
        unfold wv at HC
        clear hfew hne9
        go_wp2_with fail
        refine HC.out.mono ?_
        rintro e w2 ⟨S1, ⟨FA, Fn, Fc⟩, rfl, k1, fr, i1, fb, hb2⟩
        unfold wv
        rw [HE1.out]
        simp only at fb
        have hgA := (hg.up hb2).alloc (.cells (wcs (now + 1) S1) 25)
        have hxA := Box.mk' w2 25 (wcs (now + 1) S1) _ rfl
        obtain ⟨gx, hgx⟩ : ∃ gx, w2.heap.size = gx := ⟨_, rfl⟩
        have hbA := hb2.trans ((ba1 w2 (.cells (wcs (now + 1) S1) 25)).mono hb2.size)
        have kA := k1.up (ba1 w2 (.cells (wcs (now + 1) S1) 25))
        have iA := i1.up (ba1 w2 (.cells (wcs (now + 1) S1) 25))
        clear c0 c1 c2 c3 c4 c5 c6 c7 c8 hdc
        go_upto_region 22 with fail
        rw [hgx] at hxA
        clear hgx k1 HC i1
        generalize w2.alloc (.cells (wcs (now + 1) S1) 25) = Wa at *
        have HT1 := Lib.hid (HW.out.turn hbA HE1.out kA fr)
        have hFb : 0 < W.due.length → ∀ p, FA = some p → p.block ≠ g ∧ p.block ≠ g + 1 := fun h p hp => by have := fb h p hp; omega
        have HFb := Lib.hid hFb
        have HF1 : Hid (Ints (((((((((Wa.setCell ⟨g, 0, none⟩ (.int .i64 (now + 1))).setCell ⟨g, 1, none⟩ (.slice (S1 0).A (S1 0).n (S1 0).c)).setCell ⟨g, 2, none⟩ (.slice (S1 1).A (S1 1).n (S1 1).c)).setCell ⟨g, 3, none⟩ (.slice (S1 2).A (S1 2).n (S1 2).c)).setCell ⟨g, 4, none⟩ (.slice (S1 3).A (S1 3).n (S1 3).c)).setCell ⟨g, 5, none⟩ (.slice (S1 4).A (S1 4).n (S1 4).c)).setCell ⟨g, 6, none⟩ (.slice (S1 5).A (S1 5).n (S1 5).c)).setCell ⟨g, 7, none⟩ (.slice (S1 6).A (S1 6).n (S1 6).c)).setCell ⟨g, 8, none⟩ (.slice (S1 7).A (S1 7).n (S1 7).c)) ⟨FA, Fn, Fc⟩ W.due) := Lib.hid (iA.far (by rw [size_set9]; exact Nat.le_refl _) (fun hx q hq => heap_set9 Wa g (.int .i64 (now + 1)) (.slice (S1 0).A (S1 0).n (S1 0).c) (.slice (S1 1).A (S1 1).n (S1 1).c) (.slice (S1 2).A (S1 2).n (S1 2).c) (.slice (S1 3).A (S1 3).n (S1 3).c) (.slice (S1 4).A (S1 4).n (S1 4).c) (.slice (S1 5).A (S1 5).n (S1 5).c) (.slice (S1 6).A (S1 6).n (S1 6).c) (.slice (S1 7).A (S1 7).n (S1 7).c) (hFb hx q hq).1))
        clear kA fr fb iA hFb
        have e0 := hgA.c 0 (v := .int .i64 now) rfl
        have e1 := hxA.c 0 (v := .int .i64 (now + 1)) rfl
        have y2 : IntKind.i64.wrap (now + 1) = now + 1 := IntWalk.i64_in _ (by omega)
        go_upto_region 24 with fail
        go_cut [] (fun wc => OnW w.heap.size g (g + 1) W.tick d S1 w wc ∧ Ints wc ⟨FA, Fn, Fc⟩ W.due)
        case first =>
          obtain ⟨c0, c1, c2, c3, c4, c5, c6, c7, c8⟩ := hgA.nine
          obtain ⟨d0, d1, d2, d3, d4, d5, d6, d7, d8⟩ := hxA.nine
          have f0 := hgA.f 0
          have f1 := hgA.f 1
          have f2 := hgA.f 2
          have f3 := hgA.f 3
          have f4 := hgA.f 4
          have f5 := hgA.f 5
          have f6 := hgA.f 6
          have f7 := hgA.f 7
          have f8 := hgA.f 8
          go_wp2_with fail
          go_meet
          exact ⟨HT1.out, HF1.out⟩
        case rest =>
          obtain ⟨hW3, hF3⟩ := hcut
          clear HT1 HF1 e0 e1 hgA hxA hbA
          have HLF : Hid (W.due.length = Fn) := Lib.hid hF3.len
          have hFn : Fn ≤ 100 := by have h1 := tick_len W; rw [tick_yes HI.out.ok (by rw [HN.out]; omega)] at h1; have h2 := HI.out.few; have h3 := HLF.out; simp only at h1; omega
          go_wp2_with fail
          go_loopw [12] (fun vk wq => ∃ k : Nat, k ≤ Fn ∧ vk = .int .i64 (k : Int) ∧ OnW w.heap.size g (g + 1) W.tick (zeroed d (W.due.take k)) S1 w wq ∧ Ints wq ⟨FA, Fn, Fc⟩ W.due) (fun vk _ => Fn - (intOf vk).toNat)
          case atStart => exact ⟨0, Nat.zero_le _, rfl, by have e : zeroed d (W.due.take 0) = d := by funext j; simp [zeroed]
                                                           rw [e]; exact hW3, hF3⟩
          case round =>
            clear hW3 hF3
            obtain ⟨k, hk, rfl, hWk, hFk⟩ := hrel
            have hgk := hWk.hg
            rw [HE1.out] at hgk
            have hc0 := hgk.c 0 (v := .int .i64 (now + 1)) rfl
            by_cases hkn : k < Fn
            · obtain ⟨x, hx⟩ : ∃ x, W.due[k]? = some x := ⟨_, List.getElem?_eq_getElem (by rw [HLF.out]; exact hkn)⟩
              obtain ⟨hx0, hx16, hxd⟩ := HDue.out.2 x (List.mem_of_getElem? hx)
              obtain ⟨xn, rfl⟩ := Int.eq_ofNat_of_zero_le hx0
              rw [HN.out] at hxd
              simp only [Int.toNat_natCast] at hxd
              have hxz := zero_free d HDue.out.1 hx
              have hxn : xn < 16 := by omega
              have hdx := hWk.hd.c xn (dcs_at _ hxn)
              rw [hxz, hxd] at hdx
              obtain ⟨bf, of, hFA, _, hcx⟩ := hFk.is.two hx
              simp only at hFA
              subst hFA
              have HX := Lib.hid hx
              have HWk := Lib.hid hWk
              have HFk := Lib.hid hFk
              have hfne := (HFb.out (by rw [HLF.out]; omega) _ rfl).2
              simp only at hfne
              clear hx hxz hxd hx0 hWk hFk
              have q1 : (k : Int) < (Fn : Int) := by omega
              have q2 : (0 : Int) ≤ (k : Int) := by omega
              have q3 : (xn : Int) < 16 := by omega
              have q4 : (0 : Int) ≤ (xn : Int) := by omega
              have q5 : decide ((xn : Int) < 0) = false := decide_eq_false (by omega)
              have q6 : decide ((15 : Int) < (xn : Int)) = false := decide_eq_false (by omega)
              go_wp2_with fail
              go_quiet (fail)
              have HWd := Lib.hid (HWk.out.drewN nq)
              have hcx2 : (wr.drewN nq).cell? ⟨bf, of + k, none⟩ = some (.int .i64 (xn : Int)) := hcx
              have hFd : Ints (wr.drewN nq) ⟨some ⟨bf, of, none⟩, Fn, Fc⟩ W.due := HFk.out.up (below_drewN (Below.refl _ _) _)
              clear hcx hdx hc0 HWk HFk hgk
              generalize wr.drewN nq = Wd at *
              have e1 := HWd.out.hd.c xn (dcs_at _ hxn)
              have e2 := HWd.out.hd.f xn
              have hT := HWd.out.time hxn 0
              rw [zero_step d W.due HX.out] at hT
              have HT := Lib.hid hT
              have HF4 : Hid (Ints (Wd.setCell ⟨g + 1, xn, none⟩ (.int .i64 0)) ⟨some ⟨bf, of, none⟩, Fn, Fc⟩ W.due) := Lib.hid (hFd.far (by simp [World.setCell]) (fun _ q hq => Below.heap_setCell _ _ _ _ (by obtain rfl := Option.some.inj hq; exact hfne)))
              clear hT hFd
              go_wp2
              refine ⟨⟨k + 1, by omega, by go_num, HT.out, HF4.out⟩, by simp [intOf]; omega⟩
            · have hkF : k = Fn := by omega
              subst hkF
              have hall : W.due.take k = W.due := List.take_of_length_le (Nat.le_of_eq HLF.out)
              rw [hall] at hWk
              clear hall hFk hgk hc0
              have HWk := Lib.hid hWk
              go_wp2_with fail
              go_loopw [13] (fun vj wq => ∃ j : Nat, j ≤ 16 ∧ vj = .int .i64 (j : Int) ∧ OnW w.heap.size g (g + 1) W.tick (zeroed d W.due) S1 w wq) (fun vj _ => 16 - (intOf vj).toNat)
              case atStart => exact ⟨0, Nat.zero_le _, rfl, HWk.out⟩
              case round =>
                clear HWk hWk
                obtain ⟨j, hj, rfl, hWj⟩ := hrel
                have hgj := hWj.hg
                rw [HE1.out] at hgj
                have hc0 := hgj.c 0 (v := .int .i64 (now + 1)) rfl
                by_cases hjn : j < 16
                · obtain ⟨dj, hdj⟩ : ∃ dj, zeroed d W.due j = dj := ⟨_, rfl⟩
                  have hcj := hWj.hd.c j (dcs_at _ hjn)
                  rw [hdj] at hcj
                  have hlate : 0 < dj → now + 1 < dj := by
                    intro hp
                    have h1 := HI2.out.has j hjn (by rw [hdj]; exact hp)
                    have h2 := (HI2.out.pos h1).2
                    rw [hdj, HE1.out] at h2
                    exact h2
                  have HWj := Lib.hid hWj
                  clear hdj hWj hgj
                  have q1 : (j : Int) < 16 := by omega
                  have q2 : (0 : Int) ≤ (j : Int) := by omega
                  by_cases hp : 0 < dj
                  · have hl := hlate hp
                    have q3 : decide (0 < dj) = true := decide_eq_true hp
                    have q4 : decide (dj ≤ now + 1) = false := decide_eq_false (by omega)
                    clear hlate
                    go_wp2_with fail
                    go_quiet (fail)
                    go_wp2
                    refine ⟨⟨j + 1, by omega, by go_num, HWj.out.drewN _⟩, by simp [intOf]; omega⟩
                  · have q3 : decide (0 < dj) = false := decide_eq_false hp
                    clear hlate
                    go_wp2_with fail
                    go_quiet (fail)
                    go_wp2
                    refine ⟨⟨j + 1, by omega, by go_num, HWj.out.drewN _⟩, by simp [intOf]; omega⟩
                · have hj16 : j = 16 := by omega
                  subst hj16
                  have HWj := Lib.hid hWj
                  clear hWj hgj hc0
                  go_wp2
                  refine ⟨⟨i + 1, W.tick, _, S1, by omega, by go_num, HI2, by rw [HE1.out]; omega, HWj.out⟩, by simp [intOf]; omega⟩
      · have hne9 : W.now ≠ 9007199254740992 := by rw [HN.out]; omega
        have HC := Lib.hid (HPt.out W U wr HW.out.at_ HI.out.wf (by omega))
        rw [tick_yes HI.out.ok hne9, HN.out] at HC
        have HE1 : Hid (W.tick.now = now + 1) := Lib.hid (by simp [Wl.tick, HN.out])
        have HI2 := Lib.hid (HI.out.tick hne9)
        have HDue := Lib.hid HI.out.due
        have hglt := hg.lt
        have hgdlt := HW.out.hd.lt
        unfold wv at HC
        clear hfew hne9
        go_wp2_with fail
        refine HC.out.mono ?_
        rintro e w2 ⟨S1, ⟨FA, Fn, Fc⟩, rfl, k1, fr, i1, fb, hb2⟩
        unfold wv
        rw [HE1.out]
        simp only at fb
        have hgA := (hg.up hb2).alloc (.cells (wcs (now + 1) S1) 25)
        have hxA := Box.mk' w2 25 (wcs (now + 1) S1) _ rfl
        obtain ⟨gx, hgx⟩ : ∃ gx, w2.heap.size = gx := ⟨_, rfl⟩
        have hbA := hb2.trans ((ba1 w2 (.cells (wcs (now + 1) S1) 25)).mono hb2.size)
        have kA := k1.up (ba1 w2 (.cells (wcs (now + 1) S1) 25))
        have iA := i1.up (ba1 w2 (.cells (wcs (now + 1) S1) 25))
        clear c0 c1 c2 c3 c4 c5 c6 c7 c8 hdc
        go_upto_region 22 with fail
        rw [hgx] at hxA
        clear hgx k1 HC i1
        generalize w2.alloc (.cells (wcs (now + 1) S1) 25) = Wa at *
        have HT1 := Lib.hid (HW.out.turn hbA HE1.out kA fr)
        have hFb : 0 < W.due.length → ∀ p, FA = some p → p.block ≠ g ∧ p.block ≠ g + 1 := fun h p hp => by have := fb h p hp; omega
        have HFb := Lib.hid hFb
        have HF1 : Hid (Ints (((((((((Wa.setCell ⟨g, 0, none⟩ (.int .i64 (now + 1))).setCell ⟨g, 1, none⟩ (.slice (S1 0).A (S1 0).n (S1 0).c)).setCell ⟨g, 2, none⟩ (.slice (S1 1).A (S1 1).n (S1 1).c)).setCell ⟨g, 3, none⟩ (.slice (S1 2).A (S1 2).n (S1 2).c)).setCell ⟨g, 4, none⟩ (.slice (S1 3).A (S1 3).n (S1 3).c)).setCell ⟨g, 5, none⟩ (.slice (S1 4).A (S1 4).n (S1 4).c)).setCell ⟨g, 6, none⟩ (.slice (S1 5).A (S1 5).n (S1 5).c)).setCell ⟨g, 7, none⟩ (.slice (S1 6).A (S1 6).n (S1 6).c)).setCell ⟨g, 8, none⟩ (.slice (S1 7).A (S1 7).n (S1 7).c)) ⟨FA, Fn, Fc⟩ W.due) := Lib.hid (iA.far (by rw [size_set9]; exact Nat.le_refl _) (fun hx q hq => heap_set9 Wa g (.int .i64 (now + 1)) (.slice (S1 0).A (S1 0).n (S1 0).c) (.slice (S1 1).A (S1 1).n (S1 1).c) (.slice (S1 2).A (S1 2).n (S1 2).c) (.slice (S1 3).A (S1 3).n (S1 3).c) (.slice (S1 4).A (S1 4).n (S1 4).c) (.slice (S1 5).A (S1 5).n (S1 5).c) (.slice (S1 6).A (S1 6).n (S1 6).c) (.slice (S1 7).A (S1 7).n (S1 7).c) (hFb hx q hq).1))
        clear kA fr fb iA hFb
        have e0 := hgA.c 0 (v := .int .i64 now) rfl
        have e1 := hxA.c 0 (v := .int .i64 (now + 1)) rfl
        have y2 : IntKind.i64.wrap (now + 1) = now + 1 := IntWalk.i64_in _ (by omega)
        go_upto_region 24 with fail
        go_cut [] (fun wc => OnW w.heap.size g (g + 1) W.tick d S1 w wc ∧ Ints wc ⟨FA, Fn, Fc⟩ W.due)
        case first =>
          obtain ⟨c0, c1, c2, c3, c4, c5, c6, c7, c8⟩ := hgA.nine
          obtain ⟨d0, d1, d2, d3, d4, d5, d6, d7, d8⟩ := hxA.nine
          have f0 := hgA.f 0
          have f1 := hgA.f 1
          have f2 := hgA.f 2
          have f3 := hgA.f 3
          have f4 := hgA.f 4
          have f5 := hgA.f 5
          have f6 := hgA.f 6
          have f7 := hgA.f 7
          have f8 := hgA.f 8
          go_wp2_with fail
          go_meet
          exact ⟨HT1.out, HF1.out⟩
        case rest =>
          obtain ⟨hW3, hF3⟩ := hcut
          clear HT1 HF1 e0 e1 hgA hxA hbA
          have HLF : Hid (W.due.length = Fn) := Lib.hid hF3.len
          have hFn : Fn ≤ 100 := by have h1 := tick_len W; rw [tick_yes HI.out.ok (by rw [HN.out]; omega)] at h1; have h2 := HI.out.few; have h3 := HLF.out; simp only at h1; omega
          go_wp2_with fail
          go_loopw [12] (fun vk wq => ∃ k : Nat, k ≤ Fn ∧ vk = .int .i64 (k : Int) ∧ OnW w.heap.size g (g + 1) W.tick (zeroed d (W.due.take k)) S1 w wq ∧ Ints wq ⟨FA, Fn, Fc⟩ W.due) (fun vk _ => Fn - (intOf vk).toNat)
          case atStart => exact ⟨0, Nat.zero_le _, rfl, by have e : zeroed d (W.due.take 0) = d := by funext j; simp [zeroed]
                                                           rw [e]; exact hW3, hF3⟩
          case round =>
            clear hW3 hF3
            obtain ⟨k, hk, rfl, hWk, hFk⟩ := hrel
            have hgk := hWk.hg
            rw [HE1.out] at hgk
            have hc0 := hgk.c 0 (v := .int .i64 (now + 1)) rfl
            by_cases hkn : k < Fn
            · obtain ⟨x, hx⟩ : ∃ x, W.due[k]? = some x := ⟨_, List.getElem?_eq_getElem (by rw [HLF.out]; exact hkn)⟩
              obtain ⟨hx0, hx16, hxd⟩ := HDue.out.2 x (List.mem_of_getElem? hx)
              obtain ⟨xn, rfl⟩ := Int.eq_ofNat_of_zero_le hx0
              rw [HN.out] at hxd
              simp only [Int.toNat_natCast] at hxd
              have hxz := zero_free d HDue.out.1 hx
              have hxn : xn < 16 := by omega
              have hdx := hWk.hd.c xn (dcs_at _ hxn)
              rw [hxz, hxd] at hdx
              obtain ⟨bf, of, hFA, _, hcx⟩ := hFk.is.two hx
              simp only at hFA
              subst hFA
              have HX := Lib.hid hx
              have HWk := Lib.hid hWk
              have HFk := Lib.hid hFk
              have hfne := (HFb.out (by rw [HLF.out]; omega) _ rfl).2
              simp only at hfne
              clear hx hxz hxd hx0 hWk hFk
              have q1 : (k : Int) < (Fn : Int) := by omega
              have q2 : (0 : Int) ≤ (k : Int) := by omega
              have q3 : (xn : Int) < 16 := by omega
              have q4 : (0 : Int) ≤ (xn : Int) := by omega
              have q5 : decide ((xn : Int) < 0) = false := decide_eq_false (by omega)
              have q6 : decide ((15 : Int) < (xn : Int)) = false := decide_eq_false (by omega)
              go_wp2_with fail
              go_quiet (fail)
              have HWd := Lib.hid (HWk.out.drewN nq)
              have hcx2 : (wr.drewN nq).cell? ⟨bf, of + k, none⟩ = some (.int .i64 (xn : Int)) := hcx
              have hFd : Ints (wr.drewN nq) ⟨some ⟨bf, of, none⟩, Fn, Fc⟩ W.due := HFk.out.up (below_drewN (Below.refl _ _) _)
              clear hcx hdx hc0 HWk HFk hgk
              generalize wr.drewN nq = Wd at *
              have e1 := HWd.out.hd.c xn (dcs_at _ hxn)
              have e2 := HWd.out.hd.f xn
              have hT := HWd.out.time hxn 0
              rw [zero_step d W.due HX.out] at hT
              have HT := Lib.hid hT
              have HF4 : Hid (Ints (Wd.setCell ⟨g + 1, xn, none⟩ (.int .i64 0)) ⟨some ⟨bf, of, none⟩, Fn, Fc⟩ W.due) := Lib.hid (hFd.far (by simp [World.setCell]) (fun _ q hq => Below.heap_setCell _ _ _ _ (by obtain rfl := Option.some.inj hq; exact hfne)))
              clear hT hFd
              go_wp2
              refine ⟨⟨k + 1, by omega, by go_num, HT.out, HF4.out⟩, by simp [intOf]; omega⟩
            · have hkF : k = Fn := by omega
              subst hkF
              have hall : W.due.take k = W.due := List.take_of_length_le (Nat.le_of_eq HLF.out)
              rw [hall] at hWk
              clear hall hFk hgk hc0
              have HWk := Lib.hid hWk
              go_wp2_with fail
              go_loopw [13] (fun vj wq => ∃ j : Nat, j ≤ 16 ∧ vj = .int .i64 (j : Int) ∧ OnW w.heap.size g (g + 1) W.tick (zeroed d W.due) S1 w wq) (fun vj _ => 16 - (intOf vj).toNat)
              case atStart => exact ⟨0, Nat.zero_le _, rfl, HWk.out⟩
              case round =>
                clear HWk hWk
                obtain ⟨j, hj, rfl, hWj⟩ := hrel
                have hgj := hWj.hg
                rw [HE1.out] at hgj
                have hc0 := hgj.c 0 (v := .int .i64 (now + 1)) rfl
                by_cases hjn : j < 16
                · obtain ⟨dj, hdj⟩ : ∃ dj, zeroed d W.due j = dj := ⟨_, rfl⟩
                  have hcj := hWj.hd.c j (dcs_at _ hjn)
                  rw [hdj] at hcj
                  have hlate : 0 < dj → now + 1 < dj := by
                    intro hp
                    have h1 := HI2.out.has j hjn (by rw [hdj]; exact hp)
                    have h2 := (HI2.out.pos h1).2
                    rw [hdj, HE1.out] at h2
                    exact h2
                  have HWj := Lib.hid hWj
                  clear hdj hWj hgj
                  have q1 : (j : Int) < 16 := by omega
                  have q2 : (0 : Int) ≤ (j : Int) := by omega
                  by_cases hp : 0 < dj
                  · have hl := hlate hp
                    have q3 : decide (0 < dj) = true := decide_eq_true hp
                    have q4 : decide (dj ≤ now + 1) = false := decide_eq_false (by omega)
                    clear hlate
                    go_wp2_with fail
                    go_quiet (fail)
                    go_wp2
                    refine ⟨⟨j + 1, by omega, by go_num, HWj.out.drewN _⟩, by simp [intOf]; omega⟩
                  · have q3 : decide (0 < dj) = false := decide_eq_false hp
                    clear hlate
                    go_wp2_with fail
                    go_quiet (fail)
                    go_wp2
                    refine ⟨⟨j + 1, by omega, by go_num, HWj.out.drewN _⟩, by simp [intOf]; omega⟩
                · have hj16 : j = 16 := by omega
                  subst hj16
                  have HWj := Lib.hid hWj
                  clear hWj hgj hc0
                  go_wp2
                  refine ⟨⟨i + 1, W.tick, _, S1, by omega, by go_num, HI2, by rw [HE1.out]; omega, HWj.out⟩, by simp [intOf]; omega⟩
      · obtain ⟨⟨W', y'⟩, hq'⟩ : ∃ q, cancelN W (id : Int) = q := ⟨_, rfl⟩
        have hinv := (HI.out.cancel id).1
        have HC := Lib.hid (HPc.out W U (id : Int) wr HW.out.at_ HI.out.wf (by omega) ⟨by omega, by omega⟩)
        have HE1 : Hid (W'.now = now) := Lib.hid (by have := cancel_now W (id : Int); rw [hq', HN.out] at this; exact this)
        rw [hq'] at hinv
        rw [hq', HN.out] at HC
        have HI2 := Lib.hid hinv
        have hy : (0 < di ∧ y' = 0) ∨ (¬ 0 < di ∧ y' = 5) := by
          have hi2 := HI.out.iff hid16
          rw [HDi.out] at hi2
          by_cases hp : 0 < di
          · refine .inl ⟨hp, ?_⟩
            rw [cancel_yes HI.out.ok (hi2.1 hp)] at hq'
            exact (congrArg Prod.snd hq').symm
          · refine .inr ⟨hp, ?_⟩
            rw [cancel_none HI.out.ok (fun hh => hp (hi2.2 hh))] at hq'
            exact (congrArg Prod.snd hq').symm
        unfold wv at HC
        clear hinv hq' hfew
        go_wp2_with fail
        refine HC.out.mono ?_
        rintro e w2 ⟨S1, rfl, k1, fr, hb2⟩
        unfold wv
        rw [HE1.out]
        have hgA := (hg.up hb2).alloc (.cells (wcs now S1) 25)
        have hxA := Box.mk' w2 25 (wcs now S1) _ rfl
        obtain ⟨gx, hgx⟩ : ∃ gx, w2.heap.size = gx := ⟨_, rfl⟩
        have hbA := hb2.trans ((ba1 w2 (.cells (wcs now S1) 25)).mono hb2.size)
        have kA := k1.up (ba1 w2 (.cells (wcs now S1) 25))
        clear c0 c1 c2 c3 c4 c5 c6 c7 c8 hdc
        go_upto_region 38 with fail
        rw [hgx] at hxA
        clear hgx k1 HC
        generalize w2.alloc (.cells (wcs now S1) 25) = Wa at *
        have HT1 := Lib.hid (HW.out.turn hbA HE1.out kA fr)
        clear kA fr
        rcases hy with ⟨hp, rfl⟩ | ⟨hp, rfl⟩
        all_goals
          go_upto_region 40 with fail
          go_cut [] (fun wc => OnW w.heap.size g (g + 1) W' d S1 w wc)
          case first =>
            obtain ⟨c0, c1, c2, c3, c4, c5, c6, c7, c8⟩ := hgA.nine
            obtain ⟨d0, d1, d2, d3, d4, d5, d6, d7, d8⟩ := hxA.nine
            have f0 := hgA.f 0
            have f1 := hgA.f 1
            have f2 := hgA.f 2
            have f3 := hgA.f 3
            have f4 := hgA.f 4
            have f5 := hgA.f 5
            have f6 := hgA.f 6
            have f7 := hgA.f 7
            have f8 := hgA.f 8
            go_wp2_with fail
            go_meet
            exact HT1.out
          case rest =>
            have hW3 := hcut
            have e1 := hW3.hd.c id (dcs_at d hid16)
            have e2 := hW3.hd.f id
            have HT2 := Lib.hid (hW3.time hid16 0)
            clear hcut hW3 HT1 hgA hxA
            go_wp2
            refine ⟨⟨i + 1, W', _, S1, by omega, by go_num, HI2, by rw [HE1.out]; omega, HT2.out⟩, by simp [intOf]; omega⟩
      · obtain ⟨⟨W', y'⟩, hq'⟩ : ∃ q, setN W (id : Int) (now + 1 + m) = q := ⟨_, rfl⟩
        have hinv := HI.out.set (id := id) (at_ := now + 1 + m) hid16 (by rw [HN.out]; omega) (by omega)
        have HC : Hid (∀ X, At X W U → Calls Try.prog 13 #[wv W.now U, .int .i64 (id : Int), .int .i64 (now + 1 + m)] X (WhN W U (setN W (id : Int) (now + 1 + m)) X)) := Lib.hid (fun X hX => HPs.out W U (id : Int) (now + 1 + m) X hX HI.out.wf (by omega) ⟨by omega, by omega⟩ ⟨by omega, by omega⟩)
        have HE1 : Hid (W'.now = now) := Lib.hid (by have := set_now W (id : Int) (now + 1 + m); rw [hq', HN.out] at this; exact this)
        rw [hq'] at hinv
        rw [hq', HN.out] at HC
        have hi2 := HI.out.iff hid16
        rw [HDi.out] at hi2
        have hy : (0 < di ∧ y' = 6 ∧ Hid (Inv W' d)) ∨ (¬ 0 < di ∧ y' = 0 ∧ Hid (Inv W' (upd d id (now + 1 + m)))) := by
          by_cases hp : 0 < di
          · have h1 := hinv.1 (hi2.1 hp)
            simp only [Prod.mk.injEq] at h1
            exact .inl ⟨hp, h1.2, Lib.hid (h1.1 ▸ HI.out)⟩
          · have h1 := hinv.2 (fun hh => hp (hi2.2 hh))
            exact .inr ⟨hp, h1.1, Lib.hid h1.2⟩
        have y1 : IntKind.i64.wrap (now + 1 + (m : Int)) = now + 1 + (m : Int) := IntWalk.i64_in _ (by omega)
        have y2 : IntKind.i64.wrap (now + 1) = now + 1 := IntWalk.i64_in _ (by omega)
        have hin' : (i : Int) < (n : Int) := by omega
        have hi0 : (0 : Int) ≤ (i : Int) := by omega
        unfold wv at HC
        clear hinv hq' hfew hi2
        go_wp2_with fail
        go_quiet (fail)
        have hWd := HW.out.drewN nq
        have hgd : Box (wr.drewN nq) g 25 (wcs now U) := hg
        clear c0 c1 c2 c3 c4 c5 c6 c7 c8 hdc
        generalize wr.drewN nq = Wd at *
        have HWd := Lib.hid hWd
        clear hWd
        obtain ⟨c0, c1, c2, c3, c4, c5, c6, c7, c8⟩ := hgd.nine
        go_wp2_with fail
        refine (HC.out _ HWd.out.at_).mono ?_
        rintro e w2 ⟨S1, rfl, k1, fr, hb2⟩
        unfold wv
        rw [HE1.out]
        have hgA := (hgd.up hb2).alloc (.cells (wcs now S1) 25)
        have hxA := Box.mk' w2 25 (wcs now S1) _ rfl
        obtain ⟨gx, hgx⟩ : ∃ gx, w2.heap.size = gx := ⟨_, rfl⟩
        have hbA := hb2.trans ((ba1 w2 (.cells (wcs now S1) 25)).mono hb2.size)
        have kA := k1.up (ba1 w2 (.cells (wcs now S1) 25))
        clear c0 c1 c2 c3 c4 c5 c6 c7 c8
        go_upto_region 14 with fail
        rw [hgx] at hxA
        clear hgx k1 HC
        generalize w2.alloc (.cells (wcs now S1) 25) = Wa at *
        have HT1 := Lib.hid (HWd.out.turn hbA HE1.out kA fr)
        clear kA fr
        rcases hy with ⟨hp, rfl, HI2⟩ | ⟨hp, rfl, HI2⟩
        all_goals
          go_upto_region 16 with fail
          go_cut [] (fun wc => OnW w.heap.size g (g + 1) W' d S1 w wc)
          case first =>
            obtain ⟨c0, c1, c2, c3, c4, c5, c6, c7, c8⟩ := hgA.nine
            obtain ⟨d0, d1, d2, d3, d4, d5, d6, d7, d8⟩ := hxA.nine
            have f0 := hgA.f 0
            have f1 := hgA.f 1
            have f2 := hgA.f 2
            have f3 := hgA.f 3
            have f4 := hgA.f 4
            have f5 := hgA.f 5
            have f6 := hgA.f 6
            have f7 := hgA.f 7
            have f8 := hgA.f 8
            go_wp2_with fail
            go_meet
            exact HT1.out
        · have hW3 := hcut
          have HT2 := Lib.hid hW3
          clear hcut hW3 HT1 hgA hxA
          go_wp2
          all_goals refine ⟨⟨i + 1, W', _, S1, by omega, by go_num, HI2, by rw [HE1.out]; omega, HT2.out⟩, by simp [intOf]; omega⟩
        · have hW3 := hcut
          have e1 := hW3.hd.c id (dcs_at d hid16)
          have e2 := hW3.hd.f id
          have HT2 := Lib.hid (hW3.time hid16 (now + 1 + m))
          have hpd : decide (0 < di) = false := by simp; omega
          clear hcut hW3 HT1 hgA hxA
          go_wp2
          all_goals
            first
            | (exfalso; omega)
            | (refine ⟨⟨i + 1, W', _, S1, by omega, by go_num, HI2, by rw [HE1.out]; omega, HT2.out⟩, by simp [intOf]; omega⟩)
    · have hend : ¬ i < n ∨ (i < n ∧ ¬ i < 100) := by omega
      have HR := Lib.hid (HPr.out W U wr HW.out.at_ HI.out.wf (by omega))
      rw [ok_iff.2 HI.out.ok, HN.out] at HR
      unfold wv at HR
      rcases hend with hend | ⟨hend, hend'⟩
      all_goals
        go_wp2_with fail
        refine HR.out.mono ?_
        rintro e w2 ⟨rfl, hb2⟩
        go_wp2
        go_ret
        exact ⟨rfl, HW.out.hb.trans (hb2.mono hsz)⟩

end Go.Proofs.Ytncbfkoldllbpaa
