/-
  Proved: the law MessageAny answers true for every input, and leaves its arguments as they were (Rows.MessageAnyCardSaid). Its condition: five of the library's tables read as its own text lays them; the card ties that to the program's text.
-/
import Derived.Test.YtdlihfbaepjliaaGreatDoorLaid
import Derived.Test.YtdlihfbaepjliaaGreatDoorLsE
import Derived.Test.YtdlihfbaepjliaaGreatDoorOpenR
import Derived.Test.YtdlihfbaepjliaaGreatDoorCards
import Derived.SevenTiedAt
import Derived.ShutString
import Derived.SizedLaws
import Derived.Below
namespace Go.Proofs.YtdlihfbaepjliaaGreatDoor
open Go.ChangeShapes Go.WideShapes Go.ChangeAt Go.RowKit
open Go.ChangeMaps (open_string shut_string)

theorem any_b (R : Rr) (S : Sli) (s : ByteArray) (a : Bool) (w : World) (h1 : R.hd.length ≤ 140737488355328) (h2 : R.b.length ≤ 140737488355328) (h3 : R.ck.ln.length ≤ 140737488355328) (h4 : R.now.m.length ≤ 140737488355328) (h5 : R.now.t.length ≤ 140737488355328) (h6 : R.now.r.length ≤ 140737488355328) (hF : Fs w S (mkF R.now.fs)) (hf : ∀ f ∈ R.now.fs, f.1.length ≤ 140737488355328 ∧ f.2.length ≤ 140737488355328) (hs : s.size ≤ 140737488355328) (hT : Tabs w) :
    Calls Tryz.prog 4 #[.agg (rcs R S), .string s, .bool a] w (BoolEnds true w) := by
  have := messageAny_any R S (dl s) a w h1 h2 h3 h4 h5 h6 hF (fun f hf2 => by
    obtain ⟨p, hp, rfl⟩ := List.mem_map.1 hf2
    have := hf p hp
    simp only [← dl_len, dl_mk]
    exact this) (by rw [dl_len]; exact hs) hT
  rw [tb_dl] at this
  exact this

set_option maxRecDepth 100000 in
theorem any_lifted (os : Os) (started : os.Started) (H : Type) (enc : TypeId × Value → H) :
    ReturnsInHanded {} Tryz.checked os 4 .any (fun w args => (Rows.messageAnySpec.pre enc Tryz.prog Tryz.f4 [] false w args ∧ laidMetH Tryz.prog laid5 w) ∧ sizedMet enc Tryz.prog Tryz.f4 (OpenSpec.ofChange Rows.messageAnySpec) false w args)
      (Rows.messageAnySpec.post enc Tryz.prog Tryz.f4 false true false false) := by
  refine returnsInHanded_of_calls (C := Tryz.checked) own_knob started (by kernel_rfl)
    (ChangeSpec.witness_shaped (enc := enc) (C := Tryz.checked) (os := os) (X := fun w _ => laidMetH Tryz.prog laid5 w) false (World.laidAll Tryz.prog os laid5) #[.agg #[.bool false, .string ⟨#[]⟩, .string ⟨#[]⟩, .int .i64 0, .int .i64 0, .string ⟨#[]⟩, .int .i64 0, .int .i64 0, .string ⟨#[]⟩, .int .i64 0, .string ⟨#[]⟩, .string ⟨#[]⟩, .int .i64 0, .string ⟨#[]⟩, .int .i64 0, .slice none 0 0, .int .i64 0], .string ⟨#[]⟩, .bool false] 8 (World.laidAll_os _ _ _)
      (World.shaped_of_ZipB (by kernel_rfl) (by kernel_rfl)) (by kernel_rfl) (by kernel_rfl) (by kernel_rfl) (laid_met os _)) ?_
  intro w tape i _ hsh _ hok hpre _
  obtain ⟨_, _, _, fn', hfn', _, _, _, _, hval0⟩ := hok
  obtain rfl : fn' = Tryz.f4 := Option.some.inj (hfn'.symm.trans Tryz.func4)
  obtain ⟨⟨⟨ds, gs, before, hw, _⟩, hx⟩, hz⟩ := hpre
  have hW := DataW.Whole.of_heap (w' := w.forCall tape i) (by rfl) hw
  have hwt := hz.weights hw
  have hL : laidMetH Tryz.prog laid5 (w.forCall tape i) := hx.of_heap (by rfl)
  have hT : Tabs (w.forCall tape i) := tabs_of hL hsh
  suffices key : Calls Tryz.prog 4 i.args (w.forCall tape i) fun e W' => ∃ v, e = .returned v ∧ Rows.messageAnySpec.post enc Tryz.prog Tryz.f4 false true false false (w.forCall tape i) i.args v W' by
    refine key.mono fun e W' ⟨v, he, hp⟩ => ?_
    subst he
    exact ChangeSpec.post_blind hp
  clear hz hx hw hL hsh hfn'
  have hval : ∀ (j : Nat) t v, Tryz.f4.params[j]? = some t → i.args[j]? = some v → Value.okWide Tryz.prog (w.forCall tape i) .any w.heap.size t v := hval0
  clear hval0
  revert hval hW hwt hT
  generalize i.args = args
  generalize w.forCall tape i = W
  generalize w.heap.size = base
  intro hW hwt hT hval
  have hW' := hW
  obtain ⟨p, q, hA0, hV, rfl, hfz, hnd⟩ := hW
  have hA : DataW.TrodAll enc Tryz.prog W 0 (fun _ => true) true Tryz.f4.params.toList args.toList ds p := hA0
  rw [Tryz.params4] at hA hval
  obtain ⟨v0, vs0, d0, ds0, p0, q0, hargs, rfl, rfl, h0, r0⟩ := trodAll_cons hA
  obtain ⟨v1, vs1, d1, ds1, p1, q1, rfl, rfl, rfl, h1, r1⟩ := trodAll_cons r0
  obtain ⟨v2, vs2, d2, ds2, p2, q2, rfl, rfl, rfl, h2, r2⟩ := trodAll_cons r1
  obtain ⟨rfl, rfl, rfl⟩ := trodAll_nil r2
  obtain rfl : args = #[v0, v1, v2] := by cases args; simp_all
  obtain ⟨rfl, rfl⟩ := trodVars_none hV
  have hr := reachBytes_lt
  obtain ⟨mf0, hf0⟩ := h0
  obtain ⟨R, S, rfl, hFs, hfw⟩ := open_rd (hval 0 32 v0 rfl rfl) hf0
  have k0 : DataW.Trod enc Tryz.prog W 0 (fun _ => true) true 32 _ d0 p0 := ⟨mf0, hf0⟩
  have lt0 : ∀ x ∈ p0, x.block < W.heap.size := DataW.trod_lt mf0 _ _ _ hf0
  obtain ⟨y1, y2, y3, y4, y5, y6, y7⟩ := hfw (List.all_eq_true.2 fun n hn => List.all_eq_true.1 hwt n (DataW.weights_mem_each (j := 0) (t := 32) (d := d0) (by rw [Tryz.params4]; rfl) rfl n hn))
  obtain ⟨s1, rfl, rfl, rfl, ws1⟩ := open_string Tryz.underlying9 (hval 1 9 v1 rfl rfl) h1
  have z1 : s1.size ≤ reachBytes := by
    have := sized_string (j := 1) (t := 9) hwt (by rw [Tryz.params4]; rfl) rfl
    simpa [Go.ByteArray.toList_eq] using this
  obtain ⟨b2, rfl, rfl, rfl⟩ := open_bool Tryz.underlying4 (hval 2 4 v2 rfl rfl) h2
  clear hA0
  refine (any_b R S s1 b2 W (by omega) (by omega) (by omega) (by omega) (by omega) (by omega) hFs (fun f hf => by have := y7 f hf; omega) (by omega) hT).mono fun e W' ⟨he, bel⟩ => ?_
  subst he
  exact ⟨_, rfl, _, _, _, [], _, [], hW', trodAll_mk1 (shut_bool Tryz.underlying4 _), (trodAll_cons_mk (Below.trod laid_out (by kernel_rfl) (of_decide_eq_true (by kernel_rfl)) k0 bel lt0) (trodAll_cons_mk (shut_string Tryz.underlying9 ws1) (trodAll_cons_mk (shut_bool Tryz.underlying4 _) trodAll_mk0))), rfl, bel.frame _, fun h => by cases h⟩

theorem message_any_row : Rows.MessageAnySaid :=
  OpenClaim.holds_of_wide 4 Tryz.f4 rfl rfl rfl rfl rfl rfl rfl ⟨rfl, rfl, rfl, rfl, rfl⟩ rfl rfl rfl rfl rfl (by kernel_rfl) Tryz.func4 (by kernel_rfl)
    (of_decide_eq_true (by kernel_rfl)) (by unfold Func.isWrapper; first | (rw [if_pos (by decide +kernel)]; kernel_rfl) | (rw [if_neg (by decide +kernel)]; exact ⟨rfl, rfl⟩))
    (fun os started H enc _ => any_lifted os started H enc)

theorem message_any_holds : Rows.MessageAnyCardSaid :=
  Claim7.holds_tied_plain_at .later [] [.data, .data, .data, .data, .pinned] true (true, "1fb0a7956ff79600720ff19179ad07fe46c16b11850d4ec42b1784db3a54094e") false
    message_any_row (fun _ h => by cases h) (by kernel_rfl) (fun _ h => by cases h) messageAny_row_tie rfl ⟨rfl, rfl⟩ (by kernel_rfl) rfl
    (fun f fn hf hfn => by
      obtain rfl : f = 4 := Option.some.inj ((show Tryz.prog.funcNamed "lockage/lockagelaw09.MessageAny" = some 4 by kernel_rfl).symm.trans hf) |>.symm
      obtain rfl : fn = Tryz.f4 := (Option.some.inj (Tryz.func4.symm.trans hfn)).symm
      exact ⟨by kernel_rfl, fun j t ht => by
        rw [Tryz.params4] at ht
        have hm : t ∈ [32, 9, 4] := by simpa using Array.mem_of_getElem? ht
        have hall : ([32, 9, 4].all fun u => !Tryz.prog.wantsStandIn u) = true := by kernel_rfl
        exact (show Tryz.prog.wantsStandIn t = false by simpa using List.all_eq_true.1 hall t hm)⟩)
    (by kernel_rfl)

end Go.Proofs.YtdlihfbaepjliaaGreatDoor
