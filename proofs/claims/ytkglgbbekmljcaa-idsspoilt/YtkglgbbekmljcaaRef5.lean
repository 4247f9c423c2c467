/-
  The walk of the document's own New.
-/
import Derived.Test.YtkglgbbekmljcaaOnceW
import Derived.Test.YtkglgbbekmljcaaNew
namespace Go.Proofs.Ytkglgbbekmljcaa
open Go.RowKit

section
variable {wr w1 w : World} {o : Obj} {A A' : Option Addr} {n c L c' B : Nat} {t : TypeId}

theorem grow_blk (hgrow : (wr.alloc o).grownBy w1 (Value.slice A n c).ownBlock) : ∀ j, j < wr.heap.size → (∀ q, A = some q → q.block ≠ j) → w1.heap[j]? = wr.heap[j]? := by
  intro j hj hne
  refine (hgrow.block j (by simp; omega) ?_).trans (Below.heap_alloc wr o j hj)
  intro e
  cases A with
  | none => cases e
  | some q =>
    have e' : j = q.block := by injection e
    exact hne q rfl e'.symm
theorem grow_off {X : Option Addr} (hX : Off X A) (hlt : ∀ q, X = some q → q.block < wr.heap.size) (hloc : (Value.slice A' L c').ownBlock = (Value.slice A n c).ownBlock ∨ (Value.slice A' L c').ownBlock = some (wr.alloc o).heap.size) : Off X A' := by
  intro p q hp hq
  subst hq
  rcases hloc with hl | hl
  · cases hA : A with
    | none => rw [hA] at hl; cases hl
    | some s =>
      rw [hA] at hl
      have e' : q.block = s.block := by injection hl
      rw [e']
      exact hX _ _ hp hA
  · have e' : q.block = (wr.alloc o).heap.size := by injection hl
    have := hlt p hp
    simp at e'
    omega
theorem grow_below {vs : List Value} (ra : Row wr B t A n c vs) (hl : Below B w wr) (hB : B ≤ wr.heap.size) (hgrow : (wr.alloc o).grownBy w1 (Value.slice A n c).ownBlock) : Below B w w1 := by
  refine Below.grown (hl.alloc hB o) hgrow (by simp; omega) ?_
  intro j hj
  cases hA : A with
  | none => rw [hA] at hj; cases hj
  | some s =>
    rw [hA] at hj
    have e' : s.block = j := by injection hj
    have := (ra.blk s hA).1
    omega
end

/-- what stands within a round -/
structure N3 (B R p : Nat) (w : World) (gs : List Int) (bs : List Bool) (fs : List Int) (Ag : Option Addr) (N cg : Nat) (Ab : Option Addr) (M cb : Nat) (Af : Option Addr) (F cf : Nat) (wr : World) : Prop where
  o : Own0 wr B ⟨gs, bs, fs⟩ Ag N cg Ab M cb Af F cf
  b : Box wr p 25 #[.slice Ag N cg, .slice Ab M cb, .slice Af F cf]
  r : Box wr R 25 #[.slice none 0 0, .slice none 0 0, .slice none 0 0]
  l : Below B w wr
  hp : B ≤ p
  hr : B ≤ R
  ne : R ≠ p

section
variable {B R p : Nat} {w wr w1 : World} {gs : List Int} {bs : List Bool} {fs : List Int} {Ag : Option Addr} {N cg : Nat} {Ab : Option Addr} {M cb : Nat} {Af : Option Addr} {F cf : Nat} {A' : Option Addr} {c' : Nat} {o : Obj}
theorem N3.size (h : N3 B R p w gs bs fs Ag N cg Ab M cb Af F cf wr) : B ≤ wr.heap.size := by
  have := h.b.lt
  have := h.hp
  omega

theorem N3.g {x : Int} (h : N3 B R p w gs bs fs Ag N cg Ab M cb Af F cf wr) (hown : w1.ownsRow B 3 1 (.slice A' (N + 1) c') (N + 1) (gs.map (Value.int .i64) ++ [.int .i64 x])) (hgrow : (wr.alloc o).grownBy w1 (Value.slice Ag N cg).ownBlock)
    (hloc : (Value.slice A' (N + 1) c').ownBlock = (Value.slice Ag N cg).ownBlock ∨ (Value.slice A' (N + 1) c').ownBlock = some (wr.alloc o).heap.size) :
    Box w1 p 25 #[.slice Ag N cg, .slice Ab M cb, .slice Af F cf] ∧ N3 B R p w (gs ++ [x]) bs fs A' (N + 1) c' Ab M cb Af F cf (w1.setCell ⟨p, 0, none⟩ (.slice A' (N + 1) c')) := by
  have hR := h.o.row
  have hb := grow_blk hgrow
  have b1 : Box w1 p 25 #[.slice Ag N cg, .slice Ab M cb, .slice Af F cf] := (hb p h.b.lt (hR.g.ne h.b (by decide))).trans h.b
  have r1 : Box w1 R 25 #[.slice none 0 0, .slice none 0 0, .slice none 0 0] := (hb R h.r.lt (hR.g.ne h.r (by decide))).trans h.r
  have o2 := own_keep h.o.b (w' := w1) fun q hq => hb _ (hR.b.blk q hq).2 (fun q' hq' => hR.g.ne2 hR.b (by decide) _ _ hq' hq)
  have o3 := own_keep h.o.f (w' := w1) fun q hq => hb _ (hR.f.blk q hq).2 (fun q' hq' => h.o.d _ _ hq' hq)
  refine ⟨b1, ⟨⟨?_, ?_, ?_, ?_⟩, by simpa using b1.set 0 (.slice A' (N + 1) c'), r1.far (p := ⟨p, 0, none⟩) h.ne _, (grow_below hR.g h.l h.size hgrow).setCell (p := ⟨p, 0, none⟩) h.hp _, h.hp, h.hr, h.ne⟩⟩
  · have := own_far hown (p := ⟨p, 0, none⟩) ((Row.of_own hown).ne b1 (by decide)) (.slice A' (N + 1) c')
    simpa using this
  · exact own_far o2 (p := ⟨p, 0, none⟩) ((Row.of_own o2).ne b1 (by decide)) _
  · exact own_far o3 (p := ⟨p, 0, none⟩) ((Row.of_own o3).ne b1 (by decide)) _
  · exact (grow_off (X := Af) (fun p q hp hq e => h.o.d _ _ hq hp e.symm) (fun q hq => (hR.f.blk q hq).2) hloc).symm

theorem N3.bb {x : Bool} (h : N3 B R p w gs bs fs Ag N cg Ab M cb Af F cf wr) (hown : w1.ownsRow B 4 1 (.slice A' (M + 1) c') (M + 1) (bs.map Value.bool ++ [.bool x])) (hgrow : (wr.alloc o).grownBy w1 (Value.slice Ab M cb).ownBlock) :
    Box w1 p 25 #[.slice Ag N cg, .slice Ab M cb, .slice Af F cf] ∧ N3 B R p w gs (bs ++ [x]) fs Ag N cg A' (M + 1) c' Af F cf (w1.setCell ⟨p, 1, none⟩ (.slice A' (M + 1) c')) := by
  have hR := h.o.row
  have hb := grow_blk hgrow
  have b1 : Box w1 p 25 #[.slice Ag N cg, .slice Ab M cb, .slice Af F cf] := (hb p h.b.lt (hR.b.ne h.b (by decide))).trans h.b
  have r1 : Box w1 R 25 #[.slice none 0 0, .slice none 0 0, .slice none 0 0] := (hb R h.r.lt (hR.b.ne h.r (by decide))).trans h.r
  have o2 := own_keep h.o.g (w' := w1) fun q hq => hb _ (hR.g.blk q hq).2 (fun q' hq' => hR.b.ne2 hR.g (by decide) _ _ hq' hq)
  have o3 := own_keep h.o.f (w' := w1) fun q hq => hb _ (hR.f.blk q hq).2 (fun q' hq' => hR.b.ne2 hR.f (by decide) _ _ hq' hq)
  refine ⟨b1, ⟨⟨?_, ?_, ?_, h.o.d⟩, by simpa using b1.set 1 (.slice A' (M + 1) c'), r1.far (p := ⟨p, 1, none⟩) h.ne _, (grow_below hR.b h.l h.size hgrow).setCell (p := ⟨p, 1, none⟩) h.hp _, h.hp, h.hr, h.ne⟩⟩
  · exact own_far o2 (p := ⟨p, 1, none⟩) ((Row.of_own o2).ne b1 (by decide)) _
  · have := own_far hown (p := ⟨p, 1, none⟩) ((Row.of_own hown).ne b1 (by decide)) (.slice A' (M + 1) c')
    simpa using this
  · exact own_far o3 (p := ⟨p, 1, none⟩) ((Row.of_own o3).ne b1 (by decide)) _

theorem N3.f {x : Int} (h : N3 B R p w gs bs fs Ag N cg Ab M cb Af F cf wr) (hown : w1.ownsRow B 3 1 (.slice A' (F + 1) c') (F + 1) (fs.map (Value.int .i64) ++ [.int .i64 x])) (hgrow : (wr.alloc o).grownBy w1 (Value.slice Af F cf).ownBlock)
    (hloc : (Value.slice A' (F + 1) c').ownBlock = (Value.slice Af F cf).ownBlock ∨ (Value.slice A' (F + 1) c').ownBlock = some (wr.alloc o).heap.size) :
    Box w1 p 25 #[.slice Ag N cg, .slice Ab M cb, .slice Af F cf] ∧ N3 B R p w gs bs (fs ++ [x]) Ag N cg Ab M cb A' (F + 1) c' (w1.setCell ⟨p, 2, none⟩ (.slice A' (F + 1) c')) := by
  have hR := h.o.row
  have hb := grow_blk hgrow
  have b1 : Box w1 p 25 #[.slice Ag N cg, .slice Ab M cb, .slice Af F cf] := (hb p h.b.lt (hR.f.ne h.b (by decide))).trans h.b
  have r1 : Box w1 R 25 #[.slice none 0 0, .slice none 0 0, .slice none 0 0] := (hb R h.r.lt (hR.f.ne h.r (by decide))).trans h.r
  have o2 := own_keep h.o.b (w' := w1) fun q hq => hb _ (hR.b.blk q hq).2 (fun q' hq' => hR.f.ne2 hR.b (by decide) _ _ hq' hq)
  have o3 := own_keep h.o.g (w' := w1) fun q hq => hb _ (hR.g.blk q hq).2 (fun q' hq' e => h.o.d _ _ hq hq' e.symm)
  refine ⟨b1, ⟨⟨?_, ?_, ?_, ?_⟩, by simpa using b1.set 2 (.slice A' (F + 1) c'), r1.far (p := ⟨p, 2, none⟩) h.ne _, (grow_below hR.f h.l h.size hgrow).setCell (p := ⟨p, 2, none⟩) h.hp _, h.hp, h.hr, h.ne⟩⟩
  · exact own_far o3 (p := ⟨p, 2, none⟩) ((Row.of_own o3).ne b1 (by decide)) _
  · exact own_far o2 (p := ⟨p, 2, none⟩) ((Row.of_own o2).ne b1 (by decide)) _
  · have := own_far hown (p := ⟨p, 2, none⟩) ((Row.of_own hown).ne b1 (by decide)) (.slice A' (F + 1) c')
    simpa using this
  · exact grow_off (X := Ag) h.o.d (fun q hq => (hR.g.blk q hq).2) hloc
end

theorem one_new {W : World} {g : Nat} (hg : W.heap.size = g) (x : Value) (t : TypeId) : ∀ j u, [x][j]? = some u → (W.alloc (.cells #[x] t)).cell? ((⟨g, 0, none⟩ : Addr).add j) = some u := hg ▸ cell_one_new W x t
theorem size_set (w : World) (a : Addr) (v : Value) : (w.setCell a v).heap.size = w.heap.size := by simp [World.setCell]

set_option maxHeartbeats 400000 in
theorem rnew_no (room : Int) (w : World) (h : ¬ (1 ≤ room ∧ room ≤ 64)) :
    Calls Try.prog 11 #[.int .i64 room] w (NewEnds (newT room) w) := by
  have he : newT room = ⟨[], [], []⟩ := by simp only [newT, if_neg h]
  rw [he]
  clear he
  have h' : room < 1 ∨ 1 ≤ room ∧ 64 < room := by omega
  clear h
  rcases h' with h1 | ⟨h1, h2⟩
  all_goals
    go_enter Try.func11, Try.ntmps11
    go_wp2
    refine bodyPost_ret (v := tv none 0 0 none 0 0 none 0 0) (by simp [results, Try.results11, go_sem]) rfl ?_
    exact ⟨none, 0, 0, none, 0, 0, none, 0, 0, rfl, rowT_nil _ _, ba2 _ _ _⟩

/-- the free slots behind k rounds -/
theorem range_ofNat (k : Nat) : (List.range k).map Int.ofNat ++ [(k : Int)] = (List.range (k + 1)).map Int.ofNat := by
  rw [List.range_succ, List.map_append]
  rfl

set_option maxRecDepth 100000 in
set_option maxHeartbeats 4000000 in
theorem rnew_yes (room : Nat) (w : World) (h1 : 1 ≤ room) (h2 : room ≤ 64) :
    Calls Try.prog 11 #[.int .i64 (room : Int)] w (NewEnds (newT room) w) := by
  obtain ⟨i3, hi3, hz30, hz31, hz32⟩ := info_parts info3
  obtain ⟨i4, hi4, hz40, hz41, hz42⟩ := info_parts info4
  go_enter Try.func11, Try.ntmps11
  go_wp2_with fail
  have hN : N3 w.heap.size w.heap.size (w.heap.size + 1) w [] [] [] none 0 0 none 0 0 none 0 0 ((w.alloc (.cells #[.slice none 0 0, .slice none 0 0, .slice none 0 0] 25)).alloc (.cells #[.slice none 0 0, .slice none 0 0, .slice none 0 0] 25)) :=
    ⟨⟨World.ownsRow_nil _ _ _ _, World.ownsRow_nil _ _ _ _, World.ownsRow_nil _ _ _ _, fun p q h => by cases h⟩, Box.mk' _ _ _ _ (by simp), (Box.new _ _ _).alloc _, ba2 _ _ _, by omega, Nat.le_refl _, by omega⟩
  go_loopw [4] (fun i wr => ∃ (k : Nat) (Ag : Option Addr) (cg : Nat) (Ab : Option Addr) (cb : Nat) (Af : Option Addr) (cf : Nat), k ≤ room ∧ i = .int .i64 (k : Int) ∧ Hid (N3 w.heap.size w.heap.size (w.heap.size + 1) w (List.replicate k 0) (List.replicate k false) ((List.range k).map Int.ofNat) Ag k cg Ab k cb Af k cf wr))
    (fun i _ => room - (intOf i).toNat)
  case atStart => exact ⟨0, none, 0, none, 0, none, 0, Nat.zero_le _, rfl, Lib.hid (by simpa using hN)⟩
  case round =>
    obtain ⟨k, Ag, cg, Ab, cb, Af, cf, hk, rfl, HR⟩ := hrel
    obtain ⟨⟨c0, c1, c2⟩, f0, f1, f2⟩ := HR.out.b.three
    clear hN
    by_cases hlt : k < room
    · have s0 := HR.out.size
      have tok1 : True := trivial
      go_wp2_with (first
        | (at_builtin; have _t := tok1; refine wpList_app _ rfl _ _ 22 rfl w.heap.size 3 i3 (.int .i64 0) 8 Try.underlying22 hi3 hz30 hz31 hz32 rfl _ _ _ rfl (own_up HR.out.o.g (ba1 _ _)) (some ⟨wr.heap.size, 0, none⟩) 1 1 [.int .i64 0] rfl (.inr ⟨_, rfl, rfl, cell_one_new _ _ _⟩) (one_iv [0]) ?hm1 ?hy1 ?hb1 (k + 1) rfl ?_; rotate_right; intro A7 c7 w7 hown7 hgrow7 hloc7; obtain ⟨x7, N7⟩ := HR.out.g hown7 hgrow7 hloc7; have H7 := Lib.hid N7; obtain ⟨⟨y0, y1, y2⟩, z0, z1, z2⟩ := x7.three; have s7 := N7.size; have tok2 : True := trivial; clear tok1 hown7 hgrow7 hloc7 N7 c0 c1 c2 f0 f1 f2)
        | (at_builtin; have _t := tok2; refine wpList_app _ rfl _ _ 23 rfl w.heap.size 4 i4 (.bool false) 1 Try.underlying23 hi4 hz40 hz41 hz42 rfl _ _ _ rfl (own_up H7.out.o.b (ba1 _ _)) (some ⟨w7.heap.size, 0, none⟩) 1 1 [.bool false] rfl (.inr ⟨_, rfl, rfl, one_new (size_set _ _ _) _ _⟩) (one_bv [false]) ?hm2 ?hy2 ?hb2 (k + 1) rfl ?_; rotate_right; intro A8 c8 w8 hown8 hgrow8 _; obtain ⟨x8, N8⟩ := H7.out.bb hown8 hgrow8; have H8 := Lib.hid N8; clear y0 y1 y2 z0 z1 z2; obtain ⟨⟨y0, y1, y2⟩, z0, z1, z2⟩ := x8.three; have s8 := N8.size; have tok3 : True := trivial; clear tok2 hown8 hgrow8 N8)
        | (at_builtin; have _t := tok3; refine wpList_app _ rfl _ _ 22 rfl w.heap.size 3 i3 (.int .i64 0) 8 Try.underlying22 hi3 hz30 hz31 hz32 rfl _ _ _ rfl (own_up H8.out.o.f (ba1 _ _)) (some ⟨w8.heap.size, 0, none⟩) 1 1 [.int .i64 (k : Int)] rfl (.inr ⟨_, rfl, rfl, one_new (size_set _ _ _) _ _⟩) (one_iv [(k : Int)]) ?hm3 ?hy3 ?hb3 (k + 1) rfl ?_; rotate_right; intro A9 c9 w9 hown9 hgrow9 hloc9; obtain ⟨x9, N9⟩ := H8.out.f hown9 hgrow9 hloc9; have H9 := Lib.hid N9; clear y0 y1 y2 z0 z1 z2; obtain ⟨⟨y0, y1, y2⟩, z0, z1, z2⟩ := x9.three; clear tok3 hown9 hgrow9 hloc9 N9)
        | fail)
      case hm1 => unfold maxLen; omega
      case hy1 => omega
      case hb1 => simp; omega
      case hm2 => unfold maxLen; omega
      case hy2 => omega
      case hb2 => rw [World.size_alloc]; omega
      case hm3 => unfold maxLen; omega
      case hy3 => omega
      case hb3 => rw [World.size_alloc]; omega
      go_roundw
      case rel =>
        refine ⟨k + 1, A7, c7, A8, c8, A9, c9, by omega, by go_num, Lib.hid ?_⟩
        have := H9.out
        rw [range_ofNat, ← List.replicate_succ', ← List.replicate_succ'] at this
        exact this
      case measure => simp [intOf]; omega
    · have : k = room := by omega
      subst this
      obtain ⟨⟨d0, d1, d2⟩, e0, e1, e2⟩ := HR.out.r.three
      go_wp2
      refine bodyPost_ret (v := tv Ag k cg Ab k cb Af k cf) (by simp [results, Try.results11, go_sem, d0, d1, d2]) rfl ?_
      have hT : newT (k : Int) = ⟨List.replicate k 0, List.replicate k false, (List.range k).map Int.ofNat⟩ := by
        rw [newT, if_pos (by omega)]
        simp
      rw [hT]
      exact ⟨Ag, k, cg, Ab, k, cb, Af, k, cf, rfl, HR.out.o.row.far3 HR.out.r (by decide) (by decide) _ _ _, below_set3 HR.out.l (Nat.le_refl _) _ _ _⟩

theorem rnew_any (room : Int) (w : World) : Calls Try.prog 11 #[.int .i64 room] w (NewEnds (newT room) w) := by
  by_cases h : 1 ≤ room ∧ room ≤ 64
  · obtain ⟨r, rfl⟩ := Int.eq_ofNat_of_zero_le (show 0 ≤ room by omega)
    exact rnew_yes r w (by omega) (by omega)
  · exact rnew_no room w h

end Go.Proofs.Ytkglgbbekmljcaa
