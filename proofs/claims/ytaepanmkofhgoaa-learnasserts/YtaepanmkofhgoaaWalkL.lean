/- A set of literals as a map in memory; contract: a literal comes to what is learned. -/
import Derived.Test.YtaepanmkofhgoaaWalkK
import Derived.Maps.OwnSet
import Derived.Maps.RangeWalk
set_option linter.unusedVariables false
set_option linter.unusedSimpArgs false
namespace Go.Proofs.Ytaepanmkofhgoaa
open Go.RowKit Go.Maps

theorem law3 : Keyed Try.prog 3 := int_keyed Try.underlying3
theorem zero56 (w : World) : (zeroValue 56).run Try.prog w = .ok (.agg #[]) w := by kernel_rfl
theorem key3 {l : Int} (h : -9223372036854775808 ≤ l ∧ l ≤ 9223372036854775807) : keyOf Try.prog 3 (.int .i64 l) = some (.int .i64 l) := keyOf_int_mk Try.underlying3 (WalkArith.wf_i64 h)

/-- A map whose keys are these. -/
def MS (w : World) (B N : Nat) (S : List Int) : Prop := ∃ D : DataW Unit, w.ownsMap Try.prog 3 unitElem B N D ∧ ∀ x, Maps.has D (.int .i64 x) = hasB S x

theorem ms_put {D : DataW Unit} {S : List Int} {l : Int} (hD : IsMap D) (h : ∀ x, Maps.has D (.int .i64 x) = hasB S x) : ∀ x, Maps.has (D.put (.int .i64 l) (.agg [])) (.int .i64 x) = hasB (ins S l) x := by
  intro x
  by_cases e : x = l
  · subst e
    rw [has_put_same hD (show WideAt.IsKeyLit (.int .i64 x) from trivial)]
    exact (hasB_iff.2 (ins_mem.2 (.inl rfl))).symm
  · rw [has_put_other (by simpa using e), h, Bool.eq_iff_iff, hasB_iff, hasB_iff, ins_mem]
    constructor
    · exact .inr
    · exact fun h => h.resolve_left e

theorem ms_del {D : DataW Unit} {S : List Int} {l : Int} (h : ∀ x, Maps.has D (.int .i64 x) = hasB S x) : ∀ x, Maps.has (D.del (.int .i64 l)) (.int .i64 x) = hasB (wo S l) x := by
  intro x
  by_cases e : x = l
  · subst e
    rw [has_del_same]
    exact (hasB_not.2 (fun h => (wo_mem.1 h).2 rfl)).symm
  · rw [has_del_other (by simpa using e), h, Bool.eq_iff_iff, hasB_iff, hasB_iff, wo_mem]
    constructor
    · exact fun h => ⟨h, e⟩
    · exact fun h => h.1

/-- The boxes of what is learned, and the map. -/
structure TS (w0 w : World) (b2 b5 b7 b8 B pb : Nat) (lv C : Int) (S : List Int) (N : Nat) : Prop where
  bel : Below w0.heap.size w0 w
  l2 : b2 < w.heap.size
  l5 : b5 < w.heap.size
  l7 : b7 < w.heap.size
  l8 : b8 < w.heap.size
  g8 : w0.heap.size ≤ b8
  gB : w0.heap.size ≤ B
  c2 : w.cell? ⟨b2, 0, none⟩ = some (.pointer (some ⟨pb, 0, none⟩))
  c5 : w.cell? ⟨b5, 0, none⟩ = some (.int .i64 lv)
  c7 : w.cell? ⟨b7, 0, none⟩ = some (.map (some B))
  c8 : w.cell? ⟨b8, 0, none⟩ = some (.int .i64 C)
  f8 : w.frozen? ⟨b8, 0, none⟩ = false
  ms : MS w B N S
  n2 : b8 ≠ b2
  n5 : b8 ≠ b5
  n7 : b8 ≠ b7
  nB : B ≠ b8

theorem TS.below {w0 w w' : World} {b2 b5 b7 b8 B pb : Nat} {lv C : Int} {S : List Int} {N : Nat} (h : TS w0 w b2 b5 b7 b8 B pb lv C S N) (hb : Below w.heap.size w w') : TS w0 w' b2 b5 b7 b8 B pb lv C S N := by
  obtain ⟨D, hown, hD⟩ := h.ms
  refine ⟨h.bel.trans (hb.mono h.bel.size), Nat.lt_of_lt_of_le h.l2 hb.size, Nat.lt_of_lt_of_le h.l5 hb.size, Nat.lt_of_lt_of_le h.l7 hb.size, Nat.lt_of_lt_of_le h.l8 hb.size, h.g8, h.gB, (hb.cell (p := ⟨b2, 0, none⟩) h.l2).trans h.c2, (hb.cell (p := ⟨b5, 0, none⟩) h.l5).trans h.c5, (hb.cell (p := ⟨b7, 0, none⟩) h.l7).trans h.c7, (hb.cell (p := ⟨b8, 0, none⟩) h.l8).trans h.c8, (hb.frozen (p := ⟨b8, 0, none⟩) h.l8).trans h.f8, ⟨D, ?_, hD⟩, h.n2, h.n5, h.n7, h.nB⟩
  exact hown.kept (row := none) ⟨hb.os, hb.tape, hb.output, hb.size, fun k hk _ => hb.block k hk⟩ (by simp)

/-- The map is turned. -/
theorem TS.turned {w0 w w' : World} {b2 b5 b7 b8 B pb : Nat} {lv C : Int} {S S' : List Int} {N N' : Nat} (h : TS w0 w b2 b5 b7 b8 B pb lv C S N) {D : DataW Unit} (hown : w'.ownsMap Try.prog 3 unitElem B N' D) (hD : ∀ x, Maps.has D (.int .i64 x) = hasB S' x) (ht : w.mapTurned w' B) : TS w0 w' b2 b5 b7 b8 B pb lv C S' N' := by
  have hg := ht.grown
  obtain ⟨es, clock, es', clock', hb, _⟩ := ht
  have hnc : ∀ b v, w.cell? ⟨b, 0, none⟩ = some v → b ≠ B := by
    intro b v hv e
    subst e
    simp [World.cell?, hb] at hv
  have hc : ∀ b v, b < w.heap.size → w.cell? ⟨b, 0, none⟩ = some v → w'.cell? ⟨b, 0, none⟩ = some v := by
    intro b v hlt hv
    rw [← hv]
    exact World.cell?_of_block (hg.block b hlt (by intro e; exact hnc b v hv (by simpa using e)))
  refine ⟨h.bel.grown hg h.bel.size (by intro k hk; cases hk; exact h.gB), Nat.lt_of_lt_of_le h.l2 hg.size, Nat.lt_of_lt_of_le h.l5 hg.size, Nat.lt_of_lt_of_le h.l7 hg.size, Nat.lt_of_lt_of_le h.l8 hg.size, h.g8, h.gB, hc _ _ h.l2 h.c2, hc _ _ h.l5 h.c5, hc _ _ h.l7 h.c7, hc _ _ h.l8 h.c8, ?_, ⟨D, hown, hD⟩, h.n2, h.n5, h.n7, h.nB⟩
  have hbk := hg.block b8 h.l8 (by intro e; cases e; exact h.nB rfl)
  have := h.f8
  unfold World.frozen? at *
  rw [hbk]; exact this

/-- The count is set. -/
theorem TS.setC {w0 w : World} {b2 b5 b7 b8 B pb : Nat} {lv C C' : Int} {S : List Int} {N : Nat} (h : TS w0 w b2 b5 b7 b8 B pb lv C S N) : TS w0 (w.setCell ⟨b8, 0, none⟩ (.int .i64 C')) b2 b5 b7 b8 B pb lv C' S N := by
  obtain ⟨D, hown, hD⟩ := h.ms
  have hsz : (w.setCell ⟨b8, 0, none⟩ (.int .i64 C')).heap.size = w.heap.size := by simp
  have ho : ∀ b, b8 ≠ b → (w.setCell ⟨b8, 0, none⟩ (.int .i64 C')).cell? ⟨b, 0, none⟩ = w.cell? ⟨b, 0, none⟩ := fun b hb => World.cell?_setCell_other _ _ _ _ (by intro e; cases e; exact hb rfl)
  exact ⟨h.bel.setCell h.g8 _, by rw [hsz]; exact h.l2, by rw [hsz]; exact h.l5, by rw [hsz]; exact h.l7, by rw [hsz]; exact h.l8, h.g8, h.gB, (ho _ h.n2).trans h.c2, (ho _ h.n5).trans h.c5, (ho _ h.n7).trans h.c7, World.cell?_setCell_same _ _ _ h.c8, (World.frozen?_setCell _ _ _ _).trans h.f8, ⟨D, hown.setCell h.nB _, hD⟩, h.n2, h.n5, h.n7, h.nB⟩

/-- All blocks but two stayed. -/
structure Kq (b8 B : Nat) (w w' : World) : Prop where
  size : w.heap.size ≤ w'.heap.size
  blk : ∀ b, b < w.heap.size → b ≠ b8 → b ≠ B → w'.heap[b]? = w.heap[b]?

theorem Kq.refl (b8 B : Nat) (w : World) : Kq b8 B w w := ⟨Nat.le_refl _, fun _ _ _ _ => rfl⟩
theorem Kq.trans {b8 B : Nat} {w w' w'' : World} (h : Kq b8 B w w') (g : Kq b8 B w' w'') : Kq b8 B w w'' :=
  ⟨Nat.le_trans h.size g.size, fun b hb h1 h2 => (g.blk b (Nat.lt_of_lt_of_le hb h.size) h1 h2).trans (h.blk b hb h1 h2)⟩
theorem Kq.of_below {b8 B : Nat} {w w' : World} (h : Below w.heap.size w w') : Kq b8 B w w' := ⟨h.size, fun b hb _ _ => h.block b hb⟩
theorem Kq.of_turned {b8 B : Nat} {w w' : World} (h : w.mapTurned w' B) : Kq b8 B w w' := ⟨h.grown.size, fun b hb _ h2 => h.grown.block b hb (by simpa using h2)⟩
theorem Kq.of_set (b8 B : Nat) (w : World) (v : Value) : Kq b8 B w (w.setCell ⟨b8, 0, none⟩ v) := ⟨by simp, fun b hb h1 _ => RowKit.Below.heap_setCell _ _ _ _ h1⟩
theorem Kq.cell {b8 B : Nat} {w w' : World} (h : Kq b8 B w w') {b o : Nat} {v : Value} (hc : w.cell? ⟨b, o, none⟩ = some v) (h1 : b ≠ b8) (h2 : b ≠ B) : w'.cell? ⟨b, o, none⟩ = some v := by
  rw [← hc]; exact World.cell?_of_block (h.blk b (World.block_lt_of_cell? w _ hc) h1 h2)

theorem below_drew (w : World) (n : Nat) : Below w.heap.size w (w.drewN n) := below_drewN (Below.refl _ _) n

set_option maxHeartbeats 4000000 in
/-- A literal comes to what is learned. -/
theorem add_any (w0 w : World) (b2 b5 b7 b8 B pb : Nat) (ts : List As) (x : PP) (lv : Int) (S : List Int) (N : Nat) (l : Int) (P0 : Pth w0 pb ts ts.length x) (h : TS w0 w b2 b5 b7 b8 B pb lv (cnt ts lv S) S N) (hf : falB ts l = true) (hS : S.length ≤ 20000) (hN : N ≤ 20000) :
    Calls Try.prog 54 #[.int .i64 l, .pointer (some ⟨b7, 0, none⟩), .pointer (some ⟨b2, 0, none⟩), .pointer (some ⟨b5, 0, none⟩), .pointer (some ⟨b8, 0, none⟩)] w fun e w' => e = .returned (.tuple #[]) ∧ TS w0 w' b2 b5 b7 b8 B pb lv (cnt ts lv (ins S l)) (ins S l) (N + 1) ∧ Kq b8 B w w' := by
  have T := Tr.of P0.ok
  have hl2 := litB_true.1 (fal_lit T.vl hf)
  have hkey := key3 (l := l) (by omega)
  obtain ⟨D, hown, hD⟩ := h.ms
  have hDm := hown.isMap
  have c7 := h.c7
  have hcl := cnt_le ts lv S
  by_cases hh : hasB S l = true
  · have hD1 := hD l
    rw [hh] at hD1
    have HE := hide (ins_has hh)
    have HT := hide h
    clear h hD hDm
    go_enter Try.func54, Try.ntmps54
    go_wp2_with (at_lookup; refine wpList_lookup_own_unit _ rfl _ _ 46 rfl 3 56 law3 Try.underlying46 (zero56 _) B N D rfl hown _ _ rfl hkey ?_; rw [hD1])
    refine bodyPost_ret (results_none rfl _ _ _) rfl ?_
    refine ⟨rfl, ?_, Kq.of_below (below_alloc w _)⟩
    rw [HE.out]
    have h2 := (unhide HT).below (below_alloc w (.cells #[] 56))
    obtain ⟨D2, ho2, hh2⟩ := h2.ms
    exact { h2 with ms := ⟨D2, ho2.mono (Nat.le_succ _), hh2⟩ }
  · have hh' : hasB S l = false := by simpa using hh
    have hD1 := hD l
    rw [hh'] at hD1
    have HC := hide (cnt_ins (ts := ts) (lv := lv) hh')
    have HMS := hide (fun (_ : Unit) => ms_put (l := l) hDm hD)
    have CL := hide (fun w' (hb : Below w0.heap.size w0 w') => level_any w' pb ts x l (P0.below hb) hf)
    have hT1 := h.below (below_alloc w (.cells #[] 56))
    have HT1 := hide hT1
    have hown1 := hown.alloc (.cells #[] 56)
    have c71 := hT1.c7
    clear h hD hDm hT1
    go_enter Try.func54, Try.ntmps54
    go_upto_region 3 with (first | (at_lookup; refine wpList_lookup_own_unit _ rfl _ _ 46 rfl 3 56 law3 Try.underlying46 (zero56 _) B N D rfl hown _ _ rfl hkey ?_; rw [hD1]) | (at_mapUpdate; refine wpList_mapUpdate_in _ rfl _ _ _ 46 rfl 3 56 law3 Try.underlying46 _ B N D rfl hown1 (by unfold maxLen; omega) _ _ _ rfl rfl hkey (.agg []) [] unitElem_mk ?_; intro w1 hown2 hturn2))
    go_frame
    have T2 := (unhide HT1).turned hown2 (HMS.out ()) hturn2
    have c2 := T2.c2
    have c5 := T2.c5
    have c8 := T2.c8
    have f8 := T2.f8
    have HT2 := hide T2
    have HK := hide ((Kq.of_below (b8 := b8) (B := B) (below_alloc w (.cells #[] 56))).trans (Kq.of_turned (b8 := b8) hturn2))
    have CL2 := hide (fun n => unhide CL (w1.drewN n) (below_drewN T2.bel n))
    clear T2 HT1 HMS hown hown1 hown2 hturn2 CL c7 c71 hD1 hh hh'
    generalize hA : levI ts l = A at *
    by_cases hlv : A = lv
    · have hb : (A == lv) = true := by simpa using hlv
      have HC2 : Hid (cnt ts lv (ins S l) = cnt ts lv S + 1) := by show _ = _; rw [HC.out, if_pos hlv]
      generalize cnt ts lv S = cS at *
      clear hA hlv HC
      go_quiet ((go_at_call 42; exact quietE (unhide CL2 _)))
      go_wp2
      go_end0
      refine ⟨rfl, ?_, HK.out.trans ((Kq.of_below (below_drew w1 nq)).trans (Kq.of_set b8 B _ _))⟩
      rw [HC2.out]
      have h9 := ((unhide HT2).below (below_drew w1 nq)).setC (C' := ((cS : Int) + 1))
      exact_mod_cast h9
    · have hb : (A == lv) = false := by simpa using hlv
      have HC2 : Hid (cnt ts lv (ins S l) = cnt ts lv S) := by show _ = _; rw [HC.out, if_neg hlv]; rfl
      generalize cnt ts lv S = cS at *
      clear hA hlv HC
      go_quiet ((go_at_call 42; exact quietE (unhide CL2 _)))
      go_wp2
      go_end0
      refine ⟨rfl, ?_, HK.out.trans (Kq.of_below (below_drew w1 nq))⟩
      rw [HC2.out]
      exact (unhide HT2).below (below_drew w1 nq)

end Go.Proofs.Ytaepanmkofhgoaa
