/- Contracts: the law decides a literal. -/
import Derived.Test.YtlmbgaconjcaiaaKa
import Derived.Test.YtlmbgaconjcaiaaKb
import Derived.Test.YtlmbgaconjcaiaaHc
import Derived.Test.YtlmbgaconjcaiaaIa
import Derived.Deep.AppendLies
import Derived.Deep.RegionLaw
import Derived.Deep.DeepCutAuto
import Derived.Deep.CutBlock
set_option linter.unusedVariables false
set_option linter.unusedSimpArgs false
namespace Go.Proofs.Ytlmbgaconjcaiaa
open Go.RowKit

/-- All blocks from one on are nobody's. -/
def fr (ρ : Nat → Rl) (n : Nat) : Nat → Rl := fun b => if b < n then ρ b else oth
theorem fr_old {ρ : Nat → Rl} {n b : Nat} (h : b < n) : fr ρ n b = ρ b := if_pos h
theorem fr_new {ρ : Nat → Rl} {n b : Nat} (h : n ≤ b) : fr ρ n b = oth := if_neg (by omega)
theorem Rep.fr {ρ : Nat → Rl} {w w' : World} {B : Nat} {H : Hd} {s : PS} (h : Rep ρ w B H s) (hb : Below w.heap.size w w') : Rep (fr ρ w.heap.size) w' B H s := (h.role (fun b hb => fr_old hb)).below hb
theorem Ev.fr {ρ : Nat → Rl} {w w' : World} (hb : Below w.heap.size w w') : Ev ρ w (fr ρ w.heap.size) w' := ⟨hb.os, hb.tape, hb.output, hb.size, fun b h => fr_old h, fun b h _ => hb.block b h⟩

/-- A row of numbers that is nobody's. -/
def DR (ρ : Nat → Rl) (w : World) (v : Value) (n : Nat) (ds : List Int) : Prop := w.ownsRow 0 3 1 v n (intC ds) ∧ ∀ g, v.ownBlock = some g → ρ g = oth
theorem DR.ev {ρ ρ' : Nat → Rl} {w w' : World} {v : Value} {n : Nat} {ds : List Int} (h : DR ρ w v n ds) (hE : Ev ρ w ρ' w') : DR ρ' w' v n ds := by
  have hlt : ∀ g, v.ownBlock = some g → g < w.heap.size := fun g hg => (World.ownsRow.lt h.1 g hg).2
  exact ⟨own_same h.1 (fun k hk => hE.keep k (hlt k hk) (h.2 k hk)), fun g hg => (hE.agree g (hlt g hg)).trans (h.2 g hg)⟩
theorem DR.nil (ρ : Nat → Rl) (w : World) : DR ρ w (.slice none 0 0) 0 [] := ⟨World.ownsRow_nil _ _ _ _, fun g hg => by simp [Value.ownBlock] at hg⟩

theorem own_lit0 (W : World) (base : Nat) (hb : base ≤ W.heap.size) : (W.alloc (.cells #[] 3)).ownsRow base 3 1 (.slice (some ⟨W.heap.size, 0, none⟩) 0 0) 0 [] :=
  ⟨rfl, .inr ⟨W.heap.size, 0, #[], rfl, hb, heap_alloc_new W _, Nat.le_refl _, by unfold maxLen; omega, rfl, rfl⟩⟩
theorem own_lit1 (W : World) (o : Obj) (base : Nat) (hb : base ≤ W.heap.size) : ((W.alloc o).alloc (.cells #[] 3)).ownsRow base 3 1 (.slice (some ⟨W.heap.size + 1, 0, none⟩) 0 0) 0 [] := by
  have := own_lit0 (W.alloc o) base (by simp; omega)
  simpa using this

theorem heap3 (w : World) (o1 o2 o3 : Obj) : ((((w.alloc o1).alloc o2).alloc o3).heap[w.heap.size]? = some o1 ∧ (((w.alloc o1).alloc o2).alloc o3).heap[w.heap.size + 1]? = some o2 ∧ (((w.alloc o1).alloc o2).alloc o3).heap[w.heap.size + 1 + 1]? = some o3) ∧ (((w.alloc o1).alloc o2).alloc o3).heap.size = w.heap.size + 1 + 1 + 1 := by
  have s1 : (w.alloc o1).heap.size = w.heap.size + 1 := by simp
  have s2 : ((w.alloc o1).alloc o2).heap.size = w.heap.size + 1 + 1 := by simp
  refine ⟨⟨?_, ?_, ?_⟩, by simp⟩
  · rw [heap_alloc_old _ _ (by omega), heap_alloc_old _ _ (by omega)]; exact heap_alloc_new w o1
  · rw [heap_alloc_old _ _ (by omega), ← s1]; exact heap_alloc_new _ o2
  · rw [← s2]; exact heap_alloc_new _ o3

/-- The blocks that an act of the law keeps for itself: the world, the act, the result. -/
structure Bx (W : World) (b2 b3 b4 : Nat) (wv av rv : Array Value) : Prop where
  k2 : W.heap[b2]? = some (.cells wv 36 (0, 0))
  k3 : W.heap[b3]? = some (.cells av 41 (0, 0))
  k4 : W.heap[b4]? = some (.cells rv 36 (0, 0))
theorem Bx.below {W W' : World} {b2 b3 b4 : Nat} {wv av rv : Array Value} (h : Bx W b2 b3 b4 wv av rv) (hb : Below W.heap.size W W') : Bx W' b2 b3 b4 wv av rv :=
  ⟨(hb.block _ (lt_of_block h.k2)).trans h.k2, (hb.block _ (lt_of_block h.k3)).trans h.k3, (hb.block _ (lt_of_block h.k4)).trans h.k4⟩
theorem Bx.ev {W W' : World} {ρ ρ' : Nat → Rl} {b2 b3 b4 : Nat} {wv av rv : Array Value} (h : Bx W b2 b3 b4 wv av rv) (hE : Ev ρ W ρ' W') (hr : ρ b2 = oth ∧ ρ b3 = oth ∧ ρ b4 = oth) : Bx W' b2 b3 b4 wv av rv :=
  ⟨(hE.keep _ (lt_of_block h.k2) hr.1).trans h.k2, (hE.keep _ (lt_of_block h.k3) hr.2.1).trans h.k3, (hE.keep _ (lt_of_block h.k4) hr.2.2).trans h.k4⟩

def ActP (ρ : Nat → Rl) (w : World) (B : Nat) (t : PS) (v : Value) (n : Nat) (ds : List Int) (w' : World) : Prop := ∃ ρ' H', Rep ρ' w' B H' t ∧ Ev ρ w ρ' w' ∧ DR ρ' w' v n ds

theorem ents_e (B : Nat) (H : Hd) (s : PS) : ∀ r x, ents B H s r = some x → x.e ≠ 36 := by
  refine rl_cases ?_ ?_ (fun i => ?_) (fun i => ?_) ?_ ?_ (fun i => ?_) ?_ ?_ ?_ (fun i => ?_) ?_ (fun k i hn _ _ _ _ _ _ _ _ _ _ _ _ => ?_)
  all_goals intro x hx
  case _ => simp only [ents, Option.some.injEq] at hx; subst hx; simp
  case _ => simp only [ents, Option.some.injEq] at hx; subst hx; simp
  case _ => simp only [ents, Option.map_eq_some_iff] at hx; obtain ⟨c, _, rfl⟩ := hx; simp
  case _ => simp only [ents, Option.map_eq_some_iff] at hx; obtain ⟨c, _, rfl⟩ := hx; simp
  case _ => simp only [ents, Option.some.injEq] at hx; subst hx; simp
  case _ => simp only [ents, Option.some.injEq] at hx; subst hx; simp
  case _ => simp only [ents] at hx; unfold watE at hx; split at hx <;> simp at hx; subst hx; simp
  case _ => simp only [ents, Option.some.injEq] at hx; subst hx; simp
  case _ => simp only [ents, Option.some.injEq] at hx; subst hx; simp
  case _ => simp only [ents, Option.some.injEq] at hx; subst hx; simp
  case _ => simp only [ents] at hx; unfold lvlE at hx; split at hx <;> simp at hx; subst hx; simp
  case _ => simp only [ents, Option.some.injEq] at hx; subst hx; simp
  case _ => rw [hn] at hx; cases hx

theorem own_ty {w : World} {base e sz n g : Nat} {v : Value} {xs : List Value} (h : w.ownsRow base e sz v n xs) (hg : v.ownBlock = some g) : ∃ cs, w.heap[g]? = some (.cells cs e (0, 0)) := by
  rcases h.2 with ⟨rfl, _⟩ | ⟨g', cap, cur, rfl, hb, hgg, _⟩
  · simp [Value.ownBlock] at hg
  · simp [Value.ownBlock] at hg; subst hg; exact ⟨_, hgg⟩

/-- A block of the law's own turned. -/
theorem ActP.step {ρ : Nat → Rl} {w W W' : World} {B : Nat} {t : PS} {v : Value} {n g : Nat} {ds : List Int} {cs : Array Value} (h : ActP ρ w B t v n ds W) (hg : W.heap[g]? = some (.cells cs 36 (0, 0))) (hge : w.heap.size ≤ g) (hoff : ∀ b, b ≠ g → W'.heap[b]? = W.heap[b]?) (hsz : W'.heap.size = W.heap.size) (hr : W'.os = W.os ∧ W'.tape = W.tape ∧ W'.output = W.output) : ActP ρ w B t v n ds W' := by
  obtain ⟨ρ', H', hR, hE, hD⟩ := h
  have hne : ∀ (e : TypeId) (cs' : Array Value) (k : Nat), e ≠ 36 → W.heap[k]? = some (.cells cs' e (0, 0)) → k ≠ g := by
    rintro e cs' k he hk rfl
    rw [hg] at hk; simp at hk; exact he hk.2.symm
  refine ⟨ρ', H', ⟨⟨fun r x hx => own_same (hR.hold.own r x hx) (fun k hk => hoff k ?_), hR.hold.rl⟩, hR.wr, hR.lr⟩, ?_, own_same hD.1 (fun k hk => hoff k ?_), hD.2⟩
  · obtain ⟨cs', hc⟩ := own_ty (hR.hold.own r x hx) hk
    exact hne _ _ _ (ents_e _ _ _ r x hx) hc
  · exact ⟨hr.1.trans hE.os, hr.2.1.trans hE.tape, hr.2.2.trans hE.output, by rw [hsz]; exact hE.size, hE.agree, fun b hb ho => (hoff b (by omega)).trans (hE.keep b hb ho)⟩
  · obtain ⟨cs', hc⟩ := own_ty hD.1 hk
    exact hne _ _ _ (by decide) hc

theorem U5.cell {w W : World} {g : Nat} {xs : List Value} (h : U5 w W g xs) {i : Nat} {u : Value} (hi : xs[i]? = some u) : W.cell? ⟨g, i, none⟩ = some u := own_cell (g := g) h.own rfl hi

theorem act0_fin {ρ ρ2 : Nat → Rl} {w w2 w4 : World} {B : Nat} {H2 : Hd} {t : PS} {ds : List Int} {l : Int} {g2 n4 cap2 b2 b3 b4 : Nat} {v0 v1 v2 v3 v4 : Value} {av rv : Array Value} (hR2 : Rep ρ2 w2 B H2 t) (hE2 : Ev ρ w ρ2 w2) (hBX : Bx w2 b2 b3 b4 #[v0, v1, v2, v3, v4] av rv) (hx : b2 ≠ b4) (hn : w.heap.size = b2) (hbl2 : Below w2.heap.size w2 w4) (ho2 : w4.ownsRow w2.heap.size 3 1 (.slice (some ⟨g2, 0, none⟩) (n4 + 1) cap2) (n4 + 1) (intC ds ++ [.int .i64 l])) :
    ((w4.setCell ⟨b2, 4, none⟩ (.slice (some ⟨g2, 0, none⟩) (n4 + 1) cap2)).cell? ⟨b2, 0, none⟩ = some v0 ∧ (w4.setCell ⟨b2, 4, none⟩ (.slice (some ⟨g2, 0, none⟩) (n4 + 1) cap2)).cell? ⟨b2, 1, none⟩ = some v1 ∧ (w4.setCell ⟨b2, 4, none⟩ (.slice (some ⟨g2, 0, none⟩) (n4 + 1) cap2)).cell? ⟨b2, 2, none⟩ = some v2 ∧ (w4.setCell ⟨b2, 4, none⟩ (.slice (some ⟨g2, 0, none⟩) (n4 + 1) cap2)).cell? ⟨b2, 3, none⟩ = some v3 ∧ (w4.setCell ⟨b2, 4, none⟩ (.slice (some ⟨g2, 0, none⟩) (n4 + 1) cap2)).cell? ⟨b2, 4, none⟩ = some (.slice (some ⟨g2, 0, none⟩) (n4 + 1) cap2)) ∧ (w4.setCell ⟨b2, 4, none⟩ (.slice (some ⟨g2, 0, none⟩) (n4 + 1) cap2)).heap[b4]? = some (.cells rv 36 (0, 0)) ∧ Hid (ActP ρ w B t (.slice (some ⟨g2, 0, none⟩) (n4 + 1) cap2) (n4 + 1) (ds ++ [l]) (w4.setCell ⟨b2, 4, none⟩ (.slice (some ⟨g2, 0, none⟩) (n4 + 1) cap2))) := by
  have e : intC (ds ++ [l]) = intC ds ++ [.int .i64 l] := by simp [intC]
  have hlt := World.ownsRow.lt ho2 g2 rfl
  have HA : ActP ρ w B t (.slice (some ⟨g2, 0, none⟩) (n4 + 1) cap2) (n4 + 1) (ds ++ [l]) w4 := by
    refine ⟨fr ρ2 w2.heap.size, H2, hR2.fr hbl2, hE2.trans (Ev.fr hbl2), ?_, ?_⟩
    · rw [e]
      refine ⟨ho2.1, ?_⟩
      rcases ho2.2 with h | ⟨g, cap, cur, h1, _, h3⟩
      · exact .inl h
      · exact .inr ⟨g, cap, cur, h1, Nat.zero_le _, h3⟩
    · intro g hg
      have : g2 = g := by simpa [Value.ownBlock] using hg
      subst this
      exact fr_new hlt.1
  have hBX4 := hBX.below hbl2
  have hU := (U5.first rfl hBX4.k2).set 4 (.slice (some ⟨g2, 0, none⟩) (n4 + 1) cap2)
  exact ⟨⟨hU.cell rfl, hU.cell rfl, hU.cell rfl, hU.cell rfl, hU.cell rfl⟩, (hU.off b4 (Ne.symm hx)).trans hBX4.k4, HA.step hBX4.k2 (Nat.le_of_eq hn) hU.off hU.size hU.rest⟩

section
variable {ρ : Nat → Rl} {w : World} {B : Nat} {H : Hd} {s : PS}

theorem openB_lt {V : Nat} {t : List Int} {l : Int} (h : openB V t l = true) : Lt V l ∧ l ∉ t ∧ -l ∉ t := by
  unfold openB at h
  simp only [Bool.and_eq_true, decide_eq_true_eq, Bool.not_eq_true'] at h
  obtain ⟨⟨⟨h1, h2⟩, h3⟩, h4⟩ := h
  unfold litB at h1
  simp only [decide_eq_true_eq] at h1
  refine ⟨?_, ?_, ?_⟩
  · unfold Lt; unfold varI at h2; split at h2 <;> omega
  · intro hm; unfold hasB at h3; rw [List.any_eq_false] at h3; exact h3 l hm (by simp)
  · intro hm; unfold hasB at h4; rw [List.any_eq_false] at h4; exact h4 (-l) hm (by simp)

theorem val_zero (hI : Inv s) {l : Int} (hl : Lt s.vars l) (h1 : l ∉ s.trail) (h2 : -l ∉ s.trail) : s.val l = 0 := by
  rw [hI.tr.vl l hl]; unfold tval; rw [if_neg h1, if_neg h2]

set_option maxHeartbeats 40000000 in
set_option maxRecDepth 100000 in
theorem act0_yes (h : Rep ρ w B H s) (hI : Inv s) (hlits : ∀ c ∈ s.cls, c.lits.length ≤ 10000) (V : Nat) (hV : s.vars = V) (a2 a3 a4 ac : Option Addr) (n2 c2 n3 c3 n4 c4 nc cc : Nat) (ds : List Int) (hd : DR ρ w (.slice a4 n4 c4) n4 ds) (hn4 : n4 ≤ 1048576) (l : Int) (ho : openB V s.trail l = true) :
    Calls Try.prog 12 #[.agg #[.pointer (some ⟨B, 0, none⟩), .int .i64 V, .slice a2 n2 c2, .slice a3 n3 c3, .slice a4 n4 c4], .agg #[.int .i64 0, .int .i64 l, .slice ac nc cc]] w fun e w' => ∃ a' c', e = .returned (.tuple #[.agg #[.pointer (some ⟨B, 0, none⟩), .int .i64 V, .slice a2 n2 c2, .slice a3 n3 c3, .slice a' (n4 + 1) c'], .bool true]) ∧ ActP ρ w B (s.decide l) (.slice a' (n4 + 1) c') (n4 + 1) (ds ++ [l]) w' := by
  have hBw := h.lt
  obtain ⟨hl, hl1, hl2⟩ := openB_lt ho
  have hv := val_zero hI (by rw [hV]; exact hl) hl1 hl2
  have hM := hI.small hlits
  have hVs := hI.sz.vars
  have hhd : s.head ≤ 1048576 := by have := hI.tr.hd; have := hM.trail; omega
  have hB0 : Below w.heap.size w (((w.alloc (.cells #[.pointer (some ⟨B, 0, none⟩), .int .i64 V, .slice a2 n2 c2, .slice a3 n3 c3, .slice a4 n4 c4] 36)).alloc (.cells #[.int .i64 0, .int .i64 l, .slice ac nc cc] 41)).alloc (.cells #[.pointer none, .int .i64 0, .slice none 0 0, .slice none 0 0, .slice none 0 0] 36)) := (((Below.refl _ _).alloc (Nat.le_refl _) _).alloc (by simp) _).alloc (by simp; omega) _
  have hR0 := h.fr hB0
  have hd0 := hd.ev (Ev.fr hB0)
  have OP := open_any hR0 hM.trail V (by omega) a2 a3 a4 n2 c2 n3 c3 n4 c4 l
  rw [ho] at OP
  have HB0 := hide hB0
  have HE0 : Hid (Ev ρ w (fr ρ w.heap.size) _) := Ev.fr hB0
  have HR0 := hide hR0
  have HD0 := hide hd0
  have HI := hide hI
  have HM := hide hM
  replace OP := hide OP
  clear h hd hI hM hR0 hd0 ho hB0
  obtain ⟨i0, hi, hz0, hz1, hz2⟩ := info_parts Try.info3
  go_enter Try.func12, Try.ntmps12
  go_upto_block 0 with fail
  go_cut [] from 6 to 170 (fun wx => ∃ (a' : Option Addr) (c' : Nat), (wx.cell? ⟨w.heap.size, 0, none⟩ = some (.pointer (some ⟨B, 0, none⟩)) ∧ wx.cell? ⟨w.heap.size, 1, none⟩ = some (.int .i64 V) ∧ wx.cell? ⟨w.heap.size, 2, none⟩ = some (.slice a2 n2 c2) ∧ wx.cell? ⟨w.heap.size, 3, none⟩ = some (.slice a3 n3 c3) ∧ wx.cell? ⟨w.heap.size, 4, none⟩ = some (.slice a' (n4 + 1) c')) ∧ wx.heap[w.heap.size + 1 + 1]? = some (.cells #[.pointer none, .int .i64 0, .slice none 0 0, .slice none 0 0, .slice none 0 0] 36 (0, 0)) ∧ Hid (ActP ρ w B (s.decide l) (.slice a' (n4 + 1) c') (n4 + 1) (ds ++ [l]) wx))
  case first =>
    go_wp2_with fail
    refine Calls.mono (unhide OP) ?_
    rintro e w1 ⟨rfl, hb1⟩
    have hx := heap3 w (.cells #[.pointer (some ⟨B, 0, none⟩), .int .i64 V, .slice a2 n2 c2, .slice a3 n3 c3, .slice a4 n4 c4] 36) (.cells #[.int .i64 0, .int .i64 l, .slice ac nc cc] 41) (.cells #[.pointer none, .int .i64 0, .slice none 0 0, .slice none 0 0, .slice none 0 0] 36)
    have hBx := (Bx.mk hx.1.1 hx.1.2.1 hx.1.2.2).below hb1
    have hsz := hx.2
    have hs1 := hb1.size
    rw [hsz] at hs1
    have HE1 : Hid (Ev ρ w (fr ρ w.heap.size) w1) := HE0.out.trans (Ev.below hb1)
    have HR1 := hide (HR0.out.below hb1)
    have HD1 := hide (HD0.out.ev (Ev.below hb1))
    have HFR : Hid (fr ρ w.heap.size w.heap.size = oth ∧ fr ρ w.heap.size (w.heap.size + 1) = oth ∧ fr ρ w.heap.size (w.heap.size + 1 + 1) = oth) := ⟨fr_new (Nat.le_refl _), fr_new (by omega), fr_new (by omega)⟩
    have hlt4 : w.heap.size + 1 + 1 < w1.heap.size := by omega
    have hBlt := HR1.out.lt
    clear hx hsz HE0 HR0 HD0 HB0 OP hb1 hs1
    generalize hb4 : w.heap.size + 1 + 1 = b4 at *
    generalize hb3 : w.heap.size + 1 = b3 at *
    generalize hb2 : w.heap.size = b2 at *
    have x23 : b2 ≠ b3 := by omega
    have x24 : b2 ≠ b4 := by omega
    have x34 : b3 ≠ b4 := by omega
    have xB2 : B ≠ b2 := by omega
    have xB3 : B ≠ b3 := by omega
    have xB4 : B ≠ b4 := by omega
    have p0 := cell_of_block hBx.k2 (i := 0) rfl
    have p1 := cell_of_block hBx.k2 (i := 1) rfl
    have p2 := cell_of_block hBx.k2 (i := 2) rfl
    have p3 := cell_of_block hBx.k2 (i := 3) rfl
    have p4 := cell_of_block hBx.k2 (i := 4) rfl
    have q1 := cell_of_block hBx.k3 (i := 1) rfl
    have DC := hide (decide_yes HR1.out HI.out.shp HM.out l (by rw [hV]; exact hl) hv hhd)
    have HBX := hide hBx
    have HN2 := hide hb2
    have HN4e := hide hb4
    have X24 := hide x24
    have HN4 : Hid (w.heap.size ≤ b4) := by unfold Hid; omega
    clear hBx hb2 hb3 hb4
    simp only
    go_wp2_with fail
    refine Calls.mono (unhide DC) ?_
    rintro e w2 ⟨rfl, ρ2, H2, hR2, hE2⟩
    have hBx2 := HBX.out.ev hE2 HFR.out
    have HFR2 : Hid (ρ2 b2 = oth ∧ ρ2 b3 = oth ∧ ρ2 b4 = oth) := ⟨(hE2.agree _ (lt_of_block HBX.out.k2)).trans HFR.out.1, (hE2.agree _ (lt_of_block HBX.out.k3)).trans HFR.out.2.1, (hE2.agree _ (lt_of_block HBX.out.k4)).trans HFR.out.2.2⟩
    have HD2 := hide (HD1.out.ev hE2)
    have HE2 := hide (HE1.out.trans hE2)
    have HR2 := hide hR2
    clear p0 p1 p2 p3 p4 q1 DC HBX HFR HD1 HE1 HR1 hR2 hE2 hlt4 hBlt
    have p0 := cell_of_block hBx2.k2 (i := 0) rfl
    have p1 := cell_of_block hBx2.k2 (i := 1) rfl
    have p2 := cell_of_block hBx2.k2 (i := 2) rfl
    have p3 := cell_of_block hBx2.k2 (i := 3) rfl
    have p4 := cell_of_block hBx2.k2 (i := 4) rfl
    have pf := frz_of_block hBx2.k2 (i := 4)
    have q1 := cell_of_block hBx2.k3 (i := 1) rfl
    have hl2' := lt_of_block hBx2.k2
    have hl3 := lt_of_block hBx2.k3
    have hl4 := lt_of_block hBx2.k4
    have HBX2 := hide hBx2
    clear hBx2 hl hl1 hl2
    simp only
    go_wp2_with fail
    have HSRC : Hid (∀ x, Below w2.heap.size w2 x → (a4 = none ∧ n4 = 0 ∧ c4 = 0 ∧ intC ds = []) ∨ ∃ ad, a4 = some ad ∧ (intC ds).length = n4 * 1 ∧ ∀ j u, (intC ds)[j]? = some u → x.cell? (ad.add j) = some u) := fun x hx => own_src (own_same HD2.out.1 (fun k hk => hx.block k (World.ownsRow.lt HD2.out.1 k hk).2))
    have HONE : Hid (∀ u ∈ intC ds, u.oneCell' = true) := by intro u hu; simp only [intC, List.mem_map] at hu; obtain ⟨i, _, rfl⟩ := hu; rfl
    have HFACT : Hid (∀ x, Below w2.heap.size w2 x → x.cell? ⟨b2, 4, none⟩ = some (.slice a4 n4 c4) ∧ x.frozen? ⟨b2, 4, none⟩ = false ∧ x.cell? ⟨b3, 1, none⟩ = some (.int .i64 l) ∧ b2 < x.heap.size ∧ b3 < x.heap.size) := fun x hx =>
      ⟨(hx.cell (p := ⟨b2, 4, none⟩) hl2').trans p4, (hx.frozen (p := ⟨b2, 4, none⟩) hl2').trans pf, (hx.cell (p := ⟨b3, 1, none⟩) hl3).trans q1, Nat.lt_of_lt_of_le hl2' hx.size, Nat.lt_of_lt_of_le hl3 hx.size⟩
    have hWW := hide (Below.refl w2.heap.size w2)
    have hb65 : Hid (((w2.alloc (.cells #[] 3)).alloc (.cells #[.int .i64 l] 3)).heap[w2.heap.size + 1]? = some (.cells #[.int .i64 l] 3 (0, 0))) := by
      have := heap_alloc_new (w2.alloc (.cells #[] 3)) (.cells #[.int .i64 l] 3)
      rw [show (w2.alloc (.cells #[] 3)).heap.size = w2.heap.size + 1 by simp] at this
      exact this
    have hb64 : Hid (((w2.alloc (.cells #[.int .i64 l] 3)).alloc (.cells #[] 3)).heap[w2.heap.size]? = some (.cells #[.int .i64 l] 3 (0, 0))) := (heap_alloc_old _ _ (by simp)).trans (heap_alloc_new w2 _)
    have y2 : b2 ≠ w2.heap.size := by omega
    have y3 : b3 ≠ w2.heap.size := by omega
    have y2' : b2 ≠ w2.heap.size + 1 := by omega
    have y3' : b3 ≠ w2.heap.size + 1 := by omega
    clear x23 x24 x34 xB2 xB3 xB4 p0 p1 p2 p3 hBw hVs hhd hlits hV
    go_region_law (first
        | (refine step_append_any (by rfl) (.tmp 30) (.tmp 32) 34 (by rfl) w2.heap.size 3 i0 (.int .i64 0) 1 8 Try.underlying34 hi hz0 hz1 hz2 rfl (by decide) (.slice (some ⟨w2.heap.size, 0, none⟩) 0 0) 0 [] (by rfl) (own_lit0 w2 w2.heap.size (Nat.le_refl _)) (by simp) a4 n4 c4 (intC ds) (by rfl) (HSRC.out _ (hWW.out.alloc (Nat.le_refl _) _).drew) HONE.out (by unfold maxLen; omega) (by omega) (by simp [World.drew]) ?_; intro g1 cap1 w3 ho1 hgr1 hat1 hlt1; simp only [Nat.zero_add, List.nil_append] at ho1; have hg1 := (ho1.lt g1 rfl).1; have hbl1 := (hWW.out.alloc (Nat.le_refl _) _).drew.grown hgr1 (by simp [World.drew]) (fun k e => by simp [Value.ownBlock] at e; omega); obtain ⟨s1, s2, s3, s4, s5⟩ := HFACT.out _ hbl1)
        | (refine step_append_any (by rfl) (.tmp 30) (.tmp 32) 34 (by rfl) w2.heap.size 3 i0 (.int .i64 0) 1 8 Try.underlying34 hi hz0 hz1 hz2 rfl (by decide) (.slice (some ⟨w2.heap.size, 0, none⟩) 0 0) 0 [] (by rfl) ((own_lit0 w2 w2.heap.size (Nat.le_refl _)).alloc _) (by simp) a4 n4 c4 (intC ds) (by rfl) (HSRC.out _ ((hWW.out.alloc (Nat.le_refl _) _).alloc (by simp) _).drew) HONE.out (by unfold maxLen; omega) (by omega) (by simp [World.drew]; omega) ?_; intro g1 cap1 w3 ho1 hgr1 hat1 hlt1; simp only [Nat.zero_add, List.nil_append] at ho1; have hg1 := (ho1.lt g1 rfl).1; have hbl1 := ((hWW.out.alloc (Nat.le_refl _) _).alloc (by simp) _).drew.grown hgr1 (by simp [World.drew]; omega) (fun k e => by simp [Value.ownBlock] at e; omega); have hb25 := (hgr1.block (w2.heap.size + 1) (by simp [World.drew]) (by simp [Value.ownBlock])).trans hb65.out; obtain ⟨s1, s2, s3, s4, s5⟩ := HFACT.out _ hbl1)
        | (refine step_append_any (by rfl) (.tmp 30) (.tmp 32) 34 (by rfl) w2.heap.size 3 i0 (.int .i64 0) 1 8 Try.underlying34 hi hz0 hz1 hz2 rfl (by decide) (.slice (some ⟨w2.heap.size + 1, 0, none⟩) 0 0) 0 [] (by rfl) (own_lit1 w2 _ w2.heap.size (Nat.le_refl _)) (by simp) a4 n4 c4 (intC ds) (by rfl) (HSRC.out _ ((hWW.out.alloc (Nat.le_refl _) _).alloc (by simp) _).drew) HONE.out (by unfold maxLen; omega) (by omega) (by simp [World.drew]; omega) ?_; intro g1 cap1 w3 ho1 hgr1 hat1 hlt1; simp only [Nat.zero_add, List.nil_append] at ho1; have hg1 := (ho1.lt g1 rfl).1; have hbl1 := ((hWW.out.alloc (Nat.le_refl _) _).alloc (by simp) _).drew.grown hgr1 (by simp [World.drew]; omega) (fun k e => by simp [Value.ownBlock] at e; omega); have hb24 := (hgr1.block w2.heap.size (by simp [World.drew]; omega) (by simp [Value.ownBlock])).trans hb64.out; obtain ⟨s1, s2, s3, s4, s5⟩ := HFACT.out _ hbl1)
        | (refine step_append_lies _ (by rfl) (.tmp 33) (.tmp 36) 34 (by rfl) w2.heap.size 3 i0 (.int .i64 0) 1 8 Try.underlying34 hi hz0 hz1 hz2 rfl (by decide) (.slice (some ⟨g1, 0, none⟩) n4 cap1) n4 (intC ds) (by simp [Act.eval, Act.put]) (ho1.alloc _) ⟨w3.heap.size, 0, none⟩ 1 1 [.int .i64 l] (by rfl) (by rfl) (World.news_of_block (cs := #[.int .i64 l]) (t := 3) (fr := (0, 0)) (heap_alloc_new w3 _)) (by simp [Value.oneCell']) (by decide) (by unfold maxLen; omega) (by omega) (by have := hbl1.size; simp; omega) (w3.heap.size + 1) (by simp) ?_; intro g2 cap2 w4 ho2 hgr2 hat2 hlt2; have hbl2 := (hbl1.alloc hbl1.size _).grown hgr2 (by have := hbl1.size; simp; omega) (fun k e => by simp [Value.ownBlock] at e; omega); obtain ⟨t1, t2, t3, t4, t5⟩ := HFACT.out _ hbl2)
        | (refine step_append_lies _ (by rfl) (.tmp 33) (.tmp 36) 34 (by rfl) w2.heap.size 3 i0 (.int .i64 0) 1 8 Try.underlying34 hi hz0 hz1 hz2 rfl (by decide) (.slice (some ⟨g1, 0, none⟩) n4 cap1) n4 (intC ds) (by simp [Act.eval, Act.put]) ho1 ⟨w2.heap.size + 1, 0, none⟩ 1 1 [.int .i64 l] (by rfl) (by rfl) (World.news_of_block (cs := #[.int .i64 l]) (t := 3) (fr := (0, 0)) hb25) (by simp [Value.oneCell']) (by decide) (by unfold maxLen; omega) (by omega) hbl1.size w3.heap.size rfl ?_; intro g2 cap2 w4 ho2 hgr2 hat2 hlt2; have hbl2 := hbl1.grown hgr2 hbl1.size (fun k e => by simp [Value.ownBlock] at e; omega); obtain ⟨t1, t2, t3, t4, t5⟩ := HFACT.out _ hbl2)
        | (refine step_append_lies _ (by rfl) (.tmp 33) (.tmp 36) 34 (by rfl) w2.heap.size 3 i0 (.int .i64 0) 1 8 Try.underlying34 hi hz0 hz1 hz2 rfl (by decide) (.slice (some ⟨g1, 0, none⟩) n4 cap1) n4 (intC ds) (by simp [Act.eval, Act.put]) ho1 ⟨w2.heap.size, 0, none⟩ 1 1 [.int .i64 l] (by rfl) (by rfl) (World.news_of_block (cs := #[.int .i64 l]) (t := 3) (fr := (0, 0)) hb24) (by simp [Value.oneCell']) (by decide) (by unfold maxLen; omega) (by omega) hbl1.size w3.heap.size rfl ?_; intro g2 cap2 w4 ho2 hgr2 hat2 hlt2; have hbl2 := hbl1.grown hgr2 hbl1.size (fun k e => by simp [Value.ownBlock] at e; omega); obtain ⟨t1, t2, t3, t4, t5⟩ := HFACT.out _ hbl2))
    all_goals
      have HFIN := hide (act0_fin HR2.out HE2.out HBX2.out X24.out HN2.out hbl2 ho2)
      clear t1 t2 t3 t4 t5 s1 s2 s3 s4 s5 hbl2 hbl1 ho2 ho1 hgr2 hgr1 HSRC HONE HFACT hWW hb65 hb64 y2 y3 y2' y3' p4 pf q1 hl2' hl3 hl4
      go_wp2_with fail
      go_meet
      case rel => (have e2 := HN2.out; have e4 := HN4e.out; subst e2; subst e4; exact ⟨_, _, HFIN.out⟩)
  case rest =>
    obtain ⟨a', c', ⟨r0, r1, r2, r3, r4⟩, k4, HA5⟩ := hcut
    have HN4 : Hid (w.heap.size ≤ w.heap.size + 1 + 1) := by unfold Hid; omega
    have x24 : w.heap.size ≠ w.heap.size + 1 + 1 := by omega
    generalize hb4 : w.heap.size + 1 + 1 = b4 at *
    generalize hb2 : w.heap.size = b2 at *
    have HN5 : Hid (w.heap.size ≤ b4) := by unfold Hid; rw [hb2]; exact HN4.out
    clear hb4 hb2 HB0 HE0 HR0 HD0 OP
    have z0 := cell_of_block k4 (i := 0) rfl
    have z1 := cell_of_block k4 (i := 1) rfl
    have z2 := cell_of_block k4 (i := 2) rfl
    have z3 := cell_of_block k4 (i := 3) rfl
    have z4 := cell_of_block k4 (i := 4) rfl
    have fz0 := frz_of_block k4 (i := 0)
    have fz1 := frz_of_block k4 (i := 1)
    have fz2 := frz_of_block k4 (i := 2)
    have fz3 := frz_of_block k4 (i := 3)
    have fz4 := frz_of_block k4 (i := 4)
    have HK4 := hide k4
    clear k4
    go_wp2
    have hU := (((((U5.first rfl HK4.out).set 0 (.pointer (some ⟨B, 0, none⟩))).set 1 (.int .i64 V)).set 2 (.slice a2 n2 c2)).set 3 (.slice a3 n3 c3)).set 4 (.slice a' (n4 + 1) c')
    refine forget (P := fun W => bodyPost _ _ _ Exit.ret _ W) (fun W => (W.cell? ⟨b4, 0, none⟩ = some (.pointer (some ⟨B, 0, none⟩)) ∧ W.cell? ⟨b4, 1, none⟩ = some (.int .i64 V) ∧ W.cell? ⟨b4, 2, none⟩ = some (.slice a2 n2 c2) ∧ W.cell? ⟨b4, 3, none⟩ = some (.slice a3 n3 c3) ∧ W.cell? ⟨b4, 4, none⟩ = some (.slice a' (n4 + 1) c')) ∧ Hid (ActP ρ w B (s.decide l) (.slice a' (n4 + 1) c') (n4 + 1) (ds ++ [l]) W)) ⟨⟨hU.cell rfl, hU.cell rfl, hU.cell rfl, hU.cell rfl, hU.cell rfl⟩, HA5.out.step HK4.out HN5.out hU.off hU.size hU.rest⟩ ?_
    clear hU z0 z1 z2 z3 z4 fz0 fz1 fz2 fz3 fz4 r0 r1 r2 r3 r4 HA5 HK4
    rintro W6 ⟨⟨r0, r1, r2, r3, r4⟩, HA6⟩
    refine bodyPost_ret (v := .tuple #[.agg #[.pointer (some ⟨B, 0, none⟩), .int .i64 V, .slice a2 n2 c2, .slice a3 n3 c3, .slice a' (n4 + 1) c'], .bool true]) (by simp [results, Try.results12, go_sem, r0, r1, r2, r3, r4]) rfl ?_
    exact ⟨_, _, rfl, HA6.out⟩
end
end Go.Proofs.Ytlmbgaconjcaiaa
