/- The law of one run more, and of a new propagator, of a formula and acts that are light. -/
import Derived.Test.YtlmbgaconjcaiaaNj
import Derived.Deep.RegionHeld3
import Derived.Deep.RegionWith
import Derived.Deep.DeepCutAuto
set_option linter.unusedVariables false
set_option linter.unusedSimpArgs false
namespace Go.Proofs.Ytlmbgaconjcaiaa
open Go.RowKit

theorem open_of {V : Nat} {t : List Int} {l : Int} (hV : V ≤ 1048576) (hl : Lt V l) (h1 : l ∉ t) (h2 : -l ∉ t) : openB V t l = true := by
  unfold openB
  unfold Lt at hl
  have e1 : litB l 1048576 = true := by unfold litB; simp only [decide_eq_true_eq]; omega
  have e2 : decide (varI l ≤ V) = true := by unfold varI; simp only [decide_eq_true_eq]; split <;> omega
  rw [e1, e2, hasB_false.2 h1, hasB_false.2 h2]; rfl

theorem intsB_self (xs : List Int) : intsB xs xs = true := by simp [intsB]

theorem nd_at {D : List Int} (h : Nd D) {k : Nat} (hk : k < D.length) : D[k] ∉ D.take k ∧ -D[k] ∉ D.take k := by
  have key : ∀ y ∈ D.take k, y ≠ D[k] ∧ y ≠ -D[k] := by
    intro y hy
    obtain ⟨j, hj, hyj⟩ := mem_take_iff.1 hy
    obtain ⟨hjl, rfl⟩ := List.getElem?_eq_some_iff.1 hyj
    exact List.pairwise_iff_getElem.1 h j k hjl hk hj
  exact ⟨fun q => (key _ q).1 rfl, fun q => (key _ q).2 rfl⟩

/-- What two runs one behind the other tell. -/
theorem two_runs {s1 s2 : PS} {cs : List (List Int)} {D : List Int} {n m : Int} (h1 : Inv s1) (h2 : Inv s2) (a1 : Alv s1 cs) (a2 : Alv s2 cs) (hV1 : s1.vars < 100001) (hV2 : s2.vars < 100001) (d1 : s1.dec = D) (d2 : s2.dec = D) (hF : Frm s1 s2)
    (r1 : (n = -1 ∧ s1.late = [] ∧ s1.head = s1.trail.length) ∨ Brk s1 n) (r2 : (m = -1 ∧ s2.late = [] ∧ s2.head = s2.trail.length) ∨ Brk s2 m) :
    (n = -1 ∧ m = -1 ∧ s2.trail = s1.trail ∧ (followsP cs 100001 D).2 = false ∧ (∀ x, x ∈ (followsP cs 100001 D).1 ↔ x ∈ s1.trail) ∧ (followsP cs 100001 D).1.length = s1.trail.length) ∨ (0 ≤ n ∧ 0 ≤ m ∧ (followsP cs 100001 D).2 = true) := by
  have t1 := run_tells h1 a1 hV1 r1
  have t2 := run_tells h2 a2 hV2 r2
  rw [d1] at t1
  rw [d2] at t2
  rcases t1 with ⟨e1, f1, g1, l1⟩ | ⟨e1, f1⟩
  · rcases t2 with ⟨e2, f2, g2, l2⟩ | ⟨e2, f2⟩
    · left
      refine ⟨e1, e2, ?_, f1, g1, l1⟩
      obtain ⟨q, hq⟩ := hF.tr
      have : q.length = 0 := by
        have := congrArg List.length hq
        rw [List.length_append, ← l1, ← l2] at this; omega
      rw [hq, List.length_eq_zero_iff.1 this, List.append_nil]
    · rw [f1] at f2; cases f2
  · rcases t2 with ⟨e2, f2, g2, l2⟩ | ⟨e2, f2⟩
    · rw [f1] at f2; cases f2
    · exact .inr ⟨e1, e2, f1⟩

/-- The clauses that are there are a formula. -/
theorem LW.cnf {ρ : Nat → Rl} {N : Nat} {w : World} {B V : Nat} {s : PS} {css : List (List Int)} {gs : List Bool} {a2 a3 a4 : Option Addr} {c2 c3 c4 : Nat} (h : LW ρ N w B V s css gs a2 a3 a4 c2 c3 c4) (hV : V ≤ 1000) (hn : css.length ≤ 1000) : cnfB V (thereL css gs) = true := by
  have hl := thereL_len css gs
  unfold cnfB
  rw [Bool.and_eq_true]
  refine ⟨decide_eq_true ⟨by omega, by omega, by omega⟩, ?_⟩
  rw [List.all_eq_true]
  intro c hc
  obtain ⟨i, d, hd, hg, rfl⟩ := (h.kys.alv c).1 hc
  unfold mayB
  rw [Bool.and_eq_true]
  refine ⟨decide_eq_true (h.lits d (List.mem_of_getElem? hd)), ?_⟩
  rw [List.all_eq_true]
  intro x hx
  have := h.inv.wt.ok i d hd x hx
  rw [h.vars] at this
  unfold Lt at this
  unfold litB
  exact decide_eq_true this

theorem ltA (w : World) (o : Obj) : w.heap.size < (w.alloc o).heap.size := by simp
theorem belT {a b c : World} (h : Below a.heap.size a b) (k : Below b.heap.size b c) : Below a.heap.size a c := h.trans (k.mono h.size)
/-- Rows behind a row of slices, all of which came in, or are of none of the law's own types. -/
def GridF (N : Nat) (w : World) (a : Option Addr) (css : List (List Int)) : Prop :=
  ∀ i (h : i < css.length), ∃ b off ai ci, a = some ⟨b, off, none⟩ ∧ b < w.heap.size ∧ w.cell? ⟨b, off + i, none⟩ = some (.slice ai css[i].length ci) ∧ RowO free N w ai css[i] ∧ css[i].length ≤ maxLen ∧ (ai = none → ci = 0)
theorem GV.gridF {ρ : Nat → Rl} {N : Nat} {w : World} {a : Option Addr} {css : List (List Int)} {vs : List Value} (h : GV ρ N w a css vs) : GridF N w a css := by
  intro i hi
  obtain ⟨ai, ci, h1, h2, h3, h4⟩ := h.row i hi
  obtain ⟨b, off, e, hb, _, _, hc⟩ := h.cell i _ h1
  refine ⟨b, off, ai, ci, e, hb, hc, fun j hj => ?_, h3, h4⟩
  obtain ⟨b', off', e', hb', _, hf', hc'⟩ := h2 j hj
  exact ⟨b', off', e', hb', rfl, hf', hc'⟩
def ORF (N : Nat) (w wr : World) (v : Value) (css : List (List Int)) : Prop :=
  ∃ vs : List Value, wr.ownsRow w.heap.size 34 1 v css.length vs ∧ ∀ i (h : i < css.length), ∃ ai ci, vs[i]? = some (.slice ai css[i].length ci) ∧ RowO free N w ai css[i] ∧ css[i].length ≤ maxLen ∧ (ai = none → ci = 0)
theorem ORF.gv {N : Nat} {w wr : World} {g cap : Nat} {css : List (List Int)} (h : ORF N w wr (.slice (some ⟨g, 0, none⟩) css.length cap) css) (hb : Below w.heap.size w wr) : ∃ vs, GV free N wr (some ⟨g, 0, none⟩) css vs := by
  obtain ⟨vs, h1, h2⟩ := h
  obtain ⟨cs, hcs⟩ := own_ty h1 rfl
  refine ⟨vs, ?_, fun i hi => ?_, fun i u hu => ?_⟩
  · have := h1.1; simpa using this
  · obtain ⟨ai, ci, hv, hr, hl, hn⟩ := h2 i hi
    exact ⟨ai, ci, hv, hr.ev (Ev.below hb), hl, hn⟩
  · refine ⟨g, 0, rfl, (World.ownsRow.lt h1 g rfl).2, rfl, .inr ⟨cs, 34, hcs, by decide, by decide, by decide⟩, ?_⟩
    have := own_cell (i := i) h1 rfl hu
    simpa using this

set_option maxHeartbeats 4000000 in
set_option maxRecDepth 100000 in
theorem thereO_any (N B V : Nat) (a2 a3 a4 : Option Addr) (c2 c3 n4 c4 : Nat) (css : List (List Int)) (gs : List Bool) (w : World) (hg : GridF N w a2 css) (hb : RowB w a3 gs) (hl : gs.length = css.length) (hn : css.length ≤ 1048576) :
    Calls Try.prog 17 #[.agg #[.pointer (some ⟨B, 0, none⟩), .int .i64 V, .slice a2 css.length c2, .slice a3 gs.length c3, .slice a4 n4 c4]] w fun e w' => ∃ g' c', e = .returned (.slice (some ⟨g', 0, none⟩) (thereL css gs).length c') ∧ (∃ vs, GV free N w' (some ⟨g', 0, none⟩) (thereL css gs) vs) ∧ Below w.heap.size w w' := by
  obtain ⟨i0, hi, hz0, hz1, hz2⟩ := info_parts Try.info34
  have hbW := below_alloc w (.cells #[.pointer (some ⟨B, 0, none⟩), .int .i64 V, .slice a2 css.length c2, .slice a3 gs.length c3, .slice a4 n4 c4] 36)
  have HK := hide (heap_alloc_new w (.cells #[.pointer (some ⟨B, 0, none⟩), .int .i64 V, .slice a2 css.length c2, .slice a3 gs.length c3, .slice a4 n4 c4] 36))
  have HB1 : Hid (Below w.heap.size w ((w.alloc (.cells #[.pointer (some ⟨B, 0, none⟩), .int .i64 V, .slice a2 css.length c2, .slice a3 gs.length c3, .slice a4 n4 c4] 36)).alloc (.cells #[] 34))) := hbW.alloc (by simp) _
  have HO1 : Hid (ORF N w ((w.alloc (.cells #[.pointer (some ⟨B, 0, none⟩), .int .i64 V, .slice a2 css.length c2, .slice a3 gs.length c3, .slice a4 n4 c4] 36)).alloc (.cells #[] 34)) (.slice (some ⟨w.heap.size + 1, 0, none⟩) 0 0) []) :=
    ⟨[], by have := own_lit34 (w.alloc (.cells #[.pointer (some ⟨B, 0, none⟩), .int .i64 V, .slice a2 css.length c2, .slice a3 gs.length c3, .slice a4 n4 c4] 36)) w.heap.size (by simp); simpa using this, fun i h => by simp at h⟩
  have HKA : Hid (((w.alloc (.cells #[.pointer (some ⟨B, 0, none⟩), .int .i64 V, .slice a2 css.length c2, .slice a3 gs.length c3, .slice a4 n4 c4] 36)).alloc (.cells #[] 34)).heap[w.heap.size]? = some (.cells #[.pointer (some ⟨B, 0, none⟩), .int .i64 V, .slice a2 css.length c2, .slice a3 gs.length c3, .slice a4 n4 c4] 36 (0, 0))) := (heap_alloc_old _ _ (by simp)).trans HK.out
  have HG := hide hg
  have HBB := hide hb
  have HLE := hide hl
  clear hg hb hbW HK hl
  go_enter Try.func17, Try.ntmps17
  go_wp2_with fail
  go_loopw [3, 4] (fun v3 v4 wr => ∃ (k g cap : Nat) (out : List (List Int)), v3 = .slice (some ⟨g, 0, none⟩) out.length cap ∧ v4 = .int .i64 k ∧ k ≤ css.length ∧ out.length ≤ k ∧ Hid (ORF N w wr (.slice (some ⟨g, 0, none⟩) out.length cap) out) ∧ Hid (Below w.heap.size w wr) ∧ Hid (out = thereL (css.take k) (gs.take k)) ∧ Hid (wr.heap[w.heap.size]? = some (.cells #[.pointer (some ⟨B, 0, none⟩), .int .i64 V, .slice a2 css.length c2, .slice a3 gs.length c3, .slice a4 n4 c4] 36 (0, 0)))) (fun _ v4 _ => css.length - (intOf v4).toNat)
  case atStart => exact ⟨0, w.heap.size + 1, 0, [], rfl, rfl, Nat.zero_le _, Nat.le_refl _, HO1, HB1, by simp [Hid, thereL], HKA⟩
  case round =>
    clear HO1 HB1 HKA
    obtain ⟨k, g, cap, out, rfl, rfl, hk, hok, HO, HB, HE, HK⟩ := hrel
    have p2 := cell_of_block HK.out (i := 2) rfl
    have p3 := cell_of_block HK.out (i := 3) rfl
    have hwl := lt_of_block HK.out
    by_cases hlt : k < css.length
    · have hki : (k : Int) < css.length := by omega
      have hlg : k < gs.length := by rw [HLE.out]; exact hlt
      have hkg : (k : Int) < gs.length := by omega
      obtain ⟨bg, og, eg, hbg, hcg0⟩ := HBB.out k hlg
      subst eg
      have hcg := (HB.out.cell (p := ⟨bg, og + k, none⟩) hbg).trans hcg0
      obtain ⟨bb, off, ai, ci, ea, hbb, hcc0, hri, hli, hni⟩ := HG.out k hlt
      subst ea
      have hcc := (HB.out.cell (p := ⟨bb, off + k, none⟩) hbb).trans hcc0
      have HST : Hid (thereL (css.take (k + 1)) (gs.take (k + 1)) = out ++ (if gs[k] then [] else [css[k]])) := by
        unfold Hid
        rw [List.take_succ_eq_append_getElem hlt, List.take_succ_eq_append_getElem hlg, thereL_snoc _ _ _ _ (by simp; omega), ← HE.out]
      clear hcg0 hcc0
      cases hA : gs[k] with
      | true =>
        rw [hA] at hcg HST
        simp only [if_true, List.append_nil] at HST
        clear hri hli hni hcc
        go_wp2_with fail
        go_roundw
        case rel => exact ⟨k + 1, g, cap, out, rfl, by go_num, by omega, by omega, HO, HB, HST.out.symm, HK⟩
        case measure => simp [intOf]; omega
      | false =>
        rw [hA] at hcg HST
        simp only [Bool.false_eq_true, if_false] at HST
        obtain ⟨vs, ho1, hv1⟩ := HO.out
        have HV1 := hide hv1
        have HO1 := hide ho1
        have HRI := hide hri
        have HNI := hide hni
        have HBs := HB.out.size
        have hlm := hide hli
        have HLT := hide hlt
        clear hv1 hri hni HO
        generalize css[k] = c at *
        generalize hln0 : c.length = nc at *
        have hln := hide hln0
        clear hln0
        go_wp2_with (at_builtin; refine wpList_append_lies _ rfl _ _ 22 rfl w.heap.size 34 i0 (.slice none 0 0) 1 24 Try.underlying22 hi hz0 hz1 hz2 rfl (by decide) _ out.length _ rfl (ho1.alloc _) ⟨wr.heap.size, 0, none⟩ 1 1 [.slice ai nc ci] rfl rfl (World.news_of_block (cs := #[.slice ai nc ci]) (heap_alloc_new wr _)) (by simp [Value.oneCell']) (by decide) (by unfold maxLen; omega) (by omega) (by simp; omega) (wr.heap.size + 1) (by simp) ?_; intro g3 cap3 w3 ho3 hgr3 hat3 hlt3)
        have hb3 : Below w.heap.size w w3 := (HB.out.alloc HBs _).grown hgr3 (by simp; omega) (fun k e => by have := (World.ownsRow.lt HO1.out k e).1; omega)
        have hk3 : w3.heap[w.heap.size]? = some (.cells #[.pointer (some ⟨B, 0, none⟩), .int .i64 V, .slice (some ⟨bb, off, none⟩) css.length c2, .slice (some ⟨bg, og, none⟩) gs.length c3, .slice a4 n4 c4] 36 (0, 0)) := by
          refine ((hgr3.block w.heap.size (by simp; omega) ?_).trans (heap_alloc_old wr _ hwl)).trans HK.out
          intro e
          have h1 := own_ty' HO1.out e.symm
          rw [HK.out] at h1
          obtain ⟨cs', h1⟩ := h1
          simp at h1
        have ho4 : ORF N w w3 (.slice (some ⟨g3, 0, none⟩) (out ++ [c]).length cap3) (out ++ [c]) := by
          refine ⟨vs ++ [.slice ai nc ci], by rw [List.length_append]; exact ho3, fun i hi' => ?_⟩
          have hvl : vs.length = out.length := by have := HO1.out.1; simpa using this
          rcases Nat.lt_or_ge i out.length with q | q
          · obtain ⟨x1, x2, x3, x4⟩ := HV1.out i q
            refine ⟨x1, x2, ?_, ?_⟩
            · rw [List.getElem?_append_left (by omega), x3]; simp [List.getElem_append_left q]
            · simpa [List.getElem_append_left q] using x4
          · obtain rfl : i = out.length := by simp at hi'; omega
            refine ⟨ai, ci, ?_, ?_⟩
            · rw [List.getElem?_append_right (by omega), hvl]; simp [hln.out]
            · simp
              exact ⟨HRI.out, by rw [hln.out]; exact hlm.out, HNI.out⟩
        go_roundw
        case rel => exact ⟨k + 1, g3, cap3, out ++ [c], by simp, by go_num, HLT.out, by simp; omega, ho4, hb3, HST.out.symm, hk3⟩
        case measure => (have h31 := HLT.out; simp [intOf]; omega)
    · have hE : thereL css gs = out := by
        rw [HE.out, List.take_of_length_le (by omega), List.take_of_length_le (by rw [HLE.out]; omega)]
      have HEE := hide hE
      clear hE
      go_wp2_with fail
      go_ret
      rw [HEE.out]
      exact ⟨_, _, rfl, HO.out.gv HB.out, HB.out⟩

theorem begin_lw2 {N : Nat} {x w3 : World} {B V g cap : Nat} {a : Option Addr} {css : List (List Int)} {vs : List Value} (hg : GV free N x a css vs) (hcap : a = none → cap = 0) (hl : css.length ≤ 900) (hV : V ≤ 1048576) (hLt : ∀ c ∈ css, c.length ≤ 4096 ∧ ∀ x ∈ c, Lt V x) (hP : BeginP x V css B g w3) :
    ∃ ρ s, LW ρ N w3 B V s css (List.replicate css.length false) a (some ⟨g, 0, none⟩) none cap css.length 0 ∧ Ev free x ρ w3 ∧ s.dec = [] ∧ s.trail = [] := by
  obtain ⟨ρ, H, hR, hE, hge, hrg, hblk⟩ := hP
  obtain ⟨e1, e2, e3, e4, e5, e6, e7⟩ := news V hV css (fun c hc => (hLt c hc).2) hl
  have hd : (css.foldl PS.attach (PS.zero V)).dec = [] := by simp [PS.dec, e5]
  have hbr := BR.new hblk hrg (by unfold maxLen; omega)
  refine ⟨ρ, _, ⟨⟨H, hR⟩, e1, Cnt.new e3 e6 e7, e2, Kys.new e3, fun c hc => ?_, ⟨vs, hg.ev hE⟩, hcap, by rw [List.length_replicate]; exact hbr, by rw [hd]; exact DR.nil _ _⟩, hE, hd, e4⟩
  have hk : key c ∈ (css.foldl PS.attach (PS.zero V)).cls.map key := List.mem_map_of_mem hc
  rw [e3] at hk
  obtain ⟨d, hd', e⟩ := List.mem_map.1 hk
  have e9 : d = c.lits := congrArg Prod.fst e
  have := (hLt d hd').1
  rw [e9] at this; omega

/-- A propagator anew, to which decisions are decided. -/
structure LV (N : Nat) (w wr : World) (B V b : Nat) (cs : List (List Int)) (D : List Int) (a2 a3 : Option Addr) (c2 c3 n3 : Nat) : Prop where
  ex : ∃ ρ s gs a4 c4, LW ρ N wr B V s cs gs a2 a3 a4 c2 c3 c4 ∧ gs.length = n3 ∧ thereL cs gs = cs ∧ Ev free w ρ wr ∧ ρ b = oth ∧ wr.heap[b]? = some (.cells #[.pointer (some ⟨B, 0, none⟩), .int .i64 V, .slice a2 cs.length c2, .slice a3 n3 c3, .slice a4 D.length c4] 36 (0, 0)) ∧ s.trail = D ∧ s.dec = D
  ge : N ≤ b
theorem LV.bel {N : Nat} {w wr : World} {B V b : Nat} {cs : List (List Int)} {D : List Int} {a2 a3 : Option Addr} {c2 c3 n3 : Nat} (h : LV N w wr B V b cs D a2 a3 c2 c3 n3) : Below w.heap.size w wr := by
  obtain ⟨ρ, s, gs, a4, c4, _, _, _, h2, _⟩ := h.ex
  exact h2.bel

/-- The new law's world is laid into its block. -/
theorem lv_new {N : Nat} {x y W : World} {B V b g cap : Nat} {a : Option Addr} {cs : List (List Int)} {ρ : Nat → Rl} {s : PS} {z : Array Value} (hL : LW ρ N y B V s cs (List.replicate cs.length false) a (some ⟨g, 0, none⟩) none cap cs.length 0) (hE : Ev free x ρ y) (hd : s.dec = []) (ht : s.trail = []) (hr : ρ b = oth) (hb : y.heap[b]? = some (.cells z 36 (0, 0))) (hN : N ≤ b) (hx : x.heap.size ≤ b)
    (hU : U5 y W b [.pointer (some ⟨B, 0, none⟩), .int .i64 V, .slice a cs.length cap, .slice (some ⟨g, 0, none⟩) cs.length cs.length, .slice none 0 0]) : LV N x W B V b cs [] a (some ⟨g, 0, none⟩) cap cs.length cs.length := by
  have hO := hU.offs hb
  refine ⟨⟨ρ, s, _, none, 0, hO.lw hN hL, List.length_replicate, thereL_none cs, hO.ev hE hx, hr, hU.block, ht, hd⟩, hN⟩

theorem lv_alloc {N : Nat} {x y : World} {B V g cap : Nat} {a : Option Addr} {cs : List (List Int)} {ρ : Nat → Rl} {s : PS} (hL : LW ρ N y B V s cs (List.replicate cs.length false) a (some ⟨g, 0, none⟩) none cap cs.length 0) (hE : Ev free x ρ y) (hd : s.dec = []) (ht : s.trail = []) (hN : N ≤ y.heap.size) :
    LV N x (y.alloc (.cells #[.pointer (some ⟨B, 0, none⟩), .int .i64 V, .slice a cs.length cap, .slice (some ⟨g, 0, none⟩) cs.length cs.length, .slice none 0 0] 36)) B V y.heap.size cs [] a (some ⟨g, 0, none⟩) cap cs.length cs.length := by
  have hba := below_alloc y (.cells #[.pointer (some ⟨B, 0, none⟩), .int .i64 V, .slice a cs.length cap, .slice (some ⟨g, 0, none⟩) cs.length cs.length, .slice none 0 0] 36)
  exact ⟨⟨fr ρ y.heap.size, s, _, none, 0, hL.fr hba, List.length_replicate, thereL_none cs, hE.trans (Ev.fr hba), fr_new (Nat.le_refl _), heap_alloc_new y _, ht, hd⟩, hN⟩
theorem LV.drew {N : Nat} {w wr : World} {B V b : Nat} {cs : List (List Int)} {D : List Int} {a2 a3 : Option Addr} {c2 c3 n3 : Nat} (h : LV N w wr B V b cs D a2 a3 c2 c3 n3) : LV N w wr.drew B V b cs D a2 a3 c2 c3 n3 := by
  obtain ⟨ρ, s, gs, a4, c4, h1, h2, h3, h4, h5, h6, h7, h8⟩ := h.ex
  exact ⟨⟨ρ, s, gs, a4, c4, h1.below (Below.refl _ _).drew, h2, h3, h4.trans (Ev.drew _ _), h5, h6, h7, h8⟩, h.ge⟩

set_option maxHeartbeats 40000000 in
set_option maxRecDepth 100000 in
theorem once_main (a al : Option Addr) (cap cal : Nat) (V : Nat) (css : List (List Int)) (L : List ActD) (w : World) (hg : GridC w a css) (hcap : a = none → cap = 0) (hlb : lightB css = true) (h60 : ¬ 60 < css.length) (hV : V ≤ 60) (hc : cnfB V css = true) (hA : Acts w al L) (hll : L.length ≤ maxLen) (hla : lightA L = true) :
    Calls Try.prog 4 #[.agg #[.int .i64 V, .slice a css.length cap], .slice al L.length cal] w fun e w' => e = .returned (.bool true) ∧ Below w.heap.size w w' := by
  have hlm : css.length ≤ maxLen := by unfold maxLen; omega
  have hb0 := below_alloc w (.cells #[.int .i64 V, .slice a css.length cap] 24)
  have L1 := light_any a cap V css _ (hg.grid.below hb0) hlm
  rw [hlb] at L1
  replace L1 := hide L1
  have LA : Hid (∀ x, Below w.heap.size w x → Calls Try.prog 7 #[.slice al L.length cal] x fun e w' => e = .returned (.bool true) ∧ w' = x) := fun x hx => by have := lightA_any al cal L x (hA.below hx) hll; rw [hla] at this; exact this
  have HC : Hid (∀ x, Below w.heap.size w x → Calls Try.prog 9 #[.agg #[.int .i64 V, .slice a css.length cap]] x fun e w' => e = .returned (.bool true) ∧ Below x.heap.size x w') := fun x hx => by have := refCnf_any a cap V css x (hg.grid.below hx) hlm; rw [hc] at this; exact this
  have HBG : Hid (∀ x, Below w.heap.size w x → Calls Try.prog 11 #[.agg #[.int .i64 V, .slice a css.length cap]] x fun e w' => ∃ B g, e = .returned (.tuple #[.agg #[.pointer (some ⟨B, 0, none⟩), .int .i64 V, .slice a css.length cap, .slice (some ⟨g, 0, none⟩) css.length css.length, .slice none 0 0], .bool true]) ∧ BeginP x V css B g w') := fun x hx => begin_any a cap V css x (hg.below hx) (by omega) hc (by omega)
  have HAW := fun x => hide (awake_any x)
  have hg0 := hg.below hb0
  have hA0 := hA.below hb0
  have HLX : Hid (∀ w2 w3 B g, Below (w.alloc (.cells #[.int .i64 V, .slice a css.length cap] 24)).heap.size (w.alloc (.cells #[.int .i64 V, .slice a css.length cap] 24)) w2 → BeginP w2 V css B g w3 → LX (w.alloc (.cells #[.int .i64 V, .slice a css.length cap] 24)) (w3.alloc (.cells #[.pointer (some ⟨B, 0, none⟩), .int .i64 V, .slice a css.length cap, .slice (some ⟨g, 0, none⟩) css.length css.length, .slice none 0 0] 36)) B V w3.heap.size 60) := by
    intro w2 w3 B g hb hP
    obtain ⟨ρ, hL, hE, hd⟩ := begin_lw hg0 hcap hb (by omega) (by omega) (cnf_lt hc) hP
    have hba := below_alloc w3 (.cells #[.pointer (some ⟨B, 0, none⟩), .int .i64 V, .slice a css.length cap, .slice (some ⟨g, 0, none⟩) css.length css.length, .slice none 0 0] 36)
    refine ⟨⟨fr ρ w3.heap.size, _, css, _, a, _, none, cap, css.length, 0, hL.fr hba, hE.trans (Ev.fr hba), fr_new (Nat.le_refl _), ?_, by omega⟩, hE.size⟩
    rw [hd, List.length_replicate]
    exact heap_alloc_new w3 _
  have HB0 := hide hb0
  have HK := hide (heap_alloc_new w (.cells #[.int .i64 V, .slice a css.length cap] 24))
  have HACT := hide hA0
  have h60' : ¬ (60 : Int) < css.length := by omega
  have hV' : ¬ (60 : Int) < V := by omega
  have hd1 : decide ((60 : Int) < css.length) = false := decide_eq_false h60'
  have hd2 : decide ((60 : Int) < V) = false := decide_eq_false hV'
  unfold maxLen at hll
  clear hg hb0 hlb hc hlm h60 hA hla hcap hg0 hA0
  go_enter Try.func4, Try.ntmps4
  go_wp2_with (first | (go_at_call 6; refine (unhide L1).mono ?_; rintro e w1 ⟨rfl, hb1⟩; have k1 := (hb1.cell (p := ⟨w.heap.size, 1, none⟩) (by simp)).trans (cell_of_block HK.out (i := 1) rfl); have k0 := (hb1.cell (p := ⟨w.heap.size, 0, none⟩) (by simp)).trans (cell_of_block HK.out (i := 0) rfl); have hb1w := HB0.out.trans (hb1.mono HB0.out.size); have hlt1 : w.heap.size < w1.heap.size := Nat.lt_of_lt_of_le (by simp) hb1.size) | (go_at_call 7; refine (LA.out _ hb1w).mono ?_; rintro e w0 ⟨rfl, hw0⟩; subst w0) | (go_at_call 9; refine (HC.out _ hb1w).mono ?_; rintro e w2 ⟨rfl, hb2⟩; have j1 := (hb2.cell (p := ⟨w.heap.size, 1, none⟩) hlt1).trans k1; have j0 := (hb2.cell (p := ⟨w.heap.size, 0, none⟩) hlt1).trans k0; have hb2w := hb1w.trans (hb2.mono hb1w.size); have hlt2 : w.heap.size < w2.heap.size := Nat.lt_of_lt_of_le hlt1 hb2.size))
  have hb12 : Below (w.alloc (.cells #[.int .i64 V, .slice a css.length cap] 24)).heap.size (w.alloc (.cells #[.int .i64 V, .slice a css.length cap] 24)) w2 := hb1.trans (hb2.mono hb1.size)
  refine Calls.mono (HBG.out w2 hb2w) ?_
  rintro e w3 ⟨B, g, rfl, hP⟩
  have HLX1 := hide (HLX.out w2 w3 B g hb12 hP)
  clear hP hb2w hb1w hb1 hb2 k0 k1 j0 j1 HC HBG L1 LA HLX hlt1 hlt2 hb12
  simp only
  go_wp2_with fail
  generalize hb7 : w3.heap.size = b7 at *
  clear hb7
  generalize w3.alloc (.cells #[.pointer (some ⟨B, 0, none⟩), .int .i64 V, .slice a css.length cap, .slice (some ⟨g, 0, none⟩) css.length css.length, .slice none 0 0] 36) = w4 at *
  have HW0B : Hid ((w.alloc (.cells #[.int .i64 V, .slice a css.length cap] 24)).heap[w.heap.size]? = some (.cells #[.int .i64 V, .slice a css.length cap] 24 (0, 0))) := heap_alloc_new w _
  have HWW : Hid (Below w.heap.size w (w.alloc (.cells #[.int .i64 V, .slice a css.length cap] 24))) := below_alloc w _
  have HW0S : Hid ((w.alloc (.cells #[.int .i64 V, .slice a css.length cap] 24)).heap.size = w.heap.size + 1) := by unfold Hid; simp
  generalize hw0 : (w.alloc (.cells #[.int .i64 V, .slice a css.length cap] 24)) = w0 at *
  clear hw0
  go_loopw [6, 7] (fun j6 j7 wr => ∃ k : Nat, j7 = .int .i64 k ∧ j6 = .bool true ∧ k ≤ 30 ∧ k ≤ L.length ∧ Hid (LX w0 wr B V b7 (60 + k))) (fun _ j7 _ => 30 - (intOf j7).toNat)
  case atStart => exact ⟨0, rfl, rfl, by omega, by omega, HLX1⟩
  case round =>
    clear HLX1
    obtain ⟨k, rfl, rfl, hk4, hkL, HL⟩ := hrel
    by_cases hlt : k < L.length ∧ k < 30
    · obtain ⟨hl1, hl2⟩ := hlt
      have hl1' : (k : Int) < L.length := by omega
      have hl2' : (k : Int) < 30 := by omega
      have d1 : decide (k < L.length) = true := decide_eq_true hl1
      have d2 : decide (k < 30) = true := decide_eq_true hl2
      obtain ⟨bd, od, ai, ci, rfl, hbd, hAt⟩ := HACT.out k hl1
      obtain ⟨ρ, s, css1, gs, a2, a3, a4, c2, c3, c4, hLW, hE, hr7, hblk, hcM⟩ := HL.out.ex
      have hbr : bd < wr.heap.size := Nat.lt_of_lt_of_le hbd hE.size
      have q0 := (HL.out.bel.cell (p := ⟨bd, _, none⟩) hbd).trans hAt.c0
      have q1 := (HL.out.bel.cell (p := ⟨bd, _, none⟩) hbd).trans hAt.c1
      have q2 := (HL.out.bel.cell (p := ⟨bd, _, none⟩) hbd).trans hAt.c2
      have AC : Hid (∀ x, Below wr.heap.size wr x → Calls Try.prog 12 #[.agg #[.pointer (some ⟨B, 0, none⟩), .int .i64 V, .slice a2 css1.length c2, .slice a3 gs.length c3, .slice a4 s.dec.length c4], .agg #[.int .i64 L[k].d, .int .i64 L[k].l, .slice ai L[k].c.length ci]] x fun e w' => ActR ρ w0.heap.size x B V (css1.length + 1) e w') := fun x hx => act_any (hLW.below hx) (Nat.le_trans hE.size hx.size) (by omega) (by omega) ai L[k].c ci L[k].d L[k].l ((hAt.row.rowO hE).ev (Ev.below hx)) hAt.len hAt.nil
      have p0 := cell_of_block hblk (i := 0) rfl
      have p1 := cell_of_block hblk (i := 1) rfl
      have p2 := cell_of_block hblk (i := 2) rfl
      have p3 := cell_of_block hblk (i := 3) rfl
      have p4 := cell_of_block hblk (i := 4) rfl
      have HFIN : Hid (∀ x e w6, Below wr.heap.size wr x → ActR ρ w0.heap.size x B V (css1.length + 1) e w6 → ∃ e2 m2 d2 e3 m3 d3 e4 m4 d4, e = .returned (.tuple #[.agg #[.pointer (some ⟨B, 0, none⟩), .int .i64 V, .slice e2 m2 d2, .slice e3 m3 d3, .slice e4 m4 d4], .bool true]) ∧ w6.heap[b7]? = some (.cells #[.pointer (some ⟨B, 0, none⟩), .int .i64 V, .slice a2 css1.length c2, .slice a3 gs.length c3, .slice a4 s.dec.length c4] 36 (0, 0)) ∧ b7 < w6.heap.size ∧ ∀ W, U5 w6 W b7 [.pointer (some ⟨B, 0, none⟩), .int .i64 V, .slice e2 m2 d2, .slice e3 m3 d3, .slice e4 m4 d4] → LX w0 W B V b7 (60 + (k + 1))) := by
        rintro x e w6 hx ⟨ρ', s', css', gs', a2', a3', a4', c2', c3', c4', rfl, hL', hE', hM'⟩
        have hx7 := (hx.block b7 (lt_of_block hblk)).trans hblk
        have hk7 := (hE'.keep b7 (lt_of_block hx7) hr7).trans hx7
        refine ⟨_, _, _, _, _, _, _, _, _, rfl, hk7, lt_of_block hk7, fun W hU => ?_⟩
        have hO := hU.offs hk7
        have hge := HL.out.ge
        have hE2 : Ev free w0 ρ' w6 := (hE.trans (Ev.below hx)).trans hE'
        exact ⟨⟨ρ', s', css', gs', a2', a3', a4', c2', c3', c4', hO.lw hge hL', hO.ev hE2 hge, (hE'.agree b7 (lt_of_block hx7)).trans hr7, hU.block, by omega⟩, hge⟩
      have hb7 := lt_of_block hblk
      clear hLW hE hr7 hblk hcM hAt HL
      generalize L[k] = act at *
      obtain ⟨ad, alt, acl⟩ := act
      simp only at q0 q1 q2 AC
      go_wp2_with fail
      first | (go_region_with (go_at_call 12; refine (AC.out _ (by first | exact Below.refl _ _ | exact (Below.refl _ _).drew)).mono ?_; intro e w6 hR6; obtain ⟨e2, m2, d2', e3, m3, d3, e4, m4, d4, rfl, hk6, hl6, hLM⟩ := HFIN.out _ _ _ (by first | exact Below.refl _ _ | exact (Below.refl _ _).drew) hR6; have u0 := cell_of_block hk6 (i := 0) rfl; have u1 := cell_of_block hk6 (i := 1) rfl; have u2 := cell_of_block hk6 (i := 2) rfl; have u3 := cell_of_block hk6 (i := 3) rfl; have u4 := cell_of_block hk6 (i := 4) rfl; have f0 := frz_of_block hk6 (i := 0); have f1 := frz_of_block hk6 (i := 1); have f2 := frz_of_block hk6 (i := 2); have f3 := frz_of_block hk6 (i := 3); have f4 := frz_of_block hk6 (i := 4))) | fail
      all_goals
        refine forget (P := fun W => Exit.inBlock _ _ Exit.normal _ W) (fun W => Hid (LX w0 W B V b7 (60 + (k + 1)))) (hLM _ ((((((U5.first rfl hk6).set 0 (.pointer (some ⟨B, 0, none⟩))).set 1 (.int .i64 V)).set 2 (.slice e2 m2 d2')).set 3 (.slice e3 m3 d3)).set 4 (.slice e4 m4 d4))) ?_
        clear hLM u0 u1 u2 u3 u4 f0 f1 f2 f3 f4 hk6 hl6 p0 p1 p2 p3 p4 q0 q1 q2 hR6 HFIN AC hb7
        intro W7 HL7
        go_wp2_with fail
        go_roundw
        case rel => exact ⟨k + 1, by go_num, rfl, by omega, by omega, HL7⟩
        case measure => simp [intOf]; omega
    · obtain ⟨ρ, s, css1, gs, a2, a3, a4, c2, c3, c4, hLW, hE, hr7, hblk, hcM⟩ := HL.out.ex
      have hlt0 : w.heap.size < w0.heap.size := by have := HW0S.out; omega
      have hf0 := (HL.out.bel.block _ hlt0).trans HW0B.out
      have R1 : Hid (Calls Try.prog 14 #[.pointer (some ⟨B, 0, none⟩)] wr fun e w1 => ∃ (n1 : Int) (ρ1 : Nat → Rl) (s1 : PS), e = .returned (.int .i64 n1) ∧ Hid (LW ρ1 w0.heap.size w1 B V s1 css1 gs a2 a3 a4 c2 c3 c4) ∧ Hid (Ev ρ wr ρ1 w1) ∧ Hid (s1.dec = s.dec) ∧ Hid ((n1 = -1 ∧ s1.late = [] ∧ s1.head = s1.trail.length) ∨ Brk s1 n1)) := by
        obtain ⟨H, hR⟩ := hLW.rep
        refine (run_any hR hLW.inv (fun c hc => by have := hLW.lits c hc; omega)).mono ?_
        rintro e w1 ⟨n1, rfl, hP⟩
        obtain ⟨ρ1, s1, hL1, hE1, hd1, _, hr1⟩ := hLW.run hP
        exact ⟨n1, ρ1, s1, rfl, hL1, hE1, hd1, hr1⟩
      have p0 := cell_of_block hblk (i := 0) rfl
      have HB7 := hide hblk
      have HR7 := hide hr7
      have HE := hide hE
      have HF0 := hide hf0
      have HFR : Hid (ρ w.heap.size = oth) := hE.agree _ hlt0
      have HCM := hide hcM
      clear hLW hE hr7 hblk hcM hf0 HL
      by_cases h1 : k < L.length
      case' pos =>
        have h1' : (k : Int) < L.length := by omega
        have h2' : ¬ (k : Int) < 30 := by omega
        have d1 : decide (k < L.length) = true := decide_eq_true h1
        have d2 : decide (k < 30) = false := decide_eq_false (by omega)
      case' neg =>
        have h1' : ¬ (k : Int) < L.length := by omega
        have d1 : decide (k < L.length) = false := decide_eq_false h1
      all_goals
        clear hlt
        go_wp2_with fail
        refine Calls.mono (unhide R1) ?_
        rintro e w1 ⟨n1, ρ1, s1, rfl, HL1, HE1, HD1, HT1⟩
        have hb1 := (HE1.out.keep b7 (lt_of_block HB7.out) HR7.out).trans HB7.out
        have hf1 := (HE1.out.keep _ (lt_of_block HF0.out) HFR.out).trans HF0.out
        have HB71 := hide hb1
        have HF1 := hide hf1
        have HR71 : Hid (ρ1 b7 = oth) := (HE1.out.agree _ (lt_of_block HB7.out)).trans HR7.out
        have HFR1 : Hid (ρ1 w.heap.size = oth) := (HE1.out.agree _ (lt_of_block HF0.out)).trans HFR.out
        have HEW : Hid (Ev free w0 ρ1 w1) := HE.out.trans HE1.out
        have TR : Hid (Calls Try.prog 15 #[.pointer (some ⟨B, 0, none⟩)] w1 fun e w' => CloneP w1 s1.trail e w') := by
          obtain ⟨H1, hR1⟩ := HL1.out.rep
          exact propTrail_any hR1 (by have := trail_len HL1.out.inv.tr; have := HL1.out.inv.sz.vars; omega)
        have p0 := cell_of_block hb1 (i := 0) rfl
        clear hb1 hf1 R1 HB7 HF0 HR7 HFR HE HE1
        simp only
        go_wp2_with fail
        refine Calls.mono (unhide TR) ?_
        rintro e w2 ⟨v2, rfl, ho2, hb2⟩
        have HDT : Hid (DR (fr ρ1 w1.heap.size) w2 v2 s1.trail.length s1.trail) := ⟨own0 ho2, fun q hq => fr_new (World.ownsRow.lt ho2 q hq).1⟩
        obtain ⟨ta, tc, rfl, hrow2, hlen2, _⟩ := Own.row ho2
        have HL2 := hide (HL1.out.fr hb2)
        have HB72 : Hid (w2.heap[b7]? = some (.cells #[.pointer (some ⟨B, 0, none⟩), .int .i64 V, .slice a2 css1.length c2, .slice a3 gs.length c3, .slice a4 s.dec.length c4] 36 (0, 0))) := (hb2.block _ (lt_of_block HB71.out)).trans HB71.out
        have HF2 : Hid (w2.heap[w.heap.size]? = some (.cells #[.int .i64 V, .slice a css.length cap] 24 (0, 0))) := (hb2.block _ (lt_of_block HF1.out)).trans HF1.out
        have HR72 : Hid (fr ρ1 w1.heap.size b7 = oth) := (fr_old (lt_of_block HB71.out)).trans HR71.out
        have HFR2 : Hid (fr ρ1 w1.heap.size w.heap.size = oth) := (fr_old (lt_of_block HF1.out)).trans HFR1.out
        have HEW2 : Hid (Ev free w0 (fr ρ1 w1.heap.size) w2) := HEW.out.trans (Ev.fr hb2)
        have R2 : Hid (Calls Try.prog 14 #[.pointer (some ⟨B, 0, none⟩)] w2 fun e w3 => ∃ (n2 : Int) (ρ3 : Nat → Rl) (s2 : PS), e = .returned (.int .i64 n2) ∧ Hid (LW ρ3 w0.heap.size w3 B V s2 css1 gs a2 a3 a4 c2 c3 c4) ∧ Hid (Ev (fr ρ1 w1.heap.size) w2 ρ3 w3) ∧ Hid (s2.dec = s1.dec) ∧ Hid (Frm s1 s2) ∧ Hid ((n2 = -1 ∧ s2.late = [] ∧ s2.head = s2.trail.length) ∨ Brk s2 n2)) := by
          obtain ⟨H, hR⟩ := HL2.out.rep
          refine (run_any hR HL2.out.inv (fun c hc => by have := HL2.out.lits c hc; omega)).mono ?_
          rintro e w3 ⟨n2, rfl, hP⟩
          obtain ⟨ρ3, s2, hL3, hE3, hd3, hF3, hr3⟩ := HL2.out.run hP
          exact ⟨n2, ρ3, s2, rfl, hL3, hE3, hd3, hF3, hr3⟩
        have p0 := cell_of_block HB72.out (i := 0) rfl
        clear TR HB71 HF1 HR71 HFR1 HEW ho2 hrow2 hlen2 hb2
        simp only
        go_wp2_with fail
        refine Calls.mono (unhide R2) ?_
        rintro e w3 ⟨n2, ρ3, s2, rfl, HL3, HE3, HD3, HF3, HT3⟩
        have HB73 : Hid (w3.heap[b7]? = some (.cells #[.pointer (some ⟨B, 0, none⟩), .int .i64 V, .slice a2 css1.length c2, .slice a3 gs.length c3, .slice a4 s.dec.length c4] 36 (0, 0))) := (HE3.out.keep b7 (lt_of_block HB72.out) HR72.out).trans HB72.out
        have HF33 : Hid (w3.heap[w.heap.size]? = some (.cells #[.int .i64 V, .slice a css.length cap] 24 (0, 0))) := (HE3.out.keep _ (lt_of_block HF2.out) HFR2.out).trans HF2.out
        have HDT3 := hide (HDT.out.ev HE3.out)
        have HEW3 : Hid (Ev free w0 ρ3 w3) := HEW2.out.trans HE3.out
        have hV1 : s1.vars < 100001 := by have := HL2.out.vars; omega
        have hV2 : s2.vars < 100001 := by have := HL3.out.vars; omega
        have HTW := hide (two_runs HL2.out.inv HL3.out.inv HL2.out.kys.alv HL3.out.kys.alv hV1 hV2 rfl HD3.out HF3.out HT1.out HT3.out)
        clear R2 HB72 HF2 HR72 HFR2 HEW2 HE3 HDT hV1 hV2
        simp only
        rcases HTW.out with ⟨hn1, hn2, htr, hf2, hmem, hlen⟩ | ⟨hn1, hn2, hf2⟩
        case' inl =>
          subst hn1
          subst hn2
          have TR3 : Hid (Calls Try.prog 15 #[.pointer (some ⟨B, 0, none⟩)] w3 fun e w' => CloneP w3 s1.trail e w') := by
            obtain ⟨H3, hR3⟩ := HL3.out.rep
            have q := propTrail_any hR3 (by have := trail_len HL3.out.inv.tr; have := HL3.out.inv.sz.vars; omega)
            rw [htr] at q
            exact q
          have hl1 : s1.trail.length ≤ maxLen := by have := trail_len HL2.out.inv.tr; have := HL2.out.inv.sz.vars; unfold maxLen; omega
          have IN : Hid (∀ (xa : Option Addr) (xc : Nat) (x : World), Row x xa s1.trail → Below w3.heap.size w3 x → Calls Try.prog 16 #[.slice ta s1.trail.length tc, .slice xa s1.trail.length xc] x fun e w' => e = .returned (.bool true) ∧ ∃ n, w' = x.drewN n) := fun xa xc x hx hb => by
            obtain ⟨_, hrt, _⟩ := own_row3 HDT3.out.1
            have q := ints_any ta xa tc xc s1.trail s1.trail x (hrt.below hb) hx hl1 hl1
            rw [intsB_self] at q
            exact q
          have p0 := cell_of_block HB73.out (i := 0) rfl
          have HTL := hide (⟨hf2, hmem, hlen⟩ : (followsP (thereL css1 gs) 100001 s1.dec).2 = false ∧ (∀ x, x ∈ (followsP (thereL css1 gs) 100001 s1.dec).1 ↔ x ∈ s1.trail) ∧ (followsP (thereL css1 gs) 100001 s1.dec).1.length = s1.trail.length)
          clear HTW htr hf2 hmem hlen hl1
          go_upto_region 15 with (first | (go_at_call 15; refine (unhide TR3).mono ?_; rintro e w4 ⟨v4, rfl, ho4, hb4⟩; obtain ⟨xa, xc, rfl, hrow4, hlen4, _⟩ := Own.row ho4) | (go_at_call 16; refine (IN.out _ _ _ hrow4 hb4).mono ?_; rintro e w5 ⟨rfl, n5, rfl⟩))
          refine forget (P := fun W => Code.wp Try.prog _ _ _ W) (fun W => Below w3.heap.size w3 W) (bquiet hb4 _) ?_
          clear hb4 ho4 hrow4 hlen4 TR3 IN p0
        case' inr =>
          have g1 : decide (0 ≤ n1) = true := decide_eq_true hn1
          have g2 : decide (0 ≤ n2) = true := decide_eq_true hn2
          have g3 : (n1 == -1) = false := by simp; omega
          have HTL := hide hf2
          clear HTW hf2
          go_upto_region 15 with fail
          refine forget (P := fun W => Code.wp Try.prog _ _ _ W) (fun W => Below w3.heap.size w3 W) (Below.refl _ _) ?_
        all_goals
          intro W4 hb4
          have HB74 : Hid (W4.heap[b7]? = some (.cells #[.pointer (some ⟨B, 0, none⟩), .int .i64 V, .slice a2 css1.length c2, .slice a3 gs.length c3, .slice a4 s.dec.length c4] 36 (0, 0))) := (hb4.block _ (lt_of_block HB73.out)).trans HB73.out
          have HF4 : Hid (W4.heap[w.heap.size]? = some (.cells #[.int .i64 V, .slice a css.length cap] 24 (0, 0))) := (hb4.block _ (lt_of_block HF33.out)).trans HF33.out
          have HL4 := hide (HL3.out.below hb4)
          have HDT4 := hide (HDT3.out.ev (Ev.below hb4))
          have HBW4 : Hid (Below w.heap.size w W4) := HWW.out.trans ((HEW3.out.bel.trans (hb4.mono HEW3.out.size)).mono HWW.out.size)
          have HN4' : Hid (w0.heap.size ≤ W4.heap.size) := Nat.le_trans HEW3.out.size hb4.size
          have hcl1 : css1.length ≤ 90 := by have := HCM.out; omega
          have hcsl := thereL_len css1 gs
          have hcsl2 : (thereL css1 gs).length ≤ 90 := by omega
          have HCNF := hide (HL4.out.cnf (by omega) (by omega))
          have TH : Hid (∀ x, Below W4.heap.size W4 x → Calls Try.prog 17 #[.agg #[.pointer (some ⟨B, 0, none⟩), .int .i64 V, .slice a2 css1.length c2, .slice a3 gs.length c3, .slice a4 s.dec.length c4]] x fun e w' => ∃ g' c', e = .returned (.slice (some ⟨g', 0, none⟩) (thereL css1 gs).length c') ∧ (∃ vs, GV free w0.heap.size w' (some ⟨g', 0, none⟩) (thereL css1 gs) vs) ∧ Below x.heap.size x w') := fun x hx => by
            obtain ⟨vs, hg4⟩ := (HL4.out.below hx).g
            exact thereO_any w0.heap.size B V a2 a3 a4 c2 c3 s.dec.length c4 css1 gs x hg4.gridF (HL4.out.below hx).b.rowB HL4.out.kys.glen (by omega)
          have BG : Hid (∀ (g' c' : Nat) x vs, GV free w0.heap.size x (some ⟨g', 0, none⟩) (thereL css1 gs) vs → Calls Try.prog 11 #[.agg #[.int .i64 V, .slice (some ⟨g', 0, none⟩) (thereL css1 gs).length c']] x fun e w' => ∃ B g, e = .returned (.tuple #[.agg #[.pointer (some ⟨B, 0, none⟩), .int .i64 V, .slice (some ⟨g', 0, none⟩) (thereL css1 gs).length c', .slice (some ⟨g, 0, none⟩) (thereL css1 gs).length (thereL css1 gs).length, .slice none 0 0], .bool true]) ∧ ∃ ρ t, Hid (LW ρ w0.heap.size w' B V t (thereL css1 gs) (List.replicate (thereL css1 gs).length false) (some ⟨g', 0, none⟩) (some ⟨g, 0, none⟩) none c' (thereL css1 gs).length 0) ∧ Ev free x ρ w' ∧ Hid (t.dec = []) ∧ Hid (t.trail = [])) := fun g' c' x vs hx => by
            refine (begin_any (some ⟨g', 0, none⟩) c' V (thereL css1 gs) x hx.grid (by omega) HCNF.out (by omega)).mono ?_
            rintro e w' ⟨B, g, rfl, hP⟩
            obtain ⟨ρ, t, h1, h2, h3, h4⟩ := begin_lw2 hx (fun e => by cases e) (by omega) (by omega) (cnf_lt HCNF.out) hP
            exact ⟨B, g, rfl, ρ, t, h1, h2, h3, h4⟩
          have p0 := cell_of_block HB74.out (i := 0) rfl
          have p1 := cell_of_block HB74.out (i := 1) rfl
          have p2 := cell_of_block HB74.out (i := 2) rfl
          have p3 := cell_of_block HB74.out (i := 3) rfl
          have p4 := cell_of_block HB74.out (i := 4) rfl
          have r0 := cell_of_block HF4.out (i := 0) rfl
          have hl7 := lt_of_block HB74.out
          have hlf := lt_of_block HF4.out
          have HCSL := hide hcsl2
          clear hb4 HB73 HF33 HDT3 HEW3 hcsl hcsl2
          have HALV : Hid (∀ (t : PS) gs2, Kys t (thereL css1 gs) gs2 → thereL (thereL css1 gs) gs2 = thereL css1 gs → Alv t (thereL css1 gs)) := fun t gs2 hk he => by have := hk.alv; rw [he] at this; exact this
          generalize thereL css1 gs = cs at *
          generalize hfb : w.heap.size = fb at *
          have HFB := hide hfb
          clear hfb
          have HN4 : Hid (w0.heap.size ≤ W4.heap.size) := HN4'.out
          go_cut [6, 11] from 94 to 102 (fun v6 v11 wx => ∃ (B2 g6 c6 g2 b11 : Nat), v6 = .bool true ∧ v11 = .pointer (some ⟨b11, 0, none⟩) ∧ Hid (W4.heap.size ≤ b11) ∧ Hid (LV w0.heap.size W4 wx B2 V b11 cs [] (some ⟨g6, 0, none⟩) (some ⟨g2, 0, none⟩) c6 cs.length cs.length))
          case first =>
            have m7 : b7 ≠ W4.heap.size := Nat.ne_of_lt hl7
            have mf : fb ≠ W4.heap.size := Nat.ne_of_lt hlf
            have m7' := Ne.symm m7
            have mf' := Ne.symm mf
            go_region_held3 (fun q => q.cell? ⟨fb, 0, none⟩ = some (.int .i64 V) ∧ q.cell? ⟨b7, 0, none⟩ = some (.pointer (some ⟨B, 0, none⟩)) ∧ q.cell? ⟨b7, 1, none⟩ = some (.int .i64 V) ∧ q.cell? ⟨b7, 2, none⟩ = some (.slice a2 css1.length c2) ∧ q.cell? ⟨b7, 3, none⟩ = some (.slice a3 gs.length c3) ∧ q.cell? ⟨b7, 4, none⟩ = some (.slice a4 s.dec.length c4)) (go_keep) (first
              | (go_at_call 17; refine (TH.out _ (by first | exact Below.refl _ _ | exact (Below.refl _ _).drew | exact below_alloc _ _ | exact (below_alloc _ _).drew | exact below_drew_alloc _ _)).mono ?_; rintro e w6 ⟨g6, c6, rfl, hG6, hb6⟩; have hb6w : Below W4.heap.size W4 w6 := belT (by first | exact Below.refl _ _ | exact (Below.refl _ _).drew | exact below_alloc _ _ | exact (below_alloc _ _).drew | exact below_drew_alloc _ _) hb6; have s0 := (hb6w.cell (p := ⟨b7, 0, none⟩) hl7).trans p0; have s1' := (hb6w.cell (p := ⟨b7, 1, none⟩) hl7).trans p1; have s2' := (hb6w.cell (p := ⟨b7, 2, none⟩) hl7).trans p2; have s3 := (hb6w.cell (p := ⟨b7, 3, none⟩) hl7).trans p3; have s4 := (hb6w.cell (p := ⟨b7, 4, none⟩) hl7).trans p4; have s5 := (hb6w.cell (p := ⟨fb, 0, none⟩) hlf).trans r0; have hl76 := Nat.lt_of_lt_of_le hl7 hb6w.size; have hlf6 := Nat.lt_of_lt_of_le hlf hb6w.size; obtain ⟨vs6, hG6⟩ := hG6; have ny7 : b7 ≠ w6.heap.size := Nat.ne_of_lt hl76; have nyf : fb ≠ w6.heap.size := Nat.ne_of_lt hlf6; have ny7' := Ne.symm ny7; have nyf' := Ne.symm nyf)
              | (go_at_call 11; refine (BG.out _ _ _ _ (hG6.ev (Ev.below (by first | exact Below.refl _ _ | exact (Below.refl _ _).drew | exact below_alloc _ _ | exact (below_alloc _ _).drew | exact below_drew_alloc _ _)))).mono ?_; rintro e w7 ⟨B2, g2, rfl, ρ7, t7, HL7, hE7, HD7, HT7⟩; have hE4 : Ev free W4 ρ7 w7 := (Ev.below hb6w).trans ((Ev.below (by first | exact Below.refl _ _ | exact (Below.refl _ _).drew | exact below_alloc _ _ | exact (below_alloc _ _).drew | exact below_drew_alloc _ _)).trans hE7); have t0 := (hE4.bel.cell (p := ⟨b7, 0, none⟩) hl7).trans p0; have t1 := (hE4.bel.cell (p := ⟨b7, 1, none⟩) hl7).trans p1; have t2 := (hE4.bel.cell (p := ⟨b7, 2, none⟩) hl7).trans p2; have t3 := (hE4.bel.cell (p := ⟨b7, 3, none⟩) hl7).trans p3; have t4 := (hE4.bel.cell (p := ⟨b7, 4, none⟩) hl7).trans p4; have t5 := (hE4.bel.cell (p := ⟨fb, 0, none⟩) hlf).trans r0; have nz7 : b7 ≠ w7.heap.size := Nat.ne_of_lt (Nat.lt_of_lt_of_le hl7 hE4.bel.size); have nzf : fb ≠ w7.heap.size := Nat.ne_of_lt (Nat.lt_of_lt_of_le hlf hE4.bel.size); have nz7' := Ne.symm nz7; have nzf' := Ne.symm nzf; (first | (have hz7 := (hE7.bel.block W4.heap.size (Nat.lt_of_lt_of_le (ltA W4 (.cells #[.pointer none, .int .i64 0, .slice none 0 0, .slice none 0 0, .slice none 0 0] 36)) hb6.size)).trans ((hb6.block W4.heap.size (ltA W4 (.cells #[.pointer none, .int .i64 0, .slice none 0 0, .slice none 0 0, .slice none 0 0] 36))).trans (heap_alloc_new W4 (.cells #[.pointer none, .int .i64 0, .slice none 0 0, .slice none 0 0, .slice none 0 0] 36))); have hb11 : W4.heap.size ≤ W4.heap.size := Nat.le_refl _; have hr11 := hE7.agree W4.heap.size (Nat.lt_of_lt_of_le (ltA W4 (.cells #[.pointer none, .int .i64 0, .slice none 0 0, .slice none 0 0, .slice none 0 0] 36)) hb6.size); have z0 := cell_of_block hz7 (i := 0) rfl; have z1 := cell_of_block hz7 (i := 1) rfl; have z2 := cell_of_block hz7 (i := 2) rfl; have z3 := cell_of_block hz7 (i := 3) rfl; have z4 := cell_of_block hz7 (i := 4) rfl; have f0 := frz_of_block hz7 (i := 0); have f1 := frz_of_block hz7 (i := 1); have f2 := frz_of_block hz7 (i := 2); have f3 := frz_of_block hz7 (i := 3); have f4 := frz_of_block hz7 (i := 4)) | (have hz7 := (hE7.bel.block w6.heap.size (ltA w6 (.cells #[.pointer none, .int .i64 0, .slice none 0 0, .slice none 0 0, .slice none 0 0] 36))).trans (heap_alloc_new w6 (.cells #[.pointer none, .int .i64 0, .slice none 0 0, .slice none 0 0, .slice none 0 0] 36)); have hb11 := hb6w.size; have hr11 := hE7.agree w6.heap.size (ltA w6 (.cells #[.pointer none, .int .i64 0, .slice none 0 0, .slice none 0 0, .slice none 0 0] 36)); have z0 := cell_of_block hz7 (i := 0) rfl; have z1 := cell_of_block hz7 (i := 1) rfl; have z2 := cell_of_block hz7 (i := 2) rfl; have z3 := cell_of_block hz7 (i := 3) rfl; have z4 := cell_of_block hz7 (i := 4) rfl; have f0 := frz_of_block hz7 (i := 0); have f1 := frz_of_block hz7 (i := 1); have f2 := frz_of_block hz7 (i := 2); have f3 := frz_of_block hz7 (i := 3); have f4 := frz_of_block hz7 (i := 4)) | skip)))
            all_goals
              go_wp2_with fail
              go_meet
              case rel => exact ⟨B2, g6, c6, g2, _, rfl, rfl, by first | exact hb11 | exact hE4.bel.size, by first | exact lv_alloc HL7.out hE4 HD7.out HT7.out (Nat.le_trans HN4.out hE4.bel.size) | exact lv_new HL7.out hE4 HD7.out HT7.out hr11 hz7 (Nat.le_trans HN4.out hb11) hb11 ((((((U5.first rfl hz7).set 0 (.pointer (some ⟨B2, 0, none⟩))).set 1 (.int .i64 V)).set 2 (.slice (some ⟨g6, 0, none⟩) cs.length c6)).set 3 (.slice (some ⟨g2, 0, none⟩) cs.length cs.length)).set 4 (.slice none 0 0))⟩
          case rest =>
            obtain ⟨B2, g6, c6, g2, b11, rfl, rfl, HBG, HLV⟩ := hcut
            clear p0 p1 p2 p3 r0 TH BG hlf
            have HP4 := hide p4
            have HDD : Hid (s2.dec = s.dec) := HD3.out.trans HD1.out
            have HROWD : Hid (Row W4 a4 s.dec) := by
              have q := HL4.out.d
              rw [HDD.out] at q
              exact (own_row3 q.1).2.1
            have HND : Hid (Nd s.dec) := by have q := dec_nd HL2.out.inv; rw [HD1.out] at q; exact q
            have HLTD : Hid (∀ x ∈ s.dec, Lt V x) := by
              intro x hx
              have q := HL2.out.inv.tr.ok x (dec_trail HL2.out.inv x (by rw [HD1.out]; exact hx))
              rw [HL2.out.vars] at q; exact q
            have hnd : s.dec.length ≤ 1048576 := by
              have q := lvs_len HL2.out.inv.tr
              have q2 := trail_len HL2.out.inv.tr
              have q3 := HL2.out.inv.sz.vars
              have q4 : s1.dec.length = s1.lvs.length := by simp [PS.dec]
              rw [HD1.out] at q4
              omega
            clear p4
            go_wp2_with fail
            go_loopw [6, 12] (fun j6 j12 wr => ∃ i : Nat, j12 = .int .i64 i ∧ j6 = .bool true ∧ i ≤ s.dec.length ∧ Hid (LV w0.heap.size W4 wr B2 V b11 cs (s.dec.take i) (some ⟨g6, 0, none⟩) (some ⟨g2, 0, none⟩) c6 cs.length cs.length)) (fun _ j12 _ => s.dec.length - (intOf j12).toNat)
            case atStart => exact ⟨0, rfl, rfl, Nat.zero_le _, HLV⟩
            case round =>
              clear HLV
              obtain ⟨i, rfl, rfl, hiD, HLV⟩ := hrel
              obtain ⟨ρv, sv, gsv, a4v, c4v, hLv, hgl, hth, hEv, hrb, hblk, htr, hdv⟩ := HLV.out.ex
              have p4 := (HLV.out.bel.cell (p := ⟨b7, 4, none⟩) hl7).trans HP4.out
              by_cases hi : i < s.dec.length
              · have hi' : (i : Int) < s.dec.length := by omega
                have di : decide (i < s.dec.length) = true := decide_eq_true hi
                obtain ⟨bd, od, rfl, hbd, hcd0⟩ := HROWD.out i hi
                have hcd := (HLV.out.bel.cell (p := ⟨bd, od + i, none⟩) hbd).trans hcd0
                have hop : openB V sv.trail s.dec[i] = true := by
                  rw [htr]
                  exact open_of (by omega) (HLTD.out _ (List.getElem_mem hi)) (nd_at HND.out hi).1 (nd_at HND.out hi).2
                have AC : Hid (∀ x, Below wr.heap.size wr x → Calls Try.prog 12 #[.agg #[.pointer (some ⟨B2, 0, none⟩), .int .i64 V, .slice (some ⟨g6, 0, none⟩) cs.length c6, .slice (some ⟨g2, 0, none⟩) cs.length cs.length, .slice a4v (s.dec.take i).length c4v], .agg #[.int .i64 0, .int .i64 s.dec[i], .slice none 0 0]] x fun e w' => ActD1 ρv w0.heap.size x B2 V (sv.decide s.dec[i]) cs gsv (some ⟨g6, 0, none⟩) (some ⟨g2, 0, none⟩) c6 cs.length e w') := fun x hx => by
                  have q := act0_lw (hLv.below hx) none 0 0 s.dec[i] hop
                  rw [hgl, hdv] at q
                  exact q
                have HTK : Hid (s.dec.take (i + 1) = s.dec.take i ++ [s.dec[i]]) := List.take_succ_eq_append_getElem hi
                have hge := HLV.out.ge
                have hwb : W4.heap.size ≤ b11 := HBG.out
                have HFIN : Hid (∀ x e w6, Below wr.heap.size wr x → ActD1 ρv w0.heap.size x B2 V (sv.decide s.dec[i]) cs gsv (some ⟨g6, 0, none⟩) (some ⟨g2, 0, none⟩) c6 cs.length e w6 → ∃ e4 m4 d4, e = .returned (.tuple #[.agg #[.pointer (some ⟨B2, 0, none⟩), .int .i64 V, .slice (some ⟨g6, 0, none⟩) cs.length c6, .slice (some ⟨g2, 0, none⟩) cs.length cs.length, .slice e4 m4 d4], .bool true]) ∧ w6.heap[b11]? = some (.cells #[.pointer (some ⟨B2, 0, none⟩), .int .i64 V, .slice (some ⟨g6, 0, none⟩) cs.length c6, .slice (some ⟨g2, 0, none⟩) cs.length cs.length, .slice a4v (s.dec.take i).length c4v] 36 (0, 0)) ∧ ∀ W, U5 w6 W b11 [.pointer (some ⟨B2, 0, none⟩), .int .i64 V, .slice (some ⟨g6, 0, none⟩) cs.length c6, .slice (some ⟨g2, 0, none⟩) cs.length cs.length, .slice e4 m4 d4] → LV w0.heap.size W4 W B2 V b11 cs (s.dec.take (i + 1)) (some ⟨g6, 0, none⟩) (some ⟨g2, 0, none⟩) c6 cs.length cs.length) := by
                  rintro x e w6 hx ⟨ρ', a4', c4', rfl, hL', hE'⟩
                  have hx7 := (hx.block b11 (lt_of_block hblk)).trans hblk
                  have hk7 := (hE'.keep b11 (lt_of_block hx7) hrb).trans hx7
                  have hdd : (sv.decide s.dec[i]).dec = s.dec.take (i + 1) := by rw [dec_decide hLv.inv, hdv, HTK.out]
                  have htt : (sv.decide s.dec[i]).trail = s.dec.take (i + 1) := by
                    have : (sv.decide s.dec[i]).trail = sv.trail ++ [s.dec[i]] := rfl
                    rw [this, htr, HTK.out]
                  refine ⟨a4', (sv.decide s.dec[i]).dec.length, c4', by rw [hgl], hk7, fun W hU => ?_⟩
                  have hO := hU.offs hk7
                  have hE2 : Ev free W4 ρ' w6 := (hEv.trans (Ev.below hx)).trans hE'
                  refine ⟨⟨ρ', sv.decide s.dec[i], gsv, a4', c4', hO.lw hge hL', hgl, hth, hO.ev hE2 hwb, (hE'.agree b11 (lt_of_block hx7)).trans hrb, ?_, htt, hdd⟩, hge⟩
                  rw [← hdd]; exact hU.block
                have q0 := cell_of_block hblk (i := 0) rfl
                have q1 := cell_of_block hblk (i := 1) rfl
                have q2 := cell_of_block hblk (i := 2) rfl
                have q3 := cell_of_block hblk (i := 3) rfl
                have q4 := cell_of_block hblk (i := 4) rfl
                have hb11 := lt_of_block hblk
                clear hLv hgl hth hEv hrb hblk htr hdv hcd0 hop hge hwb HTK HLV
                generalize s.dec[i] = l at *
                generalize s.dec.take i = Di at *
                go_wp2_with fail
                first | (go_region_with (go_at_call 12; refine (AC.out _ (by first | exact Below.refl _ _ | exact (Below.refl _ _).drew)).mono ?_; intro e w6 hR6; obtain ⟨e4, m4, d4, rfl, hk6, hLM⟩ := HFIN.out _ _ _ (by first | exact Below.refl _ _ | exact (Below.refl _ _).drew) hR6; have u0 := cell_of_block hk6 (i := 0) rfl; have u1 := cell_of_block hk6 (i := 1) rfl; have u2 := cell_of_block hk6 (i := 2) rfl; have u3 := cell_of_block hk6 (i := 3) rfl; have u4 := cell_of_block hk6 (i := 4) rfl; have f0 := frz_of_block hk6 (i := 0); have f1 := frz_of_block hk6 (i := 1); have f2 := frz_of_block hk6 (i := 2); have f3 := frz_of_block hk6 (i := 3); have f4 := frz_of_block hk6 (i := 4))) | fail
                all_goals
                  refine forget (P := fun W => Exit.inBlock _ _ Exit.normal _ W) (fun W => Hid (LV w0.heap.size W4 W B2 V b11 cs (s.dec.take (i + 1)) (some ⟨g6, 0, none⟩) (some ⟨g2, 0, none⟩) c6 cs.length cs.length)) (hLM _ ((((((U5.first rfl hk6).set 0 (.pointer (some ⟨B2, 0, none⟩))).set 1 (.int .i64 V)).set 2 (.slice (some ⟨g6, 0, none⟩) cs.length c6)).set 3 (.slice (some ⟨g2, 0, none⟩) cs.length cs.length)).set 4 (.slice e4 m4 d4))) ?_
                  clear hLM u0 u1 u2 u3 u4 f0 f1 f2 f3 f4 hk6 q0 q1 q2 q3 q4 hR6 HFIN AC hb11 hcd p4
                  intro W7 HL7'
                  go_wp2_with fail
                  go_roundw
                  case rel => exact ⟨i + 1, by go_num, rfl, by omega, HL7'⟩
                  case measure => simp [intOf]; omega
              · obtain rfl : i = s.dec.length := by omega
                have hni : ¬ (s.dec.length : Int) < s.dec.length := by omega
                have dni : decide (s.dec.length < s.dec.length) = false := decide_eq_false hi
                have q0 := cell_of_block hblk (i := 0) rfl
                have htk : s.dec.take s.dec.length = s.dec := List.take_length
                have R3 : Hid (Calls Try.prog 14 #[.pointer (some ⟨B2, 0, none⟩)] wr fun e w9 => ∃ (n3 : Int) (t9 : PS), e = .returned (.int .i64 n3) ∧ Hid (Below W4.heap.size W4 w9) ∧ w9.heap[b11]? = some (.cells #[.pointer (some ⟨B2, 0, none⟩), .int .i64 V, .slice (some ⟨g6, 0, none⟩) cs.length c6, .slice (some ⟨g2, 0, none⟩) cs.length cs.length, .slice a4v (s.dec.take s.dec.length).length c4v] 36 (0, 0)) ∧ t9.trail.length ≤ 1048576 ∧ Hid (Calls Try.prog 15 #[.pointer (some ⟨B2, 0, none⟩)] w9 fun e w' => CloneP w9 t9.trail e w') ∧ Hid ((n3 = -1 ∧ (followsP cs 100001 s.dec).2 = false ∧ (∀ x, x ∈ (followsP cs 100001 s.dec).1 ↔ x ∈ t9.trail) ∧ (followsP cs 100001 s.dec).1.length = t9.trail.length) ∨ (0 ≤ n3 ∧ (followsP cs 100001 s.dec).2 = true))) := by
                  obtain ⟨Hv, hRv⟩ := hLv.rep
                  refine (run_any hRv hLv.inv (fun c hc => by have := hLv.lits c hc; omega)).mono ?_
                  rintro e w9 ⟨n3, rfl, hP⟩
                  obtain ⟨ρ9, t9, hL9, hE9, hd9, _, hr9⟩ := hLv.run hP
                  obtain ⟨H9, hR9⟩ := hL9.rep
                  have hk9 := (hE9.keep b11 (lt_of_block hblk) hrb).trans hblk
                  have htl9 : t9.trail.length ≤ 1048576 := by have q := trail_len hL9.inv.tr; have q2 := hL9.inv.sz.vars; omega
                  have hdd9 : t9.dec = s.dec := by rw [hd9, hdv, htk]
                  have htell := run_tells hL9.inv (HALV.out t9 gsv hL9.kys hth) (by have := hL9.vars; omega) hr9
                  rw [hdd9] at htell
                  exact ⟨n3, t9, rfl, (hEv.trans hE9).bel, hk9, htl9, propTrail_any hR9 htl9, htell⟩
                clear hLv hgl hth hEv hrb hblk htr hdv hi
                go_wp2_with fail
                refine Calls.mono (unhide R3) ?_
                rintro e w9 ⟨n3, t9, rfl, HB9, hblk9, htl9, TR9, HT9⟩
                have q0 := cell_of_block hblk9 (i := 0) rfl
                have HROWT : Hid (Row W4 ta s1.trail) := (own_row3 HDT4.out.1).2.1
                have hts : s1.trail.length ≤ 1048576 := by have q := trail_len HL2.out.inv.tr; have q2 := HL2.out.inv.sz.vars; omega
                have HBW9 : Hid (Below w.heap.size w w9) := by
                  have q : Below w.heap.size w W4 := by have q2 := HBW4.out; rw [← HFB.out] at q2; exact q2
                  exact q.trans (HB9.out.mono q.size)
                clear R3 hblk9 p4
                simp only
                first
                  | (rcases HT9.out with ⟨rfl, hx1, hx2, hx3⟩ | ⟨hx1, hx2⟩
                     · have hal : alikeB s1.trail t9.trail = true := by
                         have q := HTL.out
                         rw [HD1.out] at q
                         exact alike_of (fun x => (hx2 x).symm.trans (q.2.1 x)) (hx3.symm.trans q.2.2)
                       have AL : Hid (∀ (xa : Option Addr) (xc : Nat) (x : World), Row x xa t9.trail → Below w9.heap.size w9 x → Calls Try.prog 18 #[.slice ta s1.trail.length tc, .slice xa t9.trail.length xc] x fun e w' => e = .returned (.bool true) ∧ w' = x) := fun xa xc x hr hx => by
                         have q := refAlike_any ta xa tc xc s1.trail t9.trail x ((HROWT.out.below HB9.out).below hx) hr (by unfold maxLen; omega) (by unfold maxLen; omega)
                         rw [hal] at q; exact q
                       clear hal hx1 hx2 hx3 HT9
                       go_wp2_with (first | (go_at_call 15; refine (unhide TR9).mono ?_; rintro e w10 ⟨v10, rfl, ho10, hb10⟩; obtain ⟨xa, xc, rfl, hrow10, hlen10, _⟩ := Own.row ho10) | (go_at_call 18; refine (AL.out _ _ _ hrow10 hb10).mono ?_; rintro e w11 ⟨rfl, hw11⟩; subst w11) | (go_at_call 8; refine (unhide (HAW _)).mono ?_; rintro e w12 ⟨rfl, hb12⟩))
                       go_ret
                       exact ⟨rfl, (HBW9.out.trans (hb10.mono HBW9.out.size)).trans (hb12.mono (Nat.le_trans HBW9.out.size hb10.size))⟩
                     · have q := HTL.out.1
                       rw [HD1.out, hx2] at q; cases q)
                  | (rcases HT9.out with ⟨rfl, hx1, hx2, hx3⟩ | ⟨hx1, hx2⟩
                     · have q := HTL.out
                       rw [HD1.out, hx1] at q; cases q
                     · have g9 : decide (0 ≤ n3) = true := decide_eq_true hx1
                       clear hx2 HT9
                       go_wp2_with (go_at_call 8; refine (unhide (HAW _)).mono ?_; rintro e w12 ⟨rfl, hb12⟩)
                       go_ret
                       exact ⟨rfl, HBW9.out.trans (hb12.mono HBW9.out.size)⟩)

end Go.Proofs.Ytlmbgaconjcaiaa
