/- Contracts of the law: the clauses that are there. -/
import Derived.Test.YtlmbgaconjcaiaaHd
import Derived.Test.YtlmbgaconjcaiaaIa
import Derived.Deep.AppendLies
set_option linter.unusedVariables false
set_option linter.unusedSimpArgs false
namespace Go.Proofs.Ytlmbgaconjcaiaa
open Go.RowKit

/-- The clauses that are not gone. -/
def thereL : List (List Int) → List Bool → List (List Int)
  | c :: cs, g :: gs => if g then thereL cs gs else c :: thereL cs gs
  | _, _ => []

theorem thereL_snoc : ∀ (cs : List (List Int)) (gs : List Bool) (c : List Int) (g : Bool), cs.length = gs.length → thereL (cs ++ [c]) (gs ++ [g]) = thereL cs gs ++ (if g then [] else [c])
  | [], [], c, g, _ => by cases g <;> simp [thereL]
  | d :: cs, h :: gs, c, g, e => by
    have := thereL_snoc cs gs c g (by simpa using e)
    cases h <;> simp [thereL, this]
  | [], _ :: _, _, _, e => by simp at e
  | _ :: _, [], _, _, e => by simp at e

/-- A row of Booleans. -/
def RowB (w : World) (a : Option Addr) (gs : List Bool) : Prop :=
  ∀ i (h : i < gs.length), ∃ b off, a = some ⟨b, off, none⟩ ∧ b < w.heap.size ∧ w.cell? ⟨b, off + i, none⟩ = some (.bool gs[i])
theorem RowB.below {w w' : World} {a : Option Addr} {gs : List Bool} (h : RowB w a gs) (hb : Below w.heap.size w w') : RowB w' a gs := by
  intro i hi
  obtain ⟨b, off, e, hlt, hc⟩ := h i hi
  exact ⟨b, off, e, Nat.lt_of_lt_of_le hlt hb.size, (hb.cell (p := ⟨b, off + i, none⟩) hlt).trans hc⟩

/-- A row of the call's own of slices that lie elsewhere. -/
def OR (w wr : World) (v : Value) (css : List (List Int)) : Prop :=
  ∃ vs : List Value, wr.ownsRow w.heap.size 34 1 v css.length vs ∧ ∀ i (h : i < css.length), ∃ ai ci, vs[i]? = some (.slice ai css[i].length ci) ∧ Row w ai css[i] ∧ css[i].length ≤ maxLen ∧ (ai = none → ci = 0)

theorem OR.grid {w wr : World} {a : Option Addr} {cap : Nat} {css : List (List Int)} (h : OR w wr (.slice a css.length cap) css) (hb : Below w.heap.size w wr) : GridC wr a css := by
  obtain ⟨vs, h1, h2⟩ := h
  intro i hi
  obtain ⟨ai, ci, hv, hr, hl, hn⟩ := h2 i hi
  obtain ⟨g, cap', e, _, _, hlt⟩ := own_some h1 (by omega)
  simp at e
  obtain ⟨rfl, _⟩ := e
  refine ⟨g, 0, ai, ci, rfl, hlt, ?_, hr.below hb, hl, hn⟩
  have := own_cell (i := i) h1 rfl hv
  simpa using this

theorem own_ty' {w : World} {base e sz n g : Nat} {v : Value} {xs : List Value} (h : w.ownsRow base e sz v n xs) (hg : v.ownBlock = some g) : ∃ cs, w.heap[g]? = some (.cells cs e (0, 0)) := by
  rcases h.2 with ⟨rfl, _⟩ | ⟨g', cap, cur, rfl, hb, hgg, _⟩
  · simp [Value.ownBlock] at hg
  · simp [Value.ownBlock] at hg; subst hg; exact ⟨_, hgg⟩

theorem own_lit34 (W : World) (base : Nat) (hb : base ≤ W.heap.size) : (W.alloc (.cells #[] 34)).ownsRow base 34 1 (.slice (some ⟨W.heap.size, 0, none⟩) 0 0) 0 [] :=
  ⟨rfl, .inr ⟨W.heap.size, 0, #[], rfl, hb, heap_alloc_new W _, Nat.le_refl _, by unfold maxLen; omega, rfl, rfl⟩⟩

set_option maxHeartbeats 4000000 in
set_option maxRecDepth 100000 in
theorem there_any (B V : Nat) (a2 a3 a4 : Option Addr) (c2 c3 n4 c4 : Nat) (css : List (List Int)) (gs : List Bool) (w : World) (hg : GridC w a2 css) (hb : RowB w a3 gs) (hl : gs.length = css.length) (hn : css.length ≤ 1048576) :
    Calls Try.prog 17 #[.agg #[.pointer (some ⟨B, 0, none⟩), .int .i64 V, .slice a2 css.length c2, .slice a3 gs.length c3, .slice a4 n4 c4]] w fun e w' => ∃ a' c', e = .returned (.slice a' (thereL css gs).length c') ∧ GridC w' a' (thereL css gs) ∧ Below w.heap.size w w' := by
  obtain ⟨i0, hi, hz0, hz1, hz2⟩ := info_parts Try.info34
  have hbW := below_alloc w (.cells #[.pointer (some ⟨B, 0, none⟩), .int .i64 V, .slice a2 css.length c2, .slice a3 gs.length c3, .slice a4 n4 c4] 36)
  have HK := hide (heap_alloc_new w (.cells #[.pointer (some ⟨B, 0, none⟩), .int .i64 V, .slice a2 css.length c2, .slice a3 gs.length c3, .slice a4 n4 c4] 36))
  have HB1 : Hid (Below w.heap.size w ((w.alloc (.cells #[.pointer (some ⟨B, 0, none⟩), .int .i64 V, .slice a2 css.length c2, .slice a3 gs.length c3, .slice a4 n4 c4] 36)).alloc (.cells #[] 34))) := hbW.alloc (by simp) _
  have HO1 : Hid (OR w ((w.alloc (.cells #[.pointer (some ⟨B, 0, none⟩), .int .i64 V, .slice a2 css.length c2, .slice a3 gs.length c3, .slice a4 n4 c4] 36)).alloc (.cells #[] 34)) (.slice (some ⟨w.heap.size + 1, 0, none⟩) 0 0) []) :=
    ⟨[], by have := own_lit34 (w.alloc (.cells #[.pointer (some ⟨B, 0, none⟩), .int .i64 V, .slice a2 css.length c2, .slice a3 gs.length c3, .slice a4 n4 c4] 36)) w.heap.size (by simp); simpa using this, fun i h => by simp at h⟩
  have HKA : Hid (((w.alloc (.cells #[.pointer (some ⟨B, 0, none⟩), .int .i64 V, .slice a2 css.length c2, .slice a3 gs.length c3, .slice a4 n4 c4] 36)).alloc (.cells #[] 34)).heap[w.heap.size]? = some (.cells #[.pointer (some ⟨B, 0, none⟩), .int .i64 V, .slice a2 css.length c2, .slice a3 gs.length c3, .slice a4 n4 c4] 36 (0, 0))) := (heap_alloc_old _ _ (by simp)).trans HK.out
  have HG := hide hg
  have HBB := hide hb
  have HLE := hide hl
  clear hg hb hbW HK hl
  go_enter Try.func17, Try.ntmps17
  go_wp2_with fail
  go_loopw [3, 4] (fun v3 v4 wr => ∃ (k g cap : Nat) (out : List (List Int)), v3 = .slice (some ⟨g, 0, none⟩) out.length cap ∧ v4 = .int .i64 k ∧ k ≤ css.length ∧ out.length ≤ k ∧ Hid (OR w wr (.slice (some ⟨g, 0, none⟩) out.length cap) out) ∧ Hid (Below w.heap.size w wr) ∧ Hid (out = thereL (css.take k) (gs.take k)) ∧ Hid (wr.heap[w.heap.size]? = some (.cells #[.pointer (some ⟨B, 0, none⟩), .int .i64 V, .slice a2 css.length c2, .slice a3 gs.length c3, .slice a4 n4 c4] 36 (0, 0)))) (fun _ v4 _ => css.length - (intOf v4).toNat)
  case atStart => exact ⟨0, w.heap.size + 1, 0, [], rfl, rfl, Nat.zero_le _, Nat.le_refl _, HO1, HB1, by simp [Hid, thereL], HKA⟩
  case round =>
    clear HO1 HB1 HKA
    obtain ⟨k, g, cap, out, rfl, rfl, hk, hok, HO, HB, HE, HK⟩ := hrel
    have p2 := cell_of_block HK.out (i := 2) rfl
    have p3 := cell_of_block HK.out (i := 3) rfl
    have hwl := lt_of_block HK.out
    by_cases hlt : k < css.length
    · have hki : (k : Int) < css.length := by omega
      have hlg : k < gs.length := by rw [HLE.out]; exact hlt
      have hkg : (k : Int) < gs.length := by omega
      obtain ⟨bg, og, eg, hbg, hcg0⟩ := HBB.out k hlg
      subst eg
      have hcg := (HB.out.cell (p := ⟨bg, og + k, none⟩) hbg).trans hcg0
      obtain ⟨bb, off, ai, ci, ea, hbb, hcc0, hri, hli, hni⟩ := HG.out k hlt
      subst ea
      have hcc := (HB.out.cell (p := ⟨bb, off + k, none⟩) hbb).trans hcc0
      have HST : Hid (thereL (css.take (k + 1)) (gs.take (k + 1)) = out ++ (if gs[k] then [] else [css[k]])) := by
        unfold Hid
        rw [List.take_succ_eq_append_getElem hlt, List.take_succ_eq_append_getElem hlg, thereL_snoc _ _ _ _ (by simp; omega), ← HE.out]
      clear hcg0 hcc0
      cases hA : gs[k] with
      | true =>
        rw [hA] at hcg HST
        simp only [if_true, List.append_nil] at HST
        clear hri hli hni hcc
        go_wp2_with fail
        go_roundw
        case rel => exact ⟨k + 1, g, cap, out, rfl, by go_num, by omega, by omega, HO, HB, HST.out.symm, HK⟩
        case measure => simp [intOf]; omega
      | false =>
        rw [hA] at hcg HST
        simp only [Bool.false_eq_true, if_false] at HST
        obtain ⟨vs, ho1, hv1⟩ := HO.out
        have HV1 := hide hv1
        have HO1 := hide ho1
        have HRI := hide hri
        have HNI := hide hni
        have HBs := HB.out.size
        have hlm := hide hli
        have HLT := hide hlt
        clear hv1 hri hni HO
        generalize css[k] = c at *
        generalize hln0 : c.length = nc at *
        have hln := hide hln0
        clear hln0
        go_wp2_with (at_builtin; refine wpList_append_lies _ rfl _ _ 22 rfl w.heap.size 34 i0 (.slice none 0 0) 1 24 Try.underlying22 hi hz0 hz1 hz2 rfl (by decide) _ out.length _ rfl (ho1.alloc _) ⟨wr.heap.size, 0, none⟩ 1 1 [.slice ai nc ci] rfl rfl (World.news_of_block (cs := #[.slice ai nc ci]) (heap_alloc_new wr _)) (by simp [Value.oneCell']) (by decide) (by unfold maxLen; omega) (by omega) (by simp; omega) (wr.heap.size + 1) (by simp) ?_; intro g3 cap3 w3 ho3 hgr3 hat3 hlt3)
        have hb3 : Below w.heap.size w w3 := (HB.out.alloc HBs _).grown hgr3 (by simp; omega) (fun k e => by have := (World.ownsRow.lt HO1.out k e).1; omega)
        have hk3 : w3.heap[w.heap.size]? = some (.cells #[.pointer (some ⟨B, 0, none⟩), .int .i64 V, .slice (some ⟨bb, off, none⟩) css.length c2, .slice (some ⟨bg, og, none⟩) gs.length c3, .slice a4 n4 c4] 36 (0, 0)) := by
          refine ((hgr3.block w.heap.size (by simp; omega) ?_).trans (heap_alloc_old wr _ hwl)).trans HK.out
          intro e
          have h1 := own_ty' HO1.out e.symm
          rw [HK.out] at h1
          obtain ⟨cs', h1⟩ := h1
          simp at h1
        have ho4 : OR w w3 (.slice (some ⟨g3, 0, none⟩) (out ++ [c]).length cap3) (out ++ [c]) := by
          refine ⟨vs ++ [.slice ai nc ci], by rw [List.length_append]; exact ho3, fun i hi' => ?_⟩
          have hvl : vs.length = out.length := by have := HO1.out.1; simpa using this
          rcases Nat.lt_or_ge i out.length with q | q
          · obtain ⟨x1, x2, x3, x4⟩ := HV1.out i q
            refine ⟨x1, x2, ?_, ?_⟩
            · rw [List.getElem?_append_left (by omega), x3]; simp [List.getElem_append_left q]
            · simpa [List.getElem_append_left q] using x4
          · obtain rfl : i = out.length := by simp at hi'; omega
            refine ⟨ai, ci, ?_, ?_⟩
            · rw [List.getElem?_append_right (by omega), hvl]; simp [hln.out]
            · simp
              exact ⟨HRI.out, by rw [hln.out]; exact hlm.out, HNI.out⟩
        go_roundw
        case rel => exact ⟨k + 1, g3, cap3, out ++ [c], by simp, by go_num, HLT.out, by simp; omega, ho4, hb3, HST.out.symm, hk3⟩
        case measure => (have h31 := HLT.out; simp [intOf]; omega)
    · have hE : thereL css gs = out := by
        rw [HE.out, List.take_of_length_le (by omega), List.take_of_length_le (by rw [HLE.out]; omega)]
      have HEE := hide hE
      clear hE
      go_wp2_with fail
      go_ret
      rw [HEE.out]
      exact ⟨_, _, rfl, HO.out.grid HB.out, HB.out⟩
end Go.Proofs.Ytlmbgaconjcaiaa
