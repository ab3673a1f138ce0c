/- Joined: Contracts of the document: which clauses are at hand by units. Contracts of the document: which clauses are at hand by their first literal. What the program tells is what the document tells: plain. The law of units, walked. -/
import Derived.Test.YtlmbgaconjcaiaaGreatLBll
import Derived.Test.YtlmbgaconjcaiaaGreatRCll
import Derived.Test.YtlmbgaconjcaiaaGreatRBll
set_option linter.unusedVariables false
set_option linter.unusedSimpArgs false
namespace Go.Proofs.YtlmbgaconjcaiaaGreat
open Go.RowKit

set_option maxHeartbeats 400000 in
theorem refTaut_any (a : Option Addr) (cap : Nat) (xs : List Int) (w : World) (hr : Row w a xs) (hl : xs.length ≤ maxLen) (hx : ∀ x ∈ xs, -1048576 ≤ x ∧ x ≤ 1048576) :
    Calls Tryz.prog 29 #[.slice a xs.length cap] w fun e w' => e = .returned (.bool (tautB xs)) ∧ w' = w := by
  have CH : Hid (∀ n, Calls Tryz.prog 31 #[.slice a xs.length cap, .int .i64 n] w fun e w' => e = .returned (.bool (hasB xs n)) ∧ w' = w) := fun n => has_any a cap xs n w hr hl
  have HX := hide hx
  clear hx
  unfold maxLen at hl
  go_enter Tryz.func29, Tryz.ntmps29
  go_wp2
  go_loop [3] (fun i => ∃ k : Nat, k ≤ xs.length ∧ i = .int .i64 k ∧ Hid ((xs.take k).any (fun x => hasB xs (-x)) = false)) (fun i => xs.length - (intOf i).toNat)
  case atStart => exact ⟨0, Nat.zero_le _, rfl, rfl⟩
  case round =>
    obtain ⟨k, hk, rfl, HN⟩ := hrel
    by_cases hlt : k < xs.length
    · obtain ⟨b, off, rfl, hb, hc⟩ := hr k hlt
      clear hr
      have hxb := HX.out xs[k] (List.getElem_mem hlt)
      obtain ⟨hx1, hx2⟩ := hxb
      have CK := CH.out (-xs[k])
      cases he : hasB xs (-xs[k]) with
      | true =>
        rw [he] at CK
        replace CK := hide CK
        have HT : Hid (tautB xs = true) := any_true_at _ xs k hlt he
        clear he CH
        generalize xs[k] = x at *
        go_wp2_with (go_at_call 31; refine (unhide CK).mono ?_; rintro e w0 ⟨rfl, hw0⟩; subst w0)
        go_ret
        exact ⟨ret_bool HT.out.symm, rfl⟩
      | false =>
        rw [he] at CK
        replace CK := hide CK
        have HT : Hid ((xs.take (k + 1)).any (fun x => hasB xs (-x)) = false) := any_take_snoc _ xs k hlt HN.out he
        clear he CH
        generalize xs[k] = x at *
        go_wp2_with (go_at_call 31; refine (unhide CK).mono ?_; rintro e w0 ⟨rfl, hw0⟩; subst w0)
        go_round
        case rel => exact ⟨k + 1, by omega, by go_num, HT⟩
        case measure => simp [intOf]; omega
    · have hz : k = xs.length := by omega
      clear hr
      go_wp2
      go_ret
      exact ⟨ret_bool (by have h := HN.out; rw [hz, List.take_length] at h; exact h.symm), rfl⟩

/-- At hand by units, as the document has it. -/
def refU (css : List (List Int)) (c : List Int) : Bool := tautB c || (followsP css 100001 (c.map (fun x => -x))).2

set_option maxHeartbeats 4000000 in
set_option maxRecDepth 100000 in
theorem refUnit7_any (a b : Option Addr) (ca cb : Nat) (css : List (List Int)) (c : List Int) (V : Nat) (w : World) (hg : Grid w a css) (hs : Row w b c) (hcl : css.length ≤ 1048576) (hV : V ≤ 1048576) (hx : ∀ c ∈ css, c.length ≤ 10000 ∧ ∀ x ∈ c, Lt V x) (hl : c.length ≤ 10000) (hc : ∀ x ∈ c, -1048576 ≤ x ∧ x ≤ 1048576) :
    Calls Tryz.prog 13 #[.slice a css.length ca, .slice b c.length cb] w fun e w' => e = .returned (.bool (refU css c)) ∧ Below w.heap.size w w' := by
  have CT := refTaut_any b cb c w hs (by unfold maxLen; omega) hc
  obtain ⟨i0, hi, hz0, hz1, hz2⟩ := info_parts Tryz.info3
  cases ht : tautB c with
  | true =>
    rw [ht] at CT
    replace CT := hide CT
    have HU : Hid (refU css c = true) := by unfold Hid refU; rw [ht]; rfl
    clear hg hs hx hc ht
    go_enter Tryz.func13, Tryz.ntmps13
    go_wp2_with (go_at_call 29; refine (unhide CT).mono ?_; rintro e w0 ⟨rfl, hw0⟩; subst w0)
    go_ret
    exact ⟨ret_bool HU.out.symm, Below.refl _ _⟩
  | false =>
    rw [ht] at CT
    replace CT := hide CT
    have HU : Hid (refU css c = (followsP css 100001 (c.map (fun x => -x))).2) := by unfold Hid refU; rw [ht]; rfl
    have HG := hide hg
    have HS := hide hs
    have HX := hide hx
    have HC := hide hc
    clear hg hs hx hc ht
    go_enter Tryz.func13, Tryz.ntmps13
    go_wp2_with (go_at_call 29; refine (unhide CT).mono ?_; rintro e w0 ⟨rfl, hw0⟩; subst w0)
    go_loopw [5, 6] (fun v i wr => ∃ k : Nat, k ≤ c.length ∧ i = .int .i64 k ∧ Own w.heap.size wr v ((c.take k).map (fun x => -x)) ∧ v ≠ .slice none 0 0 ∧ Below w.heap.size w wr) (fun _ i _ => c.length - (intOf i).toNat)
    case atStart => exact ⟨0, Nat.zero_le _, rfl, World.ownsRow_lit (e := 3) (size := 1) w #[] 0 (Nat.le_refl _) (Nat.zero_le _) rfl, (by simp), (Below.refl _ _).alloc (Nat.le_refl _) _⟩
    case round =>
      obtain ⟨k, hk, rfl, hown, hnn, hbel⟩ := hrel
      clear CT
      by_cases hlt : k < c.length
      · obtain ⟨b1, off, rfl, hb, hc1⟩ := HS.out k hlt
        have hc' := (hbel.cell (p := ⟨b1, off + k, none⟩) hb).trans hc1
        have hxb := HC.out c[k] (List.getElem_mem hlt)
        obtain ⟨hx1, hx2⟩ := hxb
        have hwl : ((c.take k).map (fun x => -x)).length ≤ k := by simp; omega
        have HE : Hid ((c.take (k + 1)).map (fun x => -x) = (c.take k).map (fun x => -x) ++ [-c[k]]) := by unfold Hid; rw [List.take_succ_eq_append_getElem hlt, List.map_append]; rfl
        clear hc1 hb
        generalize c[k] = x at *
        go_wp2_with (at_builtin; refine wpList_append_own _ rfl _ _ 25 rfl w.heap.size 3 i0 (.int .i64 0) 1 8 Tryz.underlying25 hi hz0 hz1 hz2 rfl (by decide) _ _ _ rfl (hown.alloc _) ⟨wr.heap.size, 0, none⟩ 1 1 [.int .i64 (-x)] rfl rfl (cell_one_new _ _ _) (fun y hy => by simp at hy; subst hy; rfl) (by unfold maxLen; omega) (by omega) (by have := hbel.size; simp; omega) ?_; intro v' w2 hown2 hgrow2 hnil)
        have hnn2 : v' ≠ .slice none 0 0 := fun h => absurd (hnil.1 h).2 (by decide)
        have hown3 := own_snoc hown2 HE.out
        have hbel3 := ((hbel.alloc hbel.size (.cells #[.int .i64 (-x)] 3)).grown hgrow2 (by have := hbel.size; simp; omega) (fun g hg => (hown.lt g hg).1))
        clear hown2 hgrow2 hnil
        go_wp2
        go_roundw
        case rel => exact ⟨k + 1, by omega, by go_num, hown3, hnn2, hbel3⟩
        case measure => simp [intOf]; omega
      · obtain rfl : k = c.length := by omega
        rw [List.take_length] at hown
        obtain ⟨a2, cap2, rfl, hrow2, _⟩ := hown.row
        have hbn : a2 = none → cap2 = 0 := fun e => by
          obtain ⟨a3, cap3, e3, _, _, h3⟩ := own_form hown
          simp at e3
          obtain ⟨rfl, rfl⟩ := e3
          rcases h3 with ⟨_, _, h4⟩ | ⟨g, h4, _⟩
          · exact h4
          · rw [e] at h4; cases h4
        have CF := refFollows_wide a a2 ca cap2 css (c.map (fun x => -x)) V wr (HG.out.below hbel) hrow2 hbn hcl hV HX.out (by simp; omega)
        replace CF := hide CF
        have HB := hide hbel
        clear hown hrow2 hbel hnn
        generalize c.map (fun x => -x) = t at *
        generalize hpp : followsP css 100001 t = pp at *
        clear hpp
        go_wp2_with (go_at_call 30; refine (unhide CF).mono ?_; rintro e w3 ⟨a4, cap4, rfl, _, _, hb3⟩)
        go_ret
        exact ⟨ret_bool HU.out.symm, HB.out.trans (hb3.mono HB.out.size)⟩
end Go.Proofs.YtlmbgaconjcaiaaGreat

namespace Go.Proofs.YtlmbgaconjcaiaaGreat
open Go.RowKit

/-- One clause, as the document has it. -/
def refF1 (css : List (List Int)) (c : List Int) (l : Int) (d : List Int) : Bool := !hasB d l || (decide (c.length + (wo d l).length ≤ 4096) && refU css (c ++ wo d l))
/-- At hand by the first literal, as the document has it. -/
def refF (css : List (List Int)) (c : List Int) : Bool := match c with
  | [] => false
  | l0 :: _ => css.all (refF1 css c (-l0))

/-- A row of numbers is a source of an append. -/
theorem row_src {w : World} {a : Option Addr} {cap : Nat} {xs : List Int} (h : Row w a xs) (hn : a = none → cap = 0) : (a = none ∧ xs.length = 0 ∧ cap = 0 ∧ intC xs = []) ∨ ∃ ad, a = some ad ∧ (intC xs).length = xs.length * 1 ∧ ∀ j u, (intC xs)[j]? = some u → w.cell? (ad.add j) = some u := by
  cases ha : a with
  | none =>
    left
    have h0 : xs = [] := by
      cases xs with
      | nil => rfl
      | cons x r => obtain ⟨b', off, e, _⟩ := h 0 (by simp); rw [ha] at e; cases e
    subst h0
    exact ⟨rfl, rfl, hn ha, rfl⟩
  | some ad =>
    right
    refine ⟨ad, rfl, by simp [intC], fun j u hj => ?_⟩
    have hjl : j < xs.length := by have := (List.getElem?_eq_some_iff.1 hj).1; simpa [intC] using this
    obtain ⟨b', off, e, hb', hc'⟩ := h j hjl
    rw [ha] at e
    simp at e
    subst e
    rw [intC_get (List.getElem?_eq_getElem hjl)] at hj
    cases hj
    rw [Addr.add_lit]; exact hc'
theorem intC_one (xs : List Int) : ∀ u ∈ intC xs, u.oneCell' = true := by intro u hu; simp only [intC, List.mem_map] at hu; obtain ⟨i, _, rfl⟩ := hu; rfl

/-- A clause and another one's rest, in memory of the call's own. -/
def JoinP (w : World) (c R : List Int) (v : Value) (wx : World) : Prop := ∃ g cap, v = .slice (some ⟨g, 0, none⟩) (c.length + R.length) cap ∧ Row wx (some ⟨g, 0, none⟩) (c ++ R) ∧ Below w.heap.size w wx

theorem join_fin {w0 W w9 : World} {g1 cap1 g9 cap9 : Nat} {c R : List Int} (hB : Below w0.heap.size w0 W) (ho1 : W.ownsRow w0.heap.size 3 1 (.slice (some ⟨g1, 0, none⟩) c.length cap1) c.length (intC c)) (hgr : W.grownBy w9 (Value.ownBlock (.slice (some ⟨g1, 0, none⟩) c.length cap1)))
    (ho9 : w9.ownsRow w0.heap.size 3 1 (.slice (some ⟨g9, 0, none⟩) (c.length + R.length) cap9) (c.length + R.length) (intC c ++ R.map (Value.int .i64))) : JoinP w0 c R (.slice (some ⟨g9, 0, none⟩) (c.length + R.length) cap9) w9 := by
  have hb9 : Below w0.heap.size w0 w9 := hB.grown hgr hB.size (fun b e => (World.ownsRow.lt ho1 b e).1)
  have e1 : (intC c ++ R.map (Value.int .i64) : List Value) = (c ++ R).map (Value.int .i64) := by simp [intC]
  have e2 : c.length + R.length = (c ++ R).length := by simp
  rw [e1, e2] at ho9
  obtain ⟨a', cap', e, hr, _⟩ := Own.row (base := w0.heap.size) ho9
  simp at e
  obtain ⟨rfl, rfl⟩ := e
  exact ⟨g9, cap9, rfl, hr, hb9⟩

theorem join_bel {w wx : World} {c R : List Int} {v : Value} (h : JoinP w c R v wx) : Below w.heap.size w wx := by obtain ⟨_, _, _, _, hb⟩ := h; exact hb
theorem own_e2 {W0 w3 : World} (h : (W0.alloc (.cells #[] 3)).drew.ownsRow W0.heap.size 3 1 (.slice (some ⟨W0.heap.size, 0, none⟩) 0 0) 0 []) (hB : Below (W0.alloc (.cells #[] 3)).drew.heap.size (W0.alloc (.cells #[] 3)).drew w3) : w3.ownsRow W0.heap.size 3 1 (.slice (some ⟨W0.heap.size, 0, none⟩) 0 0) 0 [] :=
  own_same h (fun b hb => hB.block b (World.ownsRow.lt h b hb).2)
theorem own_after {W0 w1 w3 : World} {v : Value} {n : Nat} {xs : List Value} (h : w1.ownsRow W0.heap.size 3 1 v n xs) (hB : Below w1.heap.size w1 w3) : w3.ownsRow W0.heap.size 3 1 v n xs :=
  own_same h (fun b hb => hB.block b (World.ownsRow.lt h b hb).2)
theorem src2 {W0 w3 w1 : World} {g5 cap5 : Nat} {R : List Int} (h : Own (W0.alloc (.cells #[] 3)).drew.heap.size w3 (.slice (some ⟨g5, 0, none⟩) R.length cap5) R) (hg : w3.grownBy w1 (Value.ownBlock (.slice (some ⟨W0.heap.size, 0, none⟩) 0 0))) : w1.ownsRow (W0.alloc (.cells #[] 3)).drew.heap.size 3 1 (.slice (some ⟨g5, 0, none⟩) R.length cap5) R.length (R.map (Value.int .i64)) :=
  World.ownsRow.kept h hg (.inr (fun e => by
    have := (World.ownsRow.lt h g5 rfl).1
    simp [Value.ownBlock] at e
    simp at this
    omega))
theorem src3 {base : Nat} {w3 w1 : World} {g5 cap5 : Nat} {R : List Int} (h : Own base w3 (.slice (some ⟨g5, 0, none⟩) R.length cap5) R) (hg : (w3.alloc (.cells #[] 3)).grownBy w1 (Value.ownBlock (.slice (some ⟨w3.heap.size, 0, none⟩) 0 0))) : w1.ownsRow base 3 1 (.slice (some ⟨g5, 0, none⟩) R.length cap5) R.length (R.map (Value.int .i64)) :=
  World.ownsRow.kept (World.ownsRow.alloc h (.cells #[] 3)) hg (.inr (fun e => by
    have := (World.ownsRow.lt h g5 rfl).2
    simp [Value.ownBlock] at e
    omega))

set_option maxHeartbeats 4000000 in
set_option maxRecDepth 100000 in
theorem refFirst7_any (a b : Option Addr) (ca cb : Nat) (css : List (List Int)) (c : List Int) (V : Nat) (w : World) (hg : Grid w a css) (hs : Row w b c) (hcl : css.length ≤ 1048576) (hV : V ≤ 1048576) (hx : ∀ c ∈ css, c.length ≤ 4096 ∧ ∀ x ∈ c, Lt V x) (hl : c.length ≤ 4096) (hc : ∀ x ∈ c, -1048576 ≤ x ∧ x ≤ 1048576) :
    Calls Tryz.prog 14 #[.slice a css.length ca, .slice b c.length cb] w fun e w' => e = .returned (.bool (refF css c)) ∧ Below w.heap.size w w' := by
  obtain ⟨i0, hi, hz0, hz1, hz2⟩ := info_parts Tryz.info3
  cases hcc : c with
  | nil =>
    go_enter Tryz.func14, Tryz.ntmps14
    go_wp2
    go_ret
    exact ⟨rfl, Below.refl _ _⟩
  | cons l0 r =>
    have hrf : refF css (l0 :: r) = css.all (refF1 css c (-l0)) := by rw [hcc]; rfl
    rw [← hcc] at hrf ⊢
    have HRF := hide hrf
    have hcpos : 0 < c.length := by rw [hcc]; simp
    have hc0 : c[0] = l0 := by simp [hcc]
    have hlb := hc l0 (by rw [hcc]; simp)
    obtain ⟨hlb1, hlb2⟩ := hlb
    have hz0' : ((c.length : Int) == 0) = false := by
      rw [hcc]; simp; omega
    obtain ⟨bb, off, rfl, hbb, hcell⟩ := hs 0 hcpos
    rw [hc0, Nat.add_zero] at hcell
    have hci : (0 : Int) < c.length := by omega
    have HG := hide hg
    have HS := hide hs
    have HX := hide hx
    have HC := hide hc
    clear hg hs hx hc hcc hrf
    go_enter Tryz.func14, Tryz.ntmps14
    go_wp2
    go_loopw [5] (fun j wr => ∃ k : Nat, k ≤ css.length ∧ j = .int .i64 (k : Int) ∧ Hid ((css.take k).all (refF1 css c (-l0)) = true) ∧ Hid (Below w.heap.size w wr)) (fun j _ => css.length - (intOf j).toNat)
    case atStart => exact ⟨0, Nat.zero_le _, rfl, rfl, Below.refl _ _⟩
    case round =>
      obtain ⟨k, hk, rfl, HA, HB⟩ := hrel
      by_cases hlt : k < css.length
      · have hii : (k : Int) < css.length := by omega
        obtain ⟨gb, goff, ai, ci, rfl, hgb, hgc, hri, hli⟩ := (HG.out.below HB.out) k hlt
        have hdx := HX.out css[k] (List.getElem_mem hlt)
        have c0 : wr.cell? ⟨bb, off, none⟩ = some (.int .i64 l0) := (HB.out.cell (p := ⟨bb, off, none⟩) hbb).trans hcell
        have HT : Hid ((css.take (k + 1)).all (refF1 css c (-l0)) = refF1 css c (-l0) css[k]) := by unfold Hid; rw [List.take_succ_eq_append_getElem hlt, List.all_append, HA.out]; simp
        have HDR : Hid (refF1 css c (-l0) css[k] = false → css.all (refF1 css c (-l0)) = false) := fun h => by
          rw [List.all_eq_false]
          exact ⟨css[k], List.getElem_mem hlt, by rw [h]; simp⟩
        have CH : Hid (∀ m, Calls Tryz.prog 31 #[.slice ai css[k].length ci, .int .i64 (-l0)] (wr.drewN m) fun e w' => e = .returned (.bool (hasB css[k] (-l0))) ∧ w' = wr.drewN m) := fun m => has_any ai ci css[k] (-l0) (wr.drewN m) hri hli
        generalize css[k] = d at *
        cases hh : hasB d (-l0) with
        | false =>
          have HF : Hid (refF1 css c (-l0) d = true) := by unfold Hid refF1; rw [hh]; rfl
          rw [hh] at CH
          clear hh hri
          go_wp2
          go_quiet ((go_at_call 31; exact Calls.quiet_of_same (unhide CH _)))
          go_wp2
          go_roundw
          case rel => exact ⟨k + 1, by omega, by go_num, by unfold Hid; rw [HT.out, HF.out], bquiet HB.out _⟩
          case measure => simp [intOf]; omega
        | true =>
          rw [hh] at CH
          go_wp2
          go_quiet ((go_at_call 31; exact Calls.quiet_of_same (unhide CH _)))
          go_upto_region 7 with fail
          refine forget (P := fun W => Code.wp Tryz.prog _ _ _ W) (fun W => Hid (Below wr.heap.size wr W)) (bquiet (Below.refl _ _) _) ?_
          intro W0 HW0
          have s0 := (HW0.out.cell (p := ⟨gb, goff + k, none⟩) hgb).trans hgc
          have s1 := (HW0.out.cell (p := ⟨bb, off, none⟩) (Nat.lt_of_lt_of_le hbb HB.out.size)).trans c0
          have HRC := hide ((HS.out.below HB.out).below HW0.out)
          have HRD := hide (hri.below HW0.out)
          have HBW := hide (HB.out.trans (HW0.out.mono HB.out.size))
          have hdl := hdx.1
          have HDX := hide hdx.2
          have hgw : gb < W0.heap.size := Nat.lt_of_lt_of_le hgb HW0.out.size
          have hbw : bb < W0.heap.size := Nat.lt_of_lt_of_le hbb (Nat.le_trans HB.out.size HW0.out.size)
          have CW : Hid (∀ x, Below W0.heap.size W0 x → Calls Tryz.prog 32 #[.slice ai d.length ci, .int .i64 (-l0)] x fun e w' => ∃ g5 cap5, e = .returned (.slice (some ⟨g5, 0, none⟩) (wo d (-l0)).length cap5) ∧ Hid (Own x.heap.size w' (.slice (some ⟨g5, 0, none⟩) (wo d (-l0)).length cap5) (wo d (-l0))) ∧ Hid (Below x.heap.size x w') ∧ Hid (Below W0.heap.size W0 w') ∧ w'.cell? ⟨gb, goff + k, none⟩ = some (.slice ai d.length ci) ∧ w'.cell? ⟨bb, off, none⟩ = some (.int .i64 l0)) := fun x hx => by
            refine (refWithout_any ai ci d (-l0) x (HRD.out.below hx) (by omega)).mono ?_
            rintro e w' ⟨v, rfl, ho, hnn, hb⟩
            obtain ⟨a5, cap5, rfl, h1, h2, h3⟩ := own_form ho
            have hb0 : Below W0.heap.size W0 w' := hx.trans (hb.mono hx.size)
            rcases h3 with ⟨rfl, h4, rfl⟩ | ⟨g5, rfl, _⟩
            · exact absurd (by rw [h4]) hnn
            · exact ⟨g5, cap5, rfl, ho, hb, hb0, (hb0.cell (p := ⟨gb, goff + k, none⟩) hgw).trans s0, (hb0.cell (p := ⟨bb, off, none⟩) hbw).trans s1⟩
          have HBA := hide (((Below.refl W0.heap.size W0).alloc (Nat.le_refl _) (.cells #[] 3)).drew)
          have HBD := hide ((Below.refl W0.heap.size W0).drew)
          have hE1 : (W0.alloc (.cells #[] 3)).drew.ownsRow W0.heap.size 3 1 (.slice (some ⟨W0.heap.size, 0, none⟩) 0 0) 0 [] := own_same (own_lit0 W0 W0.heap.size (Nat.le_refl _)) (fun _ _ => rfl)
          have hRl : (wo d (-l0)).length ≤ d.length := by unfold wo; exact List.length_filter_le _ _
          have HHH := hide hh
          have HSZ := hide HW0.out.size
          clear hh hgc c0 hri CH HW0 hdx hli
          generalize hR : wo d (-l0) = R at *
          have HR := hide hR
          clear hR
          have hgne : gb ≠ W0.heap.size := Nat.ne_of_lt hgw
          have hbne : bb ≠ W0.heap.size := Nat.ne_of_lt hbw
          have hwr : IntKind.i64.wrap (-l0) = -l0 := wrap_neg (by omega) (by omega)
          go_cut [6] from 26 to 38 (fun v wx => JoinP W0 c R v wx)
          case first =>
            clear HG HS HX HC HRF HA HT HDR HBW
            go_region_held3 (fun q => q.cell? ⟨gb, goff + k, none⟩ = some (.slice ai d.length ci) ∧ q.cell? ⟨bb, off, none⟩ = some (.int .i64 l0)) (first | exact ⟨by assumption, by assumption⟩ | go_keep) (first
              | (go_at_call 32; refine (CW.out _ (by first | exact HB1.out | exact HBA.out | exact HBD.out)).mono ?_; rintro e w3 ⟨g5, cap5, rfl, HO5, HB5, HB3, r0, r1⟩; have hE3 := own_lit0 w3 W0.heap.size HB3.out.size; have HB3a := hide (HB3.out.alloc HB3.out.size (.cells #[] 3)); have q0 := (HB3a.out.cell (p := ⟨gb, goff + k, none⟩) hgw).trans s0; have q1 := (HB3a.out.cell (p := ⟨bb, off, none⟩) hbw).trans s1; try (have hE2 := own_e2 hE1 HB5.out))
              | (refine step_append_any rfl (.tmp 26) (.tmp 27) 25 rfl W0.heap.size 3 i0 (.int .i64 0) 1 8 Tryz.underlying25 hi hz0 hz1 hz2 rfl (by decide) (.slice (some ⟨W0.heap.size, 0, none⟩) 0 0) 0 [] (by rfl) hE1 (by simp) (some ⟨bb, off, none⟩) c.length cb (intC c) (by rfl) (row_src (HRC.out.below HBA.out) (by simp)) (intC_one c) (by unfold maxLen; omega) (by omega) (Below.size HBA.out) ?_; intro g1 cap1 w1 ho1 hgr1 hat1 hlt1; simp only [Nat.zero_add, List.nil_append] at ho1; have HB1 := hide (Below.grown HBA.out hgr1 (Below.size HBA.out) (fun b e => by simp [Value.ownBlock] at e; omega)); have t0 := (HB1.out.cell (p := ⟨gb, goff + k, none⟩) hgw).trans s0; have t1 := (HB1.out.cell (p := ⟨bb, off, none⟩) hbw).trans s1)
              | (refine step_append_any rfl (.tmp 26) (.tmp 27) 25 rfl W0.heap.size 3 i0 (.int .i64 0) 1 8 Tryz.underlying25 hi hz0 hz1 hz2 rfl (by decide) (.slice (some ⟨W0.heap.size, 0, none⟩) 0 0) 0 [] (by rfl) hE2 (by simp) (some ⟨bb, off, none⟩) c.length cb (intC c) (by rfl) (row_src (HRC.out.below HB3.out) (by simp)) (intC_one c) (by unfold maxLen; omega) (by omega) (Below.size HB3.out) ?_; intro g1 cap1 w1 ho1 hgr1 hat1 hlt1; simp only [Nat.zero_add, List.nil_append] at ho1; have HB1 := hide (Below.grown HB3.out hgr1 (Below.size HB3.out) (fun b e => by simp [Value.ownBlock] at e; omega)); have t0 := (HB1.out.cell (p := ⟨gb, goff + k, none⟩) hgw).trans s0; have t1 := (HB1.out.cell (p := ⟨bb, off, none⟩) hbw).trans s1)
              | (refine step_append_any rfl (.tmp 26) (.tmp 27) 25 rfl W0.heap.size 3 i0 (.int .i64 0) 1 8 Tryz.underlying25 hi hz0 hz1 hz2 rfl (by decide) (.slice (some ⟨w3.heap.size, 0, none⟩) 0 0) 0 [] (by rfl) hE3 (by simp) (some ⟨bb, off, none⟩) c.length cb (intC c) (by rfl) (row_src (HRC.out.below HB3a.out) (by simp)) (intC_one c) (by unfold maxLen; omega) (by omega) (Below.size HB3a.out) ?_; intro g1 cap1 w1 ho1 hgr1 hat1 hlt1; simp only [Nat.zero_add, List.nil_append] at ho1; have HB1 := hide (Below.grown HB3a.out hgr1 (Below.size HB3a.out) (fun b e => by simp [Value.ownBlock] at e; have := HB3.out.size; omega)); have t0 := (HB1.out.cell (p := ⟨gb, goff + k, none⟩) hgw).trans s0; have t1 := (HB1.out.cell (p := ⟨bb, off, none⟩) hbw).trans s1)
              | (refine step_append_any rfl (.tmp 28) (.tmp 37) 25 rfl W0.heap.size 3 i0 (.int .i64 0) 1 8 Tryz.underlying25 hi hz0 hz1 hz2 rfl (by decide) (.slice (some ⟨g1, 0, none⟩) c.length cap1) c.length (intC c) (by rfl) (own_after ho1 HB5.out) (by simp) (some ⟨g5, 0, none⟩) R.length cap5 (R.map (Value.int .i64)) (by rfl) (own_src HO5.out) (intC_one R) (by unfold maxLen; omega) (by omega) (Below.size HB3.out) ?_; intro g9 cap9 w9 ho9 hgr9 hat9 hlt9; have HJ := hide (join_fin (w0 := W0) HB3.out (own_after ho1 HB5.out) hgr9 ho9); have hb9 := join_bel HJ.out; have u0 := (hb9.cell (p := ⟨gb, goff + k, none⟩) hgw).trans s0; have u1 := (hb9.cell (p := ⟨bb, off, none⟩) hbw).trans s1; clear hb9)
              | (refine step_append_any rfl (.tmp 28) (.tmp 37) 25 rfl W0.heap.size 3 i0 (.int .i64 0) 1 8 Tryz.underlying25 hi hz0 hz1 hz2 rfl (by decide) (.slice (some ⟨g1, 0, none⟩) c.length cap1) c.length (intC c) (by rfl) ho1 (by simp) (some ⟨g5, 0, none⟩) R.length cap5 (R.map (Value.int .i64)) (by rfl) (own_src (src2 HO5.out hgr1)) (intC_one R) (by unfold maxLen; omega) (by omega) (Below.size HB1.out) ?_; intro g9 cap9 w9 ho9 hgr9 hat9 hlt9; have HJ := hide (join_fin (w0 := W0) HB1.out ho1 hgr9 ho9); have hb9 := join_bel HJ.out; have u0 := (hb9.cell (p := ⟨gb, goff + k, none⟩) hgw).trans s0; have u1 := (hb9.cell (p := ⟨bb, off, none⟩) hbw).trans s1; clear hb9)
              | (refine step_append_any rfl (.tmp 28) (.tmp 37) 25 rfl W0.heap.size 3 i0 (.int .i64 0) 1 8 Tryz.underlying25 hi hz0 hz1 hz2 rfl (by decide) (.slice (some ⟨g1, 0, none⟩) c.length cap1) c.length (intC c) (by rfl) ho1 (by simp) (some ⟨g5, 0, none⟩) R.length cap5 (R.map (Value.int .i64)) (by rfl) (own_src (src3 HO5.out hgr1)) (intC_one R) (by unfold maxLen; omega) (by omega) (Below.size HB1.out) ?_; intro g9 cap9 w9 ho9 hgr9 hat9 hlt9; have HJ := hide (join_fin (w0 := W0) HB1.out ho1 hgr9 ho9); have hb9 := join_bel HJ.out; have u0 := (hb9.cell (p := ⟨gb, goff + k, none⟩) hgw).trans s0; have u1 := (hb9.cell (p := ⟨bb, off, none⟩) hbw).trans s1; clear hb9))
            all_goals
              go_wp2_with fail
              go_meet
              case rel => exact HJ.out
          case rest =>
          obtain ⟨g9, cap9, rfl, hrow9, hb9⟩ := hcut
          rename World => wx
          have HBX : Hid (Below w.heap.size w wx) := HBW.out.trans (hb9.mono HBW.out.size)
          have HF1 : Hid (refF1 css c (-l0) d = (decide (c.length + R.length ≤ 4096) && refU css (c ++ R))) := by unfold Hid refF1; rw [HHH.out, HR.out]; rfl
          have hRx : ∀ x ∈ R, -1048576 ≤ x ∧ x ≤ 1048576 := by
            intro x hx
            rw [← HR.out] at hx
            have := HDX.out x (List.mem_filter.1 hx).1
            unfold Lt at this; omega
          by_cases hbig : 4096 < c.length + R.length
          · have hbi : (4096 : Int) < (c.length : Int) + (R.length : Int) := by omega
            have HFF : Hid (refF css c = false) := by
              unfold Hid
              rw [HRF.out]
              refine HDR.out ?_
              rw [HF1.out, decide_eq_false (by omega)]; rfl
            clear HT HDR CW hrow9 hb9 s0 s1 hE1 HG HS HX HC
            go_wp2
            go_ret
            exact ⟨ret_bool HFF.out.symm, HBX.out⟩
          · have hbi : ¬ (4096 : Int) < (c.length : Int) + (R.length : Int) := by omega
            have CU := refUnit7_any (some ⟨gb, goff, none⟩) (some ⟨g9, 0, none⟩) ca cap9 css (c ++ R) V wx (HG.out.below HBX.out) hrow9 hcl hV (fun x hx => ⟨by have := (HX.out x hx).1; omega, (HX.out x hx).2⟩) (by rw [List.length_append]; omega) (fun x hx => by
              rcases List.mem_append.1 hx with h | h
              · exact HC.out x h
              · exact hRx x h)
            rw [List.length_append] at CU
            have HF2 : Hid (refF1 css c (-l0) d = refU css (c ++ R)) := by unfold Hid; rw [HF1.out, decide_eq_true (by omega)]; rfl
            clear CW hrow9 hb9 s0 s1 hE1 hRx HS HX HC HF1
            cases hU : refU css (c ++ R) with
            | false =>
              rw [hU] at CU HF2
              replace CU := hide CU
              have HFF : Hid (refF css c = false) := by unfold Hid; rw [HRF.out]; exact HDR.out HF2.out
              clear HT HDR hU
              go_wp2_with (go_at_call 13; refine (unhide CU).mono ?_; rintro e w7 ⟨rfl, hb7⟩)
              go_ret
              exact ⟨ret_bool HFF.out.symm, HBX.out.trans (hb7.mono HBX.out.size)⟩
            | true =>
              rw [hU] at CU HF2
              replace CU := hide CU
              have HTT : Hid ((css.take (k + 1)).all (refF1 css c (-l0)) = true) := by unfold Hid; rw [HT.out, HF2.out]
              clear HT HDR hU
              go_wp2_with (go_at_call 13; refine (unhide CU).mono ?_; rintro e w7 ⟨rfl, hb7⟩)
              have HB7 := hide (HBX.out.trans (hb7.mono HBX.out.size))
              clear hb7
              go_wp2
              go_roundw
              case rel => exact ⟨k + 1, by omega, by go_num, HTT, HB7⟩
              case measure => simp [intOf]; omega
      · obtain rfl : k = css.length := by omega
        have HFF : Hid (refF css c = true) := by
          unfold Hid
          rw [HRF.out]
          have := HA.out
          rw [List.take_length] at this
          exact this
        clear HA
        go_wp2
        go_ret
        exact ⟨ret_bool HFF.out.symm, HB.out⟩
end Go.Proofs.YtlmbgaconjcaiaaGreat

namespace Go.Proofs.YtlmbgaconjcaiaaGreat

theorem taut_con (c : List Int) : tautB c = true ↔ ¬ Con c := by
  unfold tautB Con hasB
  rw [List.any_eq_true]
  constructor
  · rintro ⟨x, hx, h⟩ hn
    rw [List.any_eq_true] at h
    obtain ⟨y, hy, e⟩ := h
    obtain rfl : y = -x := by simpa using e
    exact hn x hx hy
  · intro h
    by_cases h2 : ∃ x ∈ c, (c.any fun y => y == -x) = true
    · exact h2
    · exfalso
      apply h
      intro x hx hy
      exact h2 ⟨x, hx, by rw [List.any_eq_true]; exact ⟨-x, hy, by simp⟩⟩

theorem alv_keys {t : PS} {css : List (List Int)} (h : t.cls.map key = css.map (fun c => (c, false))) : Alv t css := by
  intro L
  constructor
  · intro hL
    obtain ⟨i, hi⟩ := List.mem_iff_getElem?.1 hL
    obtain ⟨c, c1, c2, c3⟩ := keys_get h (i := i) (k := (L, false)) (by rw [List.getElem?_map, hi]; rfl)
    exact ⟨i, c, c1, c3, c2⟩
  · rintro ⟨i, c, h1, h2, rfl⟩
    have q := keys_at h h1
    rw [List.getElem?_map] at q
    cases e : css[i]? with
    | none => rw [e] at q; cases q
    | some d =>
      rw [e] at q
      simp at q
      rw [← q.1]
      exact List.mem_of_getElem? e

theorem te_ref {sp : Nat} {css : List (List Int)} {cl : List Int} {b : Bool} (h : TE sp css cl b) (hl : css.length ≤ 100000) (hs : ∀ d ∈ css, ∀ x ∈ d, x ≠ 0 ∧ (sp ≠ 0 → -x ≠ (sp : Int))) (hc : ∀ x ∈ cl, x ≠ 0 ∧ (sp ≠ 0 → x ≠ (sp : Int))) : refU css cl = b := by
  obtain ⟨t, ds, hI, hk, h1, h0, hd, hT⟩ := h
  unfold refU
  cases ht : tautB cl with
  | true => rw [told_taut hI hT ((taut_con cl).1 ht)]; rfl
  | false =>
    have hcon : Con cl := by
      by_cases h : Con cl
      · exact h
      · rw [(taut_con cl).2 h] at ht; cases ht
    show (followsP css 100001 (cl.map fun x => -x)).2 = b
    by_cases hz : sp = 0
    · refine told_ref hI (alv_keys hk) (sp := 0) hT hcon (fun d hd' x hx e => (hs d hd' x hx).1 (by omega)) (fun x hx => (hc x hx).1) (fun x hx => ?_) (by omega)
      rw [h0 hz] at hx
      exact .inl (hd x hx)
    · refine told_ref hI (alv_keys hk) (sp := (sp : Int)) hT hcon (fun d hd' x hx => (hs d hd' x hx).2 hz) (fun x hx => (hc x hx).2 hz) (fun x hx => ?_) (by omega)
      rw [h1 hz] at hx
      rcases List.mem_cons.1 hx with h | h
      · exact .inr h
      · exact .inl (hd x h)

theorem spare_ne {V : Nat} {c : List Int} {x : Int} (hx : (-(V : Int) ≤ x ∧ x ≤ V) ∨ x ∈ c) (h : spareN V [⟨false, c⟩] ≠ 0) : x ≠ (spareN V [⟨false, c⟩] : Int) ∧ -x ≠ (spareN V [⟨false, c⟩] : Int) := by
  have h1 := (le_topN V [⟨false, c⟩]).1
  have h2 := (le_topN V [⟨false, c⟩]).2 _ (List.mem_singleton_self _)
  simp only at h2
  have e : spareN V [⟨false, c⟩] = topN V [⟨false, c⟩] + 1 := by
    unfold spareN at h ⊢
    split
    · rfl
    · rename_i hh; rw [if_neg hh] at h; exact absurd rfl h
  rw [e]
  rcases hx with hx | hx
  · omega
  · have := le_gtN x hx
    omega

/-- Unit tells what the document tells. -/
theorem unit_ref {V : Nat} {css : List (List Int)} {c : List Int} {b : Bool} (h : UnitE V css c b) (hl : css.length ≤ 100000) (hc : cnfB V css = true) (hm : mayB c 1048576 = true) : refU css c = b := by
  have hlt := cnf_lt hc
  refine te_ref (sp := spareN V [⟨false, c⟩]) h hl (fun d hd x hx => ⟨((hlt d hd).2 x hx).1, fun hz => (spare_ne (.inl (by have := (hlt d hd).2 x hx; unfold Lt at this; omega)) hz).2⟩) (fun x hx => ⟨(may_lits hm x hx).1, fun hz => (spare_ne (.inr hx) hz).1⟩)

/-- First tells what the document tells. -/
theorem first_ref {V : Nat} {css : List (List Int)} {c : List Int} {b : Bool} (h : (c = [] ∧ b = false) ∨ ∃ l0, c[0]? = some l0 ∧ FirstE (spareN V [⟨false, c⟩]) css c (-l0) b) (hl : css.length ≤ 100000) (hc : cnfB V css = true) (hm : mayB c 1048576 = true) : refF css c = b := by
  rcases h with ⟨rfl, rfl⟩ | ⟨l0, h0, hF⟩
  · rfl
  · have hlt := cnf_lt hc
    have hte : ∀ d ∈ css, ∀ b', TE (spareN V [⟨false, c⟩]) css (c ++ wo d (-l0)) b' → refU css (c ++ wo d (-l0)) = b' := by
      intro d hd b' hT
      refine te_ref hT hl (fun d hd x hx => ⟨((hlt d hd).2 x hx).1, fun hz => (spare_ne (.inl (by have := (hlt d hd).2 x hx; unfold Lt at this; omega)) hz).2⟩) (fun x hx => ?_)
      rcases List.mem_append.1 hx with hx | hx
      · exact ⟨(may_lits hm x hx).1, fun hz => (spare_ne (.inr hx) hz).1⟩
      · have hx' := (List.mem_filter.1 hx).1
        exact ⟨((hlt d hd).2 x hx').1, fun hz => (spare_ne (.inl (by have := (hlt d hd).2 x hx'; unfold Lt at this; omega)) hz).1⟩
    have hrf : refF css c = css.all (refF1 css c (-l0)) := by
      cases c with
      | nil => simp at h0
      | cons l r => simp at h0; subst h0; rfl
    have hhas : ∀ d : List Int, hasB d (-l0) = true ↔ -l0 ∈ d := by
      intro d
      unfold hasB
      rw [List.any_eq_true]
      constructor
      · rintro ⟨y, hy, e⟩; obtain rfl : y = -l0 := by simpa using e
        exact hy
      · intro hy; exact ⟨_, hy, by simp⟩
    rw [hrf]
    rcases hF with ⟨rfl, hF⟩ | ⟨rfl, d, hd, hld, hF⟩
    · rw [List.all_eq_true]
      intro d hd
      unfold refF1
      cases hh : hasB d (-l0) with
      | false => rfl
      | true =>
        obtain ⟨a1, a2⟩ := hF d hd ((hhas d).1 hh)
        rw [hte d hd true a2, decide_eq_true a1]; rfl
    · rw [List.all_eq_false]
      refine ⟨d, hd, ?_⟩
      unfold refF1
      rw [(hhas d).2 hld]
      rcases hF with hF | hF
      · rw [decide_eq_false (by omega)]; simp
      · rw [hte d hd false hF]; simp
end Go.Proofs.YtlmbgaconjcaiaaGreat

namespace Go.Proofs.YtlmbgaconjcaiaaGreat
open Go.RowKit

/-- A region that draws its order, its worlds all of one kind. -/
theorem wp_region_class {P : Program} {C : World → Prop} {id : Nat} {Q : Exit → Act → World → Prop} {a : Act} {w : World} {l : List Oper} (hm : P.follows .mixedOrders = true) (hB : Region.lexB .any l.toArray = true) (hC : C { w with drawn := w.drawn + 1 })
    (h : wpQuiet P l.toArray C (fun a' => ∀ w', C w' → Q .normal a' w') l a) : (Code.region id l.toArray true).wp P Q a w :=
  wp_region_quiet (C := C) hm hB hC (by simpa using h)

/-- The formula in its box, behind what was there. -/
structure Bw (w W : World) (X : Nat) (n : Int) (v : Value) : Prop where
  box : W.heap[X]? = some (.cells #[.int .i64 n, v] 24 (0, 0))
  bel : Below w.heap.size w W
structure BwW (w : World) (X : Nat) (n : Int) (v : Value) where
  W : World
  h : Bw w W X n v
section
variable {w W W' : World} {X : Nat} {n : Int} {v : Value}
theorem Bw.c0 (h : Bw w W X n v) : W.cell? ⟨X, 0, none⟩ = some (.int .i64 n) := cell_of_block h.box rfl
theorem Bw.c1 (h : Bw w W X n v) : W.cell? ⟨X, 1, none⟩ = some v := cell_of_block h.box rfl
theorem Bw.below (h : Bw w W X n v) (hb : Below W.heap.size W W') : Bw w W' X n v := ⟨(hb.block X (lt_of_block h.box)).trans h.box, h.bel.trans (hb.mono h.bel.size)⟩
theorem Bw.drewN (h : Bw w W X n v) (m : Nat) : Bw w (W.drewN m) X n v := ⟨h.box, bquiet h.bel m⟩
end
theorem bw_new (w : World) (n : Int) (v : Value) : Bw w (w.alloc (.cells #[.int .i64 n, v] 24)) w.heap.size n v := ⟨heap_alloc_new w _, below_alloc w _⟩

set_option maxHeartbeats 1000000 in
theorem broken_yes (a : Option Addr) (cap : Nat) (V : Nat) (css : List (List Int)) (w : World) (hg : GridC w a css) (hl : css.length ≤ 900) (hc : cnfB V css = true) :
    Calls Tryz.prog 15 #[.agg #[.int .i64 V, .slice a css.length cap]] w fun e w' => e = .returned (.bool (refU css [])) ∧ Below w.heap.size w w' := by
  have hb0 : Below w.heap.size w (w.alloc (.cells #[.int .i64 V, .slice a css.length cap] 24)) := below_alloc w _
  have GU : Hid (Calls Tryz.prog 11 #[.agg #[.int .i64 V, .slice a css.length cap], .slice none 0 0] (w.alloc (.cells #[.int .i64 V, .slice a css.length cap] 24)) fun e w' => e = .returned (.bool (refU css [])) ∧ Below w.heap.size w w') := by
    refine (unit_yes a none cap 0 V css [] _ (hg.below hb0) hl (fun i hi => by simp at hi) (by simp) (fun _ => rfl) hc (by decide)).mono ?_
    rintro e w' ⟨b, rfl, ⟨_, hE⟩, hb⟩
    exact ⟨by rw [unit_ref hE (by omega) hc (by decide)], hb0.trans (hb.mono hb0.size)⟩
  clear hg hc hb0
  go_enter Tryz.func15, Tryz.ntmps15
  go_wp2_with (go_at_call 11; refine (unhide GU).mono ?_; rintro e w1 ⟨rfl, hb1⟩)
  go_ret
  exact ⟨rfl, hb1⟩

set_option maxHeartbeats 8000000 in
set_option maxRecDepth 100000 in
theorem units_any (w : World) (a ac : Option Addr) (cap cac : Nat) (n : Int) (css : List (List Int)) (c : List Int) (hg : GridC w a css) (hl : css.length ≤ maxLen) (hr : Row w ac c) (hlc : c.length ≤ maxLen) (hn : ac = none → cac = 0) :
    Calls Tryz.prog 3 #[.agg #[.int .i64 n, .slice a css.length cap], .slice ac c.length cac] w fun e w' => e = .returned (.bool true) ∧ Below w.heap.size w w' := by
  have B0 := bw_new w n (.slice a css.length cap)
  have G1 := small_any a cap n css _ (hg.grid.below B0.bel) hl
  have GS : ∀ W, Calls Tryz.prog 7 #[.slice ac c.length cac] W fun e w' => e = .returned (.bool (decide ((c.length : Int) ≤ 60))) ∧ w' = W := fun W => short_any ac cac c W hlc
  have GA : Hid (∀ W, Calls Tryz.prog 8 #[] W fun e w' => e = .returned (.bool true) ∧ Below W.heap.size W w') := fun W => rupAwake_any W
  have HG := hide hg
  have HR := hide hr
  have HB0 := hide B0
  clear hg hr B0
  cases hsm : (lightB css && decide (css.length ≤ 40)) with
  | false =>
    rw [hsm] at G1
    replace G1 := hide G1
    clear GS hsm
    go_enter Tryz.func3, Tryz.ntmps3
    go_wp2_with (first | (go_at_call 6; refine (unhide G1).mono ?_; rintro e w1 ⟨rfl, hb1⟩) | (go_at_call 8; refine (unhide GA _).mono ?_; rintro e w2 ⟨rfl, hb2⟩))
    go_ret
    have h1 := (HB0.out.below hb1).below hb2
    exact ⟨rfl, h1.bel⟩
  | true =>
    rw [hsm] at G1
    replace G1 := hide G1
    have hcss : css.length ≤ 40 := by simp at hsm; exact hsm.2
    clear hsm
    by_cases hsh : (c.length : Int) ≤ 60
    · have hc60 : c.length ≤ 60 := by omega
      rw [decide_eq_true hsh] at GS
      replace GS := hide GS
      clear hsh
      have GC : ∀ W, Bw w W w.heap.size n (.slice a css.length cap) → Calls Tryz.prog 9 #[.agg #[.int .i64 n, .slice a css.length cap]] W fun e w' => e = .returned (.bool (cnfB n css)) ∧ Below W.heap.size W w' := fun W hW => refCnf_any a cap n css W ((HG.out.below hW.bel).grid) hl
      have GM : ∀ W, Bw w W w.heap.size n (.slice a css.length cap) → Calls Tryz.prog 10 #[.slice ac c.length cac] W fun e w' => e = .returned (.bool (mayB c 1048576)) ∧ w' = W := fun W hW => may_any ac cac c W (HR.out.below hW.bel) hlc
      by_cases hyes : cnfB n css = true ∧ mayB c 1048576 = true
      · obtain ⟨h1, h2⟩ := hyes
        rw [h1] at GC
        rw [h2] at GM
        replace GC := hide GC
        replace GM := hide GM
        obtain ⟨V, rfl⟩ : ∃ V : Nat, n = (V : Int) := ⟨n.toNat, by unfold cnfB at h1; simp only [Bool.and_eq_true, decide_eq_true_eq] at h1; omega⟩
        have hV : V ≤ 1048576 := by unfold cnfB at h1; simp only [Bool.and_eq_true, decide_eq_true_eq] at h1; omega
        have hlt := cnf_lt h1
        have hcx : ∀ x ∈ c, -1048576 ≤ x ∧ x ≤ 1048576 := fun x hx => (may_lits h2 x hx).2
        have GU : Hid (∀ W, Bw w W w.heap.size V (.slice a css.length cap) → Calls Tryz.prog 11 #[.agg #[.int .i64 V, .slice a css.length cap], .slice ac c.length cac] W fun e w' => e = .returned (.bool (refU css c)) ∧ Below W.heap.size W w') := fun W hW => by
          refine (unit_yes a ac cap cac V css c W (HG.out.below hW.bel) (by omega) (HR.out.below hW.bel) (by omega) hn h1 h2).mono ?_
          rintro e w' ⟨b, rfl, ⟨_, hE⟩, hb⟩
          exact ⟨by rw [unit_ref hE (by omega) h1 h2], hb⟩
        have GF : Hid (∀ W, Bw w W w.heap.size V (.slice a css.length cap) → Calls Tryz.prog 12 #[.agg #[.int .i64 V, .slice a css.length cap], .slice ac c.length cac] W fun e w' => e = .returned (.bool (refF css c)) ∧ Below W.heap.size W w') := fun W hW => by
          refine (first_yes a ac cap cac V css c W (HG.out.below hW.bel) (by omega) (HR.out.below hW.bel) (by omega) hn h1 h2).mono ?_
          rintro e w' ⟨b, rfl, hE, hb⟩
          exact ⟨by rw [first_ref hE (by omega) h1 h2], hb⟩
        have GB : Hid (∀ W, Bw w W w.heap.size V (.slice a css.length cap) → Calls Tryz.prog 15 #[.agg #[.int .i64 V, .slice a css.length cap]] W fun e w' => e = .returned (.bool (refU css [])) ∧ Below W.heap.size W w') := fun W hW => broken_yes a cap V css W (HG.out.below hW.bel) (by omega) h1
        have GR : Hid (∀ W, Bw w W w.heap.size V (.slice a css.length cap) → Calls Tryz.prog 14 #[.slice a css.length cap, .slice ac c.length cac] W fun e w' => e = .returned (.bool (refF css c)) ∧ Below W.heap.size W w') := fun W hW => refFirst7_any a ac cap cac css c V W ((HG.out.below hW.bel).grid) (HR.out.below hW.bel) (by omega) hV (fun d hd => ⟨by have := (hlt d hd).1; omega, (hlt d hd).2⟩) (by omega) hcx
        have GV : Hid (∀ W v u, Bw w W w.heap.size V (.slice a css.length cap) → ((v = .slice ac c.length cac ∧ u = refU css c) ∨ (v = .slice none 0 0 ∧ u = refU css [])) → Calls Tryz.prog 13 #[.slice a css.length cap, v] W fun e w' => e = .returned (.bool u) ∧ Below W.heap.size W w') := fun W v u hW hv => by
          rcases hv with ⟨rfl, rfl⟩ | ⟨rfl, rfl⟩
          · exact refUnit7_any a ac cap cac css c V W ((HG.out.below hW.bel).grid) (HR.out.below hW.bel) (by omega) hV (fun d hd => ⟨by have := (hlt d hd).1; omega, (hlt d hd).2⟩) (by omega) hcx
          · exact refUnit7_any a none cap 0 css [] V W ((HG.out.below hW.bel).grid) (fun i hi => by simp at hi) (by omega) hV (fun d hd => ⟨by have := (hlt d hd).1; omega, (hlt d hd).2⟩) (by simp) (by simp)
        clear h1 h2 hlt hcx
        generalize hu2 : refU css [] = u2 at *
        generalize hu1 : refU css c = u1 at *
        generalize hf : refF css c = f at *
        clear hu1 hu2 hf
        go_enter Tryz.func3, Tryz.ntmps3
        go_upto_region 5 with (first
          | (go_at_call 6; refine (unhide G1).mono ?_; rintro e w1 ⟨rfl, hb1⟩; have B1 := hide (HB0.out.below hb1); have x0 := B1.out.c0; have x1 := B1.out.c1; clear hb1)
          | (go_at_call 7; refine (unhide GS _).mono ?_; rintro e w0 ⟨rfl, hw0⟩; subst w0)
          | (go_at_call 9; refine (unhide GC _ B1.out).mono ?_; rintro e w2 ⟨rfl, hb2⟩; have B2 := hide (B1.out.below hb2); clear hb2)
          | (go_at_call 10; refine (unhide GM _ B2.out).mono ?_; rintro e w0 ⟨rfl, hw0⟩; subst w0))
        generalize hX : w.heap.size = X at *
        have HX := hide hX
        clear hX x0 x1 B1 G1 GS GC GM HB0
        have k0 : ∀ p : BwW w X V (.slice a css.length cap), p.W.cell? ⟨X, 0, none⟩ = some (.int .i64 V) := fun p => p.h.c0
        have k1 : ∀ p : BwW w X V (.slice a css.length cap), p.W.cell? ⟨X, 1, none⟩ = some (.slice a css.length cap) := fun p => p.h.c1
        have inst : Nonempty (BwW w X V (.slice a css.length cap)) := ⟨⟨_, B2.out⟩⟩
        refine wp_region_class (C := fun W' => ∃ p : BwW w X V (.slice a css.length cap), W' = p.W) (by kernel_rfl) (by kernel_rfl) ⟨⟨_, B2.out.drewN 1⟩, rfl⟩ ?_
        cases u1 <;> cases u2 <;> cases f
        all_goals
          repeat (go_big_quiet_step ((first
            | (go_at_call 11; rename_i p; refine (unhide GU p.W p.h).mono ?_; rintro e w3 ⟨rfl, hb3⟩; exact ⟨rfl, ⟨_, p.h.below hb3⟩, rfl⟩)
            | (go_at_call 12; rename_i p; refine (unhide GF p.W p.h).mono ?_; rintro e w3 ⟨rfl, hb3⟩; exact ⟨rfl, ⟨_, p.h.below hb3⟩, rfl⟩)
            | (go_at_call 13; rename_i p; refine (unhide GV p.W _ _ p.h (by first | exact Or.inl ⟨rfl, rfl⟩ | exact Or.inr ⟨rfl, rfl⟩)).mono ?_; rintro e w3 ⟨rfl, hb3⟩; exact ⟨rfl, ⟨_, p.h.below hb3⟩, rfl⟩)
            | (go_at_call 14; rename_i p; refine (unhide GR p.W p.h).mono ?_; rintro e w3 ⟨rfl, hb3⟩; exact ⟨rfl, ⟨_, p.h.below hb3⟩, rfl⟩)
            | (go_at_call 15; rename_i p; refine (unhide GB p.W p.h).mono ?_; rintro e w3 ⟨rfl, hb3⟩; exact ⟨rfl, ⟨_, p.h.below hb3⟩, rfl⟩)
            | (go_at_call 8; rename_i p; refine (unhide GA p.W).mono ?_; rintro e w3 ⟨rfl, hb3⟩; exact ⟨rfl, ⟨_, p.h.below hb3⟩, rfl⟩))))
          refine wpQuiet_nil ?_
          rintro _ ⟨p, rfl⟩
          go_wp2_with fail
          go_ret
          have hbel := p.h.bel
          rw [HX.out] at hbel ⊢
          exact ⟨rfl, hbel⟩
      · have hno : cnfB n css = false ∨ (cnfB n css = true ∧ mayB c 1048576 = false) := by
          cases h1 : cnfB n css
          · exact .inl rfl
          · cases h2 : mayB c 1048576
            · exact .inr ⟨rfl, rfl⟩
            · exact absurd ⟨h1, h2⟩ hyes
        have GU : Hid (∀ W, Bw w W w.heap.size n (.slice a css.length cap) → Calls Tryz.prog 11 #[.agg #[.int .i64 n, .slice a css.length cap], .slice ac c.length cac] W fun e w' => e = .returned (.bool false) ∧ Below W.heap.size W w') := fun W hW => unit_no a ac cap cac n css c W ((HG.out.below hW.bel).grid) hl (HR.out.below hW.bel) hlc hn hno
        have GF : Hid (∀ W, Bw w W w.heap.size n (.slice a css.length cap) → Calls Tryz.prog 12 #[.agg #[.int .i64 n, .slice a css.length cap], .slice ac c.length cac] W fun e w' => e = .returned (.bool false) ∧ Below W.heap.size W w') := fun W hW => first_no a ac cap cac n css c W ((HG.out.below hW.bel).grid) hl (HR.out.below hW.bel) hlc hn hno
        rcases hno with h1 | ⟨h1, h2⟩
        · rw [h1] at GC
          replace GC := hide GC
          clear h1 GM hyes
          go_enter Tryz.func3, Tryz.ntmps3
          go_wp2_with (first
            | (go_at_call 6; refine (unhide G1).mono ?_; rintro e w1 ⟨rfl, hb1⟩; have B1 := hide (HB0.out.below hb1); have x0 := B1.out.c0; have x1 := B1.out.c1; clear hb1)
            | (go_at_call 7; refine (unhide GS _).mono ?_; rintro e w0 ⟨rfl, hw0⟩; subst w0)
            | (go_at_call 9; refine (unhide GC _ B1.out).mono ?_; rintro e w2 ⟨rfl, hb2⟩; have B2 := hide (B1.out.below hb2); have y0 := B2.out.c0; have y1 := B2.out.c1; clear hb2)
            | (go_at_call 11; refine (unhide GU _ B2.out).mono ?_; rintro e w3 ⟨rfl, hb3⟩; have B3 := hide (B2.out.below hb3); have z0 := B3.out.c0; have z1 := B3.out.c1; clear hb3)
            | (go_at_call 12; refine (unhide GF _ B3.out).mono ?_; rintro e w4 ⟨rfl, hb4⟩; have B4 := hide (B3.out.below hb4); clear hb4)
            | (go_at_call 8; refine (unhide GA _).mono ?_; rintro e w5 ⟨rfl, hb5⟩))
          go_ret
          exact ⟨rfl, (B4.out.below hb5).bel⟩
        · rw [h1] at GC
          rw [h2] at GM
          replace GC := hide GC
          replace GM := hide GM
          clear h1 h2 hyes
          go_enter Tryz.func3, Tryz.ntmps3
          go_wp2_with (first
            | (go_at_call 6; refine (unhide G1).mono ?_; rintro e w1 ⟨rfl, hb1⟩; have B1 := hide (HB0.out.below hb1); have x0 := B1.out.c0; have x1 := B1.out.c1; clear hb1)
            | (go_at_call 7; refine (unhide GS _).mono ?_; rintro e w0 ⟨rfl, hw0⟩; subst w0)
            | (go_at_call 9; refine (unhide GC _ B1.out).mono ?_; rintro e w2 ⟨rfl, hb2⟩; have B2 := hide (B1.out.below hb2); have y0 := B2.out.c0; have y1 := B2.out.c1; clear hb2)
            | (go_at_call 10; refine (unhide GM _ B2.out).mono ?_; rintro e w0 ⟨rfl, hw0⟩; subst w0)
            | (go_at_call 11; refine (unhide GU _ B2.out).mono ?_; rintro e w3 ⟨rfl, hb3⟩; have B3 := hide (B2.out.below hb3); have z0 := B3.out.c0; have z1 := B3.out.c1; clear hb3)
            | (go_at_call 12; refine (unhide GF _ B3.out).mono ?_; rintro e w4 ⟨rfl, hb4⟩; have B4 := hide (B3.out.below hb4); clear hb4)
            | (go_at_call 8; refine (unhide GA _).mono ?_; rintro e w5 ⟨rfl, hb5⟩))
          go_ret
          exact ⟨rfl, (B4.out.below hb5).bel⟩
    · rw [decide_eq_false hsh] at GS
      replace GS := hide GS
      clear hsh
      go_enter Tryz.func3, Tryz.ntmps3
      go_wp2_with (first | (go_at_call 6; refine (unhide G1).mono ?_; rintro e w1 ⟨rfl, hb1⟩) | (go_at_call 7; refine (unhide GS _).mono ?_; rintro e w0 ⟨rfl, hw0⟩; subst w0) | (go_at_call 8; refine (unhide GA _).mono ?_; rintro e w2 ⟨rfl, hb2⟩))
      go_ret
      have h1 := (HB0.out.below hb1).below hb2
      exact ⟨rfl, h1.bel⟩
end Go.Proofs.YtlmbgaconjcaiaaGreat
