/- Joined: Contracts: the library's IndexFunc and DeleteFunc, of what was dropped. Contracts: the library's IndexFunc and DeleteFunc, of watches of what was dropped. Contracts: what was dropped is taken out of all lists. Contracts: the sweep. Contracts: a clause is dropped; a clause is added. What is told where a short proof is looked at: plain. -/
import Derived.Test.YtlmbgaconjcaiaaGreatGh
import Derived.Test.YtlmbgaconjcaiaaGreatGi
import Derived.Test.YtlmbgaconjcaiaaGreatPlainN
import Derived.Deep.RegionHeld3
import Derived.Deep.RegionWith
import Derived.Test.YtlmbgaconjcaiaaGreatIdAll
import Derived.Test.YtlmbgaconjcaiaaGreatPlainQ
import Derived.Test.YtlmbgaconjcaiaaGreatHdAll
import Derived.BigQuiet
import Derived.Deep.DeepCutAuto
import Derived.Test.YtlmbgaconjcaiaaGreatPlainO
set_option linter.unusedVariables false
set_option linter.unusedSimpArgs false
namespace Go.Proofs.YtlmbgaconjcaiaaGreat
open Go.RowKit

set_option maxRecDepth 100000 in
set_option maxHeartbeats 400000 in
theorem isGone_cell (w : World) (b : Nat) (r : Bool) (o4 : w.cell? ⟨b, 4, none⟩ = some (.bool r)) :
    Calls Tryz.prog 95 #[.pointer (some ⟨b, 0, none⟩)] w fun e w' => e = .returned (.bool r) ∧ w' = w := by
  go_enter Tryz.func95, Tryz.ntmps95
  go_wp2
  go_ret
  exact ⟨rfl, rfl⟩

set_option maxRecDepth 100000 in
set_option maxHeartbeats 400000 in
theorem isGoneW_cell (w : World) (b : Nat) (r : Bool) (o4 : w.cell? ⟨b, 4, none⟩ = some (.bool r)) (hlt : b < w.heap.size) (hint : Int) :
    Calls Tryz.prog 93 #[.agg #[.pointer (some ⟨b, 0, none⟩), .int .i64 hint]] w fun e w' => e = .returned (.bool r) ∧ w' = w.alloc (.cells #[.pointer (some ⟨b, 0, none⟩), .int .i64 hint] 108) := by
  have hne : b ≠ w.heap.size := by omega
  go_enter Tryz.func93, Tryz.ntmps93
  go_wp2
  go_ret
  exact ⟨rfl, rfl⟩

/-- The place of the first that is not; -1: there is none. -/
def idxI {α : Type} (al : α → Bool) (is : List α) (k : Nat) : Int := match is with
  | [] => -1
  | i :: r => if al i then idxI al r (k + 1) else k

set_option maxRecDepth 100000 in
set_option maxHeartbeats 2000000 in
theorem index71 (w : World) (cb : Nat → Nat) (al : Nat → Bool) (a : Option Addr) (n cap : Nat) (is : List Nat) (hn : is.length = n) (hn1 : n ≤ 2000000) (hown : w.ownsRow 0 93 1 (.slice a n cap) n (ptrsC cb is))
    (hal : ∀ i ∈ is, w.cell? ⟨cb i, 4, none⟩ = some (.bool (!al i))) :
    Calls Tryz.prog 100 #[.slice a n cap, .func (.func 95) #[] #[]] w fun e w' => e = .returned (.int .i64 (idxI al is 0)) ∧ w' = w := by
  have hsrc := hown.1
  have hE : Hid (idxI al (is.drop 0) 0 = idxI al is 0) := rfl
  go_enter Tryz.func100, Tryz.ntmps100
  go_wp2
  go_loopw [8] (fun j wr => ∃ k : Nat, k ≤ n ∧ j = .int .i64 k ∧ Hid (idxI al (is.drop k) k = idxI al is 0) ∧ wr = w) (fun j _ => n - (intOf j).toNat)
  case atStart => exact ⟨0, Nat.zero_le _, rfl, rfl, rfl⟩
  case round =>
    obtain ⟨k, hk, rfl, HS, rfl⟩ := hrel
    by_cases hlt : k < n
    · have hki : (k : Int) < n := by omega
      obtain ⟨g, cap', ev, _, _, _⟩ := own_some hown (by omega)
      simp at ev; obtain ⟨rfl, rfl⟩ := ev
      have hkl : k < is.length := by omega
      have hc := own_cell (i := k) hown rfl (u := ptrC cb is[k]) (by simp [ptrsC, List.getElem?_eq_getElem hkl])
      have o4 := hal is[k] (List.getElem_mem hkl)
      have HS2 := HS.out
      rw [List.drop_eq_getElem_cons hkl] at HS2
      simp only [idxI] at HS2
      simp only [ptrC] at hc
      clear hal hown hsrc
      generalize is[k] = i at *
      cases hA : al i with
      | true =>
        rw [hA] at o4 HS2
        simp only [if_true, Bool.not_true] at o4 HS2
        have GG := hide (isGone_cell wr _ _ o4)
        replace HS2 := hide HS2
        generalize cb i = b at *
        go_wp2_with (go_at_call 95; refine (unhide GG).mono ?_; rintro e w1 ⟨rfl, hw1⟩; subst w1)
        go_roundw
        case rel => exact ⟨k + 1, by omega, by go_num, HS2, by trivial⟩
        case measure => simp [intOf]; omega
      | false =>
        rw [hA] at o4 HS2
        simp only [Bool.false_eq_true, if_false, Bool.not_false] at o4 HS2
        have GG := hide (isGone_cell wr _ _ o4)
        replace HS2 := hide HS2
        generalize cb i = b at *
        go_wp2_with (go_at_call 95; refine (unhide GG).mono ?_; rintro e w1 ⟨rfl, hw1⟩; subst w1)
        go_ret
        exact ⟨ret_int HS2.out, rfl⟩
    · have hkl : is.drop k = [] := List.drop_eq_nil_of_le (by omega)
      have HS2 := HS.out
      rw [hkl] at HS2
      replace HS2 := hide HS2
      clear hal hown hsrc hkl
      go_wp2
      go_ret
      exact ⟨ret_int HS2.out, rfl⟩

/-- In the midst of DeleteFunc: what stays lies ahead, what is still to be looked at behind. -/
structure Mid {α : Type} (al : α → Bool) (is : List α) (i j : Nat) (raw : List α) : Prop where
  len : raw.length = is.length
  ij : i < j
  jn : j ≤ is.length
  tk : raw.take i = (is.take j).filter al
  dr : raw.drop j = is.drop j

section
variable {α : Type} {al : α → Bool} {is raw : List α} {i j : Nat}
theorem Mid.at (h : Mid al is i j raw) (hj : j < is.length) : raw[j]? = some is[j] := by
  have := congrArg (fun l => l[0]?) h.dr
  simp only [List.getElem?_drop, Nat.add_zero] at this
  rw [this, List.getElem?_eq_getElem hj]
theorem Mid.no (h : Mid al is i j raw) (hj : j < is.length) (hx : al is[j] = false) : Mid al is i (j + 1) raw := by
  refine ⟨h.len, by have := h.ij; omega, by omega, ?_, ?_⟩
  · rw [h.tk, List.take_succ_eq_append_getElem hj, List.filter_append]; simp [hx]
  · have := congrArg (List.drop 1) h.dr
    simpa [List.drop_drop, Nat.add_comm] using this
theorem Mid.yes (h : Mid al is i j raw) (hj : j < is.length) (hx : al is[j] = true) : Mid al is (i + 1) (j + 1) (raw.set i is[j]) := by
  have hi : i < raw.length := by rw [h.len]; have := h.ij; omega
  refine ⟨by rw [List.length_set]; exact h.len, by have := h.ij; omega, by omega, ?_, ?_⟩
  · rw [List.take_succ_eq_append_getElem hj, List.filter_append, ← h.tk, List.take_succ_eq_append_getElem (by simpa using hi)]
    simp [hx, List.take_set_of_le]
  · have := congrArg (List.drop 1) h.dr
    rw [List.drop_set_of_lt (by have := h.ij; omega)]
    simpa [List.drop_drop, Nat.add_comm] using this
theorem Mid.done (h : Mid al is i j raw) (hj : ¬ j < is.length) : raw.take i = is.filter al ∧ i = (is.filter al).length ∧ i < is.length := by
  have e : j = is.length := by have := h.jn; omega
  have h1 : raw.take i = is.filter al := by rw [h.tk, e, List.take_length]
  have hi : i < is.length := by have := h.ij; omega
  refine ⟨h1, ?_, hi⟩
  rw [← h1, List.length_take, h.len]; omega
end

theorem idxI_cases {α : Type} (al : α → Bool) : ∀ (is : List α) (k : Nat), (idxI al is k = -1 ∧ is.filter al = is) ∨ ∃ m, m < is.length ∧ idxI al is k = ((k + m : Nat) : Int) ∧ is.take m = (is.take (m + 1)).filter al
  | [], k => .inl ⟨rfl, rfl⟩
  | i :: r, k => by
    cases h : al i with
    | false => exact .inr ⟨0, by simp, by simp [idxI, h], by simp [h]⟩
    | true =>
      rcases idxI_cases al r (k + 1) with ⟨h1, h2⟩ | ⟨m, h1, h2, h3⟩
      · exact .inl ⟨by simp [idxI, h, h1], by simp [h, h2]⟩
      · refine .inr ⟨m + 1, by simp; omega, by simp [idxI, h, h2]; omega, by simp [h, h3]⟩

def DFP (w : World) (e sz : Nat) (v v' : Value) (n : Nat) (xs : List Value) (w' : World) : Prop := w.grownBy w' v.ownBlock ∧ w'.ownsRow 0 e sz v' n xs

theorem ptrsC_set (cb : Nat → Nat) (is : List Nat) (i x : Nat) : (ptrsC cb is).set i (ptrC cb x) = ptrsC cb (is.set i x) := by simp [ptrsC, List.map_set]

set_option maxHeartbeats 4000000 in
set_option maxRecDepth 100000 in
theorem del65 (w : World) (cb : Nat → Nat) (al : Nat → Bool) (a : Option Addr) (n cap : Nat) (is : List Nat) (hn : is.length = n) (hn1 : n ≤ 2000000) (hown : w.ownsRow 0 93 1 (.slice a n cap) n (ptrsC cb is))
    (hal : ∀ i ∈ is, w.cell? ⟨cb i, 4, none⟩ = some (.bool (!al i)) ∧ cb i < w.heap.size ∧ ∀ g, (Value.slice a n cap).ownBlock = some g → cb i ≠ g) :
    Calls Tryz.prog 94 #[.slice a n cap, .func (.func 95) #[] #[]] w fun e w' => e = .returned (.slice a (is.filter al).length cap) ∧ DFP w 93 1 (.slice a n cap) (.slice a (is.filter al).length cap) (is.filter al).length (ptrsC cb (is.filter al)) w' := by
  have IX := hide (index71 w cb al a n cap is hn hn1 hown (fun i hi => (hal i hi).1))
  rcases idxI_cases al is 0 with ⟨h1, h2⟩ | ⟨m, h1, h2, h3⟩
  · rw [h1] at IX
    have HF : Hid (DFP w 93 1 (.slice a n cap) (.slice a (is.filter al).length cap) (is.filter al).length (ptrsC cb (is.filter al)) w) := by
      rw [h2, hn]; exact ⟨World.grownBy.refl _ _, hown⟩
    have HN : Hid ((is.filter al).length = n) := by unfold Hid; rw [h2, hn]
    clear hal hown h1 h2
    go_enter Tryz.func94, Tryz.ntmps94
    go_wp2_with (go_at_call 100; refine (unhide IX).mono ?_; rintro e w1 ⟨rfl, hw1⟩; subst w1)
    go_ret
    exact ⟨by rw [HN.out]; rfl, HF.out⟩
  · rw [h2] at IX
    have hm : m < n := by omega
    obtain ⟨g, cap', ev, hc1, hc2, hglt⟩ := own_some hown (by omega)
    simp at ev; obtain ⟨rfl, rfl⟩ := ev
    have HM : Hid (Mid al is m (m + 1) is) := ⟨rfl, by omega, by omega, h3, rfl⟩
    have HO := hide hown
    have HA := hide hal
    have HN := hide hn
    unfold maxLen at hc2
    have e0 : ((0 + m : Nat) : Int) = (m : Int) := by omega
    rw [e0] at IX
    have em : ((m : Int) == -1) = false := by simp
    clear hal hown h1 h2 h3 hn e0
    go_enter Tryz.func94, Tryz.ntmps94
    go_wp2_with (go_at_call 100; refine (unhide IX).mono ?_; rintro e w1 ⟨rfl, hw1⟩; subst w1)
    go_loopw [5, 6] (fun pi pj wr => ∃ (i j : Nat) (raw : List Nat), pi = .int .i64 i ∧ pj = .int .i64 j ∧ i < j ∧ j ≤ n ∧ Hid (Mid al is i j raw) ∧ Hid (wr.ownsRow 0 93 1 (.slice (some ⟨g, 0, none⟩) n cap) n (ptrsC cb raw)) ∧ Hid (w.grownBy wr (some g))) (fun _ pj _ => n - (intOf pj).toNat)
    case atStart => exact ⟨m, m + 1, is, rfl, by go_num, by omega, by omega, HM, HO, World.grownBy.refl _ _⟩
    case round =>
      obtain ⟨i, j, raw, rfl, rfl, hij, hjn, HM, HO, HG⟩ := hrel
      have hii : (i : Int) < n := by omega
      by_cases hlt : j < n
      · have hji : (j : Int) < n := by omega
        have hjl : j < is.length := by rw [HN.out]; exact hlt
        have hc := own_cell (i := j) HO.out rfl (u := ptrC cb is[j]) (by simp [ptrsC, HM.out.at hjl])
        have hrl : i < raw.length := by rw [HM.out.len]; omega
        have hci := own_cell (i := i) HO.out rfl (u := ptrC cb raw[i]) (by simp [ptrsC, List.getElem?_eq_getElem hrl])
        have hfi := own_fz HO.out rfl i
        obtain ⟨a1, a2, a3⟩ := HA.out is[j] (List.getElem_mem hjl)
        have o4 : wr.cell? ⟨cb is[j], 4, none⟩ = some (.bool (!al is[j])) := (World.cell?_of_block (a := ⟨cb is[j], 4, none⟩) (HG.out.block _ a2 (fun e => a3 g rfl (by simpa using e)))).trans a1
        have M1 := hide (HM.out.no hjl)
        have M2 := hide (HM.out.yes hjl)
        simp only [ptrC] at hc hci
        have HS : Hid ((ptrsC cb raw).set i (.pointer (some ⟨cb is[j], 0, none⟩)) = ptrsC cb (raw.set i is[j])) := ptrsC_set cb raw i is[j]
        clear a1 a2 a3
        generalize is[j] = x at *
        cases hA : al x with
        | true =>
          rw [hA] at o4
          simp only [Bool.not_true] at o4
          have GG := hide (isGone_cell wr _ _ o4)
          generalize cb x = b at *
          go_wp2_with (go_at_call 95; refine (unhide GG).mono ?_; rintro e w1 ⟨rfl, hw1⟩; subst w1)
          go_roundw
          case rel => exact ⟨i + 1, j + 1, raw.set i x, by go_num, by go_num, by omega, by omega, M2.out hA, by have := own_set (i := i) HO.out rfl (.pointer (some ⟨b, 0, none⟩)); rw [HS.out] at this; exact this, grownBy_trans HG.out (grownBy_set _ _ _ _)⟩
          case measure => simp [intOf]; omega
        | false =>
          rw [hA] at o4
          simp only [Bool.not_false] at o4
          have GG := hide (isGone_cell wr _ _ o4)
          generalize cb x = b at *
          go_wp2_with (go_at_call 95; refine (unhide GG).mono ?_; rintro e w1 ⟨rfl, hw1⟩; subst w1)
          go_roundw
          case rel => exact ⟨i, j + 1, raw, rfl, by go_num, by omega, by omega, M1.out hA, HO, HG⟩
          case measure => simp [intOf]; omega
      · obtain ⟨d1, d2, d3⟩ := HM.out.done (by rw [HN.out]; exact hlt)
        have hclw : ∀ ty, (Builtin.clear_ #[80] ty #[.slice (some ⟨g, i, none⟩) (n - i) (cap - i)]).run Tryz.prog wr = .ok (.tuple #[]) (wr.setCells g i (Builtin.zeroCells (Value.pointer none).cells (n - i)).toList) :=
          fun ty => run_clear_any wr 80 93 ty _ 1 Tryz.underlying80 zero82 rfl (by decide) (by simp [Value.cells, Value.oneCell']) g i (n - i) (cap - i) (by omega) (fun j hj => own_isSome HO.out (by omega)) (fun j _ => own_fz HO.out rfl _)
        have HF : Hid (DFP w 93 1 (.slice (some ⟨g, 0, none⟩) n cap) (.slice (some ⟨g, 0, none⟩) i cap) i (ptrsC cb (is.filter al)) (wr.setCells g i (Builtin.zeroCells (Value.pointer none).cells (n - i)).toList)) := by
          refine ⟨grownBy_trans HG.out (grownBy_sets g _ _ _), ?_⟩
          have h2 := own_cut HO.out (m := i) (by omega)
          have e : (ptrsC cb raw).take (i * 1) = ptrsC cb (is.filter al) := by rw [← d1]; simp [ptrsC]
          rw [e] at h2
          refine own_sets_beyond rfl _ _ _ h2 ?_
          rw [d2]; simp [ptrsC]
        have HD := hide d2
        have hne : ¬ cap = i := by omega
        have hic : (i : Int) ≤ cap := by omega
        clear d1 d2 d3 HM HO
        go_wp2
        go_ret
        rw [← HD.out]
        exact ⟨rfl, HF.out⟩
end Go.Proofs.YtlmbgaconjcaiaaGreat

namespace Go.Proofs.YtlmbgaconjcaiaaGreat
open Go.RowKit

theorem own_up {w w' : World} {base e sz n : Nat} {v : Value} {xs : List Value} (h : w.ownsRow base e sz v n xs) (hb : Below w.heap.size w w') : w'.ownsRow base e sz v n xs :=
  own_same h (fun k hk => hb.block k (World.ownsRow.lt h k hk).2)

theorem below_twice (w : World) (v : Obj) : Below w.heap.size w ((w.alloc v).alloc v) := (below_alloc w v).trans ((below_alloc _ v).mono (by simp))
theorem grown_below {w w' : World} (hb : Below w.heap.size w w') (r : Option Nat) : w.grownBy w' r := ⟨hb.os, hb.tape, hb.output, hb.size, fun b h _ => hb.block b h⟩

set_option maxRecDepth 100000 in
set_option maxHeartbeats 2000000 in
theorem index70 (w : World) (cb : Nat → Nat) (al : Nat → Bool) (a : Option Addr) (n cap : Nat) (q : List (Nat × Int)) (hn : q.length = n) (hn1 : n ≤ 2000000) (hown : w.ownsRow 0 108 2 (.slice a n cap) n (watC cb q))
    (hal : ∀ p ∈ q, w.cell? ⟨cb p.1, 4, none⟩ = some (.bool (!al p.1)) ∧ cb p.1 < w.heap.size) :
    Calls Tryz.prog 99 #[.slice a n cap, .func (.func 93) #[] #[]] w fun e w' => e = .returned (.int .i64 (idxI (fun p => al p.1) q 0)) ∧ Below w.heap.size w w' := by
  go_enter Tryz.func99, Tryz.ntmps99
  go_wp2
  go_loopw [8] (fun j wr => ∃ k : Nat, k ≤ n ∧ j = .int .i64 k ∧ Hid (idxI (fun p => al p.1) (q.drop k) k = idxI (fun p => al p.1) q 0) ∧ Hid (Below w.heap.size w wr)) (fun j _ => n - (intOf j).toNat)
  case atStart => exact ⟨0, Nat.zero_le _, rfl, rfl, Below.refl _ _⟩
  case round =>
    obtain ⟨k, hk, rfl, HS, HB⟩ := hrel
    by_cases hlt : k < n
    · have hki : (k : Int) < n := by omega
      have hown' := own_up hown HB.out
      obtain ⟨g, cap', ev, _, _, hglt⟩ := own_some hown' (by omega)
      simp at ev; obtain ⟨rfl, rfl⟩ := ev
      have hkl : k < q.length := by omega
      have hw := watC_get cb q k _ (List.getElem?_eq_getElem hkl)
      have hc := own_cell (i := k * 2) hown' rfl hw.1
      have hc2 := own_cell (i := k * 2 + 1) hown' rfl hw.2
      obtain ⟨a1, a2⟩ := hal q[k] (List.getElem_mem hkl)
      have o4 : wr.cell? ⟨cb q[k].1, 4, none⟩ = some (.bool (!al q[k].1)) := (HB.out.cell (p := ⟨cb q[k].1, 4, none⟩) a2).trans a1
      have hblt : cb q[k].1 < wr.heap.size := Nat.lt_of_lt_of_le a2 HB.out.size
      have HS2 := HS.out
      rw [List.drop_eq_getElem_cons hkl] at HS2
      simp only [idxI] at HS2
      simp only [ptrC] at hc
      clear hal hown hown' hw a1 a2
      generalize q[k] = pr at *
      obtain ⟨i, hint⟩ := pr
      simp only at *
      cases hA : al i with
      | true =>
        rw [hA] at o4
        rw [if_pos hA] at HS2
        simp only [Bool.not_true] at o4
        have GG := hide (isGoneW_cell wr _ _ o4 hblt hint)
        replace HS2 := hide HS2
        generalize cb i = b at *
        go_wp2_with (go_at_call 93; refine (unhide GG).mono ?_; rintro e w1 ⟨rfl, hw1⟩; subst w1)
        go_roundw
        case rel => exact ⟨k + 1, by omega, by go_num, HS2, HB.out.trans ((below_alloc wr _).mono HB.out.size)⟩
        case measure => simp [intOf]; omega
      | false =>
        rw [hA] at o4
        rw [if_neg (by simp [hA])] at HS2
        simp only [Bool.not_false] at o4
        have GG := hide (isGoneW_cell wr _ _ o4 hblt hint)
        replace HS2 := hide HS2
        generalize cb i = b at *
        go_wp2_with (go_at_call 93; refine (unhide GG).mono ?_; rintro e w1 ⟨rfl, hw1⟩; subst w1)
        go_ret
        exact ⟨ret_int HS2.out, HB.out.trans ((below_alloc wr _).mono HB.out.size)⟩
    · have hkl : q.drop k = [] := List.drop_eq_nil_of_le (by omega)
      have HS2 := HS.out
      rw [hkl] at HS2
      replace HS2 := hide HS2
      clear hal hown hkl
      go_wp2
      go_ret
      exact ⟨ret_int HS2.out, HB.out⟩

set_option maxHeartbeats 4000000 in
set_option maxRecDepth 100000 in
theorem del63 (w : World) (cb : Nat → Nat) (al : Nat → Bool) (a : Option Addr) (n cap : Nat) (q : List (Nat × Int)) (hn : q.length = n) (hn1 : n ≤ 2000000) (hown : w.ownsRow 0 108 2 (.slice a n cap) n (watC cb q))
    (hal : ∀ p ∈ q, w.cell? ⟨cb p.1, 4, none⟩ = some (.bool (!al p.1)) ∧ cb p.1 < w.heap.size ∧ ∀ g, (Value.slice a n cap).ownBlock = some g → cb p.1 ≠ g) :
    Calls Tryz.prog 92 #[.slice a n cap, .func (.func 93) #[] #[]] w fun e w' => e = .returned (.slice a (q.filter (fun p => al p.1)).length cap) ∧ DFP w 108 2 (.slice a n cap) (.slice a (q.filter (fun p => al p.1)).length cap) (q.filter (fun p => al p.1)).length (watC cb (q.filter (fun p => al p.1))) w' := by
  have IX := hide (index70 w cb al a n cap q hn hn1 hown (fun i hi => ⟨(hal i hi).1, (hal i hi).2.1⟩))
  rcases idxI_cases (fun p => al p.1) q 0 with ⟨h1, h2⟩ | ⟨m, h1, h2, h3⟩
  · rw [h1] at IX
    have HF : ∀ w', Below w.heap.size w w' → DFP w 108 2 (.slice a n cap) (.slice a (q.filter (fun p => al p.1)).length cap) (q.filter (fun p => al p.1)).length (watC cb (q.filter (fun p => al p.1))) w' := by
      intro w' hb
      rw [h2, hn]; exact ⟨⟨hb.os, hb.tape, hb.output, hb.size, fun b h _ => hb.block b h⟩, own_up hown hb⟩
    replace HF := hide HF
    have HN : Hid ((q.filter (fun p => al p.1)).length = n) := by unfold Hid; rw [h2, hn]
    clear hal hown h1 h2
    go_enter Tryz.func92, Tryz.ntmps92
    go_wp2_with (go_at_call 99; refine (unhide IX).mono ?_; rintro e w1 ⟨rfl, hw1⟩)
    go_ret
    exact ⟨by rw [HN.out]; rfl, HF.out _ hw1⟩
  · rw [h2] at IX
    have hm : m < n := by omega
    obtain ⟨g, cap', ev, hc1, hc2, hglt⟩ := own_some hown (by omega)
    simp at ev; obtain ⟨rfl, rfl⟩ := ev
    have HM : Hid (Mid (fun p : Nat × Int => al p.1) q m (m + 1) q) := ⟨rfl, by omega, by omega, h3, rfl⟩
    have HO := hide hown
    have HA := hide hal
    have HN := hide hn
    unfold maxLen at hc2
    have e0 : ((0 + m : Nat) : Int) = (m : Int) := by omega
    rw [e0] at IX
    have em : ((m : Int) == -1) = false := by simp
    clear hal hown h1 h2 h3 hn e0
    go_enter Tryz.func92, Tryz.ntmps92
    go_wp2_with (go_at_call 99; refine (unhide IX).mono ?_; rintro e w1 ⟨rfl, hw1⟩)
    go_loopw [5, 6] (fun pi pj wr => ∃ (i j : Nat) (raw : List (Nat × Int)), pi = .int .i64 i ∧ pj = .int .i64 j ∧ i < j ∧ j ≤ n ∧ Hid (Mid (fun p : Nat × Int => al p.1) q i j raw) ∧ Hid (wr.ownsRow 0 108 2 (.slice (some ⟨g, 0, none⟩) n cap) n (watC cb raw)) ∧ Hid (w.grownBy wr (some g))) (fun _ pj _ => n - (intOf pj).toNat)
    case atStart => exact ⟨m, m + 1, q, rfl, by go_num, by omega, by omega, HM, own_up HO.out hw1, ⟨hw1.os, hw1.tape, hw1.output, hw1.size, fun b h _ => hw1.block b h⟩⟩
    case round =>
      obtain ⟨i, j, raw, rfl, rfl, hij, hjn, HM, HO, HG⟩ := hrel
      have hii : (i : Int) < n := by omega
      by_cases hlt : j < n
      · have hji : (j : Int) < n := by omega
        have hjl : j < q.length := by rw [HN.out]; exact hlt
        have hwj := watC_get cb raw j _ (HM.out.at hjl)
        have hc := own_cell (i := j * 2) HO.out rfl hwj.1
        have hcb := own_cell (i := j * 2 + 1) HO.out rfl hwj.2
        have hrl : i < raw.length := by rw [HM.out.len]; omega
        have hwi := watC_get cb raw i _ (List.getElem?_eq_getElem hrl)
        have hci := own_cell (i := i * 2) HO.out rfl hwi.1
        have hcj := own_cell (i := i * 2 + 1) HO.out rfl hwi.2
        have hfi := own_fz HO.out rfl (i * 2)
        have hfj := own_fz HO.out rfl (i * 2 + 1)
        obtain ⟨a1, a2, a3⟩ := HA.out q[j] (List.getElem_mem hjl)
        have o4 : wr.cell? ⟨cb q[j].1, 4, none⟩ = some (.bool (!al q[j].1)) := (World.cell?_of_block (a := ⟨cb q[j].1, 4, none⟩) (HG.out.block _ a2 (fun e => a3 g rfl (by simpa using e)))).trans a1
        have hblt : cb q[j].1 < wr.heap.size := Nat.lt_of_lt_of_le a2 HG.out.size
        have M1 := hide (HM.out.no hjl)
        have M2 := hide (HM.out.yes hjl)
        have hgl : g < wr.heap.size := (World.ownsRow.lt HO.out g rfl).2
        have hg1 : g ≠ wr.heap.size := by omega
        have hg2 : g ≠ wr.heap.size + 1 := by omega
        simp only [ptrC] at hc hci
        have HS : Hid (((watC cb raw).set (i * 2) (.pointer (some ⟨cb q[j].1, 0, none⟩))).set (i * 2 + 1) (.int .i64 q[j].2) = watC cb (raw.set i q[j])) := watC_set cb raw i q[j]
        have hb1 : ∀ v, Hid (Below (wr.heap.size) wr ((wr.alloc v).alloc v)) := fun v => ((below_alloc wr v).trans ((below_alloc _ v).mono (by simp)))
        clear a1 a2 a3 hwj hwi
        generalize q[j] = pr at *
        obtain ⟨x, hint⟩ := pr
        simp only at *
        cases hA : al x with
        | true =>
          rw [hA] at o4
          simp only [Bool.not_true] at o4
          generalize cb x = b at *
          have HBX := hb1 (.cells #[.pointer (some ⟨b, 0, none⟩), .int .i64 hint] 108)
          have GG := hide (isGoneW_cell (wr.alloc (.cells #[.pointer (some ⟨b, 0, none⟩), .int .i64 hint] 108)) b _ ((World.cell?_of_block (a := ⟨b, 4, none⟩) (heap_alloc_old wr _ hblt)).trans o4) (by simp; omega) hint)
          go_wp2_with (go_at_call 93; refine (unhide GG).mono ?_; rintro e w1 ⟨rfl, hw1⟩; subst w1)
          go_roundw
          case rel => exact ⟨i + 1, j + 1, raw.set i (x, hint), by go_num, by go_num, by omega, by omega, M2.out hA, by have := own_up (own_set (i := i * 2 + 1) (own_set (i := i * 2) HO.out rfl (.pointer (some ⟨b, 0, none⟩))) rfl (.int .i64 hint)) (below_twice _ (.cells #[.pointer (some ⟨b, 0, none⟩), .int .i64 hint] 108)); rw [HS.out] at this; exact this, grownBy_trans HG.out (grownBy_trans (grownBy_trans (grownBy_set _ _ _ _) (grownBy_set _ _ _ _)) (grown_below (below_twice _ _) _))⟩
          case measure => simp [intOf]; omega
        | false =>
          rw [hA] at o4
          simp only [Bool.not_false] at o4
          generalize cb x = b at *
          have HBX := hb1 (.cells #[.pointer (some ⟨b, 0, none⟩), .int .i64 hint] 108)
          have GG := hide (isGoneW_cell (wr.alloc (.cells #[.pointer (some ⟨b, 0, none⟩), .int .i64 hint] 108)) b _ ((World.cell?_of_block (a := ⟨b, 4, none⟩) (heap_alloc_old wr _ hblt)).trans o4) (by simp; omega) hint)
          go_wp2_with (go_at_call 93; refine (unhide GG).mono ?_; rintro e w1 ⟨rfl, hw1⟩; subst w1)
          go_roundw
          case rel => exact ⟨i, j + 1, raw, rfl, by go_num, by omega, by omega, M1.out hA, own_up HO.out HBX.out, grownBy_trans HG.out ⟨HBX.out.os, HBX.out.tape, HBX.out.output, HBX.out.size, fun b h _ => HBX.out.block b h⟩⟩
          case measure => simp [intOf]; omega
      · obtain ⟨d1, d2, d3⟩ := HM.out.done (by rw [HN.out]; exact hlt)
        have hclw : ∀ ty, (Builtin.clear_ #[106] ty #[.slice (some ⟨g, i * 2, none⟩) (n - i) (cap - i)]).run Tryz.prog wr = .ok (.tuple #[]) (wr.setCells g (i * 2) (Builtin.zeroCells (Value.agg #[.pointer none, .int .i64 0]).cells (n - i)).toList) :=
          fun ty => run_clear_any wr 106 108 ty _ 2 Tryz.underlying106 zero97 rfl (by decide) (by simp [Value.cells, Value.oneCell']) g (i * 2) (n - i) (cap - i) (by omega) (fun j hj => own_isSome HO.out (by omega)) (fun j _ => own_fz HO.out rfl _)
        have HF : Hid (DFP w 108 2 (.slice (some ⟨g, 0, none⟩) n cap) (.slice (some ⟨g, 0, none⟩) i cap) i (watC cb (q.filter (fun p => al p.1))) (wr.setCells g (i * 2) (Builtin.zeroCells (Value.agg #[.pointer none, .int .i64 0]).cells (n - i)).toList)) := by
          refine ⟨grownBy_trans HG.out (grownBy_sets g _ _ _), ?_⟩
          have h2 := own_cut HO.out (m := i) (by omega)
          have e : (watC cb raw).take (i * 2) = watC cb (q.filter (fun p => al p.1)) := by rw [← d1, watC_take]
          rw [e] at h2
          refine own_sets_beyond rfl _ _ _ h2 ?_
          rw [watC_len, d2]; exact Nat.le_refl _
        have HD := hide d2
        have hne : ¬ cap = i := by omega
        have hic : (i : Int) ≤ cap := by omega
        clear d1 d2 d3 HM HO
        go_wp2
        go_ret
        rw [← HD.out]
        exact ⟨rfl, HF.out⟩
end Go.Proofs.YtlmbgaconjcaiaaGreat

namespace Go.Proofs.YtlmbgaconjcaiaaGreat
open Go.RowKit

/-- A list of which the first ones were gone through. -/
def Thru {α : Type} (F : α → α) (A L : List α) (k : Nat) : Prop := L.length = A.length ∧ ∀ i, L[i]? = if i < k then (A[i]?).map F else A[i]?
theorem Thru.zero {α : Type} (F : α → α) (A : List α) : Thru F A A 0 := ⟨rfl, fun i => by simp⟩
theorem Thru.at {α : Type} {F : α → α} {A L : List α} {k : Nat} (h : Thru F A L k) : L[k]? = A[k]? := by rw [h.2 k, if_neg (by omega)]
theorem Thru.step {α : Type} {F : α → α} {A L : List α} {k : Nat} {x : α} (h : Thru F A L k) (hx : A[k]? = some x) : Thru F A (L.set k (F x)) (k + 1) := by
  have hk : k < A.length := (List.getElem?_eq_some_iff.1 hx).1
  refine ⟨by simp [h.1], fun i => ?_⟩
  by_cases e : i = k
  · subst e
    rw [List.getElem?_set_self (by rw [h.1]; exact hk), if_pos (by omega), hx]; rfl
  · rw [List.getElem?_set_ne (Ne.symm e), h.2 i]
    by_cases h1 : i < k
    · rw [if_pos h1, if_pos (by omega)]
    · rw [if_neg h1, if_neg (by omega)]
theorem Thru.done {α : Type} {F : α → α} {A L : List α} {k : Nat} (h : Thru F A L k) (hk : A.length ≤ k) : L = A.map F := by
  apply List.ext_getElem?
  intro i
  rw [h.2 i, List.getElem?_map]
  by_cases h1 : i < k
  · rw [if_pos h1]
  · rw [if_neg h1, List.getElem?_eq_none (by omega)]; rfl

section
variable {ρ : Nat → Rl} {w : World} {B : Nat} {H : Hd} {s : PS}

/-- What DeleteFunc asks of clauses. -/
theorem Rep.aliveAt (h : Rep ρ w B H s) {i : Nat} (hi : i < s.cls.length) : w.cell? ⟨H.cb i, 4, none⟩ = some (.bool (!s.alive i)) ∧ H.cb i < w.heap.size := by
  obtain ⟨c, hc⟩ : ∃ c, s.cls[i]? = some c := ⟨_, List.getElem?_eq_getElem hi⟩
  obtain ⟨_, _, _, _, o4, _, hlt, _⟩ := h.obj hc
  refine ⟨?_, hlt⟩
  rw [o4]; unfold PS.alive; rw [hc]; simp
theorem Rep.cbNe (h : Rep ρ w B H s) {i g : Nat} (hi : i < s.cls.length) {r : Rl} {x : Ent} (hr : ents B H s r = some x) (hg : x.v.ownBlock = some g) (hn : r.1 ≠ 2) : H.cb i ≠ g := by
  obtain ⟨c, hc⟩ : ∃ c, s.cls[i]? = some c := ⟨_, List.getElem?_eq_getElem hi⟩
  have hr2 : ents B H s (2, i) = some ⟨92, 5, obj1 (H.cb i), 1, objC i (H.cl i) c⟩ := by simp [ents, hc]
  exact h.hold.ne hr2 rfl hr hg (fun e => hn (by rw [← e]))

/-- A literal's watches are swept. -/
theorem Rep.sweepW (h : Rep ρ w B H s) {j : Nat} {q : List (Nat × Int)} (hq : s.wat[j]? = some q) (hidx : ∀ p ∈ q, p.1 < s.cls.length) (al : Nat → Bool) (hal : ∀ i, i < s.cls.length → al i = s.alive i) (hqn : q.length ≤ 1048576) :
    ∃ gw cw u cu, H.wv = .slice (some ⟨gw, 0, none⟩) s.wat.length cw ∧ gw ≠ B ∧ w.cell? ⟨gw, j, none⟩ = some (.slice u q.length cu) ∧ w.frozen? ⟨gw, j, none⟩ = false ∧ gw < w.heap.size ∧
    (∀ x, Ev ρ w ρ x → (∀ b, b < w.heap.size → x.heap[b]? = w.heap[b]?) → Calls Tryz.prog 92 #[.slice u q.length cu, .func (.func 93) #[] #[]] x fun e w' => e = .returned (.slice u (q.filter (fun p => al p.1)).length cu) ∧
      (w'.cell? ⟨B, 6, none⟩ = some H.wv ∧ w'.cell? ⟨gw, j, none⟩ = some (.slice u q.length cu) ∧ w'.frozen? ⟨gw, j, none⟩ = false) ∧ ∃ ρ' H', H'.wv = H.wv ∧ H'.cb = H.cb ∧ Hid (Rep ρ' (w'.setCell ⟨gw, j, none⟩ (.slice u (q.filter (fun p => al p.1)).length cu)) B H' { s with wat := s.wat.set j (q.filter (fun p => al p.1)) }) ∧ Hid (Ev ρ w ρ' (w'.setCell ⟨gw, j, none⟩ (.slice u (q.filter (fun p => al p.1)).length cu)))) := by
  have hj : j < s.wat.length := (List.getElem?_eq_some_iff.1 hq).1
  obtain ⟨gw, cw, e, hgw, _, _, hs, hB, hc, hf⟩ := h.row (r := (5, 0)) rfl (by decide) (by simp only; omega)
  simp only at e hc
  obtain ⟨uv, hu⟩ : ∃ u, H.wr[j]? = some u := ⟨_, List.getElem?_eq_getElem (by rw [h.wr]; exact hj)⟩
  have hr : ents B H s (6, j) = some ⟨108, 2, uv, q.length, watC H.cb q⟩ := by simp [ents, hq, hu, watE]
  have hown := h.hold.own _ _ hr
  simp only at hown
  obtain ⟨u, cu, eu, _, _, hform⟩ := own_form hown
  subst eu
  refine ⟨gw, cw, u, cu, e, hB, hc j _ hu, hf j, hs, fun x hE hx => ?_⟩
  have hownx : x.ownsRow 0 108 2 (.slice u q.length cu) q.length (watC H.cb q) := own_same hown (fun k hk => hx k (World.ownsRow.lt hown k hk).2)
  have hcell : ∀ (b i : Nat) (v : Value), b < w.heap.size → w.cell? ⟨b, i, none⟩ = some v → x.cell? ⟨b, i, none⟩ = some v := fun b i v hb hv => (World.cell?_of_block (a := ⟨b, i, none⟩) (hx b hb)).trans hv
  refine (del63 x H.cb al u q.length cu q rfl (by omega) hownx (fun p hp => ?_)).mono ?_
  · obtain ⟨k1, k2⟩ := h.aliveAt (hidx p hp)
    rw [← hal _ (hidx p hp)] at k1
    exact ⟨hcell _ _ _ k2 k1, Nat.lt_of_lt_of_le k2 hE.size, fun g hg => h.cbNe (hidx p hp) hr hg (by simp)⟩
  · rintro e' w' ⟨rfl, hg, ho⟩
    have hgw' : w.grownBy w' (Value.slice u q.length cu).ownBlock := ⟨hg.os.trans hE.os, hg.tape.trans hE.tape, hg.output.trans hE.output, Nat.le_trans hE.size hg.size, fun b hb hne => (hg.block b (Nat.lt_of_lt_of_le hb hE.size) hne).trans (hx b hb)⟩
    have eB : w'.heap[B]? = w.heap[B]? := hgw'.block B h.lt (fun e => (h.hold.ne hr e.symm (q := (0, 0)) rfl rfl (by simp)) rfl)
    have eG : w'.heap[gw]? = w.heap[gw]? := hgw'.block gw hs (fun e => (h.hold.ne hr e.symm (q := (5, 0)) rfl hgw (by simp)) rfl)
    refine ⟨rfl, ⟨(World.cell?_of_block (a := ⟨B, 6, none⟩) eB).trans h.c6, (World.cell?_of_block (a := ⟨gw, j, none⟩) eG).trans (hc j _ hu), (World.frozen?_of_block (a := ⟨gw, j, none⟩) eG).trans (hf j)⟩, ?_⟩
    rcases hform with ⟨rfl, h0, rfl⟩ | ⟨g, rfl, hg2⟩
    · obtain ⟨k1, k2⟩ := h.wTurn (gg := w.heap.size) hq hu hgw hgw' ho (fun g hg => by simp [Value.ownBlock] at hg) (.inr (Nat.le_refl _))
      refine ⟨_, _, ?_, ?_, k1, k2⟩ <;> rfl
    · obtain ⟨k1, k2⟩ := h.wTurn (gg := g) hq hu hgw hgw' ho (fun g' hg' => by simp [Value.ownBlock] at hg'; exact hg'.symm) (.inl rfl)
      refine ⟨_, _, ?_, ?_, k1, k2⟩ <;> rfl

/-- A level's late clauses are swept. -/
theorem Rep.sweepL (h : Rep ρ w B H s) {j : Nat} {p : Lv} (hp : s.lvs[j]? = some p) (hidx : ∀ i ∈ p.late, i < s.cls.length) (al : Nat → Bool) (hal : ∀ i, i < s.cls.length → al i = s.alive i) (hqn : p.late.length ≤ 1048576) :
    ∃ gl cl u cu, H.lv = .slice (some ⟨gl, 0, none⟩) s.lvs.length cl ∧ gl ≠ B ∧ w.cell? ⟨gl, j * 3 + 2, none⟩ = some (.slice u p.late.length cu) ∧ w.frozen? ⟨gl, j * 3 + 2, none⟩ = false ∧ gl < w.heap.size ∧
    (∀ x, Ev ρ w ρ x → (∀ b, b < w.heap.size → x.heap[b]? = w.heap[b]?) → Calls Tryz.prog 94 #[.slice u p.late.length cu, .func (.func 95) #[] #[]] x fun e w' => e = .returned (.slice u (p.late.filter al).length cu) ∧
      (w'.cell? ⟨B, 10, none⟩ = some H.lv ∧ w'.cell? ⟨gl, j * 3 + 2, none⟩ = some (.slice u p.late.length cu) ∧ w'.frozen? ⟨gl, j * 3 + 2, none⟩ = false) ∧ ∃ ρ' H', H'.lv = H.lv ∧ H'.cb = H.cb ∧ Hid (Rep ρ' (w'.setCell ⟨gl, j * 3 + 2, none⟩ (.slice u (p.late.filter al).length cu)) B H' { s with lvs := s.lvs.set j { p with late := p.late.filter al } }) ∧ Hid (Ev ρ w ρ' (w'.setCell ⟨gl, j * 3 + 2, none⟩ (.slice u (p.late.filter al).length cu)))) := by
  obtain ⟨gl, cl, uv, e, hgl, hu, q0, q1, q2, qf, hown, hglB, hub, hgllt, _, _⟩ := h.lvLast hp
  have hr : ents B H s (10, j) = some ⟨93, 1, uv, p.late.length, ptrsC H.cb p.late⟩ := by simp only [ents, hp, hu, lvlE]
  obtain ⟨u, cu, eu, _, _, hform⟩ := own_form hown
  subst eu
  have hset : s.lvs.modify j (fun a => { a with late := p.late.filter al }) = s.lvs.set j { p with late := p.late.filter al } := by
    apply List.ext_getElem?
    intro i
    rw [List.getElem?_modify]
    by_cases e : i = j
    · subst e
      rw [List.getElem?_set_self (List.getElem?_eq_some_iff.1 hp).1, hp]; simp
    · rw [List.getElem?_set_ne (Ne.symm e)]
      cases s.lvs[i]? <;> simp [Ne.symm e]
  refine ⟨gl, cl, u, cu, e, hglB, q2, qf _, hgllt, fun x hE hx => ?_⟩
  have hownx : x.ownsRow 0 93 1 (.slice u p.late.length cu) p.late.length (ptrsC H.cb p.late) := own_same hown (fun k hk => hx k (World.ownsRow.lt hown k hk).2)
  have hcell : ∀ (b i : Nat) (v : Value), b < w.heap.size → w.cell? ⟨b, i, none⟩ = some v → x.cell? ⟨b, i, none⟩ = some v := fun b i v hb hv => (World.cell?_of_block (a := ⟨b, i, none⟩) (hx b hb)).trans hv
  refine (del65 x H.cb al u p.late.length cu p.late rfl (by omega) hownx (fun i hi => ?_)).mono ?_
  · obtain ⟨k1, k2⟩ := h.aliveAt (hidx i hi)
    rw [← hal _ (hidx i hi)] at k1
    exact ⟨hcell _ _ _ k2 k1, Nat.lt_of_lt_of_le k2 hE.size, fun g hg => h.cbNe (hidx i hi) hr hg (by simp)⟩
  · rintro e' w' ⟨rfl, hg, ho⟩
    have hgw' : w.grownBy w' (Value.slice u p.late.length cu).ownBlock := ⟨hg.os.trans hE.os, hg.tape.trans hE.tape, hg.output.trans hE.output, Nat.le_trans hE.size hg.size, fun b hb hne => (hg.block b (Nat.lt_of_lt_of_le hb hE.size) hne).trans (hx b hb)⟩
    have eB : w'.heap[B]? = w.heap[B]? := hgw'.block B h.lt (fun e => (h.hold.ne hr e.symm (q := (0, 0)) rfl rfl (by simp)) rfl)
    have eG : w'.heap[gl]? = w.heap[gl]? := hgw'.block gl hgllt (fun e => (h.hold.ne hr e.symm (q := (9, 0)) rfl hgl (by simp)) rfl)
    refine ⟨rfl, ⟨(World.cell?_of_block (a := ⟨B, 10, none⟩) eB).trans h.c10, (World.cell?_of_block (a := ⟨gl, j * 3 + 2, none⟩) eG).trans q2, (World.frozen?_of_block (a := ⟨gl, j * 3 + 2, none⟩) eG).trans (qf _)⟩, ?_⟩
    rcases hform with ⟨rfl, h0, rfl⟩ | ⟨g, rfl, hg2⟩
    · obtain ⟨k1, k2⟩ := h.llTurn (gg := w.heap.size) hp hu hgl hgw' ho (fun g hg => by simp [Value.ownBlock] at hg) (.inr (Nat.le_refl _))
      rw [hset] at k1
      refine ⟨_, _, ?_, ?_, k1, k2⟩ <;> rfl
    · obtain ⟨k1, k2⟩ := h.llTurn (gg := g) hp hu hgl hgw' ho (fun g' hg' => by simp [Value.ownBlock] at hg'; exact hg'.symm) (.inl rfl)
      rw [hset] at k1
      refine ⟨_, _, ?_, ?_, k1, k2⟩ <;> rfl

/-- The late clauses are swept. -/
theorem Rep.sweepA (h : Rep ρ w B H s) (hidx : ∀ i ∈ s.late, i < s.cls.length) (al : Nat → Bool) (hal : ∀ i, i < s.cls.length → al i = s.alive i) (hqn : s.late.length ≤ 1048576) :
    ∃ u cu, H.av = .slice u s.late.length cu ∧ Calls Tryz.prog 94 #[.slice u s.late.length cu, .func (.func 95) #[] #[]] w fun e w' => e = .returned (.slice u (s.late.filter al).length cu) ∧
      (w'.cell? ⟨B, 11, none⟩ = some (.slice u s.late.length cu) ∧ w'.frozen? ⟨B, 11, none⟩ = false) ∧ ∃ ρ' H', Hid (Rep ρ' (w'.setCell ⟨B, 11, none⟩ (.slice u (s.late.filter al).length cu)) B H' { s with late := s.late.filter al }) ∧ Hid (Ev ρ w ρ' (w'.setCell ⟨B, 11, none⟩ (.slice u (s.late.filter al).length cu))) := by
  have hr : ents B H s (11, 0) = some ⟨93, 1, H.av, s.late.length, ptrsC H.cb s.late⟩ := rfl
  have hown := h.hold.own _ _ hr
  simp only at hown
  obtain ⟨u, cu, eu, _, _, hform⟩ := own_form hown
  rw [eu] at hown
  refine ⟨u, cu, eu, ?_⟩
  refine (del65 w H.cb al u s.late.length cu s.late rfl (by omega) hown (fun i hi => ?_)).mono ?_
  · obtain ⟨k1, k2⟩ := h.aliveAt (hidx i hi)
    rw [← hal _ (hidx i hi)] at k1
    exact ⟨k1, k2, fun g hg => h.cbNe (hidx i hi) hr (by simp only; rw [eu]; exact hg) (by simp)⟩
  · rintro e' w' ⟨rfl, hg, ho⟩
    have hgw' : w.grownBy w' H.av.ownBlock := by rw [eu]; exact hg
    have eB : w'.heap[B]? = w.heap[B]? := hgw'.block B h.lt (fun e => (h.hold.ne hr e.symm (q := (0, 0)) rfl rfl (by simp)) rfl)
    refine ⟨rfl, ⟨(World.cell?_of_block (a := ⟨B, 11, none⟩) eB).trans (by rw [h.c11, eu]), (World.frozen?_of_block (a := ⟨B, 11, none⟩) eB).trans (h.fz 11)⟩, ?_⟩
    rcases hform with ⟨rfl, h0, rfl⟩ | ⟨g, rfl, hg2⟩
    · obtain ⟨k1, k2⟩ := h.avTurn (gg := w.heap.size) hgw' ho (fun g hg => by simp [Value.ownBlock] at hg) (.inr (Nat.le_refl _))
      exact ⟨_, _, k1, k2⟩
    · obtain ⟨k1, k2⟩ := h.avTurn (gg := g) hgw' ho (fun g' hg' => by simp [Value.ownBlock] at hg'; exact hg'.symm) (.inl (by rw [eu]; rfl))
      exact ⟨_, _, k1, k2⟩
end
end Go.Proofs.YtlmbgaconjcaiaaGreat

namespace Go.Proofs.YtlmbgaconjcaiaaGreat
open Go.RowKit

def SwP (ρ : Nat → Rl) (w : World) (B : Nat) (t : PS) (w' : World) : Prop := ∃ ρ' H', Rep ρ' w' B H' t ∧ Ev ρ w ρ' w'

section
variable {ρ : Nat → Rl} {w : World} {B : Nat} {H : Hd} {s : PS}

set_option maxHeartbeats 40000000 in
set_option maxRecDepth 100000 in
theorem sweep_any (h : Rep ρ w B H s) (hI : Inv s) :
    Calls Tryz.prog 85 #[.pointer (some ⟨B, 0, none⟩)] w fun e w' => e = .returned (.tuple #[]) ∧ SwP ρ w B s.swept w' := by
  have hwl := hI.sz.wat
  have hVs := hI.sz.vars
  have hll : s.lvs.length ≤ 1048576 := by have := lvs_len hI.tr; have := trail_len hI.tr; omega
  have HWQ : Hid (∀ (j : Nat) q, s.wat[j]? = some q → (∀ p ∈ q, p.1 < s.cls.length) ∧ q.length ≤ 1048576) := fun j q hq => ⟨hI.widx hq, by have := hI.wlen hq; have := hI.sz.cls; omega⟩
  have HLQ : Hid (∀ (j : Nat) p, s.lvs[j]? = some p → (∀ i ∈ p.late, i < s.cls.length) ∧ p.late.length ≤ 1048576) := fun j p hp => ⟨hI.sz.lv p (List.mem_of_getElem? hp), by have := le_sum s.lvs p (List.mem_of_getElem? hp); have := hI.sz.sum; have := hI.sz.cls; omega⟩
  have HAQ : Hid ((∀ i ∈ s.late, i < s.cls.length) ∧ s.late.length ≤ 1048576) := ⟨hI.sz.la, by have := hI.sz.sum; have := hI.sz.cls; omega⟩
  obtain ⟨gw, cw, ew, hgw, hwn, hwm, hws, hwB, _, _⟩ := h.row (r := (5, 0)) rfl (by decide) (by simp only; omega)
  simp only at ew hwn
  have c6 := h.c6
  rw [ew] at c6
  have HH := hide h
  have EW := hide ew
  have hWL : s.wat.length ≤ 3300000 := by omega
  unfold maxLen at hwm
  have hBlt := h.lt
  clear h hI ew hgw hwl
  generalize hNW : s.wat.length = NW at *
  have HNW := hide hNW
  clear hNW
  go_enter Tryz.func85, Tryz.ntmps85
  go_wp2_with fail
  go_loopw [10] (fun j wr => ∃ (k : Nat) (ρ1 : Nat → Rl) (H1 : Hd) (L : List (List (Nat × Int))), k ≤ NW ∧ j = .int .i64 k ∧ Hid (H1.wv = .slice (some ⟨gw, 0, none⟩) NW cw) ∧ Hid (Rep ρ1 wr B H1 { s with wat := L }) ∧ Hid (Ev ρ w ρ1 wr) ∧ Hid (Thru (fun q => q.filter (fun p => s.alive p.1)) s.wat L k)) (fun j _ => NW - (intOf j).toNat)
  case atStart => exact ⟨0, ρ, H, s.wat, Nat.zero_le _, rfl, EW, HH, Ev.refl _ _, Thru.zero _ _⟩
  case round =>
    clear c6 HH EW
    obtain ⟨k, ρ1, H1, L, hk, rfl, EW1, HR1, HE1, HT⟩ := hrel
    by_cases hlt : k < NW
    · have hki : (k : Int) < NW := by omega
      have hkl : k < s.wat.length := by rw [HNW.out]; exact hlt
      obtain ⟨q, hq⟩ : ∃ q, s.wat[k]? = some q := ⟨_, List.getElem?_eq_getElem hkl⟩
      have hLq : L[k]? = some q := HT.out.at.trans hq
      obtain ⟨hq1, hq2⟩ := HWQ.out k q hq
      obtain ⟨gw', cw', u, cu, e1, hgB, d1, d2, hgl, CD⟩ := HR1.out.sweepW (j := k) (q := q) hLq hq1 s.alive (fun i _ => rfl) hq2
      simp only at e1
      rw [EW1.out] at e1
      simp at e1
      obtain ⟨e2, eN, e3⟩ := e1
      subst e2
      have c6 := HR1.out.c6
      rw [EW1.out] at c6
      have HST := hide (HT.out.step hq)
      have CD' := hide (CD wr.drew (Ev.drew _ _) (fun _ _ => rfl))
      clear eN e3 CD hLq hq hq1
      have hBg : B ≠ gw := Ne.symm hgB
      have hk3 : k ≤ 3300000 := by omega
      have hlt' := hide hlt
      generalize hfq : q.filter (fun p => s.alive p.1) = fq at *
      clear hfq
      generalize fq.length = mq at *
      generalize q.length = nq0 at *
      go_wp2_with fail
      go_region_held3 (fun x => x.cell? ⟨B, 6, none⟩ = some (.slice (some ⟨gw, 0, none⟩) NW cw)) (first | assumption | go_keep) (first | (go_at_call 92; refine (unhide CD').mono ?_; rintro e w1 ⟨rfl, ⟨t1, t2, t3⟩, ρ2, H2, e4, e5, HR2, HE2⟩; rw [EW1.out] at t1 e4))
      refine forget (P := fun W => Exit.inBlock _ _ Exit.normal _ W) (fun W => Hid (Rep ρ2 W B H2 { s with wat := L.set k fq }) ∧ Hid (Ev ρ w ρ2 W)) ⟨HR2, HE1.out.trans HE2.out⟩ ?_
      rintro W2 ⟨HR3, HE3⟩
      have E4 := hide e4
      clear HR2 HE2 t1 t2 t3 d1 d2 c6 CD' HR1 HE1 e4 e5
      go_wp2_with fail
      go_roundw
      case rel => exact ⟨k + 1, ρ2, H2, L.set k fq, hlt'.out, by go_num, E4, HR3, HE3, HST⟩
      case measure => (have h31 := hlt'.out; simp [intOf]; omega)
    · have hL := HT.out.done (by rw [HNW.out]; omega)
      subst hL
      obtain ⟨al, cl, el, _⟩ := own_form (HR1.out.hold.own (9, 0) _ rfl)
      simp only at el
      have c10 := HR1.out.c10
      (try simp only at c10)
      rw [el] at c10
      have EL := hide el
      clear HT HWQ el
      generalize hLN : s.lvs.length = LN at *
      have HLN := hide hLN
      clear hLN
      go_wp2_with fail
      go_loopw [29] (fun j wr2 => ∃ (k2 : Nat) (ρ2 : Nat → Rl) (H2 : Hd) (M : List Lv), k2 ≤ LN ∧ j = .int .i64 k2 ∧ Hid (H2.lv = .slice al LN cl) ∧ Hid (Rep ρ2 wr2 B H2 { s with wat := s.wat.map (fun q => q.filter (fun p => s.alive p.1)), lvs := M }) ∧ Hid (Ev ρ w ρ2 wr2) ∧ Hid (Thru (fun v => { v with late := v.late.filter s.alive }) s.lvs M k2)) (fun j _ => LN - (intOf j).toNat)
      case atStart => exact ⟨0, ρ1, H1, s.lvs, Nat.zero_le _, rfl, EL, HR1, HE1, Thru.zero _ _⟩
      case round =>
        clear c10 HR1 HE1 EL EW1
        obtain ⟨k2, ρ2, H2, M, hk2, rfl, EL2, HR2, HE2, HT2⟩ := hrel
        by_cases hlt2 : k2 < LN
        · have hki2 : (k2 : Int) < LN := by omega
          have hkl2 : k2 < s.lvs.length := by rw [HLN.out]; exact hlt2
          obtain ⟨p, hp⟩ : ∃ p, s.lvs[k2]? = some p := ⟨_, List.getElem?_eq_getElem hkl2⟩
          have hMp : M[k2]? = some p := HT2.out.at.trans hp
          obtain ⟨hp1, hp2⟩ := HLQ.out k2 p hp
          obtain ⟨gl, cl', u, cu, e1, hgB, d1, d2, hgl, CD⟩ := HR2.out.sweepL (j := k2) (p := p) hMp hp1 s.alive (fun i _ => rfl) hp2
          simp only at e1
          rw [EL2.out] at e1
          simp at e1
          obtain ⟨e2, eN, e3⟩ := e1
          subst e2
          have c10 := HR2.out.c10
          (try simp only at c10)
          rw [EL2.out] at c10
          have HST2 := hide (HT2.out.step hp)
          have CD' := hide (CD wr.drew (Ev.drew _ _) (fun _ _ => rfl))
          have hBg : B ≠ gl := Ne.symm hgB
          have hlt2' := hide hlt2
          clear eN e3 CD hMp hp hp1
          generalize hfq : p.late.filter s.alive = fq at *
          clear hfq
          generalize fq.length = mq at *
          generalize p.late.length = nq0 at *
          go_wp2_with fail
          first | (go_region_with (go_at_call 94; refine (unhide CD').mono ?_; rintro e w1 ⟨rfl, ⟨t1, t2, t3⟩, ρ3, H3, e4, e5, HR3, HE3⟩; rw [EL2.out] at t1 e4)) | fail
          all_goals
            refine forget (P := fun W => Exit.inBlock _ _ Exit.normal _ W) (fun W => Hid (Rep ρ3 W B H3 { s with wat := s.wat.map (fun q => q.filter (fun p => s.alive p.1)), lvs := M.set k2 { p with late := fq } }) ∧ Hid (Ev ρ w ρ3 W)) ⟨HR3, HE2.out.trans HE3.out⟩ ?_
            rintro W3 ⟨HR4, HE4⟩
            have E4 := hide e4
            clear HR3 HE3 t1 t2 t3 d1 d2 c10 CD' HR2 HE2 e4 e5
            go_wp2_with fail
            go_roundw
            case rel => exact ⟨k2 + 1, ρ3, H3, M.set k2 { p with late := fq }, hlt2'.out, by go_num, E4, HR4, HE4, HST2⟩
            case measure => (have h31 := hlt2'.out; simp [intOf]; omega)
        · have hM := HT2.out.done (by rw [HLN.out]; omega)
          subst hM
          obtain ⟨u, cu, eav, CD⟩ := HR2.out.sweepA HAQ.out.1 s.alive (fun i _ => rfl) HAQ.out.2
          have c11 := HR2.out.c11
          rw [eav] at c11
          simp only at c11 CD
          replace CD := hide CD
          clear HT2 HLQ eav
          go_wp2_with fail
          refine (unhide CD).mono ?_
          rintro e w1 ⟨rfl, ⟨t1, t2⟩, ρ3, H3, HR3, HE3⟩
          clear c11 CD
          have HR4 := hide (HR3.out.setStale 0)
          have c4 := HR3.out.c4
          have f4 := HR3.out.fz 4
          simp only at c4
          have HE4 : Hid (Ev ρ w ρ3 ((w1.setCell ⟨B, 11, none⟩ (.slice u (s.late.filter s.alive).length cu)).setCell ⟨B, 4, none⟩ (.int .i64 0))) := (HE2.out.trans HE3.out).trans (Ev.set HR3.out.roleB _ _)
          generalize hmA : (s.late.filter s.alive).length = mA at *
          clear hmA
          simp only
          go_wp2_with fail
          go_end0
          exact ⟨rfl, ρ3, H3, HR4.out, HE4.out⟩
end
end Go.Proofs.YtlmbgaconjcaiaaGreat

namespace Go.Proofs.YtlmbgaconjcaiaaGreat
open Go.RowKit

section
variable {ρ : Nat → Rl} {w : World} {B : Nat} {H : Hd} {s : PS}

set_option maxRecDepth 100000 in
set_option maxHeartbeats 800000 in
theorem drop_none (h : Rep ρ w B H s) (i : Int) (hno : i < 0 ∨ s.cls.length ≤ i ∨ ∃ c, 0 ≤ i ∧ s.cls[i.toNat]? = some c ∧ c.gone = true) (hn : s.cls.length ≤ 1048576) :
    Calls Tryz.prog 72 #[.pointer (some ⟨B, 0, none⟩), .int .i64 i] w fun e w' => e = .returned (.int .i64 4) ∧ w' = w := by
  have G := hide (has_no h i hno hn)
  clear h hno
  go_enter Tryz.func72, Tryz.ntmps72
  go_wp2_with (go_at_call 68; refine (unhide G).mono ?_; rintro e w0 ⟨rfl, hw0⟩; subst w0)
  go_ret
  exact ⟨rfl, rfl⟩

set_option maxRecDepth 100000 in
set_option maxHeartbeats 800000 in
theorem drop_bad (h : Rep ρ w B H s) (hS : Shp s) (i : Nat) (c : Cl) (hc : s.cls[i]? = some c) (hg : c.gone = false) (hn : s.cls.length ≤ 1048576) (hl : ∀ x ∈ c.lits, Lt s.vars x) (hr : s.rsnB i c.lits = true) :
    Calls Tryz.prog 72 #[.pointer (some ⟨B, 0, none⟩), .int .i64 i] w fun e w' => e = .returned (.int .i64 7) ∧ ∃ n, w' = w.drewN n := by
  have G := hide (has_yes h i c hc hg hn)
  have R := isReason_any h hS i c hc hl
  rw [hr] at R
  replace R := hide R
  obtain ⟨g, cap, e, _, hB, hcell, _⟩ := h.cvAt hc
  have hlt : i < s.cls.length := (List.getElem?_eq_some_iff.1 hc).1
  have hlt' : (i : Int) < s.cls.length := by omega
  have c2 := h.c2
  rw [e] at c2
  rw [hg] at hcell
  simp only [Bool.false_eq_true, if_false, ptrC] at hcell
  clear h hc e
  generalize s.cls.length = N at *
  generalize H.cb i = b at *
  go_enter Tryz.func72, Tryz.ntmps72
  go_wp2_with (first | (go_at_call 68; refine (unhide G).mono ?_; rintro e w0 ⟨rfl, hw0⟩; subst w0) | (go_at_call 84; refine (unhide R).mono ?_; rintro e w0 ⟨rfl, n0, rfl⟩))
  go_ret
  exact ⟨rfl, ⟨_, rfl⟩⟩

set_option maxHeartbeats 8000000 in
set_option maxRecDepth 100000 in
theorem drop_ok (h : Rep ρ w B H s) (hI : Inv s) (hN : Cnt s) (i : Nat) (c : Cl) (hc : s.cls[i]? = some c) (hg : c.gone = false) (hr : s.rsnB i c.lits = false) :
    Calls Tryz.prog 72 #[.pointer (some ⟨B, 0, none⟩), .int .i64 i] w fun e w' => e = .returned (.int .i64 0) ∧ SwP ρ w B (s.drop i c) w' := by
  have hn := hI.sz.cls
  have hl := hI.wt.ok i c hc
  have hnr : ∀ x ∈ c.lits, s.val x = 1 → (s.fct x).2.2 ≠ (i : Int) := by
    intro x hx hv he
    unfold PS.rsnB at hr
    rw [List.any_eq_false] at hr
    exact hr x hx (by simp [hv, he])
  have hDI := dropped_inv hI hN hc hg hnr
  have G := hide (has_yes h i c hc hg hn)
  have R := isReason_any h hI.shp i c hc hl
  rw [hr] at R
  replace R := hide R
  obtain ⟨g, cap, e, hgo, hB, hcell, hcf, _, hglt⟩ := h.cvAt hc
  obtain ⟨o0, o1, o2, o3, o4, of, hol, hoB⟩ := h.obj hc
  have hlt : i < s.cls.length := (List.getElem?_eq_some_iff.1 hc).1
  have hlt' : (i : Int) < s.cls.length := by omega
  have c2 := h.c2
  rw [e] at c2
  rw [hg] at hcell o4
  simp only [Bool.false_eq_true, if_false, ptrC] at hcell
  have hbg : H.cb i ≠ g := h.cbNe hlt (r := (1, 0)) rfl hgo (by simp)
  have hcount := hI.sz.count
  have hstale := hI.sz.stale
  have c3 := h.c3
  have c4 := h.c4
  have HD : Hid (∀ m, Rep ρ ((((w.drewN m).setCell ⟨H.cb i, 4, none⟩ (.bool true)).setCell ⟨H.cb i, 1, none⟩ (.slice none 0 0)).setCell ⟨g, i, none⟩ (.pointer none)) B { H with cl := fun k => if k = i then .slice none 0 0 else H.cl k } { s with cls := s.cls.set i { c with gone := true, lits := [] } } ∧ Ev ρ w ρ ((((w.drewN m).setCell ⟨H.cb i, 4, none⟩ (.bool true)).setCell ⟨H.cb i, 1, none⟩ (.slice none 0 0)).setCell ⟨g, i, none⟩ (.pointer none))) := by
    intro m
    refine ⟨(h.drewN m).dropCl hc hgo, (((Ev.drewN ρ w m).trans (Ev.set ?_ _ _)).trans (Ev.set ?_ _ _)).trans (Ev.set ?_ _ _)⟩
    · exact h.roleOf (r := (2, i)) (x := ⟨92, 5, obj1 (H.cb i), 1, objC i (H.cl i) c⟩) (by simp [ents, hc]) rfl (by simp [oth])
    · exact h.roleOf (r := (2, i)) (x := ⟨92, 5, obj1 (H.cb i), 1, objC i (H.cl i) c⟩) (by simp [ents, hc]) rfl (by simp [oth])
    · exact h.roleOf (r := (1, 0)) rfl hgo (by decide)
  have f4' := of 4
  have f1' := of 1
  have fi := hcf i
  obtain ⟨acl, ccl, ecl, _⟩ := h.lits hc
  rw [ecl] at o1
  have HH := hide h
  have HSZ := hide hI.sz
  have HDI := hide hDI
  clear h hc e hI hN hl hnr hDI hcf of hr hgo o0 o2 o3 ecl hcount hstale c3 c4
  generalize hb : H.cb i = b at *
  clear hb
  generalize hNN : s.cls.length = N at *
  clear hNN
  go_enter Tryz.func72, Tryz.ntmps72
  go_upto_region 9 with (first | (go_at_call 68; refine (unhide G).mono ?_; rintro e w0 ⟨rfl, hw0⟩; subst w0) | (go_at_call 84; refine (unhide R).mono ?_; rintro e w0 ⟨rfl, n0, rfl⟩))
  obtain ⟨hD1, hD2⟩ := HD.out n0
  refine forget (P := fun W => Code.wp Tryz.prog _ _ _ W) (fun W => Rep ρ W B { H with cl := fun k => if k = i then .slice none 0 0 else H.cl k } { s with cls := s.cls.set i { c with gone := true, lits := [] } } ∧ Ev ρ w ρ W) ⟨hD1, hD2⟩ ?_
  clear hD1 hD2 HD G R hcell o4 o1 f4' f1' fi c2 HH
  rintro W1 ⟨hR1, hE1⟩
  have c3 := hR1.c3
  have c4 := hR1.c4
  have f3 := hR1.fz 3
  have f4 := hR1.fz 4
  simp only at c3 c4
  have hct := HSZ.out.count
  have hst := HSZ.out.stale
  have hcls := HSZ.out.cls
  have HR2 := hide ((hR1.setCount (s.count - 1)).setStale (s.stale + 1))
  have HE2 : Hid (Ev ρ w ρ ((W1.setCell ⟨B, 3, none⟩ (.int .i64 (s.count - 1))).setCell ⟨B, 4, none⟩ (.int .i64 (s.stale + 1)))) := (hE1.trans (Ev.set hR1.roleB _ _)).trans (Ev.set hR1.roleB _ _)
  clear hR1 hE1
  have HDR : Hid (s.dropped i c = { s with cls := s.cls.set i { c with gone := true, lits := [] }, count := s.count - 1, stale := s.stale + 1 }) := rfl
  have HDP : Hid (s.drop i c = if (s.dropped i c).count + (s.dropped i c).wat.length < (s.dropped i c).stale then (s.dropped i c).swept else s.dropped i c) := rfl
  have hc9 : s.count ≤ 1048576 := by omega
  have hs9 : s.stale ≤ 1048576 := by omega
  have hc0 : 0 ≤ s.count := hct.1
  have hs0 : 0 ≤ s.stale := hst.1
  clear hct hst
  generalize hcn : s.count = ct at *
  generalize hsn : s.stale = st at *
  go_upto_region 11 with fail
  refine forget (P := fun W => Code.wp Tryz.prog _ _ _ W) (fun W => Rep ρ W B { H with cl := fun k => if k = i then .slice none 0 0 else H.cl k } (s.dropped i c) ∧ Ev ρ w ρ W) ⟨by have := HR2.out; rw [HDR.out]; exact this, HE2.out⟩ ?_
  clear HR2 HE2 c3 c4 f3 f4
  rintro W2 ⟨hR2, hE2⟩
  have c3 := hR2.c3
  have c4 := hR2.c4
  have c6 := hR2.c6
  obtain ⟨aw, cw, ew, _⟩ := own_form (hR2.hold.own (5, 0) _ rfl)
  simp only at ew
  rw [ew] at c6
  have SW := hide (fun n => sweep_any (hR2.drewN n) HDI.out.1)
  have HR2 := hide hR2
  have HE2 := hide hE2
  have e1 : (s.dropped i c).count = ct - 1 := by rw [HDR.out]
  have e2 : (s.dropped i c).stale = st + 1 := by rw [HDR.out]
  have e3 : (s.dropped i c).wat.length ≤ 3300000 := by
    rw [HDR.out]; show s.wat.length ≤ 3300000
    have := HSZ.out.wat; have := HSZ.out.vars; omega
  have HDP2 := HDP.out
  rw [e1] at c3
  rw [e2] at c4
  rw [e1, e2] at HDP2
  have HDP3 := hide HDP2
  clear hR2 hE2 HDP HDP2 e1 e2 ew HDR
  generalize (s.dropped i c).wat.length = nw at *
  by_cases hcond : ct - 1 + (nw : Int) < st + 1
  · have hd : Hid (s.drop i c = (s.dropped i c).swept) := by unfold Hid; rw [HDP3.out, if_pos hcond]
    go_wp2_with fail
    go_quiet (fail)
    go_wp2_with (go_at_call 85; refine (unhide SW _).mono ?_; rintro e w5 ⟨rfl, ρ5, H5, hR5, hE5⟩)
    go_ret
    exact ⟨rfl, ρ5, H5, by rw [hd.out]; exact hR5, (HE2.out.trans (Ev.drewN _ _ _)).trans hE5⟩
  · have hd : Hid (s.drop i c = s.dropped i c) := by unfold Hid; rw [HDP3.out, if_neg hcond]
    go_wp2_with fail
    go_quiet (fail)
    go_wp2_with fail
    go_ret
    exact ⟨rfl, ρ, _, by rw [hd.out]; exact HR2.out.drewN _, HE2.out.trans (Ev.drewN _ _ _)⟩

theorem grid_one (w : World) (a : Option Addr) (cap : Nat) (lits : List Int) (hr : Row w a lits) (hl : lits.length ≤ maxLen) : Grid (w.alloc (.cells #[.slice a lits.length cap] 25)) (some ⟨w.heap.size, 0, none⟩) [lits] := by
  intro i hi
  obtain rfl : i = 0 := by simp at hi; omega
  refine ⟨w.heap.size, 0, a, cap, rfl, by simp, ?_, hr.below (below_alloc w _), hl⟩
  exact cell_of_block (heap_alloc_new w (.cells #[.slice a lits.length cap] 25)) (i := 0) rfl

set_option maxRecDepth 100000 in
set_option maxHeartbeats 2000000 in
theorem add_no (h : Rep ρ w B H s) (hV : s.vars ≤ 1048576) (a : Option Addr) (cap : Nat) (lits : List Int) (hr : Row w a lits) (hl : lits.length ≤ maxLen) (hno : cnfB s.vars [lits] = false) :
    Calls Tryz.prog 73 #[.pointer (some ⟨B, 0, none⟩), .slice a lits.length cap] w fun e w' => e = .returned (.tuple #[.int .i64 0, .int .i64 1]) ∧ Below w.heap.size w w' := by
  have G := hide (given_any h)
  have c1 := h.c1
  have hb := below_alloc w (.cells #[.slice a lits.length cap] 25)
  have C := checkCnf_any (some ⟨w.heap.size, 0, none⟩) 1 s.vars [lits] _ (grid_one w a cap lits hr hl) (by simp [maxLen])
  rw [hno] at C
  simp only [List.length_singleton, errI, Bool.false_eq_true, if_false] at C
  replace C := hide C
  have HB := hide hb
  have hBlt : B ≠ w.heap.size := by have := h.lt; omega
  clear h hr hb hno
  generalize s.vars = V at *
  go_enter Tryz.func73, Tryz.ntmps73
  go_wp2_with (first | (go_at_call 63; refine (unhide G).mono ?_; rintro e w0 ⟨rfl, hw0⟩; subst w0) | (go_at_call 38; refine (unhide C).mono ?_; rintro e w1 ⟨rfl, hb1⟩))
  go_ret2
  exact ⟨rfl, HB.out.trans (hb1.mono HB.out.size)⟩

set_option maxRecDepth 100000 in
set_option maxHeartbeats 2000000 in
theorem add_yes (h : Rep ρ w B H s) (hI : Inv s) (hlits : ∀ c ∈ s.cls, c.lits.length ≤ 10000) (hcl : s.cls.length < 262144) (a : Option Addr) (cap : Nat) (lits : List Int) (hr : Row w a lits) (hl : lits.length ≤ maxLen) (hcap : a = none → cap = 0) (hyes : cnfB s.vars [lits] = true) :
    Calls Tryz.prog 73 #[.pointer (some ⟨B, 0, none⟩), .slice a lits.length cap] w fun e w' => e = .returned (.tuple #[.int .i64 s.cls.length, .int .i64 0]) ∧ AttachP ρ w B s lits w' := by
  have hLt := cnf_lt hyes lits (by simp)
  have hM := hI.small hlits
  have hct := hM.count
  have hct2 : s.count < 262144 := by have := hI.sz.count.2; omega
  have G := hide (given_any h)
  have c1 := h.c1
  have hb := below_alloc w (.cells #[.slice a lits.length cap] 25)
  have C := checkCnf_any (some ⟨w.heap.size, 0, none⟩) 1 s.vars [lits] _ (grid_one w a cap lits hr hl) (by simp [maxLen])
  rw [hyes] at C
  simp only [List.length_singleton, errI, if_true] at C
  replace C := hide C
  have AT : Hid (∀ x, Below w.heap.size w x → Calls Tryz.prog 58 #[.pointer (some ⟨B, 0, none⟩), .slice a lits.length cap] x fun e w' => e = .returned (.int .i64 s.cls.length) ∧ AttachP ρ w B s lits w') := fun x hx => (attach_any (h.below hx) hI.shp hI.vld hM a cap lits (hr.below hx) hLt.2 (by omega) hcap).mono (fun e w' ⟨he, ρ', H', hR, hE⟩ => ⟨he, ρ', H', hR, (Ev.below hx).trans hE⟩)
  have C3 : Hid (∀ x, Below w.heap.size w x → x.cell? ⟨B, 3, none⟩ = some (.int .i64 s.count)) := fun x hx => (h.below hx).c3
  have HB := hide hb
  have hBlt : B ≠ w.heap.size := by have := h.lt; omega
  clear h hr hb hyes hI hlits hM hLt
  generalize s.vars = V at *
  generalize s.count = ct at *
  go_enter Tryz.func73, Tryz.ntmps73
  go_wp2_with (first | (go_at_call 63; refine (unhide G).mono ?_; rintro e w0 ⟨rfl, hw0⟩; subst w0) | (go_at_call 38; refine (unhide C).mono ?_; rintro e w1 ⟨rfl, hb1⟩; have hb1w := HB.out.trans (hb1.mono HB.out.size); have k3 := C3.out _ hb1w) | (go_at_call 58; refine (AT.out _ hb1w).mono ?_; rintro e w2 ⟨rfl, hA⟩))
  go_ret2
  exact ⟨rfl, hA⟩
end
end Go.Proofs.YtlmbgaconjcaiaaGreat

namespace Go.Proofs.YtlmbgaconjcaiaaGreat
section
variable {s : PS}

theorem no_both (h : Inv s) {x : Int} (h1 : x ∈ s.trail) (h2 : -x ∈ s.trail) : False := by
  have hl := h.tr.ok x h1
  have a := (h.vone hl).2 h1
  have b := (h.vneg hl).2 h2
  omega
theorem done_cl (h : Inv s) (hl : s.late = []) (hh : s.head = s.trail.length) {css : List (List Int)} (hk : s.cls.map key = css.map (fun c => (c, false))) {i : Nat} {c : List Int} (hc : css[i]? = some c) :
    (∃ x ∈ c, x ∈ s.trail) ∨ ∃ x y, x ∈ c ∧ y ∈ c ∧ x ≠ y ∧ -x ∉ s.trail ∧ -y ∉ s.trail := by
  obtain ⟨C, h1, h2, h3⟩ := keys_get hk (i := i) (k := (c, false)) (by rw [List.getElem?_map, hc]; rfl)
  rcases done_ok h hl hh h1 h3 with ⟨x, a, b⟩ | ⟨x, y, a, b, c', d, e⟩
  · exact .inl ⟨x, by rw [h2] at a; exact a, b⟩
  · rw [List.take_length] at d e
    rw [h2] at a b
    exact .inr ⟨x, y, a, b, c', d, e⟩
/-- Of two literals the other one is true where one is false. -/
theorem bin_l (h : Inv s) (hl : s.late = []) (hh : s.head = s.trail.length) {css : List (List Int)} (hk : s.cls.map key = css.map (fun c => (c, false))) {i : Nat} {a b : Int} (hc : css[i]? = some [a, b]) (hf : -b ∈ s.trail) : a ∈ s.trail := by
  rcases done_cl h hl hh hk hc with ⟨x, hx, ht⟩ | ⟨x, y, hx, hy, hne, h1, h2⟩
  · simp at hx
    rcases hx with rfl | rfl
    · exact ht
    · exact (no_both h ht hf).elim
  · simp at hx hy
    rcases hx with rfl | rfl
    · rcases hy with rfl | rfl
      · exact absurd rfl hne
      · exact absurd hf h2
    · exact absurd hf h1
theorem one_l (h : Inv s) (hl : s.late = []) (hh : s.head = s.trail.length) {css : List (List Int)} (hk : s.cls.map key = css.map (fun c => (c, false))) {i : Nat} {a : Int} (hc : css[i]? = some [a]) : a ∈ s.trail := by
  rcases done_cl h hl hh hk hc with ⟨x, hx, ht⟩ | ⟨x, y, hx, hy, hne, h1, h2⟩
  · simp at hx; subst hx; exact ht
  · simp at hx hy; subst hx hy; exact absurd rfl hne

def css4 : List (List Int) := [[1, 2], [-1, 2], [1, -2], [-1, -2]]
def css5 : List (List Int) := [[1, 2], [-1, 2], [1, -2], [-1, -2], [2]]

theorem aw_one (h : Inv s) (hl : s.late = []) (hh : s.head = s.trail.length) (hk : s.cls.map key = css4.map (fun c => (c, false))) (h2 : -2 ∈ s.trail) : False := by
  have a := bin_l h hl hh hk (i := 0) (a := 1) (b := 2) rfl h2
  have b := bin_l h hl hh hk (i := 1) (a := -1) (b := 2) rfl h2
  exact no_both h a b
theorem aw_two (h : Inv s) (hl : s.late = []) (hh : s.head = s.trail.length) (hk : s.cls.map key = css5.map (fun c => (c, false))) : False := by
  have h2 := one_l h hl hh hk (i := 4) (a := 2) rfl
  have a := bin_l h hl hh hk (i := 2) (a := 1) (b := -2) rfl h2
  have b := bin_l h hl hh hk (i := 3) (a := -1) (b := -2) rfl h2
  exact no_both h a b

theorem aw_trail (h : Inv s) (hk : s.cls.map key = css4.map (fun c => (c, false))) (hd : s.dec = [3]) : ∀ x ∈ s.trail, x = 3 := by
  have main : ∀ (n i : Nat) (x : Int), i < n → s.trail[i]? = some x → x = 3 := by
    intro n
    induction n with
    | zero => intro i x hi; omega
    | succ n ih =>
      intro i x hi hx
      obtain ⟨r, _, hR⟩ := h.tr.fc i x hx
      rcases hR with ⟨_, u, hu, e⟩ | ⟨_, k, c, _, e2, e3, e4, e5⟩
      · have hm : x ∈ s.dec := by
          unfold PS.dec
          refine List.mem_map.2 ⟨u, hu, ?_⟩
          rw [e, List.getD_eq_getElem?_getD, hx]; rfl
        rw [hd] at hm; simpa using hm
      · exfalso
        have hkk := keys_at hk e2
        have hall : ∀ y ∈ c.lits, y ≠ x → -y = 3 := by
          intro y hy hne
          obtain ⟨j, hj, hyj⟩ := mem_take_iff.1 (e5 y hy hne)
          exact ih j (-y) (by omega) hyj
        have hcl : c.lits ∈ css4 := by
          have : (c.lits, c.gone) ∈ css4.map (fun c => (c, false)) := List.mem_of_getElem? hkk
          obtain ⟨d, hd, e⟩ := List.mem_map.1 this
          injection e with e _
          rw [← e]; exact hd
        simp [css4] at hcl
        rcases hcl with e | e | e | e
        all_goals
          rw [e] at e4 hall
          simp at e4 hall
          omega
  intro x hx
  obtain ⟨i, hi⟩ := List.mem_iff_getElem?.1 hx
  exact main (i + 1) i x (by omega) hi
theorem aw_three (h : Inv s) (hk : s.cls.map key = css4.map (fun c => (c, false))) (hd : s.dec = [3]) {n : Int} (hb : Brk s n) : False := by
  obtain ⟨i, c, _, e1, e2, e3⟩ := hb
  have hkk := keys_at hk e1
  have hcl : c.lits ∈ css4 := by
    have : (c.lits, c.gone) ∈ css4.map (fun c => (c, false)) := List.mem_of_getElem? hkk
    obtain ⟨d, hd, e⟩ := List.mem_map.1 this
    injection e with e _
    rw [← e]; exact hd
  have ht := aw_trail h hk hd
  simp [css4] at hcl
  rcases hcl with e | e | e | e
  all_goals
    rw [e] at e3
    simp at e3
    have a := ht _ e3.1
    omega
end
end Go.Proofs.YtlmbgaconjcaiaaGreat
