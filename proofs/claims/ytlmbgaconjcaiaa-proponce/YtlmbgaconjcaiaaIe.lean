/- Contracts: the library's IndexFunc and DeleteFunc, of what was dropped. -/
import Derived.Test.YtlmbgaconjcaiaaGh
set_option linter.unusedVariables false
set_option linter.unusedSimpArgs false
namespace Go.Proofs.Ytlmbgaconjcaiaa
open Go.RowKit

set_option maxRecDepth 100000 in
set_option maxHeartbeats 400000 in
theorem isGone_cell (w : World) (b : Nat) (r : Bool) (o4 : w.cell? ⟨b, 4, none⟩ = some (.bool r)) :
    Calls Try.prog 81 #[.pointer (some ⟨b, 0, none⟩)] w fun e w' => e = .returned (.bool r) ∧ w' = w := by
  go_enter Try.func81, Try.ntmps81
  go_wp2
  go_ret
  exact ⟨rfl, rfl⟩

set_option maxRecDepth 100000 in
set_option maxHeartbeats 400000 in
theorem isGoneW_cell (w : World) (b : Nat) (r : Bool) (o4 : w.cell? ⟨b, 4, none⟩ = some (.bool r)) (hlt : b < w.heap.size) (hint : Int) :
    Calls Try.prog 79 #[.agg #[.pointer (some ⟨b, 0, none⟩), .int .i64 hint]] w fun e w' => e = .returned (.bool r) ∧ w' = w.alloc (.cells #[.pointer (some ⟨b, 0, none⟩), .int .i64 hint] 103) := by
  have hne : b ≠ w.heap.size := by omega
  go_enter Try.func79, Try.ntmps79
  go_wp2
  go_ret
  exact ⟨rfl, rfl⟩

/-- The place of the first that is not; -1: there is none. -/
def idxI {α : Type} (al : α → Bool) (is : List α) (k : Nat) : Int := match is with
  | [] => -1
  | i :: r => if al i then idxI al r (k + 1) else k

set_option maxRecDepth 100000 in
set_option maxHeartbeats 2000000 in
theorem index71 (w : World) (cb : Nat → Nat) (al : Nat → Bool) (a : Option Addr) (n cap : Nat) (is : List Nat) (hn : is.length = n) (hn1 : n ≤ 2000000) (hown : w.ownsRow 0 90 1 (.slice a n cap) n (ptrsC cb is))
    (hal : ∀ i ∈ is, w.cell? ⟨cb i, 4, none⟩ = some (.bool (!al i))) :
    Calls Try.prog 87 #[.slice a n cap, .func (.func 81) #[] #[]] w fun e w' => e = .returned (.int .i64 (idxI al is 0)) ∧ w' = w := by
  have hsrc := hown.1
  have hE : Hid (idxI al (is.drop 0) 0 = idxI al is 0) := rfl
  go_enter Try.func87, Try.ntmps87
  go_wp2
  go_loopw [8] (fun j wr => ∃ k : Nat, k ≤ n ∧ j = .int .i64 k ∧ Hid (idxI al (is.drop k) k = idxI al is 0) ∧ wr = w) (fun j _ => n - (intOf j).toNat)
  case atStart => exact ⟨0, Nat.zero_le _, rfl, rfl, rfl⟩
  case round =>
    obtain ⟨k, hk, rfl, HS, rfl⟩ := hrel
    by_cases hlt : k < n
    · have hki : (k : Int) < n := by omega
      obtain ⟨g, cap', ev, _, _, _⟩ := own_some hown (by omega)
      simp at ev; obtain ⟨rfl, rfl⟩ := ev
      have hkl : k < is.length := by omega
      have hc := own_cell (i := k) hown rfl (u := ptrC cb is[k]) (by simp [ptrsC, List.getElem?_eq_getElem hkl])
      have o4 := hal is[k] (List.getElem_mem hkl)
      have HS2 := HS.out
      rw [List.drop_eq_getElem_cons hkl] at HS2
      simp only [idxI] at HS2
      simp only [ptrC] at hc
      clear hal hown hsrc
      generalize is[k] = i at *
      cases hA : al i with
      | true =>
        rw [hA] at o4 HS2
        simp only [if_true, Bool.not_true] at o4 HS2
        have GG := hide (isGone_cell wr _ _ o4)
        replace HS2 := hide HS2
        generalize cb i = b at *
        go_wp2_with (go_at_call 81; refine (unhide GG).mono ?_; rintro e w1 ⟨rfl, hw1⟩; subst w1)
        go_roundw
        case rel => exact ⟨k + 1, by omega, by go_num, HS2, by trivial⟩
        case measure => simp [intOf]; omega
      | false =>
        rw [hA] at o4 HS2
        simp only [Bool.false_eq_true, if_false, Bool.not_false] at o4 HS2
        have GG := hide (isGone_cell wr _ _ o4)
        replace HS2 := hide HS2
        generalize cb i = b at *
        go_wp2_with (go_at_call 81; refine (unhide GG).mono ?_; rintro e w1 ⟨rfl, hw1⟩; subst w1)
        go_ret
        exact ⟨ret_int HS2.out, rfl⟩
    · have hkl : is.drop k = [] := List.drop_eq_nil_of_le (by omega)
      have HS2 := HS.out
      rw [hkl] at HS2
      replace HS2 := hide HS2
      clear hal hown hsrc hkl
      go_wp2
      go_ret
      exact ⟨ret_int HS2.out, rfl⟩

/-- In the midst of DeleteFunc: what stays lies ahead, what is still to be looked at behind. -/
structure Mid {α : Type} (al : α → Bool) (is : List α) (i j : Nat) (raw : List α) : Prop where
  len : raw.length = is.length
  ij : i < j
  jn : j ≤ is.length
  tk : raw.take i = (is.take j).filter al
  dr : raw.drop j = is.drop j

section
variable {α : Type} {al : α → Bool} {is raw : List α} {i j : Nat}
theorem Mid.at (h : Mid al is i j raw) (hj : j < is.length) : raw[j]? = some is[j] := by
  have := congrArg (fun l => l[0]?) h.dr
  simp only [List.getElem?_drop, Nat.add_zero] at this
  rw [this, List.getElem?_eq_getElem hj]
theorem Mid.no (h : Mid al is i j raw) (hj : j < is.length) (hx : al is[j] = false) : Mid al is i (j + 1) raw := by
  refine ⟨h.len, by have := h.ij; omega, by omega, ?_, ?_⟩
  · rw [h.tk, List.take_succ_eq_append_getElem hj, List.filter_append]; simp [hx]
  · have := congrArg (List.drop 1) h.dr
    simpa [List.drop_drop, Nat.add_comm] using this
theorem Mid.yes (h : Mid al is i j raw) (hj : j < is.length) (hx : al is[j] = true) : Mid al is (i + 1) (j + 1) (raw.set i is[j]) := by
  have hi : i < raw.length := by rw [h.len]; have := h.ij; omega
  refine ⟨by rw [List.length_set]; exact h.len, by have := h.ij; omega, by omega, ?_, ?_⟩
  · rw [List.take_succ_eq_append_getElem hj, List.filter_append, ← h.tk, List.take_succ_eq_append_getElem (by simpa using hi)]
    simp [hx, List.take_set_of_le]
  · have := congrArg (List.drop 1) h.dr
    rw [List.drop_set_of_lt (by have := h.ij; omega)]
    simpa [List.drop_drop, Nat.add_comm] using this
theorem Mid.done (h : Mid al is i j raw) (hj : ¬ j < is.length) : raw.take i = is.filter al ∧ i = (is.filter al).length ∧ i < is.length := by
  have e : j = is.length := by have := h.jn; omega
  have h1 : raw.take i = is.filter al := by rw [h.tk, e, List.take_length]
  have hi : i < is.length := by have := h.ij; omega
  refine ⟨h1, ?_, hi⟩
  rw [← h1, List.length_take, h.len]; omega
end

theorem idxI_cases {α : Type} (al : α → Bool) : ∀ (is : List α) (k : Nat), (idxI al is k = -1 ∧ is.filter al = is) ∨ ∃ m, m < is.length ∧ idxI al is k = ((k + m : Nat) : Int) ∧ is.take m = (is.take (m + 1)).filter al
  | [], k => .inl ⟨rfl, rfl⟩
  | i :: r, k => by
    cases h : al i with
    | false => exact .inr ⟨0, by simp, by simp [idxI, h], by simp [h]⟩
    | true =>
      rcases idxI_cases al r (k + 1) with ⟨h1, h2⟩ | ⟨m, h1, h2, h3⟩
      · exact .inl ⟨by simp [idxI, h, h1], by simp [h, h2]⟩
      · refine .inr ⟨m + 1, by simp; omega, by simp [idxI, h, h2]; omega, by simp [h, h3]⟩

def DFP (w : World) (e sz : Nat) (v v' : Value) (n : Nat) (xs : List Value) (w' : World) : Prop := w.grownBy w' v.ownBlock ∧ w'.ownsRow 0 e sz v' n xs

theorem ptrsC_set (cb : Nat → Nat) (is : List Nat) (i x : Nat) : (ptrsC cb is).set i (ptrC cb x) = ptrsC cb (is.set i x) := by simp [ptrsC, List.map_set]

set_option maxHeartbeats 4000000 in
set_option maxRecDepth 100000 in
theorem del65 (w : World) (cb : Nat → Nat) (al : Nat → Bool) (a : Option Addr) (n cap : Nat) (is : List Nat) (hn : is.length = n) (hn1 : n ≤ 2000000) (hown : w.ownsRow 0 90 1 (.slice a n cap) n (ptrsC cb is))
    (hal : ∀ i ∈ is, w.cell? ⟨cb i, 4, none⟩ = some (.bool (!al i)) ∧ cb i < w.heap.size ∧ ∀ g, (Value.slice a n cap).ownBlock = some g → cb i ≠ g) :
    Calls Try.prog 80 #[.slice a n cap, .func (.func 81) #[] #[]] w fun e w' => e = .returned (.slice a (is.filter al).length cap) ∧ DFP w 90 1 (.slice a n cap) (.slice a (is.filter al).length cap) (is.filter al).length (ptrsC cb (is.filter al)) w' := by
  have IX := hide (index71 w cb al a n cap is hn hn1 hown (fun i hi => (hal i hi).1))
  rcases idxI_cases al is 0 with ⟨h1, h2⟩ | ⟨m, h1, h2, h3⟩
  · rw [h1] at IX
    have HF : Hid (DFP w 90 1 (.slice a n cap) (.slice a (is.filter al).length cap) (is.filter al).length (ptrsC cb (is.filter al)) w) := by
      rw [h2, hn]; exact ⟨World.grownBy.refl _ _, hown⟩
    have HN : Hid ((is.filter al).length = n) := by unfold Hid; rw [h2, hn]
    clear hal hown h1 h2
    go_enter Try.func80, Try.ntmps80
    go_wp2_with (go_at_call 87; refine (unhide IX).mono ?_; rintro e w1 ⟨rfl, hw1⟩; subst w1)
    go_ret
    exact ⟨by rw [HN.out]; rfl, HF.out⟩
  · rw [h2] at IX
    have hm : m < n := by omega
    obtain ⟨g, cap', ev, hc1, hc2, hglt⟩ := own_some hown (by omega)
    simp at ev; obtain ⟨rfl, rfl⟩ := ev
    have HM : Hid (Mid al is m (m + 1) is) := ⟨rfl, by omega, by omega, h3, rfl⟩
    have HO := hide hown
    have HA := hide hal
    have HN := hide hn
    unfold maxLen at hc2
    have e0 : ((0 + m : Nat) : Int) = (m : Int) := by omega
    rw [e0] at IX
    have em : ((m : Int) == -1) = false := by simp
    clear hal hown h1 h2 h3 hn e0
    go_enter Try.func80, Try.ntmps80
    go_wp2_with (go_at_call 87; refine (unhide IX).mono ?_; rintro e w1 ⟨rfl, hw1⟩; subst w1)
    go_loopw [5, 6] (fun pi pj wr => ∃ (i j : Nat) (raw : List Nat), pi = .int .i64 i ∧ pj = .int .i64 j ∧ i < j ∧ j ≤ n ∧ Hid (Mid al is i j raw) ∧ Hid (wr.ownsRow 0 90 1 (.slice (some ⟨g, 0, none⟩) n cap) n (ptrsC cb raw)) ∧ Hid (w.grownBy wr (some g))) (fun _ pj _ => n - (intOf pj).toNat)
    case atStart => exact ⟨m, m + 1, is, rfl, by go_num, by omega, by omega, HM, HO, World.grownBy.refl _ _⟩
    case round =>
      obtain ⟨i, j, raw, rfl, rfl, hij, hjn, HM, HO, HG⟩ := hrel
      have hii : (i : Int) < n := by omega
      by_cases hlt : j < n
      · have hji : (j : Int) < n := by omega
        have hjl : j < is.length := by rw [HN.out]; exact hlt
        have hc := own_cell (i := j) HO.out rfl (u := ptrC cb is[j]) (by simp [ptrsC, HM.out.at hjl])
        have hrl : i < raw.length := by rw [HM.out.len]; omega
        have hci := own_cell (i := i) HO.out rfl (u := ptrC cb raw[i]) (by simp [ptrsC, List.getElem?_eq_getElem hrl])
        have hfi := own_fz HO.out rfl i
        obtain ⟨a1, a2, a3⟩ := HA.out is[j] (List.getElem_mem hjl)
        have o4 : wr.cell? ⟨cb is[j], 4, none⟩ = some (.bool (!al is[j])) := (World.cell?_of_block (a := ⟨cb is[j], 4, none⟩) (HG.out.block _ a2 (fun e => a3 g rfl (by simpa using e)))).trans a1
        have M1 := hide (HM.out.no hjl)
        have M2 := hide (HM.out.yes hjl)
        simp only [ptrC] at hc hci
        have HS : Hid ((ptrsC cb raw).set i (.pointer (some ⟨cb is[j], 0, none⟩)) = ptrsC cb (raw.set i is[j])) := ptrsC_set cb raw i is[j]
        clear a1 a2 a3
        generalize is[j] = x at *
        cases hA : al x with
        | true =>
          rw [hA] at o4
          simp only [Bool.not_true] at o4
          have GG := hide (isGone_cell wr _ _ o4)
          generalize cb x = b at *
          go_wp2_with (go_at_call 81; refine (unhide GG).mono ?_; rintro e w1 ⟨rfl, hw1⟩; subst w1)
          go_roundw
          case rel => exact ⟨i + 1, j + 1, raw.set i x, by go_num, by go_num, by omega, by omega, M2.out hA, by have := own_set (i := i) HO.out rfl (.pointer (some ⟨b, 0, none⟩)); rw [HS.out] at this; exact this, grownBy_trans HG.out (grownBy_set _ _ _ _)⟩
          case measure => simp [intOf]; omega
        | false =>
          rw [hA] at o4
          simp only [Bool.not_false] at o4
          have GG := hide (isGone_cell wr _ _ o4)
          generalize cb x = b at *
          go_wp2_with (go_at_call 81; refine (unhide GG).mono ?_; rintro e w1 ⟨rfl, hw1⟩; subst w1)
          go_roundw
          case rel => exact ⟨i, j + 1, raw, rfl, by go_num, by omega, by omega, M1.out hA, HO, HG⟩
          case measure => simp [intOf]; omega
      · obtain ⟨d1, d2, d3⟩ := HM.out.done (by rw [HN.out]; exact hlt)
        have hclw : ∀ ty, (Builtin.clear_ #[59] ty #[.slice (some ⟨g, i, none⟩) (n - i) (cap - i)]).run Try.prog wr = .ok (.tuple #[]) (wr.setCells g i (Builtin.zeroCells (Value.pointer none).cells (n - i)).toList) :=
          fun ty => run_clear_any wr 59 90 ty _ 1 Try.underlying59 zero82 rfl (by decide) (by simp [Value.cells, Value.oneCell']) g i (n - i) (cap - i) (by omega) (fun j hj => own_isSome HO.out (by omega)) (fun j _ => own_fz HO.out rfl _)
        have HF : Hid (DFP w 90 1 (.slice (some ⟨g, 0, none⟩) n cap) (.slice (some ⟨g, 0, none⟩) i cap) i (ptrsC cb (is.filter al)) (wr.setCells g i (Builtin.zeroCells (Value.pointer none).cells (n - i)).toList)) := by
          refine ⟨grownBy_trans HG.out (grownBy_sets g _ _ _), ?_⟩
          have h2 := own_cut HO.out (m := i) (by omega)
          have e : (ptrsC cb raw).take (i * 1) = ptrsC cb (is.filter al) := by rw [← d1]; simp [ptrsC]
          rw [e] at h2
          refine own_sets_beyond rfl _ _ _ h2 ?_
          rw [d2]; simp [ptrsC]
        have HD := hide d2
        have hne : ¬ cap = i := by omega
        have hic : (i : Int) ≤ cap := by omega
        clear d1 d2 d3 HM HO
        go_wp2
        go_ret
        rw [← HD.out]
        exact ⟨rfl, HF.out⟩
end Go.Proofs.Ytlmbgaconjcaiaa
