/- Contracts: the library's IndexFunc and DeleteFunc, of watches of what was dropped. -/
import Derived.Test.YtlmbgaconjcaiaaIe
set_option linter.unusedVariables false
set_option linter.unusedSimpArgs false
namespace Go.Proofs.Ytlmbgaconjcaiaa
open Go.RowKit

theorem own_up {w w' : World} {base e sz n : Nat} {v : Value} {xs : List Value} (h : w.ownsRow base e sz v n xs) (hb : Below w.heap.size w w') : w'.ownsRow base e sz v n xs :=
  own_same h (fun k hk => hb.block k (World.ownsRow.lt h k hk).2)

theorem below_twice (w : World) (v : Obj) : Below w.heap.size w ((w.alloc v).alloc v) := (below_alloc w v).trans ((below_alloc _ v).mono (by simp))
theorem grown_below {w w' : World} (hb : Below w.heap.size w w') (r : Option Nat) : w.grownBy w' r := ⟨hb.os, hb.tape, hb.output, hb.size, fun b h _ => hb.block b h⟩

set_option maxRecDepth 100000 in
set_option maxHeartbeats 2000000 in
theorem index70 (w : World) (cb : Nat → Nat) (al : Nat → Bool) (a : Option Addr) (n cap : Nat) (q : List (Nat × Int)) (hn : q.length = n) (hn1 : n ≤ 2000000) (hown : w.ownsRow 0 103 2 (.slice a n cap) n (watC cb q))
    (hal : ∀ p ∈ q, w.cell? ⟨cb p.1, 4, none⟩ = some (.bool (!al p.1)) ∧ cb p.1 < w.heap.size) :
    Calls Try.prog 86 #[.slice a n cap, .func (.func 79) #[] #[]] w fun e w' => e = .returned (.int .i64 (idxI (fun p => al p.1) q 0)) ∧ Below w.heap.size w w' := by
  go_enter Try.func86, Try.ntmps86
  go_wp2
  go_loopw [8] (fun j wr => ∃ k : Nat, k ≤ n ∧ j = .int .i64 k ∧ Hid (idxI (fun p => al p.1) (q.drop k) k = idxI (fun p => al p.1) q 0) ∧ Hid (Below w.heap.size w wr)) (fun j _ => n - (intOf j).toNat)
  case atStart => exact ⟨0, Nat.zero_le _, rfl, rfl, Below.refl _ _⟩
  case round =>
    obtain ⟨k, hk, rfl, HS, HB⟩ := hrel
    by_cases hlt : k < n
    · have hki : (k : Int) < n := by omega
      have hown' := own_up hown HB.out
      obtain ⟨g, cap', ev, _, _, hglt⟩ := own_some hown' (by omega)
      simp at ev; obtain ⟨rfl, rfl⟩ := ev
      have hkl : k < q.length := by omega
      have hw := watC_get cb q k _ (List.getElem?_eq_getElem hkl)
      have hc := own_cell (i := k * 2) hown' rfl hw.1
      have hc2 := own_cell (i := k * 2 + 1) hown' rfl hw.2
      obtain ⟨a1, a2⟩ := hal q[k] (List.getElem_mem hkl)
      have o4 : wr.cell? ⟨cb q[k].1, 4, none⟩ = some (.bool (!al q[k].1)) := (HB.out.cell (p := ⟨cb q[k].1, 4, none⟩) a2).trans a1
      have hblt : cb q[k].1 < wr.heap.size := Nat.lt_of_lt_of_le a2 HB.out.size
      have HS2 := HS.out
      rw [List.drop_eq_getElem_cons hkl] at HS2
      simp only [idxI] at HS2
      simp only [ptrC] at hc
      clear hal hown hown' hw a1 a2
      generalize q[k] = pr at *
      obtain ⟨i, hint⟩ := pr
      simp only at *
      cases hA : al i with
      | true =>
        rw [hA] at o4
        rw [if_pos hA] at HS2
        simp only [Bool.not_true] at o4
        have GG := hide (isGoneW_cell wr _ _ o4 hblt hint)
        replace HS2 := hide HS2
        generalize cb i = b at *
        go_wp2_with (go_at_call 79; refine (unhide GG).mono ?_; rintro e w1 ⟨rfl, hw1⟩; subst w1)
        go_roundw
        case rel => exact ⟨k + 1, by omega, by go_num, HS2, HB.out.trans ((below_alloc wr _).mono HB.out.size)⟩
        case measure => simp [intOf]; omega
      | false =>
        rw [hA] at o4
        rw [if_neg (by simp [hA])] at HS2
        simp only [Bool.not_false] at o4
        have GG := hide (isGoneW_cell wr _ _ o4 hblt hint)
        replace HS2 := hide HS2
        generalize cb i = b at *
        go_wp2_with (go_at_call 79; refine (unhide GG).mono ?_; rintro e w1 ⟨rfl, hw1⟩; subst w1)
        go_ret
        exact ⟨ret_int HS2.out, HB.out.trans ((below_alloc wr _).mono HB.out.size)⟩
    · have hkl : q.drop k = [] := List.drop_eq_nil_of_le (by omega)
      have HS2 := HS.out
      rw [hkl] at HS2
      replace HS2 := hide HS2
      clear hal hown hkl
      go_wp2
      go_ret
      exact ⟨ret_int HS2.out, HB.out⟩

set_option maxHeartbeats 4000000 in
set_option maxRecDepth 100000 in
theorem del63 (w : World) (cb : Nat → Nat) (al : Nat → Bool) (a : Option Addr) (n cap : Nat) (q : List (Nat × Int)) (hn : q.length = n) (hn1 : n ≤ 2000000) (hown : w.ownsRow 0 103 2 (.slice a n cap) n (watC cb q))
    (hal : ∀ p ∈ q, w.cell? ⟨cb p.1, 4, none⟩ = some (.bool (!al p.1)) ∧ cb p.1 < w.heap.size ∧ ∀ g, (Value.slice a n cap).ownBlock = some g → cb p.1 ≠ g) :
    Calls Try.prog 78 #[.slice a n cap, .func (.func 79) #[] #[]] w fun e w' => e = .returned (.slice a (q.filter (fun p => al p.1)).length cap) ∧ DFP w 103 2 (.slice a n cap) (.slice a (q.filter (fun p => al p.1)).length cap) (q.filter (fun p => al p.1)).length (watC cb (q.filter (fun p => al p.1))) w' := by
  have IX := hide (index70 w cb al a n cap q hn hn1 hown (fun i hi => ⟨(hal i hi).1, (hal i hi).2.1⟩))
  rcases idxI_cases (fun p => al p.1) q 0 with ⟨h1, h2⟩ | ⟨m, h1, h2, h3⟩
  · rw [h1] at IX
    have HF : ∀ w', Below w.heap.size w w' → DFP w 103 2 (.slice a n cap) (.slice a (q.filter (fun p => al p.1)).length cap) (q.filter (fun p => al p.1)).length (watC cb (q.filter (fun p => al p.1))) w' := by
      intro w' hb
      rw [h2, hn]; exact ⟨⟨hb.os, hb.tape, hb.output, hb.size, fun b h _ => hb.block b h⟩, own_up hown hb⟩
    replace HF := hide HF
    have HN : Hid ((q.filter (fun p => al p.1)).length = n) := by unfold Hid; rw [h2, hn]
    clear hal hown h1 h2
    go_enter Try.func78, Try.ntmps78
    go_wp2_with (go_at_call 86; refine (unhide IX).mono ?_; rintro e w1 ⟨rfl, hw1⟩)
    go_ret
    exact ⟨by rw [HN.out]; rfl, HF.out _ hw1⟩
  · rw [h2] at IX
    have hm : m < n := by omega
    obtain ⟨g, cap', ev, hc1, hc2, hglt⟩ := own_some hown (by omega)
    simp at ev; obtain ⟨rfl, rfl⟩ := ev
    have HM : Hid (Mid (fun p : Nat × Int => al p.1) q m (m + 1) q) := ⟨rfl, by omega, by omega, h3, rfl⟩
    have HO := hide hown
    have HA := hide hal
    have HN := hide hn
    unfold maxLen at hc2
    have e0 : ((0 + m : Nat) : Int) = (m : Int) := by omega
    rw [e0] at IX
    have em : ((m : Int) == -1) = false := by simp
    clear hal hown h1 h2 h3 hn e0
    go_enter Try.func78, Try.ntmps78
    go_wp2_with (go_at_call 86; refine (unhide IX).mono ?_; rintro e w1 ⟨rfl, hw1⟩)
    go_loopw [5, 6] (fun pi pj wr => ∃ (i j : Nat) (raw : List (Nat × Int)), pi = .int .i64 i ∧ pj = .int .i64 j ∧ i < j ∧ j ≤ n ∧ Hid (Mid (fun p : Nat × Int => al p.1) q i j raw) ∧ Hid (wr.ownsRow 0 103 2 (.slice (some ⟨g, 0, none⟩) n cap) n (watC cb raw)) ∧ Hid (w.grownBy wr (some g))) (fun _ pj _ => n - (intOf pj).toNat)
    case atStart => exact ⟨m, m + 1, q, rfl, by go_num, by omega, by omega, HM, own_up HO.out hw1, ⟨hw1.os, hw1.tape, hw1.output, hw1.size, fun b h _ => hw1.block b h⟩⟩
    case round =>
      obtain ⟨i, j, raw, rfl, rfl, hij, hjn, HM, HO, HG⟩ := hrel
      have hii : (i : Int) < n := by omega
      by_cases hlt : j < n
      · have hji : (j : Int) < n := by omega
        have hjl : j < q.length := by rw [HN.out]; exact hlt
        have hwj := watC_get cb raw j _ (HM.out.at hjl)
        have hc := own_cell (i := j * 2) HO.out rfl hwj.1
        have hcb := own_cell (i := j * 2 + 1) HO.out rfl hwj.2
        have hrl : i < raw.length := by rw [HM.out.len]; omega
        have hwi := watC_get cb raw i _ (List.getElem?_eq_getElem hrl)
        have hci := own_cell (i := i * 2) HO.out rfl hwi.1
        have hcj := own_cell (i := i * 2 + 1) HO.out rfl hwi.2
        have hfi := own_fz HO.out rfl (i * 2)
        have hfj := own_fz HO.out rfl (i * 2 + 1)
        obtain ⟨a1, a2, a3⟩ := HA.out q[j] (List.getElem_mem hjl)
        have o4 : wr.cell? ⟨cb q[j].1, 4, none⟩ = some (.bool (!al q[j].1)) := (World.cell?_of_block (a := ⟨cb q[j].1, 4, none⟩) (HG.out.block _ a2 (fun e => a3 g rfl (by simpa using e)))).trans a1
        have hblt : cb q[j].1 < wr.heap.size := Nat.lt_of_lt_of_le a2 HG.out.size
        have M1 := hide (HM.out.no hjl)
        have M2 := hide (HM.out.yes hjl)
        have hgl : g < wr.heap.size := (World.ownsRow.lt HO.out g rfl).2
        have hg1 : g ≠ wr.heap.size := by omega
        have hg2 : g ≠ wr.heap.size + 1 := by omega
        simp only [ptrC] at hc hci
        have HS : Hid (((watC cb raw).set (i * 2) (.pointer (some ⟨cb q[j].1, 0, none⟩))).set (i * 2 + 1) (.int .i64 q[j].2) = watC cb (raw.set i q[j])) := watC_set cb raw i q[j]
        have hb1 : ∀ v, Hid (Below (wr.heap.size) wr ((wr.alloc v).alloc v)) := fun v => ((below_alloc wr v).trans ((below_alloc _ v).mono (by simp)))
        clear a1 a2 a3 hwj hwi
        generalize q[j] = pr at *
        obtain ⟨x, hint⟩ := pr
        simp only at *
        cases hA : al x with
        | true =>
          rw [hA] at o4
          simp only [Bool.not_true] at o4
          generalize cb x = b at *
          have HBX := hb1 (.cells #[.pointer (some ⟨b, 0, none⟩), .int .i64 hint] 103)
          have GG := hide (isGoneW_cell (wr.alloc (.cells #[.pointer (some ⟨b, 0, none⟩), .int .i64 hint] 103)) b _ ((World.cell?_of_block (a := ⟨b, 4, none⟩) (heap_alloc_old wr _ hblt)).trans o4) (by simp; omega) hint)
          go_wp2_with (go_at_call 79; refine (unhide GG).mono ?_; rintro e w1 ⟨rfl, hw1⟩; subst w1)
          go_roundw
          case rel => exact ⟨i + 1, j + 1, raw.set i (x, hint), by go_num, by go_num, by omega, by omega, M2.out hA, by have := own_up (own_set (i := i * 2 + 1) (own_set (i := i * 2) HO.out rfl (.pointer (some ⟨b, 0, none⟩))) rfl (.int .i64 hint)) (below_twice _ (.cells #[.pointer (some ⟨b, 0, none⟩), .int .i64 hint] 103)); rw [HS.out] at this; exact this, grownBy_trans HG.out (grownBy_trans (grownBy_trans (grownBy_set _ _ _ _) (grownBy_set _ _ _ _)) (grown_below (below_twice _ _) _))⟩
          case measure => simp [intOf]; omega
        | false =>
          rw [hA] at o4
          simp only [Bool.not_false] at o4
          generalize cb x = b at *
          have HBX := hb1 (.cells #[.pointer (some ⟨b, 0, none⟩), .int .i64 hint] 103)
          have GG := hide (isGoneW_cell (wr.alloc (.cells #[.pointer (some ⟨b, 0, none⟩), .int .i64 hint] 103)) b _ ((World.cell?_of_block (a := ⟨b, 4, none⟩) (heap_alloc_old wr _ hblt)).trans o4) (by simp; omega) hint)
          go_wp2_with (go_at_call 79; refine (unhide GG).mono ?_; rintro e w1 ⟨rfl, hw1⟩; subst w1)
          go_roundw
          case rel => exact ⟨i, j + 1, raw, rfl, by go_num, by omega, by omega, M1.out hA, own_up HO.out HBX.out, grownBy_trans HG.out ⟨HBX.out.os, HBX.out.tape, HBX.out.output, HBX.out.size, fun b h _ => HBX.out.block b h⟩⟩
          case measure => simp [intOf]; omega
      · obtain ⟨d1, d2, d3⟩ := HM.out.done (by rw [HN.out]; exact hlt)
        have hclw : ∀ ty, (Builtin.clear_ #[101] ty #[.slice (some ⟨g, i * 2, none⟩) (n - i) (cap - i)]).run Try.prog wr = .ok (.tuple #[]) (wr.setCells g (i * 2) (Builtin.zeroCells (Value.agg #[.pointer none, .int .i64 0]).cells (n - i)).toList) :=
          fun ty => run_clear_any wr 101 103 ty _ 2 Try.underlying101 zero97 rfl (by decide) (by simp [Value.cells, Value.oneCell']) g (i * 2) (n - i) (cap - i) (by omega) (fun j hj => own_isSome HO.out (by omega)) (fun j _ => own_fz HO.out rfl _)
        have HF : Hid (DFP w 103 2 (.slice (some ⟨g, 0, none⟩) n cap) (.slice (some ⟨g, 0, none⟩) i cap) i (watC cb (q.filter (fun p => al p.1))) (wr.setCells g (i * 2) (Builtin.zeroCells (Value.agg #[.pointer none, .int .i64 0]).cells (n - i)).toList)) := by
          refine ⟨grownBy_trans HG.out (grownBy_sets g _ _ _), ?_⟩
          have h2 := own_cut HO.out (m := i) (by omega)
          have e : (watC cb raw).take (i * 2) = watC cb (q.filter (fun p => al p.1)) := by rw [← d1, watC_take]
          rw [e] at h2
          refine own_sets_beyond rfl _ _ _ h2 ?_
          rw [watC_len, d2]; exact Nat.le_refl _
        have HD := hide d2
        have hne : ¬ cap = i := by omega
        have hic : (i : Int) ≤ cap := by omega
        clear d1 d2 d3 HM HO
        go_wp2
        go_ret
        rw [← HD.out]
        exact ⟨rfl, HF.out⟩
end Go.Proofs.Ytlmbgaconjcaiaa
