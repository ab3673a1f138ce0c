/- The theorem of resolution, where there is something to be resolved: the law's own text, walked. -/
import Derived.Test.YtiddcpemckifmaaLawResolves
set_option linter.unusedVariables false
set_option linter.unusedSimpArgs false
namespace Go.Proofs.Ytiddcpemckifmaa
open Go.RowKit

set_option maxHeartbeats 1000000 in
theorem resolves_none (a b am : Option Addr) (ca cb cm : Nat) (xs ys m : List Int) (n : Int) (w : World) (hr : Row w a xs) (hs : Row w b ys) (hl : (xs.length : Int) ≤ 600) (hm : (ys.length : Int) ≤ 600) (h : resArg xs ys n = true) (hn : (hasB xs n && hasB ys (-n)) = false) :
    Calls Try.prog 6 #[.slice a xs.length ca, .slice b ys.length cb, .agg #[.slice am m.length cm, .int .i64 n]] w fun e w' => e = .returned (.bool true) ∧ Below w.heap.size w w' := by
  have C8 := hide awake_any
  have hrW := hr.below (below_alloc w (.cells #[.slice am m.length cm, .int .i64 n] 43))
  have hsW := hs.below (below_alloc w (.cells #[.slice am m.length cm, .int .i64 n] 43))
  have C1 := hide (resolve_none a b ca cb xs ys n _ hrW hsW (by omega) (by omega) h hn)
  have C2 := may_any a ca xs _ hrW (by unfold maxLen; omega)
  have C3 := may_any b cb ys _ hsW (by unfold maxLen; omega)
  have C4 := has_any a ca xs n _ hrW (by unfold maxLen; omega)
  have C5 := has_any b cb ys (-n) _ hsW (by unfold maxLen; omega)
  have f := box_cells (Below.refl (w.heap.size + 1) (w.alloc (.cells #[.slice am m.length cm, .int .i64 n] 43)))
  have F1 := f.2
  clear hr hs hrW hsW f
  unfold resArg at h
  rw [Bool.and_eq_true, Bool.and_eq_true, decide_eq_true_eq] at h
  obtain ⟨m1, m2, n1, n2⟩ := h
  rw [m1] at C2
  rw [m2] at C3
  replace C2 := hide C2
  replace C3 := hide C3
  clear m1 m2
  by_cases h3 : hasB xs n = true
  case neg =>
    have h3' : hasB xs n = false := by simpa using h3
    rw [h3'] at C4
    replace C4 := hide C4
    clear C5 hn h3 h3'
    go_enter Try.func6, Try.ntmps6
    go_wp2_with fail
    refine (unhide C1).mono ?_
    rintro e w0 ⟨rfl, hw0⟩
    subst w0
    go_wp2_with fail
    refine (unhide C2).mono ?_
    rintro e w0 ⟨rfl, hw0⟩
    subst w0
    go_wp2_with fail
    refine (unhide C3).mono ?_
    rintro e w0 ⟨rfl, hw0⟩
    subst w0
    go_wp2_with fail
    refine (unhide C4).mono ?_
    rintro e w0 ⟨rfl, hw0⟩
    subst w0
    go_wp2_with fail
    refine (unhide C8 _).mono ?_
    rintro e w1 ⟨rfl, hb⟩
    go_wp2
    go_ret
    exact ⟨rfl, below_box (hb.mono (by simp))⟩
  rw [h3] at C4 hn
  rw [Bool.true_and] at hn
  rw [hn] at C5
  replace C4 := hide C4
  replace C5 := hide C5
  clear h3 hn
  go_enter Try.func6, Try.ntmps6
  go_wp2_with fail
  refine (unhide C1).mono ?_
  rintro e w0 ⟨rfl, hw0⟩
  subst w0
  go_wp2_with fail
  refine (unhide C2).mono ?_
  rintro e w0 ⟨rfl, hw0⟩
  subst w0
  go_wp2_with fail
  refine (unhide C3).mono ?_
  rintro e w0 ⟨rfl, hw0⟩
  subst w0
  go_wp2_with fail
  refine (unhide C4).mono ?_
  rintro e w0 ⟨rfl, hw0⟩
  subst w0
  go_wp2_with fail
  refine (unhide C5).mono ?_
  rintro e w0 ⟨rfl, hw0⟩
  subst w0
  go_wp2_with fail
  refine (unhide C8 _).mono ?_
  rintro e w1 ⟨rfl, hb⟩
  go_wp2
  go_ret
  exact ⟨rfl, below_box (hb.mono (by simp))⟩

theorem intsB_refl (c : List Int) : intsB c c = true := by simp [intsB]

theorem own_made (w : World) : Own w.heap.size (w.alloc (.cells #[] 3)) (.slice (some ⟨w.heap.size, 0, none⟩) 0 0) [] :=
  World.ownsRow_lit (e := 3) (size := 1) w #[] 0 (Nat.le_refl _) (Nat.zero_le _) rfl

set_option maxHeartbeats 2000000 in
theorem resolves_yes (a b am : Option Addr) (ca cb cm : Nat) (xs ys m : List Int) (n : Int) (w : World) (hr : Row w a xs) (hs : Row w b ys) (hq : Row w am m) (hml : m.length ≤ maxLen) (hl : (xs.length : Int) ≤ 600) (hm : (ys.length : Int) ≤ 600) (h : resArg xs ys n = true) (hn : (hasB xs n && hasB ys (-n)) = true) :
    Calls Try.prog 6 #[.slice a xs.length ca, .slice b ys.length cb, .agg #[.slice am m.length cm, .int .i64 n]] w fun e w' => e = .returned (.bool true) ∧ Below w.heap.size w w' := by
  obtain ⟨i0, hi, hz0, hz1, hz2⟩ := info_parts Try.info3
  have C8 := hide awake_any
  have hbW := below_alloc w (.cells #[.slice am m.length cm, .int .i64 n] 43)
  have hrW := hr.below hbW
  have hsW := hs.below hbW
  have C1 := resolve_yes a b ca cb xs ys n _ hrW hsW (by omega) (by omega) h hn
  have f := box_cells (Below.refl (w.heap.size + 1) (w.alloc (.cells #[.slice am m.length cm, .int .i64 n] 43)))
  have F1 := f.2
  unfold resArg at h
  rw [Bool.and_eq_true, Bool.and_eq_true, decide_eq_true_eq] at h
  rw [Bool.and_eq_true] at hn
  obtain ⟨m1, m2, n1, n2⟩ := h
  obtain ⟨h3, h4⟩ := hn
  have HM := hide (resolved_may (n := n) m1 m2 (by omega) (by omega))
  have HLI := hide (lits_join (n := n) (k := -n) (lits_of m1) (lits_of m2))
  have HT := hide (@resolved_true m xs ys n)
  have hl1 := wo_len xs n
  have hl2 := wo_len ys (-n)
  have hol := order_len (wo xs n ++ wo ys (-n))
  have HR := hide hr
  have HS := hide hs
  have HQ := hide hq
  have M1 := hide m1
  have M2 := hide m2
  have H3 := hide h3
  have H4 := hide h4
  have HML := hide hml
  replace C1 := hide C1
  rw [size_alloc] at C1
  clear hr hs hrW hsW f hq m1 m2 h3 h4 hml hbW
  go_enter Try.func6, Try.ntmps6
  go_wp2_with fail
  refine (unhide C1).mono ?_
  rintro e w1 ⟨v1, rfl, hown1, hbel1⟩
  clear C1
  have hB1 := below_box hbel1
  have hr1 := HR.out.below hB1
  have hs1 := HS.out.below hB1
  have C2 := may_any a ca xs _ hr1 (by unfold maxLen; omega)
  have C3 := may_any b cb ys _ hs1 (by unfold maxLen; omega)
  have C4 := has_any a ca xs n _ hr1 (by unfold maxLen; omega)
  have C5 := has_any b cb ys (-n) _ hs1 (by unfold maxLen; omega)
  rw [M1.out] at C2
  rw [M2.out] at C3
  rw [H3.out] at C4
  rw [H4.out] at C5
  replace C2 := hide C2
  replace C3 := hide C3
  replace C4 := hide C4
  replace C5 := hide C5
  have F11 := (box_cells hbel1).2
  have HO1 := hide hown1
  clear hr1 hs1 hown1 F1
  go_wp2_with fail
  refine (unhide C2).mono ?_
  rintro e w0 ⟨rfl, hw0⟩
  subst w0
  go_wp2_with fail
  refine (unhide C3).mono ?_
  rintro e w0 ⟨rfl, hw0⟩
  subst w0
  go_wp2_with fail
  refine (unhide C4).mono ?_
  rintro e w0 ⟨rfl, hw0⟩
  subst w0
  go_wp2_with fail
  refine (unhide C5).mono ?_
  rintro e w0 ⟨rfl, hw0⟩
  subst w0
  clear C2 C3 C4 C5
  have hE : Below w1.heap.size w1 (w1.alloc (.cells #[] 3)) := below_alloc _ _
  have C6 := hide (refWithout_any a ca xs n (w1.alloc (.cells #[] 3)) ((HR.out.below hB1).below hE) (by omega))
  rw [size_alloc] at C6
  have hsz1 : w.heap.size + 1 ≤ w1.heap.size := by have := hbel1.size; rwa [size_alloc] at this
  have F12 := (box_cells (hbel1.trans (hE.mono hsz1))).2
  clear F11 hE
  go_wp2_with fail
  refine (unhide C6).mono ?_
  rintro e w2 ⟨v2, rfl, hown2, hnn2, hbel2⟩
  clear C6 F12
  have hA := (own_made w1).below (hbel2.mono (by simp))
  obtain ⟨g2, cap2, rfl, hg2, hg2', hcells2⟩ := hown2.src hnn2
  have hW2 := (below_alloc w1 (.cells #[] 3)).trans (hbel2.mono (Nat.le_succ _))
  have hsz2 := hW2.size
  clear hnn2 hown2 hbel2
  go_wp2_with (at_builtin; refine wpList_append_own _ rfl (.tmp 78) (.tmp 82) 22 rfl w1.heap.size 3 i0 (.int .i64 0) 1 8 Try.underlying22 hi hz0 hz1 hz2 rfl (by decide) _ _ _ rfl hA ⟨g2, 0, none⟩ (wo xs n).length cap2 ((wo xs n).map (Value.int .i64)) rfl (by simp) hcells2 (ints_oneCell _ _) (by unfold maxLen; simp; omega) (by simp; omega) hsz2 ?_; intro v3 w3 hown3 hgrow3 _; have hW3 := hW2.grown hgrow3 hsz2 (fun k hk => (hA.lt k hk).1); have hown3' : Own w1.heap.size w3 v3 (wo xs n) := (by simpa using own_join hown3); have F13 := (box_cells (hbel1.trans (hW3.mono hsz1))).2; clear hown3 hgrow3)
  have C7 := hide (refWithout_any b cb ys (-n) w3 ((HS.out.below hB1).below hW3) (by omega))
  have HO3 := hide hown3'
  clear hA hcells2 hW2 hown3'
  refine (unhide C7).mono ?_
  rintro e w4 ⟨v4, rfl, hown4, hnn4, hbel4⟩
  clear C7 F13
  have hB := HO3.out.below hbel4
  obtain ⟨g4, cap4, rfl, hg4, hg4', hcells4⟩ := hown4.src hnn4
  have hW4 := hW3.trans (hbel4.mono hW3.size)
  have hsz4 := hW4.size
  clear hnn4 hown4 hbel4 HO3 hW3
  go_wp2_with (at_builtin; refine wpList_append_own _ rfl (.tmp 84) (.tmp 89) 22 rfl w1.heap.size 3 i0 (.int .i64 0) 1 8 Try.underlying22 hi hz0 hz1 hz2 rfl (by decide) _ _ _ rfl hB ⟨g4, 0, none⟩ (wo ys (-n)).length cap4 ((wo ys (-n)).map (Value.int .i64)) rfl (by simp) hcells4 (ints_oneCell _ _) (by unfold maxLen; omega) (by omega) hsz4 ?_; intro v5 w5 hown5 hgrow5 _; have hW5 := hW4.grown hgrow5 hsz4 (fun k hk => (hB.lt k hk).1); have hown5' := own_join hown5; clear hown5 hgrow5)
  clear hB hcells4 hW4
  obtain ⟨a5, cap5, rfl, hrow5, hml5, _⟩ := hown5'.row
  have D1 := hide (order_any a5 cap5 (wo xs n ++ wo ys (-n)) w5 hrow5 (by simp; omega) HLI.out)
  clear hown5' hrow5 hml5
  refine (unhide D1).mono ?_
  rintro e w6 ⟨v6, rfl, hown6, hbel6⟩
  obtain ⟨a6, cap6, rfl, hrow6, hml6, _⟩ := hown6.row
  have hW6 := hW5.trans (hbel6.mono hW5.size)
  obtain ⟨a1, cap1, rfl, hrow1, hml1, _⟩ := (HO1.out.below hW6).row
  have D2 := ints_any a1 a6 cap1 cap6 _ _ w6 hrow1 hrow6 hml1 hml1
  rw [intsB_refl] at D2
  replace D2 := hide D2
  have hB6 := hB1.trans (hW6.mono hB1.size)
  have hr6 := HR.out.below hB6
  have hs6 := HS.out.below hB6
  have hq6 := HQ.out.below hB6
  have F6 := box_cells (hbel1.trans (hW6.mono hsz1))
  have E1 := hide (fun k => refClause_any am a cm ca m xs (w6.drewN k) hq6 hr6 HML.out (by unfold maxLen; omega))
  have E2 := hide (fun k => refClause_any am b cm cb m ys (w6.drewN k) hq6 hs6 HML.out (by unfold maxLen; omega))
  have E3 := hide (fun k => refValue_any am cm m n (w6.drewN k) hq6 HML.out)
  have E4 := hide (fun k => litClause_any am a1 cm cap1 m _ (w6.drewN k) hq6 hrow1 HML.out hml1 HM.out)
  clear D1 hown6 hrow6 hrow1 hr6 hs6 hq6 hW5 hbel6 hW6 HR HS HQ HM HLI M1 M2 H3 H4 HO1 HML hol
  go_wp2_with fail
  refine (unhide D2).mono ?_
  rintro e w7 ⟨rfl, k7, rfl⟩
  clear D2
  have hB7 := below_drewN hB6 k7
  have F70 := F6.1
  have F71 := F6.2
  replace E1 := hide (unhide E1 k7)
  replace E2 := hide (unhide E2 k7)
  replace E3 := hide (unhide E3 k7)
  replace E4 := hide (unhide E4 k7)
  clear F6 hB6
  generalize clauseI m (order (wo xs n ++ wo ys (-n))) = s at *
  generalize clauseI m xs = p at *
  generalize clauseI m ys = q at *
  generalize valI m n = r at *
  by_cases hp : p = 1
  case neg =>
    have hp' : (p == 1) = false := by simpa using hp
    clear hp HT
    go_wp2_with fail
    refine (unhide E1).mono ?_
    rintro e w0 ⟨rfl, hw0⟩
    subst w0
    go_wp2_with fail
    refine (unhide C8 _).mono ?_
    rintro e w9 ⟨rfl, hb9⟩
    go_wp2
    go_ret
    exact ⟨rfl, hB7.trans (hb9.mono hB7.size)⟩
  have hp' : (p == 1) = true := by simpa using hp
  by_cases hq : q = 1
  case neg =>
    have hq' : (q == 1) = false := by simpa using hq
    clear hp hq HT
    go_wp2_with fail
    refine (unhide E1).mono ?_
    rintro e w0 ⟨rfl, hw0⟩
    subst w0
    go_wp2_with fail
    refine (unhide E2).mono ?_
    rintro e w0 ⟨rfl, hw0⟩
    subst w0
    go_wp2_with fail
    refine (unhide C8 _).mono ?_
    rintro e w9 ⟨rfl, hb9⟩
    go_wp2
    go_ret
    exact ⟨rfl, hB7.trans (hb9.mono hB7.size)⟩
  have hq' : (q == 1) = true := by simpa using hq
  by_cases hr0 : r = 0
  · have hr' : (r != 0) = false := by simp [hr0]
    clear hp hq HT hr0
    go_wp2_with fail
    refine (unhide E1).mono ?_
    rintro e w0 ⟨rfl, hw0⟩
    subst w0
    go_wp2_with fail
    refine (unhide E2).mono ?_
    rintro e w0 ⟨rfl, hw0⟩
    subst w0
    go_wp2_with fail
    refine (unhide E3).mono ?_
    rintro e w0 ⟨rfl, hw0⟩
    subst w0
    go_wp2_with fail
    refine (unhide C8 _).mono ?_
    rintro e w9 ⟨rfl, hb9⟩
    go_wp2
    go_ret
    exact ⟨rfl, hB7.trans (hb9.mono hB7.size)⟩
  · have hr' : (r != 0) = true := by simp [hr0]
    have hs1 := HT.out hp hq hr0
    have hs' : (s == 1) = true := by simp [hs1]
    clear hp hq HT hr0 hs1
    go_wp2_with fail
    refine (unhide E1).mono ?_
    rintro e w0 ⟨rfl, hw0⟩
    subst w0
    go_wp2_with fail
    refine (unhide E2).mono ?_
    rintro e w0 ⟨rfl, hw0⟩
    subst w0
    go_wp2_with fail
    refine (unhide E3).mono ?_
    rintro e w0 ⟨rfl, hw0⟩
    subst w0
    go_wp2_with fail
    refine (unhide E4).mono ?_
    rintro e w0 ⟨rfl, hw0⟩
    subst w0
    go_wp2_with fail
    refine (unhide C8 _).mono ?_
    rintro e w9 ⟨rfl, hb9⟩
    go_wp2
    go_ret
    exact ⟨rfl, hB7.trans (hb9.mono hB7.size)⟩

end Go.Proofs.Ytiddcpemckifmaa
