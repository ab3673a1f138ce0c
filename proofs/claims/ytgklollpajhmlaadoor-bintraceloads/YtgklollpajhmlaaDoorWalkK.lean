/- Contract of the document's way: a text's words. -/
import Derived.Test.YtgklollpajhmlaaDoorWalkH
import Derived.Test.YtgklollpajhmlaaDoorPlainU
set_option linter.unusedVariables false
set_option linter.unusedSimpArgs false
namespace Go.Proofs.YtgklollpajhmlaaDoor
open Go.RowKit Go.Maps

attribute [local go_sem ↓] Go.wp_at_zero Go.wp_at_succ

theorem Tryd.info53 : (Tryd.prog.info? 53).map (fun i => (i.zero, i.size, i.bytes)) = some (some (.agg #[.int .i64 0, .string ⟨#[]⟩]), 2, 24) := by kernel_rfl

/-- Words, as cells. -/
def wcells (ws : List (Nat × List UInt8)) : List Value := ws.flatMap fun x => [.int .i64 (x.1 : Int), .string (str x.2)]
theorem wcells_snoc (ws : List (Nat × List UInt8)) (p : Nat) (v : List UInt8) : wcells (ws ++ [(p, v)]) = wcells ws ++ [.int .i64 (p : Int), .string (str v)] := by simp [wcells]
theorem wcells_len (ws : List (Nat × List UInt8)) : (wcells ws).length = ws.length * 2 := by
  induction ws with
  | nil => rfl
  | cons x ws ih => simp [wcells] at ih ⊢; omega

/-- Words behind a slice of the call's own. -/
def OW (base : Nat) (w : World) (v : Value) (ws : List (Nat × List UInt8)) : Prop := w.ownsRow base 53 2 v ws.length (wcells ws)

/-- How far a text's words are told. -/
structure Ws (t : List UInt8) (p k : Nat) (done : List (Nat × List UInt8)) : Prop where
  le : k ≤ t.length + 1
  pk : p ≤ k
  go : k ≤ t.length → wordsP 0 [] t = done ++ wordsP p ((t.drop p).take (k - p)) (t.drop k)
  fin : k = t.length + 1 → done = wordsP 0 [] t
  few : done.length ≤ k

theorem Ws.zero (t : List UInt8) : Ws t 0 0 [] := ⟨by omega, Nat.le_refl _, fun _ => by simp, fun h => by omega, Nat.le_refl _⟩

theorem Ws.skip {t : List UInt8} {p k : Nat} {done : List (Nat × List UInt8)} (h : Ws t p k done) (hk : k < t.length) (hb : blankB t[k] = false) : Ws t p (k + 1) done := by
  refine ⟨by omega, by have := h.pk; omega, fun _ => ?_, fun e => by omega, by have := h.few; omega⟩
  rw [h.go (by omega), List.drop_eq_getElem_cons hk, wordsP_cons, if_neg (by simp [hb]), cur_snoc h.pk hk]

/-- What is told behind a piece. -/
def piecesOf (p : Nat) (cur : List UInt8) : List (Nat × List UInt8) := if cur = [] then [] else [(p, cur)]

theorem Ws.word {t : List UInt8} {p k : Nat} {done : List (Nat × List UInt8)} (h : Ws t p k done) (hk : k ≤ t.length) (hb : ∀ h : k < t.length, blankB t[k] = true) :
    Ws t (k + 1) (k + 1) (done ++ piecesOf p ((t.drop p).take (k - p))) := by
  have hl := cur_len h.pk hk
  have hpk := h.pk
  have hpl : (piecesOf p ((t.drop p).take (k - p))).length ≤ 1 := by unfold piecesOf; split <;> simp
  refine ⟨by omega, Nat.le_refl _, fun e => ?_, fun e => ?_, by have := h.few; rw [List.length_append]; omega⟩
  · have hk' : k < t.length := by omega
    rw [h.go hk, List.drop_eq_getElem_cons hk', wordsP_cons, if_pos (hb hk'), hl, show p + (k - p) + 1 = k + 1 by omega, Nat.sub_self, List.take_zero, List.append_assoc]
    rfl
  · have hk' : k = t.length := by omega
    rw [h.go hk, hk', List.drop_length, wordsP_nil]
    rfl

theorem pieces_no {t : List UInt8} {p k : Nat} (hk : k ≤ t.length) (h : ¬ p < k) : piecesOf p ((t.drop p).take (k - p)) = [] := by
  have : k - p = 0 := by omega
  unfold piecesOf; rw [this]; simp
theorem pieces_yes {t : List UInt8} {p k : Nat} (hk : k ≤ t.length) (h : p < k) : piecesOf p ((t.drop p).take (k - p)) = [(p, (t.drop p).take (k - p))] := by
  have hl := cur_len (Nat.le_of_lt h) hk
  unfold piecesOf
  rw [if_neg (fun e => by rw [e] at hl; simp at hl; omega)]

theorem blank_cases {c : UInt8} (h : blankB c = true) : (c.toNat : Int) = 32 ∨ (c.toNat : Int) = 9 ∨ (c.toNat : Int) = 10 ∨ (c.toNat : Int) = 13 := by
  rw [blankB_int] at h
  simp only [Bool.or_eq_true, decide_eq_true_eq] at h
  omega
theorem blank_not {c : UInt8} (h : blankB c = false) : ¬ (c.toNat : Int) = 32 ∧ ¬ (c.toNat : Int) = 9 ∧ ¬ (c.toNat : Int) = 10 ∧ ¬ (c.toNat : Int) = 13 := by
  rw [blankB_int] at h
  simp only [Bool.or_eq_false_iff, decide_eq_false_iff_not] at h
  omega

theorem two_news (W : World) (x y : Value) : ∀ j u, [x, y][j]? = some u → (W.alloc (.cells #[x, y] 53)).cell? ((⟨W.heap.size, 0, none⟩ : Addr).add j) = some u :=
  World.news_of_block (cs := #[x, y]) (t := 53) (fr := (0, 0)) (heap_alloc_new W _)

set_option maxHeartbeats 4000000 in
theorem words_any (w : World) (a : Option Addr) (cap : Nat) (t : List UInt8) (ht : Txt w.heap.size w a t) (hm : t.length ≤ 4194304) (hc : t.length ≤ cap) :
    Calls Tryd.prog 27 #[.slice a t.length cap] w fun e w' => ∃ v, e = .returned v ∧ OW w.heap.size w' v (wordsP 0 [] t) ∧ Below w.heap.size w w' := by
  obtain ⟨i0, hi, hz0, hz1, hz2⟩ := info_parts Tryd.info53
  have H0 : Hid ((w.alloc (.cells #[] 53)).ownsRow w.heap.size 53 2 (.slice (some ⟨w.heap.size, 0, none⟩) 0 0) 0 []) := World.ownsRow_made w #[] 0 (Nat.le_refl _) (Nat.zero_le _) rfl
  have HT := hide ht
  clear ht
  go_enter Tryd.func27, Tryd.ntmps27
  go_wp2
  go_loopw [3, 4, 5] (fun zv zp zk wr => ∃ (p k n g c : Nat) (done : List (Nat × List UInt8)), zv = .slice (some ⟨g, 0, none⟩) n c ∧ zp = .int .i64 (p : Int) ∧ zk = .int .i64 (k : Int) ∧ n = done.length ∧ wr.ownsRow w.heap.size 53 2 (.slice (some ⟨g, 0, none⟩) n c) n (wcells done) ∧ Ws t p k done ∧ Below w.heap.size w wr) (fun _ _ zk _ => t.length + 1 - (intOf zk).toNat)
  case atStart => exact ⟨0, 0, 0, _, _, [], rfl, rfl, rfl, rfl, H0.out, Ws.zero t, below_alloc w _⟩
  case round =>
    clear H0
    obtain ⟨p, k, n, g, c, done, rfl, rfl, rfl, hn, hown, hW, hB⟩ := hrel
    have hle := hW.le
    have hpk := hW.pk
    have hfew := hW.few
    have hsz := hB.size
    have hnk : n ≤ k := by omega
    have HN := hide hn
    clear hn hfew
    by_cases hkl : k ≤ t.length
    · have hT := HT.out.below hB
      have hki : (k : Int) ≤ t.length := by omega
      have hki2 : (k : Int) ≤ cap := by omega
      by_cases hkt : k = t.length
      · have HX := hide (hW.word hkl (fun h => by omega))
        subst hkt
        by_cases hp : p < t.length
        · obtain ⟨b, off, e, -⟩ := hT.cells (by omega)
          subst e
          have hcv := cut_text (cp := cap - p) hT (cur_len hpk hkl).symm (piece (t := t) (p := p) (n := t.length - p) (by omega)).2
          rw [pieces_yes hkl hp] at HX
          generalize (t.drop p).take (t.length - p) = v at *
          have hp' : (p : Int) < t.length := by omega
          have hcp : (p : Int) < cap := by omega
          have HB := hide hB
          clear hW hT hB HT
          go_wp2_with (at_builtin; refine wpList_append_own_at _ rfl _ _ 48 rfl w.heap.size 53 i0 (.agg #[.int .i64 0, .string ⟨#[]⟩]) 2 24 Tryd.underlying48 hi hz0 hz1 hz2 rfl (by decide) (.slice (some ⟨g, 0, none⟩) n c) n (wcells done) rfl (hown.alloc _) ⟨wr.heap.size, 0, none⟩ 1 1 [.int .i64 (p : Int), .string (str v)] rfl rfl (two_news _ _ _) (by simp [Value.oneCell']) (by unfold maxLen; omega) (by omega) (by simp; omega) ?_; intro v' w2 hown2 hgrow2 hnil hat2; obtain ⟨g2, c2, hv2, hbg2, hlt2⟩ := hown2.form (by omega); subst hv2; have HO2 := hide hown2; have HB2 := hide ((HB.out.alloc hsz _).grown hgrow2 (by simp; omega) (fun k e => by have := (hown.lt k e).1; omega)); clear hown2 hgrow2 hnil hat2)
          go_roundw
          case rel => exact ⟨t.length + 1, t.length + 1, n + 1, g2, c2, done ++ [(p, v)], rfl, by go_num, by go_num, by rw [List.length_append, HN.out]; rfl, by rw [wcells_snoc]; exact HO2.out, HX.out, HB2.out⟩
          case measure => simp [intOf] <;> omega
        · rw [pieces_no hkl hp, List.append_nil] at HX
          have hp' : ¬ (p : Int) < t.length := by omega
          have HB := hide hB
          have HO := hide hown
          clear hW hT hB HT hown
          go_wp2
          go_roundw
          case rel => exact ⟨t.length + 1, t.length + 1, n, g, c, done, rfl, by go_num, by go_num, HN.out, HO.out, HX.out, HB.out⟩
          case measure => simp [intOf] <;> omega
      · have hlt : k < t.length := by omega
        obtain ⟨b, off, e, hb, hcell⟩ := hT k hlt
        subst e
        have hbw : b < wr.heap.size := by omega
        have hki3 : ¬ (k : Int) = t.length := by omega
        have hki4 : (k : Int) < t.length := by omega
        cases hbl : blankB t[k] with
        | false =>
          obtain ⟨q1, q2, q3, q4⟩ := blank_not hbl
          have HX := hide (hW.skip hlt hbl)
          have HB := hide hB
          have HO := hide hown
          clear hW hT hB HT hown hbl
          generalize (t[k].toNat : Int) = cc at *
          have r1 := beq_no q1
          have r2 := beq_no q2
          have r3 := beq_no q3
          have r4 := beq_no q4
          clear q1 q2 q3 q4
          go_wp2
          go_roundw
          case rel => exact ⟨p, k + 1, n, g, c, done, rfl, rfl, by go_num, HN.out, HO.out, HX.out, HB.out⟩
          case measure => simp [intOf]; omega
        | true =>
          have HX := hide (hW.word hkl (fun _ => hbl))
          have hbc := blank_cases hbl
          by_cases hp : p < k
          · have hcv := cut_text (cp := cap - p) hT (cur_len hpk hkl).symm (piece (t := t) (p := p) (n := k - p) (by omega)).2
            rw [pieces_yes hkl hp] at HX
            generalize (t.drop p).take (k - p) = v at *
            have hp' : (p : Int) < k := by omega
            have hcp : (p : Int) < cap := by omega
            have HB := hide hB
            clear hW hT hB HT hbl
            generalize (t[k].toNat : Int) = cc at *
            rcases hbc with rfl | rfl | rfl | rfl
            all_goals
              go_wp2_with (at_builtin; refine wpList_append_own_at _ rfl _ _ 48 rfl w.heap.size 53 i0 (.agg #[.int .i64 0, .string ⟨#[]⟩]) 2 24 Tryd.underlying48 hi hz0 hz1 hz2 rfl (by decide) (.slice (some ⟨g, 0, none⟩) n c) n (wcells done) rfl (hown.alloc _) ⟨wr.heap.size, 0, none⟩ 1 1 [.int .i64 (p : Int), .string (str v)] rfl rfl (two_news _ _ _) (by simp [Value.oneCell']) (by unfold maxLen; omega) (by omega) (by simp; omega) ?_; intro v' w2 hown2 hgrow2 hnil hat2; obtain ⟨g2, c2, hv2, hbg2, hlt2⟩ := hown2.form (by omega); subst hv2; have HO2 := hide hown2; have HB2 := hide ((HB.out.alloc hsz _).grown hgrow2 (by simp; omega) (fun k e => by have := (hown.lt k e).1; omega)); clear hown2 hgrow2 hnil hat2)
              go_roundw
              case rel => exact ⟨k + 1, k + 1, n + 1, g2, c2, done ++ [(p, v)], rfl, by go_num, by go_num, by rw [List.length_append, HN.out]; rfl, by rw [wcells_snoc]; exact HO2.out, HX.out, HB2.out⟩
              case measure => simp [intOf]; omega
          · rw [pieces_no hkl hp, List.append_nil] at HX
            have hp' : ¬ (p : Int) < k := by omega
            have HB := hide hB
            have HO := hide hown
            clear hW hT hB HT hown hbl
            generalize (t[k].toNat : Int) = cc at *
            rcases hbc with rfl | rfl | rfl | rfl
            all_goals
              go_wp2
              go_roundw
              case rel => exact ⟨k + 1, k + 1, n, g, c, done, rfl, by go_num, by go_num, HN.out, HO.out, HX.out, HB.out⟩
              case measure => simp [intOf]; omega
    · have hke : k = t.length + 1 := by omega
      have hlt' : ¬ (k : Int) ≤ t.length := by omega
      have HO := hide (hW.fin hke)
      have HW := hide hown
      have HB := hide hB
      clear hW hown hB
      go_wp2
      go_ret
      refine ⟨_, rfl, ?_, HB.out⟩
      unfold OW
      rw [← HO.out, ← HN.out]
      exact HW.out

end Go.Proofs.YtgklollpajhmlaaDoor
