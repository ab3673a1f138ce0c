/- Contract of the program: a proof's bytes are decoded. -/
import Derived.Test.YtgklollpajhmlaaDoorWalkZ
set_option linter.unusedVariables false
set_option linter.unusedSimpArgs false
namespace Go.Proofs.YtgklollpajhmlaaDoor
open Go.RowKit Go.Maps

attribute [local go_sem ↓] Go.wp_at_zero Go.wp_at_succ

/-- One step more behind a slice of the call's own. -/
theorem ost_snoc {base : Nat} {w w2 : World} {vs v' u : Value} {s : List Stp} {cells : List Value} {d : Bool} {c : List Int}
    (h1 : w.ownsRow base 36 2 vs s.length cells) (h2 : ∀ i (h : i < s.length), ∃ u, cells[i * 2]? = some (.bool s[i].1) ∧ cells[i * 2 + 1]? = some u ∧ Own base w u s[i].2)
    (hu : Own base w u c) (hg : w.grownBy w2 vs.ownBlock) (ho : w2.ownsRow base 36 2 v' (s.length + 1) (cells ++ [.bool d, u])) : OSt base w2 v' (s ++ [(d, c)]) := by
  have hold : ∀ {x : Value} {y : List Int}, Own base w x y → Own base w2 x y := fun hx => World.ownsRow.kept hx hg (own_apart hx h1 (by decide))
  have hvl : cells.length = s.length * 2 := h1.1
  refine ⟨cells ++ [.bool d, u], by simpa using ho, ?_⟩
  intro i hi
  simp only [List.length_append, List.length_cons, List.length_nil] at hi
  rcases Nat.lt_or_ge i s.length with hlt | hge
  · obtain ⟨x, e0, e, hx⟩ := h2 i hlt
    refine ⟨x, ?_, ?_, ?_⟩
    · simp only [List.getElem_append_left hlt]; rw [List.getElem?_append_left (by omega)]; exact e0
    · rw [List.getElem?_append_left (by omega)]; exact e
    · simp only [List.getElem_append_left hlt]; exact hold hx
  · have e : i = s.length := by omega
    subst e
    refine ⟨u, ?_, ?_, ?_⟩
    · simp only [List.getElem_append_right (Nat.le_refl _), Nat.sub_self, List.getElem_cons_zero]
      rw [List.getElem?_append_right (by omega), hvl]; simp
    · rw [List.getElem?_append_right (by omega), hvl, show s.length * 2 + 1 - s.length * 2 = 1 by omega]; rfl
    · simp only [List.getElem_append_right (Nat.le_refl _), Nat.sub_self, List.getElem_cons_zero]; exact hold hu

theorem ost_push {base : Nat} {w w2 : World} {vs v' u : Value} {s : List Stp} {cells : List Value} {d : Bool} {c : List Int} {o : Obj}
    (h1 : w.ownsRow base 36 2 vs s.length cells) (h2 : ∀ i (h : i < s.length), ∃ u, cells[i * 2]? = some (.bool s[i].1) ∧ cells[i * 2 + 1]? = some u ∧ Own base w u s[i].2)
    (hu : Own base w u c) (hg : (w.alloc o).grownBy w2 vs.ownBlock) (ho : w2.ownsRow base 36 2 v' (s.length + 1) (cells ++ [.bool d, u])) : OSt base w2 v' (s ++ [(d, c)]) :=
  ost_snoc (h1.alloc o) (fun i h => by obtain ⟨u, e0, e, hx⟩ := h2 i h; exact ⟨u, e0, e, hx.alloc o⟩) (hu.alloc o) hg ho

theorem drop_drop_sub {t : List UInt8} {k m : Nat} (h : k ≤ m) : (t.drop k).drop (m - k) = t.drop m := by
  rw [List.drop_drop, show k + (m - k) = m by omega]

set_option maxRecDepth 100000 in
set_option maxHeartbeats 4000000 in
theorem decode_any (w : World) (a : Option Addr) (cap : Nat) (t : List UInt8) (ht : Txt w.heap.size w a t) (hm : t.length ≤ 4194304) (hc : t.length ≤ cap) :
    Calls Tryd.prog 13 #[.slice a t.length cap] w (Told w.heap.size w (dcP 0 [] 0 t)) := by
  obtain ⟨i0, hi, hz0, hz1, hz2⟩ := info_parts Tryd.info36
  have hm' : ¬ (4194304 : Int) < t.length := by omega
  have HT := hide ht
  clear ht
  go_enter Tryd.func13, Tryd.ntmps13
  go_wp2
  go_loopw [5, 6] (fun zs zi wr => ∃ (k : Nat) (s : List Stp) (a1 : Option Addr) (c1 : Nat), k ≤ t.length ∧ zi = .int .i64 (k : Int) ∧ zs = .slice a1 s.length c1 ∧ OSt w.heap.size wr (.slice a1 s.length c1) s ∧ s.length ≤ 262144 ∧ Below w.heap.size w wr ∧ Hid (dcP 0 [] 0 t = dcP 0 s k (t.drop k))) (fun _ zi _ => t.length - (intOf zi).toNat)
  case atStart => exact ⟨0, [], none, 0, Nat.zero_le _, rfl, rfl, OSt.nil _ _, by simp, Below.refl _ _, rfl⟩
  case round =>
    obtain ⟨k, s, a1, c1, hk, rfl, rfl, ho, hsl, hB, HA⟩ := hrel
    have hBz := hB.size
    by_cases hlt : k < t.length
    · have hT := HT.out.below hB
      obtain ⟨b, off, e, hb, hcell⟩ := hT k hlt
      subst e
      have hbw : b < wr.heap.size := by omega
      have hki : (k : Int) < t.length := by omega
      have hA := HA.out
      rw [List.drop_eq_getElem_cons hlt, dcP_cons, ← List.drop_eq_getElem_cons hlt] at hA
      have e97 := u8_is t[k] 97 (by omega)
      have e100 := u8_is t[k] 100 (by omega)
      have HO := hide ho
      have HB := hide hB
      by_cases h0 : t[k] ≠ 97 ∧ t[k] ≠ 100
      · rw [if_pos h0] at hA
        have HAN := hide hA
        have f1 : ((t[k].toNat : Int) != 97) = true := by rw [bne_iff_ne]; exact fun e => h0.1 (e97.mp e)
        have f2 : ((t[k].toNat : Int) != 100) = true := by rw [bne_iff_ne]; exact fun e => h0.2 (e100.mp e)
        generalize t[k].toNat = cc at *
        clear hA HA hT ho hB h0 e97 e100
        go_wp2
        refine bodyPost_ret (v := .tuple #[.slice none 0 0, .int .i64 (k : Int), .int .i64 2]) (by simp [results, Tryd.results13, go_sem]) rfl ?_
        exact told_of HAN.out (OSt.nil _ _) HB.out
      · rw [if_neg h0] at hA
        have hor : t[k] = 97 ∨ t[k] = 100 := by
          by_cases h1 : t[k] = 97
          · exact .inl h1
          · by_cases h2 : t[k] = 100
            · exact .inr h2
            · exact absurd ⟨h1, h2⟩ h0
        have hcc : (t[k].toNat : Int) = if (t[k] == 100) = true then 100 else 97 := by
          rcases hor with e | e
          · rw [e]; decide
          · rw [e]; decide
        clear e97 e100 h0 hor
        generalize (t[k] == 100) = d at *
        rw [hcc] at hcell
        by_cases h4 : s.length = 262144
        · rw [if_pos h4] at hA
          have HAN := hide hA
          have h4i : ((s.length : Int) == 262144) = true := by simp; omega
          clear hA HA hT ho hB hcc
          cases d
          all_goals
            simp only [Bool.false_eq_true, if_true, if_false] at hcell
            go_wp2
            refine bodyPost_ret (v := .tuple #[.slice none 0 0, .int .i64 (k : Int), .int .i64 3]) (by simp [results, Tryd.results13, go_sem]) rfl ?_
            exact told_of HAN.out (OSt.nil _ _) HB.out
        · rw [if_neg h4] at hA
          have h4i : ((s.length : Int) == 262144) = false := beq_no (by omega)
          have CD := decodeClause_any wr b off cap t (k + 1) (hT.mono hBz) hm hc hlt
          have hend := clP_end (t.drop (k + 1)).length (t.drop (k + 1)) [] (k + 1) (Nat.le_refl _)
          rw [List.length_drop] at hend
          generalize clP 0 [] (k + 1) (t.drop (k + 1)) = A at *
          obtain ⟨x, m, cl⟩ := A
          simp only at CD hend hA
          have CD2 : Hid (Calls Tryd.prog 22 #[.slice (some ⟨b, off, none⟩) t.length cap, .int .i64 ((k : Int) + 1)] wr fun e w' => ∃ (a2 : Option Addr) (c2 : Nat), e = .returned (.tuple #[.slice a2 cl.length c2, .int .i64 (m : Int), .int .i64 x]) ∧ Hid (Own w.heap.size w' (.slice a2 cl.length c2) cl) ∧ Hid (OSt w.heap.size w' (.slice a1 s.length c1) s) ∧ Hid (Below w.heap.size w w')) := by
            have e1 : ((k : Int) + 1) = ((k + 1 : Nat) : Int) := by omega
            rw [e1]
            refine Calls.mono CD ?_
            rintro e w' ⟨v, h1, h2, h3⟩
            obtain ⟨a2, c2, rfl⟩ := Own.shape h2
            exact ⟨a2, c2, h1, h2.mono hBz, ho.below h3, hB.trans (h3.mono hBz)⟩
          clear CD HA hT ho hB HO HB hcc
          by_cases hx : x ≠ 0
          · rw [if_pos hx] at hA
            have HAN := hide hA
            have hxi : (x != 0) = true := by simpa using hx
            clear hA hx hend
            cases d
            all_goals
              simp only [Bool.false_eq_true, if_true, if_false] at hcell
              go_wp2_with (go_at_call 22; refine (unhide CD2).mono ?_; rintro e w2 ⟨a2, c2, rfl, HC2, HO2, HB2⟩)
              refine bodyPost_ret (v := .tuple #[.slice none 0 0, .int .i64 (m : Int), .int .i64 x]) (by simp [results, Tryd.results13, go_sem]) rfl ?_
              exact told_of HAN.out (OSt.nil _ _) HB2.out
          · rw [if_neg hx] at hA
            have hx0 : x = 0 := by simpa using hx
            subst hx0
            have hme := hend rfl
            rw [drop_drop_sub (by omega)] at hA
            have HAN := hide hA
            have HLL : Hid (∀ d, (s ++ [(d, cl)]).length = s.length + 1) := fun d => by simp
            clear hA hx hend
            cases d
            all_goals
              simp only [Bool.false_eq_true, if_true, if_false] at hcell
              go_wp2_with (first
                | (go_at_call 22; refine (unhide CD2).mono ?_; rintro e w2 ⟨a2, c2, rfl, HC2, HO2, HB2⟩; have hz2w := HB2.out.size; obtain ⟨cells, hcr, hce⟩ := HO2.out; replace hcr := hide hcr; replace hce := hide hce)
                | (at_builtin; refine wpList_append_own_at _ rfl _ _ 23 rfl w.heap.size 36 i0 (.agg #[.bool false, .slice none 0 0]) 2 32 Tryd.underlying23 hi hz0 hz1 hz2 rfl (by decide) (.slice a1 s.length c1) s.length cells rfl (hcr.out.alloc _) ⟨w2.heap.size, 0, none⟩ 1 1 [.bool _, .slice a2 cl.length c2] rfl rfl (World.news_of_block (cs := #[.bool _, .slice a2 cl.length c2]) (t := 36) (fr := (0, 0)) (heap_alloc_new w2 _)) (by simp [Value.oneCell']) (by unfold maxLen; omega) (by omega) (by simp; omega) ?_; intro v3 w3 hown3 hgrow3 hnil3 hat3; obtain ⟨a3, c3, rfl⟩ := owns_shape hown3))
              go_roundw
              case rel => exact ⟨m, s ++ [(_, cl)], a3, c3, by omega, rfl, by rw [HLL.out], by rw [HLL.out]; exact ost_push hcr.out hce.out HC2.out hgrow3 hown3, by rw [HLL.out]; omega, (HB2.out.alloc hz2w _).grown hgrow3 (by simp; omega) (fun j hj => (World.ownsRow.lt hcr.out j hj).1), HAN.out⟩
              case measure => simp [intOf]; omega
    · have hke : t.drop k = [] := List.drop_eq_nil_of_le (by omega)
      have hA := HA.out
      rw [hke, dcP_nil] at hA
      have HAN := hide hA
      have HB := hide hB
      have HO := hide ho
      have hki : ¬ (k : Int) < t.length := by omega
      clear hA HA hke ho hB
      go_wp2
      refine bodyPost_ret (v := .tuple #[.slice a1 s.length c1, .int .i64 ((0 : Nat) : Int), .int .i64 0]) (by simp [results, Tryd.results13, go_sem]) rfl ?_
      exact told_of HAN.out HO.out HB.out

end Go.Proofs.YtgklollpajhmlaaDoor
