/- Contract of the document's way: which proof any bytes are. -/
import Derived.Test.YtgklollpajhmlaaDoorWalkW
import Derived.Test.YtgklollpajhmlaaDoorWalkZ2
set_option linter.unusedVariables false
set_option linter.unusedSimpArgs false
namespace Go.Proofs.YtgklollpajhmlaaDoor
open Go.RowKit Go.Maps

attribute [local go_sem ↓] Go.wp_at_zero Go.wp_at_succ

/-- A step that is being read: its box, and the literals so far. -/
structure Bx (M : Nat) (W w : World) (d : Bool) (vl : Value) (c : List Int) : Prop where
  blk : w.heap[M]? = some (.cells #[.bool d, vl] 36 (0, 0))
  cur : Own (M + 1) w vl c
  bel : Below M W w

theorem Bx.below {M : Nat} {W w w' : World} {d : Bool} {vl : Value} {c : List Int} (h : Bx M W w d vl c) (hb : Below w.heap.size w w') : Bx M W w' d vl c := by
  have hlt := lt_of_block h.blk
  exact ⟨by rw [hb.block M hlt]; exact h.blk, h.cur.below hb, h.bel.trans (hb.mono (Nat.le_of_lt hlt))⟩

/-- One literal more. -/
theorem Bx.lit {M : Nat} {W w w2 : World} {d : Bool} {vl v' : Value} {c : List Int} {o : Obj} {x : Int} (h : Bx M W w d vl c)
    (hg : (w.alloc o).grownBy w2 vl.ownBlock) (ho : w2.ownsRow (M + 1) 3 1 v' (c.length + 1) (c.map (Value.int .i64) ++ [.int .i64 x])) :
    w2.heap[M]? = some (.cells #[.bool d, vl] 36 (0, 0)) ∧ Bx M W (w2.setCell ⟨M, 1, none⟩ v') d v' (c ++ [x]) := by
  have hlt := lt_of_block h.blk
  have hl1 : M < (w.alloc o).heap.size := by rw [size_alloc]; omega
  have hne := own_ne h.cur
  have hblk : w2.heap[M]? = some (.cells #[.bool d, vl] 36 (0, 0)) := by
    rw [hg.block M hl1 (fun e => hne e.symm), (below_alloc w o).block M hlt]; exact h.blk
  have hv' := own_ne ho
  refine ⟨hblk, hd_set hblk, own_snoc (ownsRow_setCell_other ho hv' _) rfl, ?_⟩
  refine Below.setCell ((h.bel.trans ((below_alloc w o).mono (Nat.le_of_lt hlt))).grown hg (Nat.le_of_lt hl1) (fun k hk => ?_)) (Nat.le_refl _) _
  have := (World.ownsRow.lt h.cur k hk).1
  omega

theorem bx_start (W : World) (d : Bool) : Bx W.heap.size W (W.alloc (.cells #[.bool d, .slice none 0 0] 36)) d (.slice none 0 0) [] :=
  ⟨heap_alloc_new W _, Own.nil _ _, below_alloc W _⟩

/-- No step yet, behind a slice that is not nil. -/
theorem ost_new (w : World) : OSt w.heap.size (w.alloc (.cells #[] 36)) (.slice (some ⟨w.heap.size, 0, none⟩) 0 0) [] :=
  ⟨[], ⟨rfl, .inr ⟨w.heap.size, 0, #[], rfl, Nat.le_refl _, heap_alloc_new w _, by simp, by simp [maxLen], rfl, by simp⟩⟩, fun i hi => by simp at hi⟩

set_option maxRecDepth 100000 in
set_option maxHeartbeats 8000000 in
theorem refDecode_any (w : World) (a : Option Addr) (cap : Nat) (t : List UInt8) (ht : Txt w.heap.size w a t) (hm : t.length ≤ 4194304) (hc : t.length ≤ cap) :
    Calls Tryd.prog 15 #[.slice a t.length cap] w (Told w.heap.size w (dcP 0 [] 0 t)) := by
  obtain ⟨i0, hi, hz0, hz1, hz2⟩ := info_parts Tryd.info36
  obtain ⟨i3, hj, hy0, hy1, hy2⟩ := info_parts Tryd.info3
  have HT := hide ht
  have HO0 := hide (ost_new w)
  have HB0 := hide (below_alloc w (.cells #[] 36))
  clear ht
  go_enter Tryd.func15, Tryd.ntmps15
  go_wp2
  generalize hWW : w.alloc (.cells #[] 36) = W1 at *
  clear hWW
  go_loopw [5, 6] (fun zs zi wr => ∃ (k : Nat) (s : List Stp) (a1 : Option Addr) (c1 : Nat), k ≤ t.length ∧ zi = .int .i64 (k : Int) ∧ zs = .slice a1 s.length c1 ∧ OSt w.heap.size wr (.slice a1 s.length c1) s ∧ s.length ≤ 262144 ∧ Below w.heap.size w wr ∧ Hid (dcP 0 [] 0 t = dcP 0 s k (t.drop k))) (fun _ zi _ => t.length - (intOf zi).toNat)
  case atStart => exact ⟨0, [], _, _, Nat.zero_le _, rfl, rfl, HO0.out, by simp, HB0.out, rfl⟩
  case round =>
    clear HO0 HB0
    obtain ⟨k, s, a1, c1, hk, rfl, rfl, ho, hsl, hB, HA⟩ := hrel
    have hBz := hB.size
    by_cases hlt : k < t.length
    · have hT := HT.out.below hB
      obtain ⟨b, off, e, hb, hcell⟩ := hT k hlt
      subst e
      have hbw : b < wr.heap.size := by omega
      have hki : (k : Int) < t.length := by omega
      have hA := HA.out
      rw [List.drop_eq_getElem_cons hlt, dcP_cons, ← List.drop_eq_getElem_cons hlt] at hA
      have e97 := u8_is t[k] 97 (by omega)
      have e100 := u8_is t[k] 100 (by omega)
      have HO := hide ho
      have HB := hide hB
      by_cases h0 : t[k] ≠ 97 ∧ t[k] ≠ 100
      · rw [if_pos h0] at hA
        have HAN := hide hA
        have f1 : ((t[k].toNat : Int) != 97) = true := by rw [bne_iff_ne]; exact fun e => h0.1 (e97.mp e)
        have f2 : ((t[k].toNat : Int) != 100) = true := by rw [bne_iff_ne]; exact fun e => h0.2 (e100.mp e)
        generalize t[k].toNat = cc at *
        clear hA HA hT ho hB h0 e97 e100
        go_wp2
        refine bodyPost_ret (v := .tuple #[.slice none 0 0, .int .i64 (k : Int), .int .i64 2]) (by simp [results, Tryd.results15, go_sem]) rfl ?_
        exact told_of HAN.out (OSt.nil _ _) HB.out
      · rw [if_neg h0] at hA
        have hor : t[k] = 97 ∨ t[k] = 100 := by
          by_cases h1 : t[k] = 97
          · exact .inl h1
          · by_cases h2 : t[k] = 100
            · exact .inr h2
            · exact absurd ⟨h1, h2⟩ h0
        have hcc : (t[k].toNat : Int) = if (t[k] == 100) = true then 100 else 97 := by
          rcases hor with e | e
          · rw [e]; decide
          · rw [e]; decide
        clear e97 e100 h0 hor
        generalize (t[k] == 100) = d at *
        rw [hcc] at hcell
        by_cases h4 : s.length = 262144
        · rw [if_pos h4] at hA
          have HAN := hide hA
          have h4i : ((s.length : Int) == 262144) = true := by simp; omega
          clear hA HA hT ho hB hcc
          cases d
          all_goals
            simp only [Bool.false_eq_true, if_true, if_false] at hcell
            go_wp2
            refine bodyPost_ret (v := .tuple #[.slice none 0 0, .int .i64 (k : Int), .int .i64 3]) (by simp [results, Tryd.results15, go_sem]) rfl ?_
            exact told_of HAN.out (OSt.nil _ _) HB.out
        · rw [if_neg h4] at hA
          have h4i : ((s.length : Int) == 262144) = false := beq_no (by omega)
          have hend := clP_end (t.drop (k + 1)).length (t.drop (k + 1)) [] (k + 1) (Nat.le_refl _)
          rw [List.length_drop] at hend
          generalize hAA : clP 0 [] (k + 1) (t.drop (k + 1)) = A at *
          have HAA := hide hAA
          have HEND := hide hend
          have HAN := hide hA
          have HBX := hide (bx_start wr d)
          have HTB : Hid (∀ x, Below wr.heap.size wr x → Txt w.heap.size x (some ⟨b, off, none⟩) t) := fun x hx => hT.below (hx.mono hBz)
          clear hAA hend hA HA hT ho hB hcc
          cases d
          · simp only [Bool.false_eq_true, if_true, if_false] at hcell
            go_wp2
            obtain ⟨W0, hW0⟩ : ∃ x, x = wr := ⟨_, rfl⟩
            subst hW0
            go_loopw [6] (fun zi wr => ∃ (m : Nat) (c : List Int) (a2 : Option Addr) (c2 : Nat), m ≤ t.length ∧ k + 1 ≤ m ∧ zi = .int .i64 (m : Int) ∧ Bx W0.heap.size W0 wr false (.slice a2 c.length c2) c ∧ c.length ≤ 4096 ∧ Hid (A = clP 0 c m (t.drop m))) (fun zi _ => t.length - (intOf zi).toNat)
            case atStart => exact ⟨k + 1, [], none, 0, hlt, Nat.le_refl _, by go_num, HBX.out, by simp, HAA.out.symm⟩
            case round =>
              clear HBX HAA hcell
              obtain ⟨m, c, a2, c2, hm1, hm2, rfl, hX, hcl, HAC⟩ := hrel
              obtain ⟨x0, x1, x2, x3⟩ := two_cells hX.blk
              have hMw := lt_of_block hX.blk
              have hXz := hX.bel.size
              by_cases hmt : m < t.length
              · have hT := HTB.out _ hX.bel
                obtain ⟨b', off', e, -, hcell⟩ := hT m hmt
                simp at e
                obtain ⟨rfl, rfl⟩ := e
                have hbx : b < wr.heap.size := by omega
                have hmi : (m : Int) < t.length := by omega
                have hA := HAC.out
                rw [List.drop_eq_getElem_cons hmt, clP_cons, ← List.drop_eq_getElem_cons hmt] at hA
                by_cases h0 : t[m] = 0
                · rw [if_pos h0] at hA
                  have hc0 : (t[m].toNat : Int) = 0 := by rw [u8_eq0]; exact h0
                  rw [hc0] at hcell
                  have han := HAN.out
                  rw [hA] at han
                  rw [if_neg (by simp), drop_drop_sub (by simp only; omega)] at han
                  have HAN2 : Hid (dcP 0 [] 0 t = dcP 0 (s ++ [(false, c)]) (m + 1) (t.drop (m + 1))) := han
                  have hne : ((m : Int) == t.length) = false := beq_no (by omega)
                  have HO2 := hide (HO.out.below hX.bel)
                  have HC2 := hide (hX.cur.mono (base' := w.heap.size) (by omega))
                  have HB2 := hide (HB.out.trans (hX.bel.mono hBz))
                  have HLL : Hid ((s ++ [(false, c)]).length = s.length + 1) := by show _ = _; simp
                  obtain ⟨cells, hcr, hce⟩ := HO2.out
                  replace hcr := hide hcr
                  replace hce := hide hce
                  clear hA han HAC h0 hc0 hT hX HAN HO HB
                  go_wp2_with (at_builtin; refine wpList_append_own_at _ rfl _ _ 23 rfl w.heap.size 36 i0 (.agg #[.bool false, .slice none 0 0]) 2 32 Tryd.underlying23 hi hz0 hz1 hz2 rfl (by decide) (.slice a1 s.length c1) s.length cells rfl (hcr.out.alloc _) ⟨wr.heap.size, 0, none⟩ 1 1 [.bool false, .slice a2 c.length c2] rfl rfl (World.news_of_block (cs := #[.bool false, .slice a2 c.length c2]) (t := 36) (fr := (0, 0)) (heap_alloc_new wr _)) (by simp [Value.oneCell']) (by unfold maxLen; omega) (by omega) (by simp; omega) ?_; intro v3 w3 hown3 hgrow3 hnil3 hat3; obtain ⟨a3, c3, rfl⟩ := owns_shape hown3)
                  go_roundw
                  case rel => exact ⟨m + 1, s ++ [(false, c)], a3, c3, by omega, by go_num, by rw [HLL.out], by rw [HLL.out]; exact ost_push hcr.out hce.out HC2.out hgrow3 hown3, by rw [HLL.out]; omega, (HB2.out.alloc (by omega) _).grown hgrow3 (by simp; omega) (fun j hj => (World.ownsRow.lt hcr.out j hj).1), HAN2.out⟩
                  case measure => simp [intOf]; omega
                · rw [if_neg h0] at hA
                  have hc0 : ¬ (t[m].toNat : Int) = 0 := by rw [u8_eq0]; exact h0
                  have hc0' : ((t[m].toNat : Int) != 0) = true := by simpa using hc0
                  have hcp : (m : Int) < cap := by omega
                  have CD := refTake_any wr b (off + m) (cap - m) (t.drop m) ((Txt.drop hT).mono (by omega)) (by simp; omega) (by simp; omega)
                  have hle := tk_le (t.drop m)
                  rw [tk_five] at CD
                  rw [List.length_drop] at CD hle
                  generalize htk : tk (t.drop m) = T at *
                  clear htk
                  obtain ⟨l, n⟩ := T
                  simp only at CD hle hA
                  have CD2 : Hid (Calls Tryd.prog 26 #[.slice (some ⟨b, off + m, none⟩) (t.length - m) (cap - m)] wr fun e w' => e = .returned (.tuple #[.int .i64 l, .int .i64 (n : Int)]) ∧ Hid (Bx W0.heap.size W0 w' false (.slice a2 c.length c2) c)) := CD.mono fun e w' ⟨h1, h2⟩ => ⟨h1, hX.below h2⟩
                  generalize t[m].toNat = cc at *
                  clear CD HAC hT hX h0 hc0 x0 x1 x2 x3
                  by_cases hn : n = 0
                  · rw [if_pos hn] at hA
                    have han := HAN.out
                    rw [hA] at han
                    have HAN2 : Hid (dcP 0 [] 0 t = (2, m, [])) := by show _ = _; rw [han, if_pos (by simp)]
                    subst hn
                    clear hA han HAN
                    go_wp2_with (go_at_call 26; refine (unhide CD2).mono ?_; rintro e w2 ⟨rfl, HX2⟩)
                    refine bodyPost_ret (v := .tuple #[.slice none 0 0, .int .i64 (m : Int), .int .i64 2]) (by simp [results, Tryd.results15, go_sem]) rfl ?_
                    exact told_of HAN2.out (OSt.nil _ _) (HB.out.trans (HX2.out.bel.mono hBz))
                  · rw [if_neg hn] at hA
                    have hni : ((n : Int) == 0) = false := beq_no (by omega)
                    by_cases h44 : c.length = 4096
                    · rw [if_pos h44] at hA
                      have han := HAN.out
                      rw [hA] at han
                      have HAN2 : Hid (dcP 0 [] 0 t = (3, m, [])) := by show _ = _; rw [han, if_pos (by simp)]
                      have h44i : ((c.length : Int) == 4096) = true := by simp; omega
                      clear hA han HAN
                      go_wp2_with (go_at_call 26; refine (unhide CD2).mono ?_; rintro e w2 ⟨rfl, HX2⟩; obtain ⟨y0, y1, y2, y3⟩ := two_cells HX2.out.blk; have hMw2 := lt_of_block HX2.out.blk)
                      refine bodyPost_ret (v := .tuple #[.slice none 0 0, .int .i64 (m : Int), .int .i64 3]) (by simp [results, Tryd.results15, go_sem]) rfl ?_
                      exact told_of HAN2.out (OSt.nil _ _) (HB.out.trans (HX2.out.bel.mono hBz))
                    · rw [if_neg h44] at hA
                      have HAC2 := hide hA
                      have h44i : ((c.length : Int) == 4096) = false := beq_no (by omega)
                      have HLL : Hid ((c ++ [l]).length = c.length + 1) := by show _ = _; simp
                      have HDR : Hid ((t.drop m).drop n = t.drop (m + n)) := by show _ = _; rw [List.drop_drop]
                      clear hA
                      go_wp2_with (first
                        | (go_at_call 26; refine (unhide CD2).mono ?_; rintro e w2 ⟨rfl, HX2⟩; obtain ⟨y0, y1, y2, y3⟩ := two_cells HX2.out.blk; have hMw2 := lt_of_block HX2.out.blk)
                        | (at_builtin; refine wpList_append_own_at _ rfl _ _ 34 rfl (W0.heap.size + 1) 3 i3 (.int .i64 0) 1 8 Tryd.underlying34 hj hy0 hy1 hy2 rfl (by decide) _ _ _ rfl (HX2.out.cur.alloc _) ⟨w2.heap.size, 0, none⟩ 1 1 [.int .i64 l] rfl rfl (cell_one_new _ _ _) (fun x hx => by simp at hx; subst hx; rfl) (by unfold maxLen; omega) (by omega) (by simp; omega) ?_; intro v3 w3 hown3 hgrow3 hnil3 hat3; obtain ⟨a3, c3, rfl⟩ := owns_shape hown3; obtain ⟨hq1, hq2⟩ := HX2.out.lit hgrow3 hown3; obtain ⟨z0, z1, z2, z3⟩ := two_cells hq1; have hMw3 := lt_of_block hq1; have HX3 := hide hq2; clear hq1 hq2 hown3 hgrow3 hnil3 hat3))
                      go_roundw
                      case rel => exact ⟨m + n, c ++ [l], a3, c3, by omega, by omega, by go_num, by rw [HLL.out]; exact HX3.out, by rw [HLL.out]; omega, by show _ = _; rw [HAC2.out, HDR.out]⟩
                      case measure => simp [intOf]; omega
              · have hke : t.drop m = [] := List.drop_eq_nil_of_le (by omega)
                have hA := HAC.out
                rw [hke, clP_nil] at hA
                have hmt2 : m = t.length := by omega
                subst hmt2
                have han := HAN.out
                rw [hA] at han
                have HAN2 : Hid (dcP 0 [] 0 t = (2, t.length, [])) := by show _ = _; rw [han, if_pos (by simp)]
                have HB2 := hide (HB.out.trans (hX.bel.mono hBz))
                clear hA han HAC HAN hke hX
                go_wp2
                refine bodyPost_ret (v := .tuple #[.slice none 0 0, .int .i64 (t.length : Int), .int .i64 2]) (by simp [results, Tryd.results15, go_sem]) rfl ?_
                exact told_of HAN2.out (OSt.nil _ _) HB2.out
          · simp only [Bool.false_eq_true, if_true, if_false] at hcell
            go_wp2
            obtain ⟨W0, hW0⟩ : ∃ x, x = wr := ⟨_, rfl⟩
            subst hW0
            go_loopw [6] (fun zi wr => ∃ (m : Nat) (c : List Int) (a2 : Option Addr) (c2 : Nat), m ≤ t.length ∧ k + 1 ≤ m ∧ zi = .int .i64 (m : Int) ∧ Bx W0.heap.size W0 wr true (.slice a2 c.length c2) c ∧ c.length ≤ 4096 ∧ Hid (A = clP 0 c m (t.drop m))) (fun zi _ => t.length - (intOf zi).toNat)
            case atStart => exact ⟨k + 1, [], none, 0, hlt, Nat.le_refl _, by go_num, HBX.out, by simp, HAA.out.symm⟩
            case round =>
              clear HBX HAA hcell
              obtain ⟨m, c, a2, c2, hm1, hm2, rfl, hX, hcl, HAC⟩ := hrel
              obtain ⟨x0, x1, x2, x3⟩ := two_cells hX.blk
              have hMw := lt_of_block hX.blk
              have hXz := hX.bel.size
              by_cases hmt : m < t.length
              · have hT := HTB.out _ hX.bel
                obtain ⟨b', off', e, -, hcell⟩ := hT m hmt
                simp at e
                obtain ⟨rfl, rfl⟩ := e
                have hbx : b < wr.heap.size := by omega
                have hmi : (m : Int) < t.length := by omega
                have hA := HAC.out
                rw [List.drop_eq_getElem_cons hmt, clP_cons, ← List.drop_eq_getElem_cons hmt] at hA
                by_cases h0 : t[m] = 0
                · rw [if_pos h0] at hA
                  have hc0 : (t[m].toNat : Int) = 0 := by rw [u8_eq0]; exact h0
                  rw [hc0] at hcell
                  have han := HAN.out
                  rw [hA] at han
                  rw [if_neg (by simp), drop_drop_sub (by simp only; omega)] at han
                  have HAN2 : Hid (dcP 0 [] 0 t = dcP 0 (s ++ [(true, c)]) (m + 1) (t.drop (m + 1))) := han
                  have hne : ((m : Int) == t.length) = false := beq_no (by omega)
                  have HO2 := hide (HO.out.below hX.bel)
                  have HC2 := hide (hX.cur.mono (base' := w.heap.size) (by omega))
                  have HB2 := hide (HB.out.trans (hX.bel.mono hBz))
                  have HLL : Hid ((s ++ [(true, c)]).length = s.length + 1) := by show _ = _; simp
                  obtain ⟨cells, hcr, hce⟩ := HO2.out
                  replace hcr := hide hcr
                  replace hce := hide hce
                  clear hA han HAC h0 hc0 hT hX HAN HO HB
                  go_wp2_with (at_builtin; refine wpList_append_own_at _ rfl _ _ 23 rfl w.heap.size 36 i0 (.agg #[.bool false, .slice none 0 0]) 2 32 Tryd.underlying23 hi hz0 hz1 hz2 rfl (by decide) (.slice a1 s.length c1) s.length cells rfl (hcr.out.alloc _) ⟨wr.heap.size, 0, none⟩ 1 1 [.bool true, .slice a2 c.length c2] rfl rfl (World.news_of_block (cs := #[.bool true, .slice a2 c.length c2]) (t := 36) (fr := (0, 0)) (heap_alloc_new wr _)) (by simp [Value.oneCell']) (by unfold maxLen; omega) (by omega) (by simp; omega) ?_; intro v3 w3 hown3 hgrow3 hnil3 hat3; obtain ⟨a3, c3, rfl⟩ := owns_shape hown3)
                  go_roundw
                  case rel => exact ⟨m + 1, s ++ [(true, c)], a3, c3, by omega, by go_num, by rw [HLL.out], by rw [HLL.out]; exact ost_push hcr.out hce.out HC2.out hgrow3 hown3, by rw [HLL.out]; omega, (HB2.out.alloc (by omega) _).grown hgrow3 (by simp; omega) (fun j hj => (World.ownsRow.lt hcr.out j hj).1), HAN2.out⟩
                  case measure => simp [intOf]; omega
                · rw [if_neg h0] at hA
                  have hc0 : ¬ (t[m].toNat : Int) = 0 := by rw [u8_eq0]; exact h0
                  have hc0' : ((t[m].toNat : Int) != 0) = true := by simpa using hc0
                  have hcp : (m : Int) < cap := by omega
                  have CD := refTake_any wr b (off + m) (cap - m) (t.drop m) ((Txt.drop hT).mono (by omega)) (by simp; omega) (by simp; omega)
                  have hle := tk_le (t.drop m)
                  rw [tk_five] at CD
                  rw [List.length_drop] at CD hle
                  generalize htk : tk (t.drop m) = T at *
                  clear htk
                  obtain ⟨l, n⟩ := T
                  simp only at CD hle hA
                  have CD2 : Hid (Calls Tryd.prog 26 #[.slice (some ⟨b, off + m, none⟩) (t.length - m) (cap - m)] wr fun e w' => e = .returned (.tuple #[.int .i64 l, .int .i64 (n : Int)]) ∧ Hid (Bx W0.heap.size W0 w' true (.slice a2 c.length c2) c)) := CD.mono fun e w' ⟨h1, h2⟩ => ⟨h1, hX.below h2⟩
                  generalize t[m].toNat = cc at *
                  clear CD HAC hT hX h0 hc0 x0 x1 x2 x3
                  by_cases hn : n = 0
                  · rw [if_pos hn] at hA
                    have han := HAN.out
                    rw [hA] at han
                    have HAN2 : Hid (dcP 0 [] 0 t = (2, m, [])) := by show _ = _; rw [han, if_pos (by simp)]
                    subst hn
                    clear hA han HAN
                    go_wp2_with (go_at_call 26; refine (unhide CD2).mono ?_; rintro e w2 ⟨rfl, HX2⟩)
                    refine bodyPost_ret (v := .tuple #[.slice none 0 0, .int .i64 (m : Int), .int .i64 2]) (by simp [results, Tryd.results15, go_sem]) rfl ?_
                    exact told_of HAN2.out (OSt.nil _ _) (HB.out.trans (HX2.out.bel.mono hBz))
                  · rw [if_neg hn] at hA
                    have hni : ((n : Int) == 0) = false := beq_no (by omega)
                    by_cases h44 : c.length = 4096
                    · rw [if_pos h44] at hA
                      have han := HAN.out
                      rw [hA] at han
                      have HAN2 : Hid (dcP 0 [] 0 t = (3, m, [])) := by show _ = _; rw [han, if_pos (by simp)]
                      have h44i : ((c.length : Int) == 4096) = true := by simp; omega
                      clear hA han HAN
                      go_wp2_with (go_at_call 26; refine (unhide CD2).mono ?_; rintro e w2 ⟨rfl, HX2⟩; obtain ⟨y0, y1, y2, y3⟩ := two_cells HX2.out.blk; have hMw2 := lt_of_block HX2.out.blk)
                      refine bodyPost_ret (v := .tuple #[.slice none 0 0, .int .i64 (m : Int), .int .i64 3]) (by simp [results, Tryd.results15, go_sem]) rfl ?_
                      exact told_of HAN2.out (OSt.nil _ _) (HB.out.trans (HX2.out.bel.mono hBz))
                    · rw [if_neg h44] at hA
                      have HAC2 := hide hA
                      have h44i : ((c.length : Int) == 4096) = false := beq_no (by omega)
                      have HLL : Hid ((c ++ [l]).length = c.length + 1) := by show _ = _; simp
                      have HDR : Hid ((t.drop m).drop n = t.drop (m + n)) := by show _ = _; rw [List.drop_drop]
                      clear hA
                      go_wp2_with (first
                        | (go_at_call 26; refine (unhide CD2).mono ?_; rintro e w2 ⟨rfl, HX2⟩; obtain ⟨y0, y1, y2, y3⟩ := two_cells HX2.out.blk; have hMw2 := lt_of_block HX2.out.blk)
                        | (at_builtin; refine wpList_append_own_at _ rfl _ _ 34 rfl (W0.heap.size + 1) 3 i3 (.int .i64 0) 1 8 Tryd.underlying34 hj hy0 hy1 hy2 rfl (by decide) _ _ _ rfl (HX2.out.cur.alloc _) ⟨w2.heap.size, 0, none⟩ 1 1 [.int .i64 l] rfl rfl (cell_one_new _ _ _) (fun x hx => by simp at hx; subst hx; rfl) (by unfold maxLen; omega) (by omega) (by simp; omega) ?_; intro v3 w3 hown3 hgrow3 hnil3 hat3; obtain ⟨a3, c3, rfl⟩ := owns_shape hown3; obtain ⟨hq1, hq2⟩ := HX2.out.lit hgrow3 hown3; obtain ⟨z0, z1, z2, z3⟩ := two_cells hq1; have hMw3 := lt_of_block hq1; have HX3 := hide hq2; clear hq1 hq2 hown3 hgrow3 hnil3 hat3))
                      go_roundw
                      case rel => exact ⟨m + n, c ++ [l], a3, c3, by omega, by omega, by go_num, by rw [HLL.out]; exact HX3.out, by rw [HLL.out]; omega, by show _ = _; rw [HAC2.out, HDR.out]⟩
                      case measure => simp [intOf]; omega
              · have hke : t.drop m = [] := List.drop_eq_nil_of_le (by omega)
                have hA := HAC.out
                rw [hke, clP_nil] at hA
                have hmt2 : m = t.length := by omega
                subst hmt2
                have han := HAN.out
                rw [hA] at han
                have HAN2 : Hid (dcP 0 [] 0 t = (2, t.length, [])) := by show _ = _; rw [han, if_pos (by simp)]
                have HB2 := hide (HB.out.trans (hX.bel.mono hBz))
                clear hA han HAC HAN hke hX
                go_wp2
                refine bodyPost_ret (v := .tuple #[.slice none 0 0, .int .i64 (t.length : Int), .int .i64 2]) (by simp [results, Tryd.results15, go_sem]) rfl ?_
                exact told_of HAN2.out (OSt.nil _ _) HB2.out
    · have hke : t.drop k = [] := List.drop_eq_nil_of_le (by omega)
      have hA := HA.out
      rw [hke, dcP_nil] at hA
      have HAN := hide hA
      have HB := hide hB
      have HO := hide ho
      have hki : ¬ (k : Int) < t.length := by omega
      clear hA HA hke ho hB
      go_wp2
      refine bodyPost_ret (v := .tuple #[.slice a1 s.length c1, .int .i64 ((0 : Nat) : Int), .int .i64 0]) (by simp [results, Tryd.results15, go_sem]) rfl ?_
      exact told_of HAN.out HO.out HB.out

end Go.Proofs.YtgklollpajhmlaaDoor
