/- Contract of the document's way: which proof any text is. -/
import Derived.Test.YtgklollpajhmlaaDoorWalkL
import Derived.Test.YtgklollpajhmlaaDoorWalkI
import Derived.Laws.AppendOwnNone
set_option linter.unusedVariables false
set_option linter.unusedSimpArgs false
namespace Go.Proofs.YtgklollpajhmlaaDoor
open Go.RowKit Go.Maps

attribute [local go_sem ↓] Go.wp_at_zero Go.wp_at_succ

theorem below_two (w : World) (o p : Obj) : Below w.heap.size w ((w.alloc o).alloc p) := ((Below.refl _ _).alloc (Nat.le_refl _) _).alloc (by simp) _

/-- append onto a row of the call's own (not nil), of whatever is behind a slice, nil or not. -/
theorem run_append_any {P : Program} (w : World) (t ty : TypeId) (base : Nat) (e : TypeId) (i : TypeInfo) (z : Value) (size bytes : Nat) (ht : P.underlying t = some (.slice e)) (hi : P.info? e = some i) (hz : i.zero = some z)
    (hsize : i.size = size) (hby : i.bytes = bytes) (hzs : z.cells.size = size) (hsz : 0 < size)
    (v : Value) (n : Nat) (xs : List Value) (hown : w.ownsRow base e size v n xs) (hv : v ≠ .slice none 0 0)
    (a : Option Addr) (m c : Nat) (news : List Value) (hsrc : (a = none ∧ m = 0 ∧ c = 0 ∧ news = []) ∨ ∃ ad, a = some ad ∧ news.length = m * size ∧ ∀ j u, news[j]? = some u → w.cell? (ad.add j) = some u) (h1 : ∀ u ∈ news, u.oneCell' = true)
    (h63 : n + m ≤ maxLen) (hbytes : (n + m) * bytes ≤ 140737488355328) (hbase : base ≤ w.heap.size) :
    ∃ g cap w', (Builtin.append_ #[t, t] ty #[v, .slice a m c]).run P w = .ok (.slice (some ⟨g, 0, none⟩) (n + m) cap) w' ∧
      w'.ownsRow base e size (.slice (some ⟨g, 0, none⟩) (n + m) cap) (n + m) (xs ++ news) ∧ w.grownBy w' v.ownBlock ∧ (v.ownBlock = some g ∨ g = w.heap.size) ∧ g < w'.heap.size := by
  rcases hsrc with ⟨rfl, rfl, rfl, rfl⟩ | ⟨ad, rfl, hl, hnews⟩
  · have hrun := run_append_owned_none (P := P) (w := w) base t ty e i size ht hi v n xs hown
    have hown' := hown
    rcases hown.2 with ⟨h0, _⟩ | ⟨g, cap, cur, rfl, hb, hg, rest⟩
    · exact absurd h0 hv
    · exact ⟨g, cap, w, hrun, by simpa using hown', World.grownBy.refl _ _, .inl rfl, lt_of_block hg⟩
  · obtain ⟨v', w', hr, h2, h3, h4, h5⟩ := run_append_own_at (P := P) w base t ty e i z size bytes ht hi hz hsize hby hzs hsz v n xs hown ad m c news hl hnews h1 h63 hbytes hbase
    have hv' : v' ≠ .slice none 0 0 := fun e => hv (h4.1 e).1
    have h2' := h2
    rcases h2.2 with ⟨h0, _⟩ | ⟨g, cap, cur, rfl, hb, hg, rest⟩
    · exact absurd h0 hv'
    · refine ⟨g, cap, w', hr, h2', h3, ?_, lt_of_block hg⟩
      rcases h5 with h5 | h5
      · exact .inl h5.symm
      · exact .inr (by simpa [Value.ownBlock] using h5)

theorem wp_append_any {P : Program} {w : World} {o : Oper} {act : Act} {K : Act → World → Prop} {Q : Exit → Act → World → Prop} (s x : Operand) (t : TypeId)
    (ho : o.op = .call { callee := .builtin .append, args := #[s, x], argTypes := #[t, t] })
    (base : Nat) (e : TypeId) (i : TypeInfo) (z : Value) (size bytes : Nat) (ht : P.underlying t = some (.slice e)) (hi : P.info? e = some i) (hz : i.zero = some z)
    (hsize : i.size = size) (hby : i.bytes = bytes) (hzs : z.cells.size = size) (hsz : 0 < size)
    (v : Value) (n : Nat) (xs : List Value) (hs : act.eval s = v) (hown : w.ownsRow base e size v n xs) (hv : v ≠ .slice none 0 0)
    (a : Option Addr) (m c : Nat) (news : List Value) (hx : act.eval x = .slice a m c) (hsrc : (a = none ∧ m = 0 ∧ c = 0 ∧ news = []) ∨ ∃ ad, a = some ad ∧ news.length = m * size ∧ ∀ j u, news[j]? = some u → w.cell? (ad.add j) = some u) (h1 : ∀ u ∈ news, u.oneCell' = true)
    (h63 : n + m ≤ maxLen) (hbytes : (n + m) * bytes ≤ 140737488355328) (hbase : base ≤ w.heap.size)
    (h : ∀ g cap w', w'.ownsRow base e size (.slice (some ⟨g, 0, none⟩) (n + m) cap) (n + m) (xs ++ news) → w.grownBy w' v.ownBlock → (v.ownBlock = some g ∨ g = w.heap.size) → g < w'.heap.size → K (act.put o.dst (.slice (some ⟨g, 0, none⟩) (n + m) cap)) w') : o.wp P act w K Q := by
  obtain ⟨g, cap, w', hr, h2, h3, h4, h5⟩ := run_append_any (P := P) w t o.type base e i z size bytes ht hi hz hsize hby hzs hsz v n xs hown hv a m c news hsrc h1 h63 hbytes hbase
  unfold Oper.wp execOp
  simp only [ho, resolve, invoke, builtin, Sem.run_bind, Sem.run_pure, Result.andThen_ok, List.map_toArray, List.map_cons, List.map_nil, hs, hx, hr]
  exact h g cap w' h2 h3 h4 h5

theorem step_append_any {P : Program} {w : World} {ops : Array Oper} {o : Oper} {act : Act} {K : Act → World → Prop} {Q : Exit → Act → World → Prop} {E : Prop} (hgd : o.guard = none) (s x : Operand) (t : TypeId)
    (ho : o.op = .call { callee := .builtin .append, args := #[s, x], argTypes := #[t, t] })
    (base : Nat) (e : TypeId) (i : TypeInfo) (z : Value) (size bytes : Nat) (ht : P.underlying t = some (.slice e)) (hi : P.info? e = some i) (hz : i.zero = some z)
    (hsize : i.size = size) (hby : i.bytes = bytes) (hzs : z.cells.size = size) (hsz : 0 < size)
    (v : Value) (n : Nat) (xs : List Value) (hs : act.eval s = v) (hown : w.ownsRow base e size v n xs) (hv : v ≠ .slice none 0 0)
    (a : Option Addr) (m c : Nat) (news : List Value) (hx : act.eval x = .slice a m c) (hsrc : (a = none ∧ m = 0 ∧ c = 0 ∧ news = []) ∨ ∃ ad, a = some ad ∧ news.length = m * size ∧ ∀ j u, news[j]? = some u → w.cell? (ad.add j) = some u) (h1 : ∀ u ∈ news, u.oneCell' = true)
    (h63 : n + m ≤ maxLen) (hbytes : (n + m) * bytes ≤ 140737488355328) (hbase : base ≤ w.heap.size)
    (h : ∀ g cap w', w'.ownsRow base e size (.slice (some ⟨g, 0, none⟩) (n + m) cap) (n + m) (xs ++ news) → w.grownBy w' v.ownBlock → (v.ownBlock = some g ∨ g = w.heap.size) → g < w'.heap.size → K (act.put o.dst (.slice (some ⟨g, 0, none⟩) (n + m) cap)) w') :
    if Region.wanted o (yielded ops act.tmps) = true then Oper.wp P o act w K Q else E := by
  have hw : Region.wanted o (yielded ops act.tmps) = true := by simp [Region.wanted, hgd]
  rw [if_pos hw]
  exact wp_append_any s x t ho base e i z size bytes ht hi hz hsize hby hzs hsz v n xs hs hown hv a m c news hx hsrc h1 h63 hbytes hbase h

theorem wpList_append_any {P : Program} {w : World} {ops : Array Oper} {rest : List Oper} {o : Oper} {act : Act} {Q : Exit → Act → World → Prop} (hgd : o.guard = none) (s x : Operand) (t : TypeId)
    (ho : o.op = .call { callee := .builtin .append, args := #[s, x], argTypes := #[t, t] })
    (base : Nat) (e : TypeId) (i : TypeInfo) (z : Value) (size bytes : Nat) (ht : P.underlying t = some (.slice e)) (hi : P.info? e = some i) (hz : i.zero = some z)
    (hsize : i.size = size) (hby : i.bytes = bytes) (hzs : z.cells.size = size) (hsz : 0 < size)
    (v : Value) (n : Nat) (xs : List Value) (hs : act.eval s = v) (hown : w.ownsRow base e size v n xs) (hv : v ≠ .slice none 0 0)
    (a : Option Addr) (m c : Nat) (news : List Value) (hx : act.eval x = .slice a m c) (hsrc : (a = none ∧ m = 0 ∧ c = 0 ∧ news = []) ∨ ∃ ad, a = some ad ∧ news.length = m * size ∧ ∀ j u, news[j]? = some u → w.cell? (ad.add j) = some u) (h1 : ∀ u ∈ news, u.oneCell' = true)
    (h63 : n + m ≤ maxLen) (hbytes : (n + m) * bytes ≤ 140737488355328) (hbase : base ≤ w.heap.size)
    (h : ∀ g cap w', w'.ownsRow base e size (.slice (some ⟨g, 0, none⟩) (n + m) cap) (n + m) (xs ++ news) → w.grownBy w' v.ownBlock → (v.ownBlock = some g ∨ g = w.heap.size) → g < w'.heap.size → wpList P ops Q rest (act.put o.dst (.slice (some ⟨g, 0, none⟩) (n + m) cap)) w') : wpList P ops Q (o :: rest) act w :=
  wpList_plain hgd fun _ hK => wp_append_any s x t ho base e i z size bytes ht hi hz hsize hby hzs hsz v n xs hs hown hv a m c news hx hsrc h1 h63 hbytes hbase fun g cap w' h2 h3 h4 h5 => hK _ _ (h g cap w' h2 h3 h4 h5)

/-- How far a text's words are read. -/
structure Gr (N G : Nat) (W w : World) (ws : List (Nat × List UInt8)) (len k : Nat) (s : Rs) (g n c : Nat) (vl : Value) (cells : List Value) : Prop where
  rf : Rf N G W w s g n c vl cells
  kl : k ≤ ws.length
  few : s.steps.length + s.cl.length ≤ k
  ans : runW Rs.zero len ws = runW s len (ws.drop k)

theorem few_E {s : Rs} {v : List UInt8} (hv : v ≠ []) (h1 : s.steps.length < 4096) (h2 : s.cl.length < 4096) : wordE s v = if cnB v = false ∧ delB s v = false then 2 else 0 := by
  unfold wordE
  rw [if_neg hv]
  split
  · rfl
  · rw [if_neg (by rintro ⟨_, e⟩; omega), if_neg (by rintro ⟨_, e⟩; omega)]

theorem Gr.next {N G : Nat} {W w w' : World} {ws : List (Nat × List UInt8)} {len k : Nat} {s : Rs} {g n c g' n' c' : Nat} {vl vl' : Value} {cells cells' : List Value} (h : Gr N G W w ws len k s g n c vl cells) (hk : k < ws.length) (he : wordE s ws[k].2 = 0) (hr : Rf N G W w' (wordS s ws[k].2) g' n' c' vl' cells') : Gr N G W w' ws len (k + 1) (wordS s ws[k].2) g' n' c' vl' cells' := by
  refine ⟨hr, hk, ?_, ?_⟩
  · have := wordS_len s ws[k].2
    have := h.few
    omega
  · rw [h.ans, List.drop_eq_getElem_cons hk, runW_cons, if_pos he]

theorem Gr.stop {N G : Nat} {W w : World} {ws : List (Nat × List UInt8)} {len k : Nat} {s : Rs} {g n c : Nat} {vl : Value} {cells : List Value} (h : Gr N G W w ws len k s g n c vl cells) (hk : k < ws.length) (he : wordE s ws[k].2 = 2) : runW Rs.zero len ws = (2, ws[k].1, []) := by
  rw [h.ans, List.drop_eq_getElem_cons hk, runW_cons, if_neg (by rw [he]; decide), he]

theorem own_src {N : Nat} {w w' : World} {v : Value} {xs : List Int} (h : Own N w v xs) (hb : Below w.heap.size w w') : ∃ (a : Option Addr) (c : Nat), v = .slice a xs.length c ∧
    ((a = none ∧ xs.length = 0 ∧ c = 0 ∧ xs.map (Value.int .i64) = []) ∨ ∃ ad, a = some ad ∧ (xs.map (Value.int .i64)).length = xs.length * 1 ∧ ∀ j u, (xs.map (Value.int .i64))[j]? = some u → w'.cell? (ad.add j) = some u) := by
  have h' := h.below hb
  by_cases hv : v = .slice none 0 0
  · subst hv
    obtain ⟨a, c, e, _⟩ := h.row
    simp at e
    obtain ⟨rfl, e1, rfl⟩ := e
    have : xs = [] := List.eq_nil_of_length_eq_zero e1.symm
    subst this
    exact ⟨none, 0, rfl, .inl ⟨rfl, rfl, rfl, rfl⟩⟩
  · obtain ⟨g, cap, e, _, _, hc⟩ := h'.src hv
    exact ⟨_, cap, e, .inr ⟨_, rfl, by simp, hc⟩⟩

theorem ints_one (xs : List Int) : ∀ u ∈ xs.map (Value.int .i64), u.oneCell' = true := by
  intro u hu
  simp only [List.mem_map] at hu
  obtain ⟨x, _, rfl⟩ := hu
  rfl

theorem own_lit0 (W : World) (base : Nat) (hb : base ≤ W.heap.size) : (W.alloc (.cells #[] 3)).ownsRow base 3 1 (.slice (some ⟨W.heap.size, 0, none⟩) 0 0) 0 [] :=
  World.ownsRow_made W #[] 0 hb (Nat.zero_le _) rfl

set_option maxRecDepth 100000 in
set_option maxHeartbeats 8000000 in
theorem refRead_any (w : World) (a : Option Addr) (cap : Nat) (t : List UInt8) (ht : Txt w.heap.size w a t) (hm : t.length ≤ 6001) (hc : t.length ≤ cap) :
    Calls Tryd.prog 16 #[.slice a t.length cap] w (Told w.heap.size w (runW Rs.zero t.length (wordsP 0 [] t))) := by
  have CW := hide (words_any w a cap t ht (by omega) hc)
  have hwl := wordsP_len t 0 []
  have hwn := wordsP_ne t 0 []
  have hwa := wordsP_at t 0 []
  simp at hwl hwa
  generalize wordsP 0 [] t = ws at *
  clear ht
  go_enter Tryd.func16, Tryd.ntmps16
  go_wp2_with fail
  refine (unhide CW).mono ?_
  rintro e w1 ⟨v, rfl, hOW, hB1⟩
  obtain ⟨aW, cW, rfl, hWv⟩ := hOW.view
  clear hOW CW
  have hb2 := below_two w1 (.cells #[] 36) (.cells #[.bool false, .slice none 0 0] 36)
  have hG0 : Hid (Gr w1.heap.size (w1.heap.size + 1) ((w1.alloc (.cells #[] 36)).alloc (.cells #[.bool false, .slice none 0 0] 36)) ((w1.alloc (.cells #[] 36)).alloc (.cells #[.bool false, .slice none 0 0] 36)) ws t.length 0 Rs.zero w1.heap.size 0 0 (.slice none 0 0) []) := by
    refine ⟨⟨?_, rfl, (World.ownsRow_made w1 #[] 0 (Nat.le_refl _) (Nat.zero_le _) rfl).alloc _, by omega, fun i hi => by simp [Rs.zero] at hi, World.ownsRow_nil _ _ _ _, by omega, Below.refl _ _⟩, Nat.zero_le _, by simp [Rs.zero], by simp⟩
    have := heap_alloc_new (w1.alloc (.cells #[] 36)) (.cells #[.bool false, .slice none 0 0] 36)
    rw [size_alloc] at this
    exact this
  have HWV := hide (hWv.below hb2)
  have HBB := hide (hB1.trans (hb2.mono hB1.size))
  have HSZ := hide hB1.size
  clear hWv hb2 hB1
  go_wp2
  generalize hWW : (w1.alloc (.cells #[] 36)).alloc (.cells #[.bool false, .slice none 0 0] 36) = W at *
  clear hWW
  generalize hNN : w1.heap.size = N at *
  clear hNN
  go_loopw [6, 8, 9] (fun zo zb zi wr => ∃ (k : Nat) (s : Rs) (g n c : Nat) (vl : Value) (cells : List Value), zi = .int .i64 (k : Int) ∧ zb = .bool s.openB ∧ zo = .slice (some ⟨g, 0, none⟩) n c ∧ Gr N (N + 1) W wr ws t.length k s g n c vl cells) (fun _ _ zi _ => ws.length - (intOf zi).toNat)
  case atStart => exact ⟨0, _, _, _, _, _, _, rfl, rfl, rfl, hG0.out⟩
  case round =>
    clear hG0
    obtain ⟨k, s, g, n, c, vl, cells, rfl, rfl, rfl, hG⟩ := hrel
    have hkl := hG.kl
    have hfew := hG.few
    have hws : ws.length < 4096 := by omega
    have hnl := hG.rf.len
    have hn1 : n < 4096 := by omega
    obtain ⟨al, cl, hvl⟩ := Own.shape hG.rf.cur
    by_cases hlt : k < ws.length
    · obtain ⟨b, off, e, hb, hx0, hx1⟩ := (HWV.out.below hG.rf.bel) k hlt
      subst e
      have hvn := hwn ws[k] (List.getElem_mem hlt)
      obtain ⟨hv1, hv2⟩ := hwa ws[k].1 ws[k].2 (List.getElem_mem hlt)
      have hE := few_E (s := s) hvn (by omega) (by omega)
      have HNX : Hid (∀ w' g' n' c' vl' cells', wordE s ws[k].2 = 0 → Rf N (N + 1) W w' (wordS s ws[k].2) g' n' c' vl' cells' → Gr N (N + 1) W w' ws t.length (k + 1) (wordS s ws[k].2) g' n' c' vl' cells') := fun _ _ _ _ _ _ e r => hG.next hlt e r
      have HST : Hid (wordE s ws[k].2 = 2 → runW Rs.zero t.length ws = (2, ws[k].1, [])) := hG.stop hlt
      have HRF := hide hG.rf
      have CN := refNumber_any ws[k].2 wr (by unfold maxLen; omega)
      have hGlt := lt_of_block hG.rf.blk
      obtain ⟨k0, k1, k2, k3⟩ := two_cells hG.rf.blk
      rw [hvl] at k1
      have HVL := hide hvl
      clear hvl
      have hlow : b < wr.heap.size := by omega
      have hNw : N ≤ wr.heap.size := by omega
      have hcl4 : s.cl.length < 4096 := by omega
      have hlt' : (k : Int) < ws.length := by omega
      have hn2 : ((n : Int) == 262144) = false := beq_no (by omega)
      have hc2 : ((s.cl.length : Int) == 4096) = false := beq_no (by omega)
      generalize ws[k].1 = p at *
      generalize ws[k].2 = v at *
      have hse := str_e v hvn
      clear hG hnl hwa hwn
      cases hcn : cnB v with
      | false =>
        cases hdl : delB s v with
        | false =>
          rw [if_pos ⟨hcn, hdl⟩] at hE
          have HA := hide (HST.out hE)
          clear HNX HST hE
          have hbel := hide HRF.out.bel
          by_cases hnb : numB v = true
          · have hnz : numV v ≠ 0 := fun e => by unfold cnB at hcn; rw [hnb, e] at hcn; cases hcn
            have hnl2 : litB (numV v) 1048576 = false := by
              unfold cnB at hcn
              rw [hnb] at hcn
              simp at hcn
              exact hcn.2
            have hd := str_d v (fun e => by rw [e, numB_d] at hnb; cases hnb)
            have CL := lit_any (numV v) wr
            rw [hnl2] at CL
            rw [hnb] at CN
            replace CL := hide CL
            replace CN := hide CN
            have hne : (numV v != 0) = true := by simpa using hnz
            generalize numV v = x at *
            cases ho : s.openB
            all_goals
              clear hnl2 hnz hnb hcn hdl hvn ho
              go_wp2_with (first
                | (go_at_call 28; refine (unhide CN).mono ?_; rintro e w0 ⟨rfl, hw0⟩; subst w0)
                | (go_at_call 29; refine (unhide CL).mono ?_; rintro e w0 ⟨rfl, hw0⟩; subst w0))
              go_quiet (fail)
              go_wp2
              refine bodyPost_ret (v := .tuple #[.slice none 0 0, .int .i64 (p : Int), .int .i64 2]) (by simp [results, Tryd.results16, go_sem]) rfl ?_
              exact told_of HA.out (OSt.nil _ _) (below_drewN (HBB.out.trans (hbel.out.mono HSZ.out)))
          · have hnb' : numB v = false := by simpa using hnb
            rw [hnb', numV_no hnb'] at CN
            replace CN := hide CN
            clear hnb hnb'
            cases ho : s.openB
            · have hd := str_d v (fun e => by unfold delB at hdl; rw [e, ho] at hdl; cases hdl)
              clear hcn hdl hvn ho
              go_wp2_with (go_at_call 28; refine (unhide CN).mono ?_; rintro e w0 ⟨rfl, hw0⟩; subst w0)
              go_quiet (fail)
              go_wp2
              refine bodyPost_ret (v := .tuple #[.slice none 0 0, .int .i64 (p : Int), .int .i64 2]) (by simp [results, Tryd.results16, go_sem]) rfl ?_
              exact told_of HA.out (OSt.nil _ _) (below_drewN (HBB.out.trans (hbel.out.mono HSZ.out)))
            · clear hcn hdl hvn ho
              go_wp2_with (go_at_call 28; refine (unhide CN).mono ?_; rintro e w0 ⟨rfl, hw0⟩; subst w0)
              go_quiet (fail)
              go_wp2
              refine bodyPost_ret (v := .tuple #[.slice none 0 0, .int .i64 (p : Int), .int .i64 2]) (by simp [results, Tryd.results16, go_sem]) rfl ?_
              exact told_of HA.out (OSt.nil _ _) (below_drewN (HBB.out.trans (hbel.out.mono HSZ.out)))
        | true =>
          obtain ⟨hv100, ho⟩ := delB_word hdl
          rw [if_neg (by rintro ⟨_, e⟩; rw [hdl] at e; cases e)] at hE
          have HE := hide hE
          have HS : Hid (wordS s v = ⟨s.steps, true, s.cl⟩) := by
            show _ = _
            unfold wordS
            rw [if_neg hvn, if_pos hdl]
          rw [HS.out] at HNX
          subst hv100
          rw [numB_d, numV_no numB_d] at CN
          replace CN := hide CN
          have hst := str_toList [100]
          have Q3 := hide HRF.out.del1
          clear hE HST hcn hdl hvn
          rw [ho]
          go_wp2_with (go_at_call 28; refine (unhide CN).mono ?_; rintro e w0 ⟨rfl, hw0⟩; subst w0)
          go_roundw
          case rel => exact ⟨k + 1, ⟨s.steps, true, s.cl⟩, g, n, c, vl, cells, by go_num, rfl, rfl, HNX.out _ _ _ _ _ _ HE.out Q3.out⟩
          case measure => simp [intOf]; omega
      | true =>
        rw [if_neg (by rintro ⟨e, _⟩; rw [hcn] at e; cases e)] at hE
        have hd := str_d v (cn_word hcn).2
        have hdel := cn_del (s := s) hcn
        have hnb : numB v = true := by unfold cnB at hcn; rw [Bool.and_eq_true] at hcn; exact hcn.1
        have hcv : cnV v = numV v := by unfold cnV; rw [hcn]; rfl
        rw [hnb, ← hcv] at CN
        have HE := hide hE
        replace CN := hide CN
        clear HST hE
        by_cases hz : cnV v = 0
        · have HS : Hid (wordS s v = ⟨s.steps ++ [(s.del, s.cl)], false, []⟩) := by
            show _ = _
            unfold wordS
            rw [if_neg hvn, hdel, if_neg (by simp), if_neg (by simpa using hz)]
          rw [hz] at CN
          rw [HS.out] at HNX
          obtain ⟨i0, hi, hz0, hz1, hz2⟩ := info_parts Tryd.info36
          have hrow := HRF.out.row
          cases ho : s.openB
          all_goals
            clear hdel hnb hcv hz hcn hvn ho
            go_wp2_with (first
              | (go_at_call 28; refine (unhide CN).mono ?_; rintro e w0 ⟨rfl, hw0⟩; subst w0)
              | (at_builtin; refine wpList_append_own_at _ rfl _ _ 23 rfl N 36 i0 (.agg #[.bool false, .slice none 0 0]) 2 32 Tryd.underlying23 hi hz0 hz1 hz2 rfl (by decide) (.slice (some ⟨g, 0, none⟩) n c) n cells rfl (hrow.alloc _) ⟨wr.heap.size, 0, none⟩ 1 1 [.bool s.del, .slice al s.cl.length cl] rfl rfl (World.news_of_block (cs := #[.bool s.del, .slice al s.cl.length cl]) (t := 36) (fr := (0, 0)) (heap_alloc_new wr _)) (by simp [Value.oneCell']) (by unfold maxLen; omega) (by omega) (by simp; omega) ?_; intro v' w2 hown2 hgrow2 hnil hat2; obtain ⟨g2, c2, hv2', hbg2, hlt2⟩ := hown2.form (by omega); subst hv2'; obtain ⟨q1, q2, q3⟩ := Rf.zero HRF.out hgrow2 (by rw [HVL.out]; exact hown2) (by simpa [Value.ownBlock] using hat2); obtain ⟨u0, u1, u2, u3⟩ := two_cells q1; obtain ⟨y0, y1, y2, y3⟩ := two_cells q2; have hG2 := lt_of_block q1; have Q3 := hide q3; clear hown2 hgrow2 hnil hat2 q1 q2 q3))
            go_roundw
            case rel => exact ⟨k + 1, ⟨s.steps ++ [(s.del, s.cl)], false, []⟩, g2, n + 1, c2, .slice none 0 0, _, by go_num, rfl, rfl, HNX.out _ _ _ _ _ _ HE.out Q3.out⟩
            case measure => simp [intOf]; omega
        · have HS : Hid (wordS s v = ⟨s.steps, s.del, s.cl ++ [cnV v]⟩) := by
            show _ = _
            unfold wordS
            rw [if_neg hvn, hdel, if_neg (by simp), if_pos hz]
          rw [HS.out] at HNX
          have hlitv := (cnV_lit hz).2.2
          have hlit : litB (cnV v) 1048576 = true := litB_true.2 ⟨hz, hlitv⟩
          have CL := lit_any (cnV v) wr
          rw [hlit] at CL
          replace CL := hide CL
          have hne : (cnV v != 0) = true := by simpa using hz
          obtain ⟨i0, hi, hz0, hz1, hz2⟩ := info_parts Tryd.info3
          have HSRC : Hid (∀ x, Below wr.heap.size wr x → (al = none ∧ s.cl.length = 0 ∧ cl = 0 ∧ s.cl.map (Value.int .i64) = []) ∨ ∃ ad, al = some ad ∧ (s.cl.map (Value.int .i64)).length = s.cl.length * 1 ∧ ∀ j u, (s.cl.map (Value.int .i64))[j]? = some u → x.cell? (ad.add j) = some u) := fun x hx => by
            obtain ⟨a', c', e, hh⟩ := own_src HRF.out.cur hx
            rw [HVL.out] at e
            simp at e
            obtain ⟨rfl, rfl⟩ := e
            exact hh
          have HO1 := hide (ints_one s.cl)
          generalize cnV v = x at *
          have hz0' := hide hz
          cases ho : s.openB
          all_goals
            have HOP : Hid (Rs.openB ⟨s.steps, s.del, s.cl ++ [x]⟩ = true) := by show _ = _; simp [Rs.openB]
            clear hdel hnb hcv hz hcn hvn ho
            go_wp2_with (first
              | (go_at_call 28; refine (unhide CN).mono ?_; rintro e w0 ⟨rfl, hw0⟩; subst w0)
              | (go_at_call 29; refine (unhide CL).mono ?_; rintro e w0 ⟨rfl, hw0⟩; subst w0)
              | (at_builtin; refine wpList_append_any rfl (.tmp 88) (.tmp 90) 34 rfl wr.heap.size 3 i0 (.int .i64 0) 1 8 Tryd.underlying34 hi hz0 hz1 hz2 rfl (by decide) (.slice (some ⟨wr.heap.size, 0, none⟩) 0 0) 0 [] rfl (own_lit0 wr wr.heap.size (Nat.le_refl _)) (by simp) al s.cl.length cl (s.cl.map (Value.int .i64)) rfl (HSRC.out _ (below_alloc wr _)) HO1.out (by unfold maxLen; omega) (by omega) (by simp) ?_; intro g1 c1 w2 ho1 hgr1 hat1 hlt1; simp only [Nat.zero_add, List.nil_append] at ho1; have hbl1 := (below_alloc wr (.cells #[] 3)).grown hgr1 (by simp) (fun k e => by simp [Value.ownBlock] at e; omega); have hf1 := HRF.out.below hbl1; obtain ⟨y0, y1, y2, y3⟩ := two_cells hf1.blk; have hG2 := lt_of_block hf1.blk; have hs2 := hbl1.size; have HB1 := hide hbl1; have HOW1 := hide ho1; clear hgr1 hat1 ho1 hbl1 hf1)
              | (at_builtin; refine wpList_append_own_at _ rfl (.tmp 91) (.tmp 93) 34 rfl wr.heap.size 3 i0 (.int .i64 0) 1 8 Tryd.underlying34 hi hz0 hz1 hz2 rfl (by decide) (.slice (some ⟨g1, 0, none⟩) s.cl.length c1) s.cl.length (s.cl.map (Value.int .i64)) (by simp [Act.eval, Act.put]) (HOW1.out.alloc _) ⟨w2.heap.size, 0, none⟩ 1 1 [.int .i64 x] rfl rfl (cell_one_new _ _ _) (fun x hx => by simp at hx; subst hx; rfl) (by unfold maxLen; omega) (by omega) (by simp; omega) ?_; intro v' w3 hown3 hgrow3 hnil3 hat3; obtain ⟨g3, c3, hv3, hbg3, hlt3⟩ := hown3.form (by omega); subst hv3; have hbl3 := (HB1.out.alloc hs2 (.cells #[.int .i64 x] 3)).grown hgrow3 (by simp; omega) (fun k e => by have := (HOW1.out.lt k e).1; omega); have q3 := Rf.lit (x := x) HRF.out hbl3 ((own_snoc hown3 rfl).mono hNw); have hf3 := HRF.out.below hbl3; obtain ⟨z0, z1, z2, z3⟩ := two_cells hf3.blk; have hG3 := lt_of_block hf3.blk; have Q3 := hide q3; clear hown3 hgrow3 hnil3 hat3 hbl3 q3 hf3))
            go_roundw
            case rel => exact ⟨k + 1, ⟨s.steps, s.del, s.cl ++ [x]⟩, g, n, c, _, _, by go_num, by rw [HOP.out], rfl, HNX.out _ _ _ _ _ _ HE.out Q3.out⟩
            case measure => simp [intOf]; omega
    · have hlt' : ¬ (k : Int) < ws.length := by omega
      have hans := hG.ans
      rw [List.drop_eq_nil_of_le (by omega), runW_nil] at hans
      have HA := hide hans
      have HO := hide hG.rf.ost
      have HB := hide hG.rf.bel
      clear hG hans hnl
      cases ho : s.openB
      all_goals
        have HE : Hid (endP s t.length = endP s t.length) := rfl
        unfold endP at HA
        rw [ho] at HA
        go_wp2
        first
          | (refine bodyPost_ret (v := .tuple #[.slice none 0 0, .int .i64 (t.length : Int), .int .i64 2]) (by simp [results, Tryd.results16, go_sem]) rfl ?_
             exact told_of HA.out (OSt.nil _ _) (HBB.out.trans (HB.out.mono HSZ.out)))
          | (refine bodyPost_ret (v := .tuple #[.slice (some ⟨g, 0, none⟩) n c, .int .i64 0, .int .i64 0]) (by simp [results, Tryd.results16, go_sem]) rfl ?_
             exact told_of (p := 0) HA.out (HO.out.mono HSZ.out) (HBB.out.trans (HB.out.mono HSZ.out)))

end Go.Proofs.YtgklollpajhmlaaDoor
