/- Contract: Load, of nodes that may be. -/
import Derived.Test.YtbilhiklfficoaaWalkL
import Derived.Test.YtbilhiklfficoaaWalkX

set_option linter.unusedVariables false
set_option linter.unusedSimpArgs false
namespace Go.Proofs.Ytbilhiklfficoaa
open Go.RowKit Go.Maps

theorem own_form2 {w : World} {base n : Nat} {v : Value} {xs : List Value} (h : w.ownsRow base 60 2 v n xs) (hv : v ≠ .slice none 0 0) : ∃ q c, v = .slice (some ⟨q, 0, none⟩) n c := by
  rcases h.2 with ⟨h0, _⟩ | ⟨q, c, cur, rfl, _⟩
  · exact absurd h0 hv
  · exact ⟨q, c, rfl⟩
theorem owns_zero {base : Nat} {w : World} {e : TypeId} {s : Nat} {v : Value} {n : Nat} {xs : List Value} (h : w.ownsRow base e s v n xs) : w.ownsRow 0 e s v n xs := by
  refine ⟨h.1, ?_⟩
  rcases h.2 with hn | ⟨g, cap, cur, e, h1, r⟩
  · exact .inl hn
  · exact .inr ⟨g, cap, cur, e, Nat.zero_le _, r⟩

set_option maxHeartbeats 2000000 in
theorem clone_own (w : World) (al : Option Addr) (cap : Nat) (g : List Gt) (hs : GS w al g) (hf : al = none → g = [] ∧ cap = 0) (hl : g.length ≤ 1000000) :
    Calls Try.prog 35 #[.slice al g.length cap] w fun e w' => ∃ v, e = .returned v ∧ w'.ownsRow w.heap.size 60 2 v g.length (gcl g) ∧ Below w.heap.size w w' := by
  have q24 : ∀ (w : World) (a : Option Addr) (n c n' c' : Nat), (binOp .eql 22 (.slice a n c) (.slice none n' c')).run Try.prog w = .ok (.bool a.isNone) w := fun w a n c n' c' => Lib.run_eql_slice_nil w _ _ a n c n' c' Try.underlying22
  cases al with
  | none =>
    obtain ⟨rfl, rfl⟩ := hf rfl
    go_enter Try.func35, Try.ntmps35
    go_wp2
    go_ret
    exact ⟨_, rfl, World.ownsRow_nil _ _ _ _, Below.refl _ _⟩
  | some ad =>
    obtain ⟨i0, hi0, hz0, hz1, hz2⟩ := info_parts Try.info60
    have hb0 := below_alloc w (.cells #[] 60)
    have hnews : ∀ j u, (gcl g)[j]? = some u → (w.alloc (.cells #[] 60)).cell? (ad.add j) = some u := by
      intro j u hu
      obtain ⟨hj, e'⟩ := List.getElem?_eq_some_iff.1 hu
      rw [gcl_len] at hj
      obtain ⟨q, off, e, _⟩ := hs 0 (by omega)
      have e2 : ad = ⟨q, off, none⟩ := by simpa using e
      rw [e2]
      exact (hs.below hb0).src e j u hu
    have HL := hide (gcl_len g)
    clear hs hf
    go_enter Try.func35, Try.ntmps35
    go_wp2_with (at_builtin; refine wpList_append_own_at _ rfl _ _ 22 rfl w.heap.size 60 i0 (.agg #[.int .i64 0, .int .i64 0]) 2 16 Try.underlying22 hi0 hz0 hz1 hz2 rfl (by decide) (.slice (some ⟨w.heap.size, 0, none⟩) 0 0) 0 [] rfl (lit0 w 60 2) ad g.length cap (gcl g) rfl HL.out hnews (gcl_cell g) (by unfold maxLen; omega) (by omega) (by simp) ?_; intro v1 w1 hown1 hgrow1 hnil1 hat1)
    simp only [List.nil_append, Nat.zero_add] at hown1
    obtain ⟨q1, c1, rfl⟩ := own_form2 hown1 (fun e => by have := (hnil1.1 e).1; cases this)
    go_wp2
    go_ret
    exact ⟨_, rfl, hown1, hb0.grown hgrow1 (by simp) (by intro k hk; cases hk; exact Nat.le_refl _)⟩

/-- A graph in the making: its map tells of the first nodes. -/
structure Gl (w W : World) (B M : Nat) (v : Value) (g : List Gt) (k : Nat) : Prop where
  raw : ∃ D, Gw W B M v g D k ∧ MapOk D (g.take k)
  bel : Below w.heap.size w W
  lo : ∀ b, Sv B M v b → w.heap.size ≤ b

theorem own_form3 {w : World} {base : Nat} {v : Value} {n : Nat} {xs : List Value} (h : w.ownsRow base 60 2 v n xs) : ∃ a m c, v = .slice a m c := by
  rcases h.2 with ⟨h0, _⟩ | ⟨q, c, cur, rfl, _⟩
  · exact ⟨_, _, _, h0⟩
  · exact ⟨_, _, _, rfl⟩
theorem own_lo {w : World} {base : Nat} {v : Value} {n b : Nat} {xs : List Value} (h : w.ownsRow base 60 2 v n xs) (hb : v.ownBlock = some b) : base ≤ b ∧ ∃ cs, w.heap[b]? = some (.cells cs 60 (0, 0)) := by
  rcases h.2 with ⟨h0, _⟩ | ⟨q, c, cur, rfl, h1, h2, _⟩
  · rw [h0] at hb; cases hb
  · cases hb; exact ⟨h1, cur, h2⟩
theorem gl_start {w w2 w3 : World} {B M : Nat} {v : Value} {g : List Gt} (h2 : Gr w2 B M (.slice none 0 0) []) (hb2 : Below w.heap.size w w2) (ho : w3.ownsRow w2.heap.size 60 2 v g.length (gcl g)) (hb3 : Below w2.heap.size w2 w3) (hlo : w.heap.size ≤ B ∧ w.heap.size ≤ M) :
    Gl w (w3.setCell ⟨B, 1, none⟩ v) B M v g 0 := by
  obtain ⟨D, hw, hm⟩ := h2.raw
  obtain ⟨l1, l2⟩ := hw.lt
  have hx := (hw.below hb3)
  have hMB := hw.apart.1
  refine ⟨⟨D, ⟨(hd_set hx.head).trans (by simp), ⟨ho.1, ?_⟩, ?_⟩, by simpa using hm⟩, (hb2.trans (hb3.mono hb2.size)).setCell hlo.1 _, ?_⟩
  · rcases ho.2 with hn | ⟨q, c, cur, e, h1, h3, r⟩
    · exact .inl hn
    · exact .inr ⟨q, c, cur, e, Nat.zero_le _, by rw [hd_far (by omega)]; exact h3, r⟩
  · obtain ⟨es, clock, hb, r⟩ := hx.map
    exact ⟨es, clock, by rw [hd_far hMB]; exact hb, r⟩
  · have := hb2.size
    rintro b (e | e | e)
    · omega
    · omega
    · have := (own_lo ho e).1; omega

theorem Gl.below {w W W1 : World} {B M k : Nat} {v : Value} {g : List Gt} (h : Gl w W B M v g k) (hb : Below W.heap.size W W1) : Gl w W1 B M v g k := by
  obtain ⟨D, h1, h2⟩ := h.raw
  exact ⟨⟨D, h1.below hb, h2⟩, h.bel.trans (hb.mono h.bel.size), h.lo⟩
theorem Gw.own_lt {w : World} {B M k b : Nat} {v : Value} {g : List Gt} {D : DataW Unit} (h : Gw w B M v g D k) (hb : Sv B M v b) : b < w.heap.size := by
  rcases hb with e | e | e
  · rw [e]; exact h.lt.1
  · rw [e]; exact h.lt.2
  · obtain ⟨_, cs, hc⟩ := own_lo h.row e; exact lt_of_block hc
/-- An input more, of which the map tells nothing. -/
theorem Gl.skip {w W : World} {B M k : Nat} {v : Value} {g : List Gt} (h : Gl w W B M v g k) (hk : k < g.length) (hin : isInB g[k] = true) : Gl w W B M v g (k + 1) := by
  obtain ⟨D, h1, h2⟩ := h.raw
  have e : g[k] = (-1, -1) := by
    unfold isInB at hin; simp at hin
    exact Prod.ext hin.1 hin.2
  refine ⟨⟨D, ⟨h1.head, h1.row, h1.map.mono (Nat.le_succ _)⟩, ?_⟩, h.bel, h.lo⟩
  rw [List.take_succ_eq_append_getElem hk, e]
  exact map_in h2

set_option maxHeartbeats 8000000 in
set_option maxRecDepth 100000 in
theorem load_yes (w : World) (al : Option Addr) (cap : Nat) (g : List Gt) (hs : GS w al g) (hf : al = none → g = [] ∧ cap = 0) (hl : g.length ≤ 1000000) (hm : May g) :
    Calls Try.prog 24 #[.slice al g.length cap] w fun e w' => ∃ B M v, e = .returned (.tuple #[.pointer (some ⟨B, 0, none⟩), .int .i64 0]) ∧ Gr w' B M v g ∧ Below w.heap.size w w' ∧ ∀ b, Sv B M v b → w.heap.size ≤ b := by
  have CK := hide (check_any w al cap g hs hl hm)
  have CL : Hid (∀ W, Below w.heap.size w W → Calls Try.prog 35 #[.slice al g.length cap] W fun e w' => ∃ v, e = .returned v ∧ w'.ownsRow W.heap.size 60 2 v g.length (gcl g) ∧ Below W.heap.size W w') := fun W hW => clone_own W al cap g (hs.below hW) hf hl
  have HGS := hide hs
  have HM := hide hm
  have IS : Hid (∀ W a b, Calls Try.prog 33 #[.agg #[.int .i64 a, .int .i64 b]] W fun e w' => e = .returned (.bool (isInB (a, b))) ∧ Below W.heap.size W w') := fun W a b => isInput_any W a b
  clear hs hf hm
  go_enter Try.func24, Try.ntmps24
  go_upto_region 4 with (first
    | (go_at_call 32; refine (unhide CK).mono ?_; rintro e w1 ⟨rfl, hb1⟩)
    | (go_at_call 25; refine (new_any _).mono ?_; rintro e w2 ⟨B, M, rfl, h2, hb2, lB, lM⟩))
  have HB2 := hide (hb1.trans (hb2.mono hb1.size))
  have HLO : Hid (w.heap.size ≤ B ∧ w.heap.size ≤ M) := ⟨by have := hb1.size; omega, by have := hb1.size; omega⟩
  have H2 := hide h2
  clear CK h2 hb2 hb1 lB lM
  go_upto_region 5 with (first
    | (go_at_call 35; refine (unhide CL _ HB2.out).mono ?_; rintro e w3 ⟨v, rfl, ho, hb3⟩; obtain ⟨a3, n3, c3, rfl⟩ := own_form3 ho; have c1 := (H2.out.below hb3).c1; have f1 := (H2.out.below hb3).fz 1))
  have HS := hide (gl_start H2.out HB2.out ho hb3 HLO.out)
  refine forget (P := fun W => Code.wp Try.prog _ _ _ W) (fun W => Hid (Gl w W B M (.slice a3 n3 c3) g 0)) HS ?_
  clear HS c1 f1 ho hb3 H2 HB2 HLO CL
  intro W0 HG0
  go_wp2
  go_loopw [18] (fun i W => ∃ k : Nat, k ≤ g.length ∧ i = .int .i64 (k : Int) ∧ Hid (Gl w W B M (.slice a3 n3 c3) g k)) (fun i _ => g.length - (intOf i).toNat)
  case atStart => exact ⟨0, Nat.zero_le _, rfl, HG0⟩
  case round =>
    clear HG0
    obtain ⟨k, hk, rfl, HG⟩ := hrel
    by_cases hlt : k < g.length
    · obtain ⟨qg, og, rfl, hq, z0, z1⟩ := (HGS.out.below HG.out.bel) k hlt
      have hok := HM.out k hlt
      have hskip : Hid (∀ W, Gl w W B M (.slice a3 n3 c3) g k → isInB (g[k].1, g[k].2) = true → Gl w W B M (.slice a3 n3 c3) g (k + 1)) := fun W h hi => h.skip hlt hi
      have hnote : Hid (∀ W, Gl w W B M (.slice a3 n3 c3) g k → isInB (g[k].1, g[k].2) = false → Calls Try.prog 45 #[.pointer (some ⟨B, 0, none⟩), .agg #[.int .i64 g[k].1, .int .i64 g[k].2], .int .i64 (2 * ((k : Int) + 1))] W fun e w' => e = .returned (.tuple #[]) ∧ Gl w w' B M (.slice a3 n3 c3) g (k + 1) ∧ Kp (Sv B M (.slice a3 n3 c3)) W w') := by
        intro W h hi
        obtain ⟨D, h1, h2⟩ := h.raw
        have hk2 : 0 ≤ g[k].1 ∧ g[k].1 < 2 * ((k : Int) + 1) ∧ 0 ≤ g[k].2 ∧ g[k].2 < 2 * ((k : Int) + 1) := by
          rcases hok with h' | h'
          · have e : isInB (g[k].1, g[k].2) = isInB g[k] := rfl
            rw [e, h'] at hi; cases hi
          · exact h'
        refine (note_gen W B M k _ (g.take k) g D g[k].1 g[k].2 (min g[k].1 g[k].2) (max g[k].1 g[k].2) (2 * ((k : Int) + 1)) h1 h2 (by omega) rfl rfl (by omega) (by omega) (by omega) (by unfold inI64; omega)).mono ?_
        rintro e w' ⟨rfl, q1, q2⟩
        refine ⟨rfl, ⟨⟨_, q1, ?_⟩, below_kp h.bel q2 h.lo h.bel.size, h.lo⟩, q2⟩
        rw [List.take_succ_eq_append_getElem hlt]
        have htl : (g.take k).length = k := by simp; omega
        cases hF : findF (g.take k) (min g[k].1 g[k].2, max g[k].1 g[k].2) with
        | some i => exact map_some h2 hF
        | none =>
          have := map_more h2 h1.map.isMap (t := g[k]) (a := min g[k].1 g[k].2) (b := max g[k].1 g[k].2) rfl (by omega) (by omega) (by omega) hF
          rw [htl] at this
          exact this
      have LT := hide (fun W => literal_any W (k : Int) (by omega) (by omega))
      clear hok
      generalize g[k].1 = a at *
      generalize g[k].2 = b at *
      have hbx := box2 wr (.int .i64 a) (.int .i64 b) 60
      have k0 : (wr.alloc (.cells #[.int .i64 a, .int .i64 b] 60)).cell? ⟨wr.heap.size, 0, none⟩ = some (.int .i64 a) := hbx.1
      have k1 : (wr.alloc (.cells #[.int .i64 a, .int .i64 b] 60)).cell? ⟨wr.heap.size, 1, none⟩ = some (.int .i64 b) := hbx.2.1
      have HG1 := hide (HG.out.below (below_alloc wr (.cells #[.int .i64 a, .int .i64 b] 60)))
      have HNS : Hid (¬ Sv B M (.slice a3 n3 c3) wr.heap.size) := by
        obtain ⟨D, h1, _⟩ := HG.out.raw
        intro h; have := h1.own_lt h; omega
      have HZ1 : Hid (wr.heap.size < (wr.alloc (.cells #[.int .i64 a, .int .i64 b] 60)).heap.size) := by unfold Hid; simp
      clear hbx
      go_upto_region 8 with fail
      refine forget (P := fun W => Code.wp Try.prog _ _ _ W) (fun W => (W.cell? ⟨wr.heap.size, 0, none⟩ = some (.int .i64 a) ∧ W.cell? ⟨wr.heap.size, 1, none⟩ = some (.int .i64 b)) ∧ Hid (Gl w W B M (.slice a3 n3 c3) g k) ∧ Hid (wr.heap.size < W.heap.size)) ⟨⟨k0, k1⟩, HG1, HZ1⟩ ?_
      clear k0 k1 HG1 HZ1 z0 z1 HG
      rintro W ⟨⟨k0, k1⟩, HG, HZ⟩
      generalize wr.heap.size = S at *
      cases hin : isInB (a, b) with
      | true =>
        have HSK := hide (fun W h => hskip.out W h hin)
        clear hskip hnote
        go_wp2_with (first | (go_at_call 33; refine (unhide IS _ _ _).mono ?_; rintro e w3 ⟨rfl, hb3⟩))
        go_roundw
        case rel => exact ⟨k + 1, by omega, by go_num, HSK.out _ (HG.out.below hb3)⟩
        case measure => simp [intOf]; omega
      | false =>
        have HNT := hide (fun W h => hnote.out W h hin)
        clear hskip hnote
        go_upto_region 9 with (first | (go_at_call 33; refine (unhide IS _ _ _).mono ?_; rintro e w3 ⟨rfl, hb3⟩))
        have HG3 := hide (HG.out.below hb3)
        have t0 := (hb3.cell (p := ⟨S, 0, none⟩) HZ.out).trans k0
        have t1 := (hb3.cell (p := ⟨S, 1, none⟩) HZ.out).trans k1
        have HZ3 : Hid (S < w3.heap.size) := Nat.lt_of_lt_of_le HZ.out hb3.size
        clear hb3 k0 k1 HG HZ
        go_wp2
        go_region_held3 (fun z => z.cell? ⟨S, 0, none⟩ = some (.int .i64 a) ∧ z.cell? ⟨S, 1, none⟩ = some (.int .i64 b)) (go_keep) (first
          | (go_at_call 41; refine (unhide LT _).mono ?_; rintro e w1 ⟨rfl, hw1⟩; subst w1)
          | (go_at_call 45; refine (unhide HNT _ (HG3.out.below (below_drewN (Below.refl _ _) 1))).mono ?_; rintro e w5 ⟨rfl, hg5, hk5⟩; have y0 := (World.cell?_of_block (hk5.block S HZ3.out HNS.out)).trans t0; have y1 := (World.cell?_of_block (hk5.block S HZ3.out HNS.out)).trans t1))
        all_goals
          have HG5 := hide hg5
          clear hg5 hk5
          go_wp2
          go_roundw
          case rel => exact ⟨k + 1, by omega, by go_num, HG5⟩
          case measure => simp [intOf]; omega
    · have hke : k = g.length := by omega
      subst hke
      obtain ⟨D, hraw, hmo⟩ := HG.out.raw
      rw [List.take_length] at hmo
      have HF := hide (hraw.gr hmo HM.out hl)
      clear hraw hmo
      go_wp2
      exact bodyPost_ret (v := .tuple #[.pointer (some ⟨B, 0, none⟩), .int .i64 0]) (by simp [results, Try.results24, go_sem]) rfl ⟨B, M, _, rfl, HF.out, HG.out.bel, HG.out.lo⟩
end Go.Proofs.Ytbilhiklfficoaa
