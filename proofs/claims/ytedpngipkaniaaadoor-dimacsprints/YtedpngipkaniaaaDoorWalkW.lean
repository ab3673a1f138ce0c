/- Contracts: what is missing at the end; a text is read. -/
import Derived.Test.YtedpngipkaniaaaDoorWalkV
set_option linter.unusedVariables false
set_option linter.unusedSimpArgs false
namespace Go.Proofs.YtedpngipkaniaaaDoor
open Go.RowKit Go.Maps

attribute [local go_sem ↓] Go.wp_at_zero Go.wp_at_succ

set_option maxHeartbeats 1000000 in
theorem missing_no (S : Nat → Prop) (R : Nat) (w : World) (s : St) (vcs vc : Value) (vs : List Value) (h : Rd S R w s vcs vc vs) (hhd : s.headed = true) (hcl : s.cl = []) (hcls : (s.cls.length : Int) = s.count) :
    Calls Tryd.prog 20 #[.pointer (some ⟨R, 0, none⟩)] w fun e w' => e = .returned (.int .i64 0) ∧ ∃ n, w' = w.drewN n := by
  obtain ⟨ac, cc, rfl⟩ := owns_shape h.row
  obtain ⟨a, cap, hvc⟩ := Own.shape h.cur
  obtain ⟨f0, f1, f2, f3, f4, g0, g1, g2, g3, g4⟩ := rd_cells h.blk
  rw [hhd] at f0
  rw [hvc, hcl] at f4
  simp only [List.length_nil] at f4
  have hc' : ¬ ((s.cls.length : Int) < s.count) := by omega
  clear h hcls hcl hvc hhd
  go_enter Tryd.func20, Tryd.ntmps20
  go_wp2
  go_quiet (fail)
  go_wp2
  go_ret
  exact ⟨rfl, _, rfl⟩

theorem rest_cut {t l r : List UInt8} {p : Nat} (h : t.drop p = l ++ r) (n : Nat) (hn : n ≤ l.length) : rest t p (p + n) = l.take n := by
  unfold rest
  rw [h, Nat.add_sub_cancel_left, List.take_append_of_le_length hn]

theorem cutCR_take (l : List UInt8) : cutCR l = l.take (cutCR l).length ∧ (cutCR l).length ≤ l.length := by
  unfold cutCR
  split
  · rw [List.dropLast_eq_take]; simp
  · simp

theorem OG_of {S : Nat → Prop} {R : Nat} {w : World} {s : St} {vcs vc : Value} {vs : List Value} (h : Rd S R w s vcs vc vs) : OG (R + 1) w vcs s.cls := by
  refine ⟨vs, h.row, fun i hi => ?_⟩
  obtain ⟨u, e, hu, _⟩ := h.each i hi
  exact ⟨u, e, hu⟩

theorem TextR.inv {s f : St} {t : List UInt8} (h : TextR s t f) : (t = [] ∧ s = f) ∨ (∃ l r ws s', t = l ++ 10 :: r ∧ (∀ c ∈ l, c ≠ 10) ∧ Wds (cutCR l) ws ∧ LineR s ws s' ∧ TextR s' r f) ∨ (t ≠ [] ∧ (∀ c ∈ t, c ≠ 10) ∧ ∃ ws, Wds t ws ∧ LineR s ws f) := by
  obtain ⟨ls, last, e, h⟩ := h
  cases ls with
  | nil =>
    have e' : t = last := by rw [e]; simp
    subst e'
    rcases h with ⟨h1, h2⟩ | ⟨h1, h2, ws, h3, h4⟩
    · exact .inl ⟨h1, h2⟩
    · exact .inr (.inr ⟨h1, h2, ws, h3, h4⟩)
  | cons l ls =>
    obtain ⟨h1, ws, s', h2, h3, h4⟩ := h
    exact .inr (.inl ⟨l, _, ws, s', by rw [e]; simp, h1, h2, h3, ls, last, rfl, h4⟩)

/-- A text, as far as it is read. -/
structure Go1 (R : Nat) (W w : World) (t : List UInt8) (p : Nat) (s f : St) (vcs vc : Value) (vs : List Value) : Prop where
  rd : Rd (fun _ => False) R w s vcs vc vs
  bel : Below R W w
  ok : s.Ok
  fresh : s.Fresh
  text : TextR s (t.drop p) f
  le : p ≤ t.length

theorem Go1.round {R : Nat} {W w : World} {t : List UInt8} {p : Nat} {s f : St} {vcs vc : Value} {vs : List Value} {b off cap : Nat} (h : Go1 R W w t p s f vcs vc vs) (hlt : p < t.length) (ht : Txt R W (some ⟨b, off, none⟩) t) (hm : t.length ≤ 4194304) (hc : t.length ≤ cap) :
    ∃ (q p' : Nat), q ≤ t.length ∧ p < p' ∧ p' ≤ t.length ∧
      Hid (Calls Tryd.prog 18 #[.slice (some ⟨b, off, none⟩) t.length cap, .int .i64 (p : Int)] w fun e w' => e = .returned (.tuple #[.int .i64 (q : Int), .int .i64 (p' : Int)]) ∧ w' = w) ∧
      Hid (Calls Tryd.prog 19 #[.pointer (some ⟨R, 0, none⟩), .slice (some ⟨b, off, none⟩) t.length cap, .int .i64 (p : Int), .int .i64 (q : Int)] w fun e w' =>
        e = .returned (.tuple #[.int .i64 0, .int .i64 0]) ∧ ∃ s' vcs' vc' vs', Hid (Go1 R W w' t p' s' f vcs' vc' vs')) := by
  have hT := ht.below h.bel
  have hR := lt_of_block h.rd.blk
  rcases h.text.inv with ⟨e, _⟩ | ⟨l, r, ws, s', e, hl, hw, hL, hr⟩ | ⟨e, hl, ws, hw, hL⟩
  · simp at e; omega
  · have htl := drop_len e
    obtain ⟨c1, c2⟩ := cutCR_take l
    obtain ⟨k1, k2⟩ := hL.ok h.ok h.fresh
    have hrest : rest t p (p + (cutCR l).length) = cutCR l := by rw [rest_cut e _ c2]; exact c1.symm
    have hdrop : t.drop (p + l.length + 1) = r := by
      have := congrArg (fun x => x.drop (l.length + 1)) e
      simp only [List.drop_drop] at this
      rw [Nat.add_assoc, this]
      have h2 : (l ++ 10 :: r).drop (l.length + 1) = r := by
        rw [List.drop_append]
        simp
      exact h2
    refine ⟨p + (cutCR l).length, p + l.length + 1, by omega, by omega, by omega, lineEnd_lf R w b off cap t p l r hT e hl hm hc, ?_⟩
    refine Calls.mono (readLine_any R w b off cap t p (p + (cutCR l).length) hT hR (by omega) (by omega) hm hc s s' vcs vc vs h.rd h.ok h.fresh ws (by rw [hrest]; exact hw) hL) ?_
    rintro e1 x ⟨he, vcs', vc', vs', hrd, hb⟩
    exact ⟨he, s', vcs', vc', vs', ⟨hrd, h.bel.trans hb, k1, k2, by rw [hdrop]; exact hr, by omega⟩⟩
  · obtain ⟨k1, k2⟩ := hL.ok h.ok h.fresh
    have hrest : rest t p t.length = t.drop p := by unfold rest; rw [List.take_of_length_le (by simp)]
    refine ⟨t.length, t.length, Nat.le_refl _, hlt, Nat.le_refl _, lineEnd_no R w b off cap t p hlt hT hl hm hc, ?_⟩
    refine Calls.mono (readLine_any R w b off cap t p t.length hT hR (by omega) (Nat.le_refl _) hm hc s f vcs vc vs h.rd h.ok h.fresh ws (by rw [hrest]; exact hw) hL) ?_
    rintro e1 x ⟨he, vcs', vc', vs', hrd, hb⟩
    exact ⟨he, f, vcs', vc', vs', ⟨hrd, h.bel.trans hb, k1, k2, by rw [List.drop_length]; exact .nil, Nat.le_refl _⟩⟩

set_option maxHeartbeats 4000000 in
theorem read_any (w : World) (a : Option Addr) (cap : Nat) (t : List UInt8) (ht : Txt w.heap.size w a t) (hm : t.length ≤ 4194304) (hc : t.length ≤ cap) (f : St) (hr : TextR St.zero t f) (hhd : f.headed = true) (hcl : f.cl = []) (hcls : (f.cls.length : Int) = f.count) :
    Calls Tryd.prog 9 #[.slice a t.length cap] w fun e w' => ∃ v, e = .returned (.tuple #[.agg #[.int .i64 f.vars, v], .int .i64 0, .int .i64 0]) ∧ OG w.heap.size w' v f.cls ∧ Below w.heap.size w w' := by
  have h0 : 0 < t.length := by
    cases t with
    | nil =>
      rcases hr.inv with ⟨_, e⟩ | ⟨l, r, ws, s', e, _⟩ | ⟨e, _⟩
      · rw [← e] at hhd; cases hhd
      · simp at e
      · exact absurd rfl e
    | cons c t => simp
  obtain ⟨b, off, rfl, hb, -⟩ := ht.cells h0
  have hbb := below_two w (.cells #[.int .i64 0, .slice none 0 0] 24) (.cells #[.bool false, .int .i64 0, .int .i64 0, .slice none 0 0, .slice none 0 0] 43)
  have hR : ((w.alloc (.cells #[.int .i64 0, .slice none 0 0] 24)).alloc (.cells #[.bool false, .int .i64 0, .int .i64 0, .slice none 0 0, .slice none 0 0] 43)).heap[w.heap.size + 1]? = some (.cells #[.bool false, .int .i64 0, .int .i64 0, .slice none 0 0, .slice none 0 0] 43 (0, 0)) := by
    have := heap_alloc_new (w.alloc (.cells #[.int .i64 0, .slice none 0 0] 24)) (.cells #[.bool false, .int .i64 0, .int .i64 0, .slice none 0 0, .slice none 0 0] 43)
    rw [size_alloc] at this
    exact this
  have hN0 : ((w.alloc (.cells #[.int .i64 0, .slice none 0 0] 24)).alloc (.cells #[.bool false, .int .i64 0, .int .i64 0, .slice none 0 0, .slice none 0 0] 43)).heap[w.heap.size]? = some (.cells #[.int .i64 0, .slice none 0 0] 24 (0, 0)) := by
    rw [(below_alloc _ _).block _ (by simp)]; exact heap_alloc_new w _
  go_enter Tryd.func9, Tryd.ntmps9
  go_wp2
  generalize hWW : (w.alloc (.cells #[.int .i64 0, .slice none 0 0] 24)).alloc (.cells #[.bool false, .int .i64 0, .int .i64 0, .slice none 0 0, .slice none 0 0] 43) = W at *
  clear hWW
  have hT : Txt (w.heap.size + 1) W (some ⟨b, off, none⟩) t := (ht.below hbb).mono (by omega)
  have HG0 : Hid (Go1 (w.heap.size + 1) W W t 0 St.zero f (.slice none 0 0) (.slice none 0 0) []) :=
    ⟨⟨hR, World.ownsRow_nil _ _ _ _, fun i hi => by simp [St.zero] at hi, World.ownsRow_nil _ _ _ _, fun _ _ => id, fun _ _ => id, fun _ => ⟨rfl, rfl⟩⟩, Below.refl _ _, St.zero_ok, fun _ => rfl, hr, Nat.zero_le _⟩
  have HT := hide hT
  have HN0 := hide hN0
  have HBB := hide hbb
  clear hT hN0 hbb hR hr ht
  go_loopw [6] (fun z wr => ∃ (p : Nat) (s : St) (vcs vc : Value) (vs : List Value), z = .int .i64 (p : Int) ∧ Go1 (w.heap.size + 1) W wr t p s f vcs vc vs) (fun z _ => t.length - (intOf z).toNat)
  case atStart => exact ⟨0, _, _, _, _, rfl, HG0.out⟩
  case round =>
    clear HG0
    obtain ⟨p, s, vcs, vc, vs, rfl, hG⟩ := hrel
    have hle := hG.le
    by_cases hlt : p < t.length
    · obtain ⟨q, p', hq, hp, hp', CE, CL⟩ := hG.round hlt HT.out hm hc
      have hlt' : (p : Int) < t.length := by omega
      clear hG
      go_wp2_with (first
        | (go_at_call 18; refine (unhide CE).mono ?_; rintro e w0 ⟨rfl, hw0⟩; subst w0)
        | (go_at_call 19; refine (unhide CL).mono ?_; rintro e w2 ⟨rfl, s2, vcs2, vc2, vs2, HG2⟩))
      go_roundw
      case rel => exact ⟨p', s2, vcs2, vc2, vs2, rfl, HG2.out⟩
      case measure => simp [intOf]; omega
    · have hpe : p = t.length := by omega
      have hsf : s = f := by
        rcases hG.text.inv with ⟨_, e⟩ | ⟨l, r, ws, s', e, _⟩ | ⟨e, _⟩
        · exact e
        · rw [hpe, List.drop_length] at e; simp at e
        · rw [hpe, List.drop_length] at e; exact absurd rfl e
      subst hsf
      have CM := hide (missing_no _ _ wr s vcs vc vs hG.rd hhd hcl hcls)
      obtain ⟨ac, cc, rfl⟩ := owns_shape hG.rd.row
      obtain ⟨f0, f1, f2, f3, f4, g0, g1, g2, g3, g4⟩ := rd_cells hG.rd.blk
      have hn0 : wr.heap[w.heap.size]? = some (.cells #[.int .i64 0, .slice none 0 0] 24 (0, 0)) := by rw [hG.bel.block _ (by omega)]; exact HN0.out
      have hcn : wr.cell? ⟨w.heap.size, 0, none⟩ = some (.int .i64 0) ∧ wr.cell? ⟨w.heap.size, 1, none⟩ = some (.slice none 0 0) ∧ wr.frozen? ⟨w.heap.size, 0, none⟩ = false ∧ wr.frozen? ⟨w.heap.size, 1, none⟩ = false := by
        refine ⟨by simp [World.cell?, hn0], by simp [World.cell?, hn0], by simp [World.frozen?, hn0], by simp [World.frozen?, hn0]⟩
      obtain ⟨k0, k1, k2, k3⟩ := hcn
      have HG := hide hG
      have hlt' : ¬ (p : Int) < t.length := by omega
      have HN := hide hn0
      clear hG hn0 hcl hcls hhd hpe hlt
      go_wp2_with (go_at_call 20; refine (unhide CM).mono ?_; rintro e w0 ⟨rfl, n0, hw0⟩; subst w0)
      have hb0 : (wr.drewN n0).heap[w.heap.size]? = some (.cells #[.int .i64 0, .slice none 0 0] 24 (0, 0)) := HN.out
      have hb1 : ((wr.drewN n0).setCell ⟨w.heap.size, 0, none⟩ (.int .i64 s.vars)).heap[w.heap.size]? = some (.cells #[.int .i64 s.vars, .slice none 0 0] 24 (0, 0)) := hd_set hb0
      have hb2 : (((wr.drewN n0).setCell ⟨w.heap.size, 0, none⟩ (.int .i64 s.vars)).setCell ⟨w.heap.size, 1, none⟩ (.slice ac s.cls.length cc)).heap[w.heap.size]? = some (.cells #[.int .i64 s.vars, .slice ac s.cls.length cc] 24 (0, 0)) := hd_set hb1
      have hog : OG (w.heap.size + 1 + 1) (wr.drewN n0) (.slice ac s.cls.length cc) s.cls := OG_of (HG.out.rd.drewN n0)
      have hog2 := ((hog.setCell (j := 0) (x := .int .i64 s.vars) hb0).setCell (j := 1) (x := .slice ac s.cls.length cc) hb1).mono (base' := w.heap.size) (by omega)
      have hbl : Below w.heap.size w (wr.drewN n0) := HBB.out.trans ((show Below (w.heap.size + 1) W (wr.drewN n0) from below_drewN HG.out.bel _).mono (by omega))
      have hbl2 := (hbl.setCell (p := ⟨w.heap.size, 0, none⟩) (Nat.le_refl _) (.int .i64 s.vars)).setCell (p := ⟨w.heap.size, 1, none⟩) (Nat.le_refl _) (.slice ac s.cls.length cc)
      have y3 : (((wr.drewN n0).setCell ⟨w.heap.size, 0, none⟩ (.int .i64 s.vars)).setCell ⟨w.heap.size, 1, none⟩ (.slice ac s.cls.length cc)).cell? ⟨w.heap.size, 0, none⟩ = some (.int .i64 s.vars) := by simp [World.cell?, hb2]
      have y4 : (((wr.drewN n0).setCell ⟨w.heap.size, 0, none⟩ (.int .i64 s.vars)).setCell ⟨w.heap.size, 1, none⟩ (.slice ac s.cls.length cc)).cell? ⟨w.heap.size, 1, none⟩ = some (.slice ac s.cls.length cc) := by simp [World.cell?, hb2]
      exact bodyPost_ret (v := .tuple #[.agg #[.int .i64 s.vars, .slice ac s.cls.length cc], .int .i64 0, .int .i64 0]) (by simp [results, Tryd.results9, go_sem, y3, y4]) rfl ⟨_, rfl, hog2, hbl2⟩

end Go.Proofs.YtedpngipkaniaaaDoor
