/- The law of what follows: each model of the clauses and the decisions makes all of the trail true. -/
import Derived.Test.YtdekcppgfkfiaaaKc
import Derived.Test.YtdekcppgfkfiaaaHe
set_option linter.unusedVariables false
set_option linter.unusedSimpArgs false
namespace Go.Proofs.Ytdekcppgfkfiaaa
open Go.RowKit

set_option maxHeartbeats 4000000 in
set_option maxRecDepth 100000 in
theorem sound_dark (a ad am : Option Addr) (cap cd cm : Nat) (n : Int) (css : List (List Int)) (ds m : List Int) (w : World) (hg : Grid w a css) (hl : css.length ≤ maxLen)
    (hno : lightB css = false ∨ (lightB css = true ∧ 60 < css.length) ∨ (lightB css = true ∧ ¬ 60 < css.length ∧ 60 < n) ∨ (lightB css = true ∧ ¬ 60 < css.length ∧ ¬ 60 < n ∧ cnfB n css = false)) :
    Calls Try.prog 5 #[.agg #[.int .i64 n, .slice a css.length cap], .slice ad ds.length cd, .slice am m.length cm] w fun e w' => e = .returned (.bool true) ∧ Below w.heap.size w w' := by
  have hb0 := below_alloc w (.cells #[.int .i64 n, .slice a css.length cap] 24)
  have L := light_any a cap n css _ (hg.below hb0) hl
  have HC : ∀ x, Below w.heap.size w x → Hid (Calls Try.prog 10 #[.agg #[.int .i64 n, .slice a css.length cap]] x fun e w' => e = .returned (.bool (cnfB n css)) ∧ Below x.heap.size x w') := fun x hx => refCnf_any a cap n css x (hg.below hx) hl
  have HA := fun x => hide (awake_any x)
  have HB0 := hide hb0
  have hblk := heap_alloc_new w (.cells #[.int .i64 n, .slice a css.length cap] 24)
  have HK := hide hblk
  unfold maxLen at hl
  rcases hno with h | ⟨h, h1⟩ | ⟨h, h1, h2⟩ | ⟨h, h1, h2, h3⟩
  · rw [h] at L
    replace L := hide L
    clear hg hb0 HC hblk h
    go_enter Try.func5, Try.ntmps5
    go_wp2_with (first | (go_at_call 7; refine (unhide L).mono ?_; rintro e w1 ⟨rfl, hb1⟩) | (go_at_call 9; refine (unhide (HA _)).mono ?_; rintro e w2 ⟨rfl, hb2⟩))
    go_ret
    exact ⟨rfl, (HB0.out.trans (hb1.mono HB0.out.size)).trans (hb2.mono (Nat.le_trans HB0.out.size hb1.size))⟩
  · rw [h] at L
    replace L := hide L
    have h1' : (60 : Int) < css.length := by omega
    clear hg hb0 HC hblk h
    go_enter Try.func5, Try.ntmps5
    go_wp2_with (first | (go_at_call 7; refine (unhide L).mono ?_; rintro e w1 ⟨rfl, hb1⟩; have k1 := (hb1.cell (p := ⟨w.heap.size, 1, none⟩) (by simp)).trans (cell_of_block HK.out (i := 1) rfl); have k0 := (hb1.cell (p := ⟨w.heap.size, 0, none⟩) (by simp)).trans (cell_of_block HK.out (i := 0) rfl)) | (go_at_call 9; refine (unhide (HA _)).mono ?_; rintro e w2 ⟨rfl, hb2⟩))
    go_ret
    exact ⟨rfl, (HB0.out.trans (hb1.mono HB0.out.size)).trans (hb2.mono (Nat.le_trans HB0.out.size hb1.size))⟩
  · rw [h] at L
    replace L := hide L
    have h1' : ¬ (60 : Int) < css.length := by omega
    clear hg hb0 HC hblk h
    go_enter Try.func5, Try.ntmps5
    go_wp2_with (first | (go_at_call 7; refine (unhide L).mono ?_; rintro e w1 ⟨rfl, hb1⟩; have k1 := (hb1.cell (p := ⟨w.heap.size, 1, none⟩) (by simp)).trans (cell_of_block HK.out (i := 1) rfl); have k0 := (hb1.cell (p := ⟨w.heap.size, 0, none⟩) (by simp)).trans (cell_of_block HK.out (i := 0) rfl)) | (go_at_call 9; refine (unhide (HA _)).mono ?_; rintro e w2 ⟨rfl, hb2⟩))
    go_ret
    exact ⟨rfl, (HB0.out.trans (hb1.mono HB0.out.size)).trans (hb2.mono (Nat.le_trans HB0.out.size hb1.size))⟩
  · rw [h] at L
    replace L := hide L
    have h1' : ¬ (60 : Int) < css.length := by omega
    have HC' : Hid (∀ x, Below w.heap.size w x → Calls Try.prog 10 #[.agg #[.int .i64 n, .slice a css.length cap]] x fun e w' => e = .returned (.bool false) ∧ Below x.heap.size x w') := fun x hx => by have := (HC x hx).out; rw [h3] at this; exact this
    clear hg hb0 HC hblk h h3
    go_enter Try.func5, Try.ntmps5
    go_wp2_with (first | (go_at_call 7; refine (unhide L).mono ?_; rintro e w1 ⟨rfl, hb1⟩; have k1 := (hb1.cell (p := ⟨w.heap.size, 1, none⟩) (by simp)).trans (cell_of_block HK.out (i := 1) rfl); have k0 := (hb1.cell (p := ⟨w.heap.size, 0, none⟩) (by simp)).trans (cell_of_block HK.out (i := 0) rfl); have hb1w := HB0.out.trans (hb1.mono HB0.out.size)) | (go_at_call 10; refine (HC'.out _ hb1w).mono ?_; rintro e w3 ⟨rfl, hb3⟩) | (go_at_call 9; refine (unhide (HA _)).mono ?_; rintro e w2 ⟨rfl, hb2⟩))
    go_ret
    exact ⟨rfl, (hb1w.trans (hb3.mono hb1w.size)).trans (hb2.mono (Nat.le_trans hb1w.size hb3.size))⟩

theorem valI_neg (m : List Int) (x : Int) : valI m (-x) = - valI m x := by
  have h1 : litB (-x) 1048576 = litB x 1048576 := by unfold litB; congr 1; apply propext; constructor <;> intro h <;> omega
  have h2 : varI (-x) = varI x := by unfold varI; split <;> split <;> omega
  have h3 : sgn (-x) = - sgn x := by unfold sgn; split <;> split <;> (try split) <;> (try split) <;> omega
  unfold valI
  rw [h1, h2, h3]
  split
  · exact Int.mul_neg _ _
  · rfl

theorem holds_all {m : List Int} {css : List (List Int)} (h : holdsB m css = true) : ∀ c ∈ css, ∃ x ∈ c, valI m x = 1 := by
  intro c hc
  unfold holdsB at h
  rw [List.all_eq_true] at h
  have h1 := h c hc
  have h2 : clauseI m c = 1 := by simpa using h1
  unfold clauseI at h2
  split at h2
  · rename_i h3
    rw [List.any_eq_true] at h3
    obtain ⟨x, hx, h4⟩ := h3
    exact ⟨x, hx, by simpa using h4⟩
  · split at h2 <;> simp at h2

/-- In the midst of the law: the propagator, the law's own world, what was decided. -/
structure LI (w wr : World) (B V b7 : Nat) (a2 a3 : Option Addr) (n2 c2 n3 c3 : Nat) (css : List (List Int)) (D : List Int) (a4 : Option Addr) (c4 : Nat) : Prop where
  ex : ∃ ρ H s, Rep ρ wr B H s ∧ Inv s ∧ s.vars = V ∧ s.cls.map key = css.map (fun c => (c, false)) ∧ s.dec = D ∧ DR ρ wr (.slice a4 D.length c4) D.length D ∧ Ev free w ρ wr ∧ ρ b7 = oth
  blk : wr.heap[b7]? = some (.cells #[.pointer (some ⟨B, 0, none⟩), .int .i64 V, .slice a2 n2 c2, .slice a3 n3 c3, .slice a4 D.length c4] 36 (0, 0))
  ge : w.heap.size ≤ b7

theorem LI.below {w wr wr' : World} {B V b7 : Nat} {a2 a3 a4 : Option Addr} {n2 c2 n3 c3 c4 : Nat} {css : List (List Int)} {D : List Int} (h : LI w wr B V b7 a2 a3 n2 c2 n3 c3 css D a4 c4) (hb : Below wr.heap.size wr wr') : LI w wr' B V b7 a2 a3 n2 c2 n3 c3 css D a4 c4 := by
  obtain ⟨ρ, H, s, h1, h2, h3, h4, h5, h6, h7, h8⟩ := h.ex
  exact ⟨⟨ρ, H, s, h1.below hb, h2, h3, h4, h5, h6.ev (Ev.below hb), h7.trans (Ev.below hb), h8⟩, (hb.block _ (lt_of_block h.blk)).trans h.blk, h.ge⟩

theorem dec_len (s : PS) : s.dec.length = s.lvs.length := by simp [PS.dec]

/-- The act's contract in the law's words: a literal that is open is decided, and the result laid into the law's world. -/
def MoreP (w : World) (B V b7 : Nat) (a2 a3 : Option Addr) (n2 c2 n3 c3 : Nat) (css : List (List Int)) (D : List Int) (wr : World) (a' : Option Addr) (c' : Nat) (w' : World) : Prop :=
  w'.heap[b7]? = wr.heap[b7]? ∧ ∀ W, U5 w' W b7 [.pointer (some ⟨B, 0, none⟩), .int .i64 V, .slice a2 n2 c2, .slice a3 n3 c3, .slice a' D.length c'] → LI w W B V b7 a2 a3 n2 c2 n3 c3 css D a' c'

theorem U5.block {w W : World} {g : Nat} {x0 x1 x2 x3 x4 : Value} (h : U5 w W g [x0, x1, x2, x3, x4]) : W.heap[g]? = some (.cells #[x0, x1, x2, x3, x4] 36 (0, 0)) := by
  rcases h.own.2 with ⟨e, _⟩ | ⟨g', cap, cur, e, _, hg, hn, _, hs, ht⟩
  · simp [obj1] at e
  · simp [obj1] at e
    obtain ⟨rfl, rfl⟩ := e
    rw [hg]
    have : cur.toList = [x0, x1, x2, x3, x4] := by
      rw [← ht, List.take_of_length_le]
      simp [hs]
    have e2 : cur = #[x0, x1, x2, x3, x4] := by
      apply Array.ext'
      rw [this]
    rw [e2]

theorem ne36 {W : World} {g k : Nat} {cs cs' : Array Value} {e : TypeId} (hg : W.heap[g]? = some (.cells cs 36 (0, 0))) (he : e ≠ 36) (hk : W.heap[k]? = some (.cells cs' e (0, 0))) : k ≠ g := by
  rintro rfl
  rw [hg] at hk; simp at hk; exact he hk.2.symm
theorem Rep.step36 {ρ : Nat → Rl} {W W' : World} {B g : Nat} {H : Hd} {s : PS} {cs : Array Value} (hR : Rep ρ W B H s) (hg : W.heap[g]? = some (.cells cs 36 (0, 0))) (hoff : ∀ b, b ≠ g → W'.heap[b]? = W.heap[b]?) : Rep ρ W' B H s := by
  refine ⟨⟨fun r x hx => own_same (hR.hold.own r x hx) (fun k hk => hoff k ?_), hR.hold.rl⟩, hR.wr, hR.lr⟩
  obtain ⟨cs', hc⟩ := own_ty (hR.hold.own r x hx) hk
  exact ne36 hg (ents_e _ _ _ r x hx) hc
theorem DR.step36 {ρ : Nat → Rl} {W W' : World} {g n : Nat} {v : Value} {ds : List Int} {cs : Array Value} (hD : DR ρ W v n ds) (hg : W.heap[g]? = some (.cells cs 36 (0, 0))) (hoff : ∀ b, b ≠ g → W'.heap[b]? = W.heap[b]?) : DR ρ W' v n ds := by
  refine ⟨own_same hD.1 (fun k hk => hoff k ?_), hD.2⟩
  obtain ⟨cs', hc⟩ := own_ty hD.1 hk
  exact ne36 hg (by decide) hc

theorem act_more {ρ : Nat → Rl} {H : Hd} {s : PS} {w wr : World} {B V b7 : Nat} {a2 a3 a4 : Option Addr} {n2 c2 n3 c3 c4 : Nat} {css : List (List Int)} {D : List Int} (h1 : Rep ρ wr B H s) (h2 : Inv s) (h3 : s.vars = V) (h4 : s.cls.map key = css.map (fun c => (c, false))) (h5 : s.dec = D) (h6 : DR ρ wr (.slice a4 D.length c4) D.length D) (h7 : Ev free w ρ wr) (h8 : ρ b7 = oth)
    (hblk : wr.heap[b7]? = some (.cells #[.pointer (some ⟨B, 0, none⟩), .int .i64 V, .slice a2 n2 c2, .slice a3 n3 c3, .slice a4 D.length c4] 36 (0, 0))) (hge : w.heap.size ≤ b7) (hl : ∀ c ∈ css, c.length ≤ 4096) (l : Int) (hop : openB V s.trail l = true) :
    Calls Try.prog 13 #[.agg #[.pointer (some ⟨B, 0, none⟩), .int .i64 V, .slice a2 n2 c2, .slice a3 n3 c3, .slice a4 D.length c4], .agg #[.int .i64 0, .int .i64 l, .slice none 0 0]] wr fun e w' => ∃ a' c', e = .returned (.tuple #[.agg #[.pointer (some ⟨B, 0, none⟩), .int .i64 V, .slice a2 n2 c2, .slice a3 n3 c3, .slice a' (D.length + 1) c'], .bool true]) ∧ w'.heap[b7]? = wr.heap[b7]? ∧ b7 < w'.heap.size ∧ ∀ W, U5 w' W b7 [.pointer (some ⟨B, 0, none⟩), .int .i64 V, .slice a2 n2 c2, .slice a3 n3 c3, .slice a' (D.length + 1) c'] → LI w W B V b7 a2 a3 n2 c2 n3 c3 css (D ++ [l]) a' c' := by
  have hlits := new_lits h4 hl
  have hdl : D.length ≤ 1000 := by
    rw [← h5, dec_len]
    have := lvs_len h2.tr; have := trail_len h2.tr; have := h2.sz.vars; omega
  refine (act0_yes h1 h2 hlits V h3 a2 a3 a4 none n2 c2 n3 c3 D.length c4 0 0 D h6 hdl l hop).mono ?_
  rintro e w' ⟨a', c', rfl, hA⟩
  have hbl := lt_of_block hblk
  obtain ⟨ρ', H', hR, hE, hD⟩ := hA
  have hk := hE.keep b7 hbl h8
  obtain ⟨q1, q2, q3⟩ := openB_lt hop
  refine ⟨a', c', rfl, hk, Nat.lt_of_lt_of_le hbl hE.size, fun W hU => ?_⟩
  have hb := hk.trans hblk
  have hEv := h7.trans hE
  refine ⟨⟨ρ', H', s.decide l, hR.step36 hb hU.off, decide_inv h2 (by rw [h3]; exact q1) q2 q3, h3, h4, ?_, ?_, ?_, (hE.agree b7 hbl).trans h8⟩, ?_, hge⟩
  · rw [dec_decide h2, h5]
  · rw [List.length_append]; exact hD.step36 hb hU.off
  · exact ⟨hU.rest.1.trans hEv.os, hU.rest.2.1.trans hEv.tape, hU.rest.2.2.trans hEv.output, by rw [hU.size]; exact hEv.size, hEv.agree, fun b hlt ho => (hU.off b (by omega)).trans (hEv.keep b hlt ho)⟩
  · rw [List.length_append]; exact hU.block

/-- What the law asks at its end. -/
theorem end_ok {w wr : World} {B V b7 : Nat} {a2 a3 a4 : Option Addr} {n2 c2 n3 c3 c4 : Nat} {css : List (List Int)} {D m : List Int} {s s' : PS} {n : Int} (h2 : Inv s) (h4 : s.cls.map key = css.map (fun c => (c, false))) (h5 : s.dec = D) (hI : Inv s') (hF : Frm s s') (hn : (n = -1 ∧ s'.late = [] ∧ s'.head = s'.trail.length) ∨ Brk s' n) (hh : holdsB m css = true) (hd : ∀ x ∈ D, valI m x = 1) :
    n = -1 ∧ ∀ x ∈ s'.trail, valI m x = 1 := by
  have hc : ∀ (i : Nat) c, s'.cls[i]? = some c → c.gone = false → ∃ x ∈ c.lits, valI m x = 1 := by
    intro i c hc _
    have hk := keys_at (hF.cl.trans h4) hc
    have hm : (c.lits, c.gone) ∈ css.map (fun c => (c, false)) := List.mem_of_getElem? hk
    rw [List.mem_map] at hm
    obtain ⟨c', hc', e⟩ := hm
    simp at e
    obtain ⟨x, hx, hv⟩ := holds_all hh c' hc'
    exact ⟨x, by rw [← e.1]; exact hx, hv⟩
  have hdd : ∀ l ∈ s'.dec, valI m l = 1 := by rw [hF.dec h2, h5]; exact hd
  refine ⟨?_, sound_trail hI (valI m) (valI_neg m) hc hdd⟩
  rcases hn with ⟨hn, _⟩ | hn
  · exact hn
  · exact (sound_broken hI (valI m) (valI_neg m) hc hdd hn).elim

end Go.Proofs.Ytdekcppgfkfiaaa
