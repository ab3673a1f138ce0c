/- Contracts: a line is read; what is missing at the end; a text is read. -/
import Derived.Test.YtedpngipkaniaaaDoorWalkU
set_option linter.unusedVariables false
set_option linter.unusedSimpArgs false
namespace Go.Proofs.YtedpngipkaniaaaDoor
open Go.RowKit Go.Maps

attribute [local go_sem ↓] Go.wp_at_zero Go.wp_at_succ

theorem Wds.len : ∀ {ws : List (List UInt8)} {L : List UInt8}, Wds L ws → ∀ v ∈ ws, v.length ≤ L.length := by
  intro ws
  induction ws with
  | nil => intro L h v hv; simp at hv
  | cons u ws ih =>
    intro L h v hv
    obtain ⟨pre, post, rfl, h1, h2, h3, h4, h5⟩ := h.some
    simp only [List.mem_cons] at hv
    rcases hv with rfl | hv
    · simp; omega
    · have := ih h5 v hv
      simp; omega

theorem rest_len (t : List UInt8) (p q : Nat) : (rest t p q).length ≤ t.length := by unfold rest; simp; omega

theorem Rd.below {S S' : Nat → Prop} {R : Nat} {w w' : World} {s : St} {vcs vc : Value} {vs : List Value} (h : Rd S R w s vcs vc vs) (hb : Below w.heap.size w w') (hS : ∀ k, S' k → w.heap.size ≤ k) : Rd S' R w' s vcs vc vs := by
  have hg : w.grownBy w' none := ⟨hb.os, hb.tape, hb.output, hb.size, fun k hk _ => hb.block k hk⟩
  have hk : ∀ {e : TypeId} {v : Value} {n : Nat} {xs : List Value}, w.ownsRow (R + 1) e 1 v n xs → w'.ownsRow (R + 1) e 1 v n xs := by
    intro e v n xs h
    exact h.kept hg (by cases v.ownBlock <;> simp)
  have hav : ∀ {e : TypeId} {v : Value} {n : Nat} {xs : List Value}, w.ownsRow (R + 1) e 1 v n xs → Av S' v := by
    intro e v n xs h k hk hs
    have h1 := (h.lt k hk).2
    have h2 := hS k hs
    omega
  refine ⟨by rw [hb.block R (lt_of_block h.blk)]; exact h.blk, hk h.row, ?_, hk h.cur, hav h.row, hav h.cur, h.fresh⟩
  intro i hi
  obtain ⟨u, e, hu, _, hp⟩ := h.each i hi
  exact ⟨u, e, hk hu, hav hu, hp⟩

theorem Rd.grown {S : Nat → Prop} {R N : Nat} {w w' : World} {s : St} {vcs vc : Value} {vs : List Value} (h : Rd S R w s vcs vc vs) (hg : w.grownBy w' (some N)) (hN : S N) (hR : R ≠ N) : Rd S R w' s vcs vc vs := by
  have hk : ∀ {e : TypeId} {v : Value} {n : Nat} {xs : List Value}, w.ownsRow (R + 1) e 1 v n xs → Av S v → w'.ownsRow (R + 1) e 1 v n xs := by
    intro e v n xs h ha
    exact h.kept hg (.inr (fun e => ha N e hN))
  refine ⟨by rw [hg.block R (lt_of_block h.blk) (by simpa using hR)]; exact h.blk, hk h.row h.avr, ?_, hk h.cur h.avc, h.avr, h.avc, h.fresh⟩
  intro i hi
  obtain ⟨u, e, hu, ha, hp⟩ := h.each i hi
  exact ⟨u, e, hk hu ha, ha, hp⟩

theorem Rd.weak {S : Nat → Prop} {R : Nat} {w : World} {s : St} {vcs vc : Value} {vs : List Value} (h : Rd S R w s vcs vc vs) : Rd (fun _ => False) R w s vcs vc vs := by
  refine ⟨h.blk, h.row, ?_, h.cur, fun _ _ => id, fun _ _ => id, h.fresh⟩
  intro i hi
  obtain ⟨u, e, hu, _, hp⟩ := h.each i hi
  exact ⟨u, e, hu, fun _ _ => id, hp⟩

/-- The boxes of a function that knows a line. -/
def Bx (g : Nat) (k : Nat) : Prop := k = g ∨ k = g + 1 ∨ k = g + 2

theorem Cut.kept {R g : Nat} {w w' : World} {a : Option Addr} {cap : Nat} {t : List UInt8} {p q : Nat} (h : Cut R g w a cap t p q) (hk : Kept (Bx g) R w w') : Cut R g w' a cap t p q :=
  ⟨by rw [hk.kept g (.inl rfl)]; exact h.text, by rw [hk.kept _ (.inr (.inl rfl))]; exact h.here, by rw [hk.kept _ (.inr (.inr rfl))]; exact h.stop, h.txt.below hk.bel, h.low, h.le, h.len, h.most, h.capy⟩

theorem Cut.bx {R g : Nat} {w : World} {a : Option Addr} {cap : Nat} {t : List UInt8} {p q : Nat} (h : Cut R g w a cap t p q) (hR : R < g) : ∀ k, Bx g k → k < w.heap.size ∧ k ≠ R := by
  have h0 := lt_of_block h.stop
  rintro k (rfl | rfl | rfl) <;> exact ⟨by omega, by omega⟩

/-- Is there a word more? -/
def okN : Value → Nat
  | .bool true => 1
  | _ => 0

/-- A line's words behind the head, as far as they are read. -/
structure Ln (R g : Nat) (W w : World) (b off cap : Nat) (t : List UInt8) (p q : Nat) (s : St) (vcs vc : Value) (vs : List Value) : Prop where
  rd : Rd (Bx g) R w s vcs vc vs
  cut : Cut R g w (some ⟨b, off, none⟩) cap t p q
  bel : Below R W w
  ok : s.Ok
  headed : s.headed = true

set_option maxHeartbeats 4000000 in
theorem readLine_words (R : Nat) (w : World) (b off cap : Nat) (t : List UInt8) (p q : Nat) (ht : Txt R w (some ⟨b, off, none⟩) t) (hRw : R < w.heap.size) (hp : p ≤ q) (hq : q ≤ t.length) (hm : t.length ≤ 4194304) (hc : t.length ≤ cap)
    (s s' : St) (vcs vc : Value) (vs : List Value) (h : Rd (fun _ => False) R w s vcs vc vs) (hok : s.Ok) (hhd : s.headed = true) (v : List UInt8) (ws : List (List UInt8)) (hw : Wds (rest t p q) (v :: ws)) (hv : v ≠ [99]) (hs : WordsR s (v :: ws) s') :
    Calls Tryd.prog 19 #[.pointer (some ⟨R, 0, none⟩), .slice (some ⟨b, off, none⟩) t.length cap, .int .i64 (p : Int), .int .i64 (q : Int)] w fun e w' =>
      e = .returned (.tuple #[.int .i64 0, .int .i64 0]) ∧ ∃ vcs' vc' vs', Rd (fun _ => False) R w' s' vcs' vc' vs' ∧ Below R w w' := by
  have CC := hide (cutter_any R w (some ⟨b, off, none⟩) cap t p q ht (Nat.le_of_lt hRw) hp hq hm hc)
  have HR := hide h
  have hvb : ((str v).toList == [99]) = false := by rw [str_toList]; simpa using hv
  have CN : ∀ w1, Cut R w.heap.size w1 (some ⟨b, off, none⟩) cap t p q → Below w.heap.size w w1 → Calls Tryd.prog 35 #[.pointer (some ⟨w.heap.size + 1, 0, none⟩), .pointer (some ⟨w.heap.size + 2, 0, none⟩), .pointer (some ⟨w.heap.size, 0, none⟩)] w1 fun e w' =>
      ∃ (y : Int) (p' : Nat), e = .returned (.tuple #[.string (str v), .int .i64 y, .bool true]) ∧ Hid (Ln R w.heap.size w w' b off cap t p' q s vcs vc vs) ∧ Hid (Wds (rest t p' q) ws) ∧ w'.cell? ⟨R, 0, none⟩ = some (.bool true) := by
    intro w1 hC hb
    refine (next_wds R w.heap.size w1 b off cap t p q hC v ws hw).mono ?_
    rintro e x ⟨y, p', he, hg, hc', hw', _⟩
    have hrd := (h.below (S' := Bx w.heap.size) hb (by rintro k (rfl | rfl | rfl) <;> omega)).grown hg (.inr (.inl rfl)) (by omega)
    refine ⟨y, p', he, ⟨hrd, hc', ?_, hok, hhd⟩, hw', ?_⟩
    · exact (hb.mono (Nat.le_of_lt hRw)).grown hg (by have := hb.size; omega) (fun k hk => by simp at hk; omega)
    · rw [(rd_cells hrd.blk).1, hhd]
  replace CN := hide CN
  have HLEN : Hid (∀ p' ws', Wds (rest t p' q) ws' → ∀ v ∈ ws', v.length ≤ maxLen) := by
    intro p' ws' h' v' hv'
    have := h'.len v' hv'
    have := rest_len t p' q
    unfold maxLen; omega
  have HV0 : Hid (v.length ≤ maxLen) := HLEN.out p _ hw v (by simp)
  have HS := hide hs
  clear h ht hw hs hok
  go_enter Tryd.func19, Tryd.ntmps19
  go_wp2_with (first
    | (go_at_call 27; refine (unhide CC).mono ?_; rintro e w1 ⟨rfl, hC1, hB1⟩; unfold cutV; have HC1 := hide hC1; have HB1 := hide hB1; clear hC1 hB1)
    | (go_at_call 35; refine (unhide CN _ HC1.out HB1.out).mono ?_; rintro e w2 ⟨y, p2, rfl, HL2, HW2, hr0⟩))
  generalize hG : w.heap.size = g at *
  have hRg : R < g := by omega
  clear CC CN hr0 HC1 HB1 hG
  go_loopw [11, 12, 13] (fun wd at0 ok wr => ∃ (si : St) (p' : Nat) (vcs vc : Value) (vs : List Value) (y : Int) (u : List UInt8), Ln R g w wr b off cap t p' q si vcs vc vs ∧ wd = .string (str u) ∧ at0 = .int .i64 y ∧ ((ok = .bool true ∧ u.length ≤ maxLen ∧ ∃ us, WordsR si (u :: us) s' ∧ Wds (rest t p' q) us) ∨ (ok = .bool false ∧ si = s'))) (fun _ _ ok wr => 2 * (q - hereN g wr) + okN ok)
  case atStart => exact ⟨s, p2, vcs, vc, vs, y, v, HL2.out, rfl, rfl, .inl ⟨rfl, HV0.out, ws, HS.out, HW2.out⟩⟩
  case round =>
    clear HL2 HW2
    obtain ⟨si, p', vcs, vc, vs, y, u, hL, rfl, rfl, hcase⟩ := hrel
    have HL := hide hL
    rcases hcase with ⟨rfl, hul, us, hws, hwd⟩ | ⟨rfl, rfl⟩
    · obtain ⟨s1, hword, hrest⟩ := hws
      have hok1 := hword.ok hL.ok
      have CW := readWord_any (Bx g) R wr si s1 vcs vc vs u hL.rd hL.ok hL.headed (hL.cut.bx hRg) hul hword
      have HH := hide hL.cut.hereN
      have CW2 : Calls Tryd.prog 29 #[.pointer (some ⟨R, 0, none⟩), .string (str u)] wr fun e w' => e = .returned (.int .i64 0) ∧ ∃ vcs' vc' vs', Hid (Ln R g w w' b off cap t p' q s1 vcs' vc' vs') := by
        refine CW.mono ?_
        rintro e x ⟨he, vcs', vc', vs', hr, hk⟩
        exact ⟨he, vcs', vc', vs', ⟨hr, hL.cut.kept hk, hL.bel.trans hk.bel, hok1.1, hok1.2.trans hL.headed⟩⟩
      replace CW2 := hide CW2
      clear CW
      cases us with
      | nil =>
        have hse : s1 = s' := hrest
        subst hse
        have CX : ∀ x vcs' vc' vs', Ln R g w x b off cap t p' q s1 vcs' vc' vs' → Calls Tryd.prog 35 #[.pointer (some ⟨g + 1, 0, none⟩), .pointer (some ⟨g + 2, 0, none⟩), .pointer (some ⟨g, 0, none⟩)] x fun e w' =>
            ∃ (y : Int) (p3 : Nat), e = .returned (.tuple #[.string (str []), .int .i64 y, .bool false]) ∧ Hid (Ln R g w w' b off cap t p3 q s1 vcs' vc' vs') ∧ p' ≤ p3 := by
          intro x vcs' vc' vs' hx
          refine (next_none R g x b off cap t p' q hx.cut hwd).mono ?_
          rintro e z ⟨y, p3, he, hg, hc', hp3⟩
          exact ⟨y, p3, he, ⟨hx.rd.grown hg (.inr (.inl rfl)) (by omega), hc', hx.bel.grown hg (by have := lt_of_block hx.rd.blk; omega) (fun k hk => by simp at hk; omega), hx.ok, hx.headed⟩, hp3⟩
        replace CX := hide CX
        clear hL hwd
        go_wp2_with (first
          | (go_at_call 29; refine (unhide CW2).mono ?_; rintro e w3 ⟨rfl, vcs', vc', vs', HL3⟩)
          | (go_at_call 35; refine (unhide CX _ _ _ _ HL3.out).mono ?_; rintro e w4 ⟨y4, p4, rfl, HL4, hp4⟩))
        have HH4 := hide HL4.out.cut.hereN
        go_roundw
        case rel => exact ⟨_, p4, vcs', vc', vs', y4, [], HL4.out, rfl, rfl, .inr ⟨rfl, rfl⟩⟩
        case measure => rw [HH.out, HH4.out]; simp [okN]; omega
      | cons u2 us2 =>
        obtain ⟨s2, hw2, hr2⟩ := hrest
        have hlen2 := HLEN.out p' _ hwd u2 (by simp)
        have CX : ∀ x vcs' vc' vs', Ln R g w x b off cap t p' q s1 vcs' vc' vs' → Calls Tryd.prog 35 #[.pointer (some ⟨g + 1, 0, none⟩), .pointer (some ⟨g + 2, 0, none⟩), .pointer (some ⟨g, 0, none⟩)] x fun e w' =>
            ∃ (y : Int) (p3 : Nat), e = .returned (.tuple #[.string (str u2), .int .i64 y, .bool true]) ∧ Hid (Ln R g w w' b off cap t p3 q s1 vcs' vc' vs') ∧ Hid (Wds (rest t p3 q) us2) ∧ p' < p3 := by
          intro x vcs' vc' vs' hx
          refine (next_wds R g x b off cap t p' q hx.cut u2 us2 hwd).mono ?_
          rintro e z ⟨y, p3, he, hg, hc', hw', hp3⟩
          exact ⟨y, p3, he, ⟨hx.rd.grown hg (.inr (.inl rfl)) (by omega), hc', hx.bel.grown hg (by have := lt_of_block hx.rd.blk; omega) (fun k hk => by simp at hk; omega), hx.ok, hx.headed⟩, hw', hp3⟩
        replace CX := hide CX
        clear hL hwd
        go_wp2_with (first
          | (go_at_call 29; refine (unhide CW2).mono ?_; rintro e w3 ⟨rfl, vcs', vc', vs', HL3⟩)
          | (go_at_call 35; refine (unhide CX _ _ _ _ HL3.out).mono ?_; rintro e w4 ⟨y4, p4, rfl, HL4, HW4, hp4⟩))
        have HH4 := hide HL4.out.cut.hereN
        have hp5 := HL4.out.cut.le
        go_roundw
        case rel => exact ⟨_, p4, vcs', vc', vs', y4, u2, HL4.out, rfl, rfl, .inl ⟨rfl, hlen2, us2, .cons hw2 hr2, HW4.out⟩⟩
        case measure => rw [HH.out, HH4.out]; simp [okN]; omega
    · clear hL
      go_wp2
      go_ret2
      exact ⟨rfl, vcs, vc, vs, HL.out.rd.weak, HL.out.bel⟩

set_option maxHeartbeats 2000000 in
theorem readLine_none (R : Nat) (w : World) (b off cap : Nat) (t : List UInt8) (p q : Nat) (ht : Txt R w (some ⟨b, off, none⟩) t) (hRw : R < w.heap.size) (hp : p ≤ q) (hq : q ≤ t.length) (hm : t.length ≤ 4194304) (hc : t.length ≤ cap)
    (s : St) (vcs vc : Value) (vs : List Value) (h : Rd (fun _ => False) R w s vcs vc vs) (hw : Wds (rest t p q) []) :
    Calls Tryd.prog 19 #[.pointer (some ⟨R, 0, none⟩), .slice (some ⟨b, off, none⟩) t.length cap, .int .i64 (p : Int), .int .i64 (q : Int)] w fun e w' =>
      e = .returned (.tuple #[.int .i64 0, .int .i64 0]) ∧ ∃ vcs' vc' vs', Rd (fun _ => False) R w' s vcs' vc' vs' ∧ Below R w w' := by
  have CC := hide (cutter_any R w (some ⟨b, off, none⟩) cap t p q ht (Nat.le_of_lt hRw) hp hq hm hc)
  have CN : ∀ w1, Cut R w.heap.size w1 (some ⟨b, off, none⟩) cap t p q → Below w.heap.size w w1 → Calls Tryd.prog 35 #[.pointer (some ⟨w.heap.size + 1, 0, none⟩), .pointer (some ⟨w.heap.size + 2, 0, none⟩), .pointer (some ⟨w.heap.size, 0, none⟩)] w1 fun e w' =>
      ∃ (y : Int), e = .returned (.tuple #[.string (str []), .int .i64 y, .bool false]) ∧ Hid (Rd (fun _ => False) R w' s vcs vc vs ∧ Below R w w') := by
    intro w1 hC hb
    refine (next_none R w.heap.size w1 b off cap t p q hC hw).mono ?_
    rintro e x ⟨y, p', he, hg, hc', _⟩
    have hrd := (h.below (S' := Bx w.heap.size) hb (by rintro k (rfl | rfl | rfl) <;> omega)).grown hg (.inr (.inl rfl)) (by omega)
    exact ⟨y, he, hrd.weak, (hb.mono (Nat.le_of_lt hRw)).grown hg (by have := hb.size; omega) (fun k hk => by simp at hk; omega)⟩
  replace CN := hide CN
  clear h ht hw
  go_enter Tryd.func19, Tryd.ntmps19
  go_wp2_with (first
    | (go_at_call 27; refine (unhide CC).mono ?_; rintro e w1 ⟨rfl, hC1, hB1⟩; unfold cutV; have HC1 := hide hC1; have HB1 := hide hB1; clear hC1 hB1)
    | (go_at_call 35; refine (unhide CN _ HC1.out HB1.out).mono ?_; rintro e w2 ⟨y, rfl, HL2⟩))
  go_ret2
  exact ⟨rfl, _, _, _, HL2.out.1, HL2.out.2⟩

set_option maxHeartbeats 2000000 in
theorem readLine_c (R : Nat) (w : World) (b off cap : Nat) (t : List UInt8) (p q : Nat) (ht : Txt R w (some ⟨b, off, none⟩) t) (hRw : R < w.heap.size) (hp : p ≤ q) (hq : q ≤ t.length) (hm : t.length ≤ 4194304) (hc : t.length ≤ cap)
    (s : St) (vcs vc : Value) (vs : List Value) (h : Rd (fun _ => False) R w s vcs vc vs) (ws : List (List UInt8)) (hw : Wds (rest t p q) ([99] :: ws)) :
    Calls Tryd.prog 19 #[.pointer (some ⟨R, 0, none⟩), .slice (some ⟨b, off, none⟩) t.length cap, .int .i64 (p : Int), .int .i64 (q : Int)] w fun e w' =>
      e = .returned (.tuple #[.int .i64 0, .int .i64 0]) ∧ ∃ vcs' vc' vs', Rd (fun _ => False) R w' s vcs' vc' vs' ∧ Below R w w' := by
  have CC := hide (cutter_any R w (some ⟨b, off, none⟩) cap t p q ht (Nat.le_of_lt hRw) hp hq hm hc)
  have hst := str_toList [99]
  have CN : ∀ w1, Cut R w.heap.size w1 (some ⟨b, off, none⟩) cap t p q → Below w.heap.size w w1 → Calls Tryd.prog 35 #[.pointer (some ⟨w.heap.size + 1, 0, none⟩), .pointer (some ⟨w.heap.size + 2, 0, none⟩), .pointer (some ⟨w.heap.size, 0, none⟩)] w1 fun e w' =>
      ∃ (y : Int), e = .returned (.tuple #[.string (str [99]), .int .i64 y, .bool true]) ∧ Hid (Rd (fun _ => False) R w' s vcs vc vs ∧ Below R w w') := by
    intro w1 hC hb
    refine (next_wds R w.heap.size w1 b off cap t p q hC [99] ws hw).mono ?_
    rintro e x ⟨y, p', he, hg, hc', _⟩
    have hrd := (h.below (S' := Bx w.heap.size) hb (by rintro k (rfl | rfl | rfl) <;> omega)).grown hg (.inr (.inl rfl)) (by omega)
    exact ⟨y, he, hrd.weak, (hb.mono (Nat.le_of_lt hRw)).grown hg (by have := hb.size; omega) (fun k hk => by simp at hk; omega)⟩
  replace CN := hide CN
  clear h ht hw
  go_enter Tryd.func19, Tryd.ntmps19
  go_wp2_with (first
    | (go_at_call 27; refine (unhide CC).mono ?_; rintro e w1 ⟨rfl, hC1, hB1⟩; unfold cutV; have HC1 := hide hC1; have HB1 := hide hB1; clear hC1 hB1)
    | (go_at_call 35; refine (unhide CN _ HC1.out HB1.out).mono ?_; rintro e w2 ⟨y, rfl, HL2⟩))
  go_ret2
  exact ⟨rfl, _, _, _, HL2.out.1, HL2.out.2⟩

set_option maxHeartbeats 4000000 in
theorem readLine_head (R : Nat) (w : World) (b off cap : Nat) (t : List UInt8) (p q : Nat) (ht : Txt R w (some ⟨b, off, none⟩) t) (hRw : R < w.heap.size) (hp : p ≤ q) (hq : q ≤ t.length) (hm : t.length ≤ 4194304) (hc : t.length ≤ cap)
    (vcs vc : Value) (vs : List Value) (h : Rd (fun _ => False) R w St.zero vcs vc vs) (v k : List UInt8) (hw : Wds (rest t p q) [[112], [99, 110, 102], v, k])
    (h1 : numB v = true) (h2 : 0 ≤ numV v) (h2' : numV v ≤ 1048576) (h3 : numB k = true) (h4 : 0 ≤ numV k) (h4' : numV k ≤ 262144) :
    Calls Tryd.prog 19 #[.pointer (some ⟨R, 0, none⟩), .slice (some ⟨b, off, none⟩) t.length cap, .int .i64 (p : Int), .int .i64 (q : Int)] w fun e w' =>
      e = .returned (.tuple #[.int .i64 0, .int .i64 0]) ∧ ∃ vcs' vc' vs', Rd (fun _ => False) R w' { St.zero with headed := true, vars := numV v, count := numV k } vcs' vc' vs' ∧ Below R w w' := by
  have CC := fun w1 (hT : Txt R w1 (some ⟨b, off, none⟩) t) (hRw : R < w1.heap.size) => cutter_any R w1 (some ⟨b, off, none⟩) cap t p q hT (Nat.le_of_lt hRw) hp hq hm hc
  replace CC := hide CC
  have HT := hide ht
  have hst := str_toList [112]
  have hlv : v.length ≤ maxLen := by
    have := hw.len v (by simp)
    have := rest_len t p q
    unfold maxLen; omega
  have hlk : k.length ≤ maxLen := by
    have := hw.len k (by simp)
    have := rest_len t p q
    unfold maxLen; omega
  have hblk : w.heap[R]? = some (.cells #[.bool false, .int .i64 0, .int .i64 0, .slice none 0 0, .slice none 0 0] 43 (0, 0)) := by
    obtain ⟨e1, e2⟩ := h.fresh rfl
    have := h.blk
    rw [e1, e2] at this
    exact this
  have CN : ∀ w1, Cut R w.heap.size w1 (some ⟨b, off, none⟩) cap t p q → Below w.heap.size w w1 → Calls Tryd.prog 35 #[.pointer (some ⟨w.heap.size + 1, 0, none⟩), .pointer (some ⟨w.heap.size + 2, 0, none⟩), .pointer (some ⟨w.heap.size, 0, none⟩)] w1 fun e w' =>
      ∃ (y : Int), e = .returned (.tuple #[.string (str [112]), .int .i64 y, .bool true]) ∧ Hid (w'.heap[R]? = some (.cells #[.bool false, .int .i64 0, .int .i64 0, .slice none 0 0, .slice none 0 0] 43 (0, 0)) ∧ Below R w w') ∧ w'.cell? ⟨R, 0, none⟩ = some (.bool false) := by
    intro w1 hC hb
    refine (next_wds R w.heap.size w1 b off cap t p q hC [112] _ hw).mono ?_
    rintro e x ⟨y, p', he, hg, hc', _⟩
    have hx : x.heap[R]? = some (.cells #[.bool false, .int .i64 0, .int .i64 0, .slice none 0 0, .slice none 0 0] 43 (0, 0)) := by
      rw [hg.block R (by have := hb.size; omega) (by simp; omega), hb.block R hRw]; exact hblk
    exact ⟨y, he, ⟨hx, (hb.mono (Nat.le_of_lt hRw)).grown hg (by have := hb.size; omega) (fun k hk => by simp at hk; omega)⟩, (rd_cells hx).1⟩
  have CH : ∀ w2, w2.heap[R]? = some (.cells #[.bool false, .int .i64 0, .int .i64 0, .slice none 0 0, .slice none 0 0] 43 (0, 0)) ∧ Below R w w2 → ∀ w3 i0, Cut R w2.heap.size w3 (some ⟨b, off, none⟩) cap t p q → Below w2.heap.size w2 w3 →
      Calls Tryd.prog 28 #[.pointer (some ⟨R, 0, none⟩), cutV w2.heap.size, .int .i64 i0] w3 fun e w' => e = .returned (.tuple #[.int .i64 0, .int .i64 0]) ∧ Hid (∃ vcs' vc' vs', Rd (fun _ => False) R w' { St.zero with headed := true, vars := numV v, count := numV k } vcs' vc' vs' ∧ Below R w w') := by
    intro w2 hx w3 i0 hC hb
    have hR2 := lt_of_block hx.1
    refine (readHead_any R w2.heap.size w3 b off cap t p q i0 hC hR2 v k hw (by rw [hb.block R hR2]; exact hx.1) h1 h2 h2' h3 h4 h4' hlv hlk).mono ?_
    rintro e x ⟨he, hbk, hbl⟩
    refine ⟨he, .slice none 0 0, .slice none 0 0, [], ⟨hbk, World.ownsRow_nil _ _ _ _, fun i hi => by simp [St.zero] at hi, World.ownsRow_nil _ _ _ _, fun _ _ => id, fun _ _ => id, fun e => by cases e⟩, (hx.2.trans (hb.mono (Nat.le_of_lt hR2))).trans hbl⟩
  replace CN := hide CN
  replace CH := hide CH
  clear h ht hw hblk h1 h2 h2' h3 h4 h4' hlv hlk
  unfold cutV at CH CC
  go_enter Tryd.func19, Tryd.ntmps19
  go_wp2_with fail
  refine (unhide CC w HT.out hRw).mono ?_
  rintro e w1 ⟨rfl, hC1, hB1⟩
  have HC1 := hide hC1
  have HB1 := hide hB1
  clear hC1 hB1
  go_wp2_with fail
  refine (unhide CN _ HC1.out HB1.out).mono ?_
  rintro e w2 ⟨y, rfl, HX, hr0⟩
  go_wp2_with fail
  refine (unhide CC w2 (HT.out.below HX.out.2) (lt_of_block HX.out.1)).mono ?_
  rintro e w3 ⟨rfl, hC3, hB3⟩
  have HC3 := hide hC3
  have HB3 := hide hB3
  clear hC3 hB3
  go_wp2_with fail
  refine (unhide CH w2 HX.out w3 _ HC3.out HB3.out).mono ?_
  rintro e w4 ⟨rfl, HE⟩
  go_wp2
  go_ret2
  exact ⟨rfl, HE.out⟩

/-- A line is read. -/
theorem readLine_any (R : Nat) (w : World) (b off cap : Nat) (t : List UInt8) (p q : Nat) (ht : Txt R w (some ⟨b, off, none⟩) t) (hRw : R < w.heap.size) (hp : p ≤ q) (hq : q ≤ t.length) (hm : t.length ≤ 4194304) (hc : t.length ≤ cap)
    (s s' : St) (vcs vc : Value) (vs : List Value) (h : Rd (fun _ => False) R w s vcs vc vs) (hok : s.Ok) (hf : s.Fresh) (ws : List (List UInt8)) (hw : Wds (rest t p q) ws) (hl : LineR s ws s') :
    Calls Tryd.prog 19 #[.pointer (some ⟨R, 0, none⟩), .slice (some ⟨b, off, none⟩) t.length cap, .int .i64 (p : Int), .int .i64 (q : Int)] w fun e w' =>
      e = .returned (.tuple #[.int .i64 0, .int .i64 0]) ∧ ∃ vcs' vc' vs', Rd (fun _ => False) R w' s' vcs' vc' vs' ∧ Below R w w' := by
  rcases hl with ⟨rfl, rfl⟩ | ⟨us, rfl, rfl⟩ | ⟨v, k, rfl, a1, a2, a3, a4, a5, a6, a7, rfl⟩ | ⟨v, us, rfl, a1, a2, a3⟩
  · exact readLine_none R w b off cap t p q ht hRw hp hq hm hc s vcs vc vs h hw
  · exact readLine_c R w b off cap t p q ht hRw hp hq hm hc s vcs vc vs h _ hw
  · have e := hf a1
    subst e
    exact readLine_head R w b off cap t p q ht hRw hp hq hm hc vcs vc vs h _ _ hw a2 a3 a4 a5 a6 a7
  · exact readLine_words R w b off cap t p q ht hRw hp hq hm hc s s' vcs vc vs h hok a1 _ _ hw a2 a3

end Go.Proofs.YtedpngipkaniaaaDoor
