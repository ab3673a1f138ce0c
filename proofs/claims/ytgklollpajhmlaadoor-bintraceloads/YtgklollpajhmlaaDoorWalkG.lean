/- Contract: a proof's text is read. -/
import Derived.Test.YtgklollpajhmlaaDoorWalkF
set_option linter.unusedVariables false
set_option linter.unusedSimpArgs false
namespace Go.Proofs.YtgklollpajhmlaaDoor
open Go.RowKit Go.Maps

attribute [local go_sem ↓] Go.wp_at_zero Go.wp_at_succ

/-- No more than may be. -/
structure Rs.Ok (s : Rs) : Prop where
  cl : s.cl.length ≤ 4096
  st : s.steps.length ≤ 262144
  op : s.openB = true → s.steps.length < 262144

theorem zero_ok : Rs.zero.Ok := ⟨by simp [Rs.zero], by simp [Rs.zero], fun _ => by simp [Rs.zero]⟩

theorem wordS_ok {s : Rs} {v : List UInt8} (h : s.Ok) (he : wordE s v = 0) : (wordS s v).Ok := by
  unfold wordE at he
  unfold wordS
  by_cases hv : v = []
  · rw [if_pos hv]; exact h
  rw [if_neg hv] at he ⊢
  by_cases h1 : cnB v = false ∧ delB s v = false
  · rw [if_pos h1] at he; cases he
  rw [if_neg h1] at he
  by_cases h2 : cnV v ≠ 0 ∧ s.cl.length = 4096
  · rw [if_pos h2] at he; cases he
  rw [if_neg h2] at he
  by_cases h3 : s.openB = false ∧ s.steps.length = 262144
  · rw [if_pos h3] at he; cases he
  have h4 : s.steps.length < 262144 := by
    cases e : s.openB with
    | true => exact h.op e
    | false =>
      have := h.st
      by_cases e2 : s.steps.length = 262144
      · exact absurd ⟨e, e2⟩ h3
      · omega
  by_cases hd : delB s v = true
  · rw [if_pos hd]; exact ⟨h.cl, h.st, fun _ => h4⟩
  rw [if_neg hd]
  by_cases hn : cnV v ≠ 0
  · rw [if_pos hn]
    refine ⟨?_, h.st, fun _ => h4⟩
    have := h.cl
    have : s.cl.length ≠ 4096 := fun e => h2 ⟨hn, e⟩
    simp; omega
  · rw [if_neg hn]
    exact ⟨by simp, by simp; omega, fun e => by simp [Rs.openB] at e⟩

/-- Steps behind a slice of the call's own. -/
def OSt (base : Nat) (w : World) (v : Value) (l : List Stp) : Prop :=
  ∃ cells : List Value, w.ownsRow base 36 2 v l.length cells ∧ ∀ i (h : i < l.length), ∃ u, cells[i * 2]? = some (.bool l[i].1) ∧ cells[i * 2 + 1]? = some u ∧ Own base w u l[i].2

theorem OSt.nil (base : Nat) (w : World) : OSt base w (.slice none 0 0) [] := ⟨[], World.ownsRow_nil _ _ _ _, fun i h => by simp at h⟩

theorem owns_mono {base base' : Nat} {w : World} {e : TypeId} {s : Nat} {v : Value} {n : Nat} {xs : List Value} (h : w.ownsRow base e s v n xs) (hb : base' ≤ base) : w.ownsRow base' e s v n xs := by
  refine ⟨h.1, ?_⟩
  rcases h.2 with hn | ⟨g, cap, cur, e, h1, r⟩
  · exact .inl hn
  · exact .inr ⟨g, cap, cur, e, Nat.le_trans hb h1, r⟩

theorem OSt.mono {base base' : Nat} {w : World} {v : Value} {l : List Stp} (h : OSt base w v l) (hb : base' ≤ base) : OSt base' w v l := by
  obtain ⟨cells, h1, h2⟩ := h
  refine ⟨cells, owns_mono h1 hb, fun i hi => ?_⟩
  obtain ⟨u, e0, e, hu⟩ := h2 i hi
  exact ⟨u, e0, e, hu.mono hb⟩

theorem OSt.below {base : Nat} {w w' : World} {v : Value} {l : List Stp} (h : OSt base w v l) (hb : Below w.heap.size w w') : OSt base w' v l := by
  obtain ⟨cells, h1, h2⟩ := h
  refine ⟨cells, owns_below h1 hb, fun i hi => ?_⟩
  obtain ⟨u, e0, e, hu⟩ := h2 i hi
  exact ⟨u, e0, e, hu.below hb⟩

theorem Rd.ost {R : Nat} {w : World} {s : Rs} {vs vc : Value} {cells : List Value} (h : Rd R w s vs vc cells) : OSt (R + 1) w vs s.steps :=
  ⟨cells, h.row, fun i hi => by obtain ⟨u, e0, e, hu, _⟩ := h.each i hi; exact ⟨u, e0, e, hu⟩⟩

/-- A text, as far as it is read. -/
structure Go1 (R : Nat) (W w : World) (t : List UInt8) (p k : Nat) (s : Rs) (vs vc : Value) (cells : List Value) : Prop where
  rd : Rd R w s vs vc cells
  bel : Below R W w
  ok : s.Ok
  pk : p ≤ k
  le : k ≤ t.length
  ans : readP Rs.zero 0 [] t = readP s p ((t.drop p).take (k - p)) (t.drop k)

theorem cur_snoc {t : List UInt8} {p k : Nat} (h : p ≤ k) (hk : k < t.length) : (t.drop p).take (k - p) ++ [t[k]] = (t.drop p).take (k + 1 - p) := by
  have h1 : k - p < (t.drop p).length := by simp; omega
  rw [show k + 1 - p = k - p + 1 by omega, List.take_succ_eq_append_getElem h1]
  congr 2
  rw [List.getElem_drop]
  congr 1
  omega

theorem Go1.skip {R : Nat} {W w : World} {t : List UInt8} {p k : Nat} {s : Rs} {vs vc : Value} {cells : List Value} (h : Go1 R W w t p k s vs vc cells) (hk : k < t.length) (hb : blankB t[k] = false) : Go1 R W w t p (k + 1) s vs vc cells := by
  refine ⟨h.rd, h.bel, h.ok, by have := h.pk; omega, hk, ?_⟩
  rw [h.ans, List.drop_eq_getElem_cons hk, readP_cons, if_neg (by simp [hb]), cur_snoc h.pk hk]

theorem cur_len {t : List UInt8} {p k : Nat} (h : p ≤ k) (hk : k ≤ t.length) : ((t.drop p).take (k - p)).length = k - p := by simp; omega

/-- A word is behind: the contract of reading it, and what is told or left. -/
theorem Go1.word {R : Nat} {W w : World} {t : List UInt8} {p k : Nat} {s : Rs} {vs vc : Value} {cells : List Value} (h : Go1 R W w t p k s vs vc cells) (hk : k < t.length) (hb : blankB t[k] = true) (hm : t.length ≤ 4194304) :
    (wordE s ((t.drop p).take (k - p)) ≠ 0 → readP Rs.zero 0 [] t = (wordE s ((t.drop p).take (k - p)), p, []) ∧ Calls Tryd.prog 24 #[.pointer (some ⟨R, 0, none⟩), .string (str ((t.drop p).take (k - p)))] w fun e w' => e = .returned (.int .i64 (wordE s ((t.drop p).take (k - p)))) ∧ Below R W w') ∧
    (wordE s ((t.drop p).take (k - p)) = 0 → Calls Tryd.prog 24 #[.pointer (some ⟨R, 0, none⟩), .string (str ((t.drop p).take (k - p)))] w fun e w' => e = .returned (.int .i64 0) ∧ ∃ s' vs' vc' cells', Hid (Go1 R W w' t (k + 1) (k + 1) s' vs' vc' cells')) := by
  have hl := cur_len h.pk h.le
  have C := readWord_any R w s vs vc cells ((t.drop p).take (k - p)) h.rd (by rw [hl]; unfold maxLen; omega) h.ok.cl h.ok.st
  have hpk := h.pk
  constructor
  · intro he
    refine ⟨?_, C.mono ?_⟩
    · rw [h.ans, List.drop_eq_getElem_cons hk, readP_cons, if_pos hb, if_neg he]
    · rintro e w' ⟨h1, h2, _⟩
      exact ⟨h1, h.bel.trans h2⟩
  · intro he
    refine C.mono ?_
    rintro e w' ⟨h1, h2, h3⟩
    obtain ⟨vs', vc', cells', hr⟩ := h3 he
    refine ⟨by rw [h1, he], _, vs', vc', cells', ⟨hr, h.bel.trans h2, wordS_ok h.ok he, Nat.le_refl _, hk, ?_⟩⟩
    rw [h.ans, List.drop_eq_getElem_cons hk, readP_cons, if_pos hb, if_pos he, hl]
    have e1 : p + (k - p) + 1 = k + 1 := by omega
    rw [e1, Nat.sub_self, List.take_zero]

/-- The last word. -/
theorem Go1.last {R : Nat} {W w : World} {t : List UInt8} {p : Nat} {s : Rs} {vs vc : Value} {cells : List Value} (h : Go1 R W w t p t.length s vs vc cells) (hm : t.length ≤ 4194304) :
    (wordE s (t.drop p) ≠ 0 → readP Rs.zero 0 [] t = (wordE s (t.drop p), p, []) ∧ Calls Tryd.prog 24 #[.pointer (some ⟨R, 0, none⟩), .string (str (t.drop p))] w fun e w' => e = .returned (.int .i64 (wordE s (t.drop p))) ∧ Below R W w') ∧
    (wordE s (t.drop p) = 0 → Calls Tryd.prog 24 #[.pointer (some ⟨R, 0, none⟩), .string (str (t.drop p))] w fun e w' => e = .returned (.int .i64 0) ∧ ∃ s' vs' vc' cells', Hid (Rd R w' s' vs' vc' cells' ∧ Below R W w' ∧ s'.Ok ∧ readP Rs.zero 0 [] t = endP s' t.length)) := by
  have hpk := h.pk
  have hcur : (t.drop p).take (t.length - p) = t.drop p := List.take_of_length_le (by simp)
  have hans := h.ans
  rw [hcur, List.drop_length, readP_nil] at hans
  have C := readWord_any R w s vs vc cells (t.drop p) h.rd (by simp [maxLen]; omega) h.ok.cl h.ok.st
  constructor
  · intro he
    refine ⟨?_, C.mono ?_⟩
    · rw [hans, if_neg he]
    · rintro e w' ⟨h1, h2, _⟩
      exact ⟨h1, h.bel.trans h2⟩
  · intro he
    refine C.mono ?_
    rintro e w' ⟨h1, h2, h3⟩
    obtain ⟨vs', vc', cells', hr⟩ := h3 he
    refine ⟨by rw [h1, he], _, vs', vc', cells', ⟨hr, h.bel.trans h2, wordS_ok h.ok he, ?_⟩⟩
    rw [hans, if_pos he]
    congr 1
    simp; omega

/-- What is told of a text. -/
def Told (base : Nat) (w : World) (A : Ans) (e : Ending) (w' : World) : Prop :=
  ∃ v, e = .returned (.tuple #[v, .int .i64 (A.2.1 : Int), .int .i64 A.1]) ∧ OSt base w' v A.2.2 ∧ Below base w w'

theorem told_of {base : Nat} {w w' : World} {A : Ans} {v : Value} {p : Nat} {x : Int} {l : List Stp} (h : A = (x, p, l)) (ho : OSt base w' v l) (hb : Below base w w') : Told base w A (.returned (.tuple #[v, .int .i64 (p : Int), .int .i64 x])) w' := by
  subst h; exact ⟨v, rfl, ho, hb⟩

set_option maxHeartbeats 4000000 in
theorem read_any (w : World) (a : Option Addr) (cap : Nat) (t : List UInt8) (ht : Txt w.heap.size w a t) (hm : t.length ≤ 4194304) (hc : t.length ≤ cap) (hn : a = none → t = []) :
    Calls Tryd.prog 14 #[.slice a t.length cap] w (Told w.heap.size w (readP Rs.zero 0 [] t)) := by
  have hm' : ¬ (4194304 : Int) < t.length := by omega
  have hR : (w.alloc (.cells #[.slice none 0 0, .bool false, .slice none 0 0] 44)).heap[w.heap.size]? = some (.cells #[.slice none 0 0, .bool false, .slice none 0 0] 44 (0, 0)) := heap_alloc_new w _
  have hbb := below_alloc w (.cells #[.slice none 0 0, .bool false, .slice none 0 0] 44)
  have HG0 : Hid (Go1 w.heap.size (w.alloc (.cells #[.slice none 0 0, .bool false, .slice none 0 0] 44)) (w.alloc (.cells #[.slice none 0 0, .bool false, .slice none 0 0] 44)) t 0 0 Rs.zero (.slice none 0 0) (.slice none 0 0) []) :=
    ⟨⟨hR, World.ownsRow_nil _ _ _ _, fun i hi => by simp [Rs.zero] at hi, World.ownsRow_nil _ _ _ _⟩, Below.refl _ _, zero_ok, Nat.le_refl _, Nat.zero_le _, by simp⟩
  have HT := hide (ht.below hbb)
  have HBB := hide hbb
  have HN := hide hn
  clear hR hbb ht hn
  go_enter Tryd.func14, Tryd.ntmps14
  go_wp2
  generalize hWW : w.alloc (.cells #[.slice none 0 0, .bool false, .slice none 0 0] 44) = W at *
  clear hWW
  generalize hRR : w.heap.size = R at *
  clear hRR
  go_loopw [6, 16] (fun z y wr => ∃ (p k : Nat) (s : Rs) (vs vc : Value) (cells : List Value), z = .int .i64 (p : Int) ∧ y = .int .i64 (k : Int) ∧ Go1 R W wr t p k s vs vc cells) (fun _ y _ => t.length - (intOf y).toNat)
  case atStart => exact ⟨0, 0, _, _, _, _, rfl, rfl, HG0.out⟩
  case round =>
    clear HG0
    obtain ⟨p, k, s, vs, vc, cells, rfl, rfl, hG⟩ := hrel
    have hle := hG.le
    have hpk := hG.pk
    by_cases hlt : k < t.length
    · have hlt' : (k : Int) < t.length := by omega
      have hT := HT.out.below hG.bel
      obtain ⟨b, off, e, hb, hcell⟩ := hT k hlt
      subst e
      have hRw := lt_of_block hG.rd.blk
      have CB := isBlank_any t[k] wr
      cases hbl : blankB t[k] with
      | false =>
        have HG1 := hide (hG.skip hlt hbl)
        rw [hbl] at CB
        replace CB := hide CB
        clear hG hbl
        go_wp2_with (go_at_call 23; refine (unhide CB).mono ?_; rintro e w0 ⟨rfl, hw0⟩; subst w0)
        go_roundw
        case rel => exact ⟨p, k + 1, s, vs, vc, cells, rfl, by go_num, HG1.out⟩
        case measure => simp [intOf]; omega
      | true =>
        rw [hbl] at CB
        replace CB := hide CB
        obtain ⟨hW1, hW2⟩ := hG.word hlt hbl hm
        have hcv := cut_text (cp := cap - p) hT (cur_len hpk hle).symm (piece (t := t) (p := p) (n := k - p) (by omega)).2
        generalize (t.drop p).take (k - p) = v at *
        by_cases he : wordE s v = 0
        · have C := hide (hW2 he)
          clear hG hbl hW1 hW2 he
          go_wp2_with (first
            | (go_at_call 23; refine (unhide CB).mono ?_; rintro e w0 ⟨rfl, hw0⟩; subst w0)
            | (go_at_call 24; refine (unhide C).mono ?_; rintro e w2 ⟨rfl, s2, vs2, vc2, cells2, HG2⟩))
          go_roundw
          case rel => exact ⟨k + 1, k + 1, s2, vs2, vc2, cells2, by go_num, by go_num, HG2.out⟩
          case measure => simp [intOf]; omega
        · obtain ⟨hans, C⟩ := hW1 he
          have HA := hide hans
          replace C := hide C
          have hne : (wordE s v != 0) = true := by simpa using he
          generalize wordE s v = x at *
          clear hG hbl hW1 hW2 he hans
          go_wp2_with (first
            | (go_at_call 23; refine (unhide CB).mono ?_; rintro e w0 ⟨rfl, hw0⟩; subst w0)
            | (go_at_call 24; refine (unhide C).mono ?_; rintro e w2 ⟨rfl, hb2⟩))
          refine bodyPost_ret (v := .tuple #[.slice none 0 0, .int .i64 (p : Int), .int .i64 x]) (by simp [results, Tryd.results14, go_sem]) rfl ?_
          exact told_of HA.out (OSt.nil _ _) (HBB.out.trans hb2)
    · have hke : k = t.length := by omega
      subst hke
      have hlt' : ¬ (t.length : Int) < t.length := by omega
      obtain ⟨hW1, hW2⟩ := hG.last hm
      have hT := HT.out.below hG.bel
      have hcut : ∀ b off, a = some ⟨b, off, none⟩ → (convert 22 9 (.slice (some ⟨b, off + p, none⟩) (t.length - p) (cap - p))).run Tryd.prog wr = .ok (.string (str (t.drop p))) wr := fun b off e => by
        subst e
        refine cut_text hT (by simp) ?_
        intro i hi
        rw [List.getElem_drop, List.getElem?_eq_getElem]
      have hcap : (t.length : Int) ≤ cap := by omega
      have hp : (p : Int) ≤ t.length := by omega
      have hform : (a = none ∧ t = []) ∨ (∃ b off, a = some ⟨b, off, none⟩) ∨ (∃ b off o, a = some ⟨b, off, some o⟩ ∧ t = []) := by
        cases a with
        | none => exact .inl ⟨rfl, HN.out rfl⟩
        | some x =>
          obtain ⟨b, off, o⟩ := x
          cases o with
          | none => exact .inr (.inl ⟨b, off, rfl⟩)
          | some o =>
            refine .inr (.inr ⟨b, off, o, rfl, ?_⟩)
            by_cases h0 : 0 < t.length
            · obtain ⟨b', off', e, _⟩ := hT.cells h0
              simp at e
            · exact List.eq_nil_of_length_eq_zero (by omega)
      have hRw := lt_of_block hG.rd.blk
      have hcvs : Hid ((∀ b off, a = some ⟨b, off, none⟩ → cap = p → (convert 22 9 (.slice (some ⟨b, off, none⟩) (t.length - p) 0)).run Tryd.prog wr = .ok (.string (str (t.drop p))) wr)) := by
        intro b off e e2
        have e3 : t.length - p = 0 := by omega
        have e4 : t.drop p = [] := List.drop_eq_nil_of_le (by omega)
        rw [e3, e4]
        exact cut_none wr _ 0
      clear hG hT
      have hX : t = [] ∨ ∃ b off, a = some ⟨b, off, none⟩ ∧ (cap = p ∨ (p : Int) < cap) := by
        rcases hform with ⟨_, e⟩ | ⟨b, off, e⟩ | ⟨b, off, o, _, e⟩
        · exact .inl e
        · exact .inr ⟨b, off, e, by omega⟩
        · exact .inl e
      have hend : ∀ (w2 : World) (s2 : Rs) (vs2 vc2 : Value) (cells2 : List Value), Hid (Rd R w2 s2 vs2 vc2 cells2 ∧ Below R W w2 ∧ s2.Ok ∧ readP Rs.zero 0 [] t = endP s2 t.length) →
          ∃ (o : Bool) (sa : Option Addr) (sc n : Nat), R < w2.heap.size ∧ Hid (Calls Tryd.prog 25 #[.pointer (some ⟨R, 0, none⟩)] w2 fun e w' => e = .returned (.bool o) ∧ w' = w2) ∧ w2.cell? ⟨R, 0, none⟩ = some (.slice sa n sc) ∧ Hid (o = true → Told R w (readP Rs.zero 0 [] t) (.returned (.tuple #[.slice none 0 0, .int .i64 (t.length : Int), .int .i64 2])) w2) ∧ Hid (o = false → Told R w (readP Rs.zero 0 [] t) (.returned (.tuple #[.slice sa n sc, .int .i64 0, .int .i64 0])) w2) := by
        rintro w2 s2 vs2 vc2 cells2 H2
        obtain ⟨hr2, hb2, hok2, ha2⟩ := H2.out
        obtain ⟨sa, sc, hvs⟩ := owns_shape hr2.row
        subst hvs
        refine ⟨s2.openB, sa, sc, s2.steps.length, lt_of_block hr2.blk, open_any R w2 s2 _ vc2 cells2 hr2 hok2.cl, (rd_cells hr2.blk).1, fun e => ?_, fun e => ?_⟩
        · exact told_of (by rw [ha2]; unfold endP; rw [e]; rfl) (OSt.nil _ _) (HBB.out.trans hb2)
        · exact told_of (p := 0) (by rw [ha2]; unfold endP; rw [e]; rfl) (hr2.ost.mono (by omega)) (HBB.out.trans hb2)
      replace hend := hide hend
      have hcut' := hide hcut
      clear hform hcut
      have hW2' := hide hW2
      have hW1' := hide hW1
      clear hW1 hW2
      by_cases he : wordE s (t.drop p) = 0
      · have C := hide (hW2'.out he)
        clear hW1' hW2' he
        rcases hX with rfl | ⟨b, off, rfl, hcp | hcp⟩
        · have hp0 : p = 0 := by simp at hp; omega
          subst hp0
          have hcv0 := cut_none wr none 0
          have hcv1 := cut_none wr none cap
          have hcv2 : ∀ x y, (convert 22 9 (.slice (some x) 0 y)).run Tryd.prog wr = .ok (.string (str [])) wr := fun x y => cut_none wr (some x) y
          rw [List.drop_nil] at C
          cases a with
          | none =>
            go_wp2_with (first
              | (go_at_call 24; refine (unhide C).mono ?_; rintro e w2 ⟨rfl, s2, vs2, vc2, cells2, H2⟩; obtain ⟨o, sa, sc, n, hR2, CO, f0, HT1, HT2⟩ := hend.out w2 s2 vs2 vc2 cells2 H2; clear H2)
              | (go_at_call 25; refine (unhide CO).mono ?_; rintro e w0 ⟨rfl, hw0⟩; subst w0))
            · refine bodyPost_ret (v := .tuple #[.slice none 0 0, .int .i64 0, .int .i64 2]) (by simp [results, Tryd.results14, go_sem]) rfl ?_
              exact HT1.out (by assumption)
            · refine bodyPost_ret (v := .tuple #[.slice sa n sc, .int .i64 0, .int .i64 0]) (by simp [results, Tryd.results14, go_sem]) rfl ?_
              exact HT2.out (by simp_all)
          | some x =>
            obtain ⟨b, off, o⟩ := x
            by_cases hc0 : cap = 0
            · subst hc0
              go_wp2_with (first
                | (go_at_call 24; refine (unhide C).mono ?_; rintro e w2 ⟨rfl, s2, vs2, vc2, cells2, H2⟩; obtain ⟨o, sa, sc, n, hR2, CO, f0, HT1, HT2⟩ := hend.out w2 s2 vs2 vc2 cells2 H2; clear H2)
                | (go_at_call 25; refine (unhide CO).mono ?_; rintro e w0 ⟨rfl, hw0⟩; subst w0))
              · refine bodyPost_ret (v := .tuple #[.slice none 0 0, .int .i64 0, .int .i64 2]) (by simp [results, Tryd.results14, go_sem]) rfl ?_
                exact HT1.out (by assumption)
              · refine bodyPost_ret (v := .tuple #[.slice sa n sc, .int .i64 0, .int .i64 0]) (by simp [results, Tryd.results14, go_sem]) rfl ?_
                exact HT2.out (by simp_all)
            · have hc1 : (0 : Int) < cap := by omega
              go_wp2_with (first
                | (go_at_call 24; refine (unhide C).mono ?_; rintro e w2 ⟨rfl, s2, vs2, vc2, cells2, H2⟩; obtain ⟨o, sa, sc, n, hR2, CO, f0, HT1, HT2⟩ := hend.out w2 s2 vs2 vc2 cells2 H2; clear H2)
                | (go_at_call 25; refine (unhide CO).mono ?_; rintro e w0 ⟨rfl, hw0⟩; subst w0))
              · refine bodyPost_ret (v := .tuple #[.slice none 0 0, .int .i64 0, .int .i64 2]) (by simp [results, Tryd.results14, go_sem]) rfl ?_
                exact HT1.out (by assumption)
              · refine bodyPost_ret (v := .tuple #[.slice sa n sc, .int .i64 0, .int .i64 0]) (by simp [results, Tryd.results14, go_sem]) rfl ?_
                exact HT2.out (by simp_all)
        · have hcv := hcvs.out b off rfl hcp
          have hte : t.length = p := by omega
          have hd0 : t.drop p = [] := List.drop_eq_nil_of_le (by omega)
          rw [hte, Nat.sub_self, hd0] at hcv
          rw [hd0] at C
          subst hcp
          rw [hte] at *
          go_wp2_with (first
            | (go_at_call 24; refine (unhide C).mono ?_; rintro e w2 ⟨rfl, s2, vs2, vc2, cells2, H2⟩; obtain ⟨o, sa, sc, n, hR2, CO, f0, HT1, HT2⟩ := hend.out w2 s2 vs2 vc2 cells2 H2; clear H2)
            | (go_at_call 25; refine (unhide CO).mono ?_; rintro e w0 ⟨rfl, hw0⟩; subst w0))
          · refine bodyPost_ret (v := .tuple #[.slice none 0 0, .int .i64 (t.length : Int), .int .i64 2]) (by simp [results, Tryd.results14, go_sem]; omega) rfl ?_
            exact HT1.out (by assumption)
          · refine bodyPost_ret (v := .tuple #[.slice sa n sc, .int .i64 0, .int .i64 0]) (by simp [results, Tryd.results14, go_sem]) rfl ?_
            exact HT2.out (by simp_all)
        · have hcv := hcut'.out b off rfl
          go_wp2_with (first
            | (go_at_call 24; refine (unhide C).mono ?_; rintro e w2 ⟨rfl, s2, vs2, vc2, cells2, H2⟩; obtain ⟨o, sa, sc, n, hR2, CO, f0, HT1, HT2⟩ := hend.out w2 s2 vs2 vc2 cells2 H2; clear H2)
            | (go_at_call 25; refine (unhide CO).mono ?_; rintro e w0 ⟨rfl, hw0⟩; subst w0))
          · refine bodyPost_ret (v := .tuple #[.slice none 0 0, .int .i64 (t.length : Int), .int .i64 2]) (by simp [results, Tryd.results14, go_sem]) rfl ?_
            exact HT1.out (by assumption)
          · refine bodyPost_ret (v := .tuple #[.slice sa n sc, .int .i64 0, .int .i64 0]) (by simp [results, Tryd.results14, go_sem]) rfl ?_
            exact HT2.out (by simp_all)
      · obtain ⟨hans, C⟩ := hW1'.out he
        have HA := hide hans
        replace C := hide C
        have hne : (wordE s (t.drop p) != 0) = true := by simpa using he
        have hvn : t.drop p ≠ [] := fun e => he (by rw [e]; rfl)
        rcases hX with rfl | ⟨b, off, rfl, hcp | hcp⟩
        · exact absurd List.drop_nil hvn
        · exact absurd (List.drop_eq_nil_of_le (by omega)) hvn
        · have hcv := hcut'.out b off rfl
          generalize wordE s (t.drop p) = x at *
          clear hW1' hW2' he hans hvn
          go_wp2_with (go_at_call 24; refine (unhide C).mono ?_; rintro e w2 ⟨rfl, hb2⟩)
          refine bodyPost_ret (v := .tuple #[.slice none 0 0, .int .i64 (p : Int), .int .i64 x]) (by simp [results, Tryd.results14, go_sem]) rfl ?_
          exact told_of HA.out (OSt.nil _ _) (HBB.out.trans hb2)

end Go.Proofs.YtgklollpajhmlaaDoor
