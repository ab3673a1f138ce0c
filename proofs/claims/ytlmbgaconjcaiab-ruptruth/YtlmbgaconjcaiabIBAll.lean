/- Joined: Contracts: levels are taken back. Contracts: levels are taken back, by a call that was deferred. -/
import Derived.Test.YtlmbgaconjcaiabIHAll
import Derived.Test.YtlmbgaconjcaiabGg
import Derived.Test.YtlmbgaconjcaiabGh
import Derived.Test.YtlmbgaconjcaiabPlainP
import Derived.Deep.DeepCutAuto
import Derived.Defers
set_option linter.unusedVariables false
set_option linter.unusedSimpArgs false
namespace Go.Proofs.Ytlmbgaconjcaiab
open Go.RowKit

section
variable {ρ : Nat → Rl} {w : World} {B : Nat} {H : Hd} {s : PS}

set_option maxRecDepth 100000 in
set_option maxHeartbeats 400000 in
theorem levels_at (h : Rep ρ w B H s) :
    Calls Try.prog 38 #[.pointer (some ⟨B, 0, none⟩)] w fun e w' => e = .returned (.int .i64 s.lvs.length) ∧ w' = w := by
  have G := hide (given_any h)
  have c10 := h.c10
  obtain ⟨a, cap, e, _⟩ := own_form (h.hold.own (9, 0) _ rfl)
  simp only at e
  rw [e] at c10
  clear h e
  go_enter Try.func38, Try.ntmps38
  go_wp2_with (go_at_call 59; refine (unhide G).mono ?_; rintro e w0 ⟨rfl, hw0⟩; subst w0)
  go_ret
  exact ⟨rfl, rfl⟩

theorem max_zero (k : Int) : max k 0 = (k.toNat : Int) := by omega

set_option maxRecDepth 100000 in
set_option maxHeartbeats 800000 in
theorem back_no (h : Rep ρ w B H s) (k : Int) (hk : s.lvs.length ≤ k.toNat) :
    Calls Try.prog 36 #[.pointer (some ⟨B, 0, none⟩), .int .i64 k] w fun e w' => e = .returned (.tuple #[]) ∧ w' = w := by
  have G := hide (levels_at h)
  have hm := max_zero k
  have hk' : (s.lvs.length : Int) ≤ (k.toNat : Int) := by omega
  clear h
  generalize s.lvs.length = N at *
  generalize k.toNat = K at *
  go_enter Try.func36, Try.ntmps36
  go_wp2_with (go_at_call 38; refine (unhide G).mono ?_; rintro e w0 ⟨rfl, hw0⟩; subst w0)
  all_goals
    refine bodyPost_ret (results_none rfl _ _ _) rfl ?_
    exact ⟨rfl, rfl⟩

/-- The trail is cut short. -/
theorem Rep.trCut (h : Rep ρ w B H s) {g n cap : Nat} (e : H.tv = .slice (some ⟨g, 0, none⟩) s.trail.length cap) (hn : n ≤ s.trail.length) :
    Rep (rs ρ g (8, 0)) (w.setCell ⟨B, 8, none⟩ (.slice (some ⟨g, 0, none⟩) n cap)) B { H with tv := .slice (some ⟨g, 0, none⟩) n cap } { s with trail := s.trail.take n } ∧ Ev ρ w (rs ρ g (8, 0)) (w.setCell ⟨B, 8, none⟩ (.slice (some ⟨g, 0, none⟩) n cap)) := by
  have ho := h.hold.own (8, 0) _ rfl
  simp only at ho
  rw [e] at ho
  have hc := own_cut ho hn
  refine h.tvTurn (gg := g) (tr := s.trail.take n) (World.grownBy.refl _ _) ?_ (fun k hk => by simp [Value.ownBlock] at hk; exact hk.symm) (.inl (by rw [e]; rfl))
  have e1 : (s.trail.take n).length = n := by rw [List.length_take]; exact Nat.min_eq_left hn
  have e2 : intC (s.trail.take n) = (intC s.trail).take (n * 1) := by simp [intC]
  rw [e1, e2]
  exact hc

theorem cellB {W : World} {g i : Nat} {cs : Array Value} {e : TypeId} {v : Value} (h : W.heap[g]? = some (.cells cs e (0, 0))) (hv : cs[i]? = some v) : W.cell? ⟨g, i, none⟩ = some v := by
  simp [World.cell?, h, hv]
theorem unval_snoc (s : PS) (T : List Int) (k : Nat) (hk : k < T.length) : (s.unvals (T.take k)).unval T[k] = s.unvals (T.take (k + 1)) := by
  unfold PS.unvals
  rw [List.take_succ_eq_append_getElem hk, List.foldl_append]
  rfl

/-- What is left of late clauses is put behind the others. -/
theorem Rep.lateMore (h : Rep ρ w B H s) {o : Obj} {k : Nat} {p : Lv} (hp : s.lvs[k]? = some p) {aa : Option Addr} {ca : Nat} (ea : H.av = .slice aa s.late.length ca) :
    ∀ (a' : Option Addr) (cap : Nat) (w' : World), w'.ownsRow 0 80 1 (.slice a' (s.late.length + p.late.length) cap) (s.late.length + p.late.length) (ptrsC H.cb s.late ++ ptrsC H.cb p.late) → (w.alloc o).grownBy w' (Value.slice aa s.late.length ca).ownBlock → (∀ g, (Value.slice a' (s.late.length + p.late.length) cap).ownBlock = some g → (Value.slice aa s.late.length ca).ownBlock = some g ∨ g = (w.alloc o).heap.size) →
      (w'.cell? ⟨B, 11, none⟩ = some (.slice aa s.late.length ca) ∧ w'.frozen? ⟨B, 11, none⟩ = false) ∧
      ∃ ρ', Hid (Rep ρ' (w'.setCell ⟨B, 11, none⟩ (.slice a' (s.late.length + p.late.length) cap)) B { H with av := .slice a' (s.late.length + p.late.length) cap } { s with late := s.late ++ p.late }) ∧ Hid (Ev ρ w ρ' (w'.setCell ⟨B, 11, none⟩ (.slice a' (s.late.length + p.late.length) cap))) := by
  intro a' cap w' ho hg hat
  rw [← ea] at hg hat
  have hd := h.hdAfter (r := (11, 0)) rfl (by decide) hg (i := 11) rfl
  rw [ea] at hd
  refine ⟨hd, ?_⟩
  have e1 : (s.late ++ p.late).length = s.late.length + p.late.length := by simp
  have e2 : ptrsC H.cb (s.late ++ p.late) = ptrsC H.cb s.late ++ ptrsC H.cb p.late := by simp [ptrsC]
  have hAlt : ∀ g, H.av.ownBlock = some g → g < w.heap.size := fun g e => h.hold.lt (r := (11, 0)) rfl e
  cases hb : (Value.slice a' (s.late.length + p.late.length) cap).ownBlock with
  | none =>
    obtain ⟨k1, k2⟩ := (h.alloc o).avTurn (v := .slice a' (s.late.length + p.late.length) cap) (tr := s.late ++ p.late) (gg := (w.alloc o).heap.size) hg (by rw [e1, e2]; exact ho) (fun g e => by rw [hb] at e; cases e) (.inr (Nat.le_refl _))
    exact ⟨_, k1, (Ev.alloc o).trans k2⟩
  | some g =>
    obtain ⟨k1, k2⟩ := (h.alloc o).avTurn (v := .slice a' (s.late.length + p.late.length) cap) (tr := s.late ++ p.late) (gg := g) hg (by rw [e1, e2]; exact ho) (fun g' e => by rw [hb] at e; cases e; rfl) (by rcases hat g hb with e | e; exact .inl e; exact .inr (by omega))
    exact ⟨_, k1, (Ev.alloc o).trans k2⟩

/-- The levels' row is cut short. -/
theorem Rep.lvDel (h : Rep ρ w B H s) {g n m cap : Nat} (e : H.lv = .slice (some ⟨g, 0, none⟩) s.lvs.length cap) (hm : m ≤ s.lvs.length) {w' : World} (hD : DelP w 0 95 3 g m cap (lvsC s.lvs H.lr) w') :
    (w'.cell? ⟨B, 10, none⟩ = some (.slice (some ⟨g, 0, none⟩) s.lvs.length cap) ∧ w'.frozen? ⟨B, 10, none⟩ = false) ∧
    ∃ ρ' H', Rep ρ' (w'.setCell ⟨B, 10, none⟩ (.slice (some ⟨g, 0, none⟩) m cap)) B H' { s with lvs := s.lvs.take m } ∧ Ev ρ w ρ' (w'.setCell ⟨B, 10, none⟩ (.slice (some ⟨g, 0, none⟩) m cap)) := by
  obtain ⟨h1, h2⟩ := hD
  have hg : H.lv.ownBlock = some g := by rw [e]; rfl
  have hgB : g ≠ B := h.hold.ne (r := (9, 0)) (q := (0, 0)) rfl hg rfl rfl (by decide)
  have eB : w'.heap[B]? = w.heap[B]? := h1.block B h.lt (by simpa using Ne.symm hgB)
  rw [lvsC_take] at h2
  obtain ⟨k1, k2⟩ := h.lvCut (gg := g) (v := .slice (some ⟨g, 0, none⟩) m cap) hm (by rw [hg]; exact h1) h2 (fun k hk => by simp [Value.ownBlock] at hk; exact hk.symm) (.inl hg)
  exact ⟨⟨(World.cell?_of_block (a := ⟨B, 10, none⟩) eB).trans (by rw [h.c10, e]), (World.frozen?_of_block (a := ⟨B, 10, none⟩) eB).trans (h.fz 10)⟩, _, _, k1, k2⟩

theorem wrap_succ {k : Nat} (h : k ≤ 1048576) : wrap64 ((k : Int) + 1) = ((k + 1 : Nat) : Int) := by unfold wrap64; omega
theorem meas_lt {N k : Nat} (h : k < N) : N - (k + 1) < N - k := by omega
theorem sum_drop_take {α : Type} (f : α → Nat) : ∀ (L : List α) (a b : Nat), (((L.drop a).take b).map f).sum ≤ (L.map f).sum
  | [], a, b => by simp
  | x :: r, 0, 0 => by simp
  | x :: r, 0, b + 1 => by have := sum_drop_take f r 0 b; simp at this ⊢; omega
  | x :: r, a + 1, b => by have := sum_drop_take f r a b; simp at this ⊢; omega
theorem flat_len (L : List Lv) (a b : Nat) : (((L.drop a).take b).flatMap Lv.late).length ≤ (L.map (fun v => v.late.length)).sum := by
  have := sum_drop_take (fun v : Lv => v.late.length) L a b
  rw [List.length_flatMap]; exact this
theorem fin_eq (s q : PS) (V : List Int) (lv : Lv) (kn : Nat) (F : List Nat) (hq : q = { s with vals := V }) : ({ q with trail := q.trail.take lv.start, head := lv.head, late := s.late ++ F, lvs := q.lvs.take kn } : PS) = { s with vals := V, trail := s.trail.take lv.start, head := lv.head, late := s.late ++ F, lvs := s.lvs.take kn } := by
  subst hq; rfl
theorem flat_snoc (L : List Lv) (k : Nat) (p : Lv) (hp : L[k]? = some p) : (L.take (k + 1)).flatMap Lv.late = (L.take k).flatMap Lv.late ++ p.late := by
  obtain ⟨hk, rfl⟩ := List.getElem?_eq_some_iff.1 hp
  rw [List.take_succ_eq_append_getElem hk, List.flatMap_append]
  simp

def BackP (ρ : Nat → Rl) (w : World) (B : Nat) (t : PS) (w' : World) : Prop := ∃ ρ' H', Rep ρ' w' B H' t ∧ Ev ρ w ρ' w'

set_option maxHeartbeats 4000000 in
set_option maxRecDepth 100000 in
theorem back_yes (h : Rep ρ w B H s) (hI : Inv s) (k0 : Int) (kn : Nat) (hk0 : k0.toNat = kn) (lv : Lv) (hk : s.lvs[kn]? = some lv) :
    Calls Try.prog 36 #[.pointer (some ⟨B, 0, none⟩), .int .i64 k0] w fun e w' => e = .returned (.tuple #[]) ∧ BackP ρ w B (s.back kn lv) w' := by
  have hkl : kn < s.lvs.length := (List.getElem?_eq_some_iff.1 hk).1
  have hmem : lv ∈ s.lvs := List.mem_of_getElem? hk
  have hst := hI.tr.sl lv hmem
  have hll := lvs_len hI.tr
  have htl := trail_len hI.tr
  have hV := hI.sz.vars
  have hcls := hI.sz.cls
  obtain ⟨gl, lcap, u, elv, hgl, hu, q0, q1, q2, qf, hown, hglB, _, hgllt, hlc, hlcm⟩ := h.lvLast hk
  obtain ⟨ua, ucap, eu, _⟩ := own_form hown
  subst eu
  obtain ⟨tg, tcap, etv, htg, htn, htm, htlt, htB, htc, htf⟩ := h.row (r := (8, 0)) rfl (by decide) (by simp only; omega)
  simp only at etv htn htc
  have c8 := h.c8
  have c10 := h.c10
  rw [etv] at c8
  rw [elv] at c10
  have G := hide (levels_at h)
  have HH := hide h
  have HLt := h.lt
  have ETV := hide etv
  have ELV := hide elv
  have HK := hide hk
  have HI := hide hI
  unfold maxLen at hlcm htm
  have HTN : Hid (s.trail.length = s.trail.length) := rfl
  have HLN : Hid (s.lvs.length = s.lvs.length) := rfl
  clear h hown etv elv htc htf hgl hk hI htg hu qf
  have hst' : (lv.start : Int) ≤ s.trail.length := by omega
  have hne : ¬ tcap = lv.start := by omega
  have hne2 : ¬ lcap = kn := by omega
  have hkl' : (kn : Int) < s.lvs.length := by omega
  revert HTN HLN
  generalize hTN : s.trail.length = TN at *
  generalize hLN : s.lvs.length = LN at *
  intro HTN HLN
  have hdec : decide (LN ≤ kn) = false := by simp; omega
  have HK0 := hide hk0
  clear hk0
  go_enter Try.func36, Try.ntmps36
  go_upto_region 0 with fail
  go_cut [1] from 9 to 10 (fun v wx => v = .int .i64 kn ∧ wx = w)
  case first =>
    go_wp2_with fail
    all_goals
      go_meet
      case rel => exact ⟨by (have := HK0.out; congr 1; omega), rfl⟩
  case rest =>
  obtain ⟨rfl, hwc⟩ := hcut
  obtain rfl : w = wc := hwc.symm
  clear HK0 hwc
  go_wp2_with (go_at_call 38; refine (unhide G).mono ?_; rintro e w0 ⟨rfl, hw0⟩; subst w0)
  have hbx : w.heap.size ≠ B := by omega
  refine forget (P := fun W => Code.wp Try.prog _ _ _ W) (fun W => Rep (rs ρ w.heap.size oth) W B H s ∧ Ev ρ w (rs ρ w.heap.size oth) W ∧ W.heap[w.heap.size]? = some (.cells #[.int .i64 lv.start, .int .i64 lv.head, .slice ua lv.late.length ucap] 95 (0, 0)) ∧ w.heap.size < W.heap.size) ⟨(HH.out.role (fun b hb => rs_other _ _ (by omega))).alloc _, Ev.fresh _ (below_alloc w _) (Nat.le_refl _), heap_alloc_new _ _, by simp⟩ ?_
  rintro W0 ⟨hR0, hE0, hb0, hlt0⟩
  have HE0 := hide hE0
  have HRO : Hid (rs ρ w.heap.size oth w.heap.size = oth) := rs_same _ _ _
  clear hE0 c8 c10 q0 q1 q2 HH G
  generalize rs ρ w.heap.size oth = ρ0 at *
  generalize w.heap.size = bx at *
  have b0 := cellB hb0 (i := 0) rfl
  have c8 := hR0.c8
  rw [ETV.out] at c8
  have HR0 := hide hR0
  have HB0 := hide hb0
  clear hR0 hb0
  go_quiet (fail)
  go_wp2
  clear b0 c8
  go_loopw [30] (fun j wr => ∃ k : Nat, k ≤ TN - lv.start ∧ j = .int .i64 k ∧ Hid (Rep ρ0 wr B H (s.unvals ((s.trail.drop lv.start).take k))) ∧ Hid (Ev ρ0 W0 ρ0 wr)) (fun j _ => TN - lv.start - (intOf j).toNat)
  case atStart => exact ⟨0, Nat.zero_le _, rfl, HR0.out.drewN _, Ev.drewN _ _ _⟩
  case round =>
    obtain ⟨k, hk, rfl, HRk, HEk⟩ := hrel
    have hlen1 := unvals_len ((s.trail.drop lv.start).take k) s
    have hs1 := unvals_eq ((s.trail.drop lv.start).take k) s
    by_cases hlt : k < TN - lv.start
    · have hkT : k < (s.trail.drop lv.start).length := by rw [List.length_drop, hTN]; exact hlt
      have HNX := hide (unval_snoc s (s.trail.drop lv.start) k hkT)
      have hxe : s.trail[lv.start + k]? = some (s.trail.drop lv.start)[k] := by
        rw [← List.getElem?_eq_getElem hkT, List.getElem?_drop]
      have hl := HI.out.tr.ok _ (List.mem_of_getElem? hxe)
      have hv1 : (s.unvals ((s.trail.drop lv.start).take k)).vars = s.vars := by rw [hs1]
      have ht1 : (s.unvals ((s.trail.drop lv.start).take k)).trail = s.trail := by rw [hs1]
      have hsv := HI.out.sz.vals
      rw [← hlen1, ← hv1] at hsv
      rw [← hv1] at hl
      have hV1 : (s.unvals ((s.trail.drop lv.start).take k)).vars ≤ 1048576 := by rw [hv1]; exact hV
      have dx := HRk.out.hold.cell (r := (8, 0)) (g := tg) rfl (by show H.tv.ownBlock = _; rw [ETV.out]; rfl) (i := lv.start + k) (u := .int .i64 (s.trail.drop lv.start)[k]) (by show (intC (s.unvals ((s.trail.drop lv.start).take k)).trail)[lv.start + k]? = _; rw [ht1]; exact intC_get hxe)
      clear hxe hs1 hlen1 ht1 hv1
      generalize (s.trail.drop lv.start)[k] = l at *
      generalize s.unvals ((s.trail.drop lv.start).take k) = s1 at *
      have hl2 := hl.neg
      have hi := ix_int hl
      have hltx := ix_lt hl
      have hi2 := ix_int hl2
      have hltx2 := ix_lt hl2
      obtain ⟨g, cap, e, hg, hgn, hm, hs, hB, hc, hf⟩ := HRk.out.row (r := (4, 0)) rfl (by decide) (by simp only; omega)
      simp only at e hgn hc
      have c1 := HRk.out.c1
      have c5 := HRk.out.c5
      rw [e] at c5
      have d1 := hc (ix s1.vars l) _ (valC_get (by omega))
      have d2 := hc (ix s1.vars (-l)) _ (valC_get (by omega))
      have f1 := hf (ix s1.vars l)
      have f2 := hf (ix s1.vars (-l))
      have hnx : ix s1.vars l ≠ ix s1.vars (-l) := by unfold Lt at hl; omega
      have hki : (k : Int) < ((TN - lv.start : Nat) : Int) := by omega
      unfold Lt at hl
      have hb0 : (0 : Int) ≤ s1.vars + l := by omega
      have hb1 : (s1.vars : Int) + l < s1.vals.length := by omega
      have hb2 : (0 : Int) ≤ s1.vars + -l := by omega
      have hb3 : (s1.vars : Int) + -l < s1.vals.length := by omega
      have hix : ((s1.vars : Int) + l).toNat = ix s1.vars l := rfl
      have hix2 : ((s1.vars : Int) + -l).toNat = ix s1.vars (-l) := rfl
      have HG := hide hg
      have HR : Hid (ρ0 g ≠ oth) := HRk.out.roleOf (r := (4, 0)) rfl hg (by decide)
      have hwr : IntKind.i64.wrap (-l) = -l := wrap_neg (by omega) (by omega)
      have HU : Hid (Rep ρ0 ((wr.drew.setCell ⟨g, ix s1.vars l, none⟩ (.int .i8 0)).setCell ⟨g, ix s1.vars (-l), none⟩ (.int .i8 0)) B H (s1.unval l)) := (HRk.out.drew.setVal hg _ 0).setVal hg _ 0
      unfold maxLen at hm
      clear hsv hc hf hg e hi hi2
      generalize s1.vals.length = N at *
      generalize hk1 : ix s1.vars l = k1 at *
      generalize hk2 : ix s1.vars (-l) = k2 at *
      clear hk1 hk2
      go_wp2_with fail
      go_region_held3 (fun w' => w'.cell? ⟨B, 5, none⟩ = some (.slice (some ⟨g, 0, none⟩) N cap) ∧ w'.cell? ⟨B, 1, none⟩ = some (.int .i64 s1.vars)) (go_keep) (first | (go_at_call 55; refine (at_cell _ _ s1.vars _ ?_ (by omega) (by omega) (by omega)).mono ?_; (simp [*]); rintro e w' ⟨rfl, rfl⟩))
      refine forget (P := fun W => Exit.inBlock _ _ Exit.normal _ W) (fun W => Hid (Rep ρ0 W B H (s1.unval l)) ∧ Hid (Ev ρ0 W0 ρ0 W)) ⟨HU, HEk.out.trans (((Ev.drew _ _).trans (Ev.set HR.out _ _)).trans (Ev.set HR.out _ _))⟩ ?_
      rintro W2 ⟨H2, E2⟩
      rw [HNX.out] at H2
      clear d1 d2 f1 f2 c1 c5 dx
      go_wp2
      go_roundw
      case rel => exact ⟨k + 1, by omega, by go_num, H2, E2⟩
      case measure => simp [intOf]; omega
    · have ekT : (s.trail.drop lv.start).take k = s.trail.drop lv.start := List.take_of_length_le (by rw [List.length_drop, hTN]; omega)
      rw [ekT] at HRk hlen1 hs1
      have ht1 : (s.unvals (s.trail.drop lv.start)).trail = s.trail := by rw [hs1]
      have hl1 : (s.unvals (s.trail.drop lv.start)).lvs = s.lvs := by rw [hs1]
      have ha1 : (s.unvals (s.trail.drop lv.start)).late = s.late := by rw [hs1]
      have HBK := hide (back_eq s kn lv)
      have HS1 := hide hs1
      clear hs1 hlen1 ekT
      generalize s.unvals (s.trail.drop lv.start) = s1 at *
      have hbk : wr.heap[bx]? = some (.cells #[.int .i64 lv.start, .int .i64 lv.head, .slice ua lv.late.length ucap] 95 (0, 0)) := (HEk.out.keep bx hlt0 HRO.out).trans HB0.out
      have b0 := cellB hbk (i := 0) rfl
      have b1 := cellB hbk (i := 1) rfl
      have c8 := HRk.out.c8
      have c9 := HRk.out.c9
      have f8 := HRk.out.fz 8
      have f9 := HRk.out.fz 9
      rw [ETV.out] at c8
      obtain ⟨TR, TE⟩ := HRk.out.drew.trCut (n := lv.start) (cap := tcap) (g := tg) (by rw [ETV.out, ht1, hTN]) (by rw [ht1, hTN]; omega)
      replace TR := hide TR
      replace TE := hide TE
      have hic : (lv.start : Int) ≤ tcap := by omega
      clear hbk
      go_upto_region 8 with fail
      go_cut [] from 52 to 61 (fun wx => ∃ ρ2 H2, Hid (Rep ρ2 wx B H2 { s1 with trail := s1.trail.take lv.start }) ∧ Hid (Ev ρ0 W0 ρ2 wx) ∧ H2.lv = .slice (some ⟨gl, 0, none⟩) LN lcap)
      case first =>
        go_region_law (fail)
        all_goals
          go_wp2_with fail
          go_meet
          case rel => exact ⟨_, _, TR.out, HEk.out.trans ((Ev.drew _ _).trans TE.out), ELV.out⟩
      case rest =>
        obtain ⟨ρ2, H2, HR2, HE2, elv2⟩ := hcut
        clear b0 b1 c8 c9 f8 f9 TR TE HRk
        have hbk : wc.heap[bx]? = some (.cells #[.int .i64 lv.start, .int .i64 lv.head, .slice ua lv.late.length ucap] 95 (0, 0)) := (HE2.out.keep bx hlt0 HRO.out).trans HB0.out
        have b1 := cellB hbk (i := 1) rfl
        have c9 := HR2.out.c9
        have f9 := HR2.out.fz 9
        have c10 := HR2.out.c10
        rw [elv2] at c10
        have HR3 := hide (HR2.out.setHead lv.head)
        have HE3 : Hid (Ev ρ0 W0 ρ2 (wc.setCell ⟨B, 9, none⟩ (.int .i64 lv.head))) := HE2.out.trans (Ev.set HR2.out.roleB _ _)
        clear hbk
        obtain ⟨i0, hi0, hz0, hz1, hz2⟩ := info_parts Try.info80
        have hsum := HI.out.sz.sum
        have HSUM : Hid (∀ k, s.late.length + (((s.lvs.drop kn).take k).flatMap Lv.late).length ≤ 1048576) := by
          intro k
          have := flat_len s.lvs kn k
          omega
        clear hsum
        go_wp2_with fail
        go_loopw [74] (fun j wr2 => ∃ (k : Nat) (ρ3 : Nat → Rl) (av : Value), k ≤ LN - kn ∧ j = .int .i64 k ∧ Hid (Rep ρ3 wr2 B { H2 with av := av } { s1 with trail := s1.trail.take lv.start, head := lv.head, late := s.late ++ ((s.lvs.drop kn).take k).flatMap Lv.late }) ∧ Hid (Ev ρ0 W0 ρ3 wr2)) (fun j _ => LN - kn - (intOf j).toNat)
        case atStart => exact ⟨0, ρ2, H2.av, Nat.zero_le _, rfl, by (unfold Hid; simp only [List.take_zero, List.flatMap_nil, List.append_nil, ← ha1]; exact HR3.out), HE3⟩
        case round =>
          clear c9 f9 c10 b1
          obtain ⟨k, ρ3, av, hk3, rfl, HR4, HE4⟩ := hrel
          by_cases hlt3 : k < LN - kn
          · have hki : (k : Int) < ((LN - kn : Nat) : Int) := by omega
            have hkl3 : kn + k < s.lvs.length := by omega
            obtain ⟨p, hp⟩ : ∃ p, s.lvs[kn + k]? = some p := ⟨_, List.getElem?_eq_getElem hkl3⟩
            have HFS : Hid (((s.lvs.drop kn).take (k + 1)).flatMap Lv.late = ((s.lvs.drop kn).take k).flatMap Lv.late ++ p.late) := flat_snoc _ _ _ (by rw [List.getElem?_drop]; exact hp)
            have hs2 := HSUM.out (k + 1)
            rw [HFS.out, List.length_append, ← Nat.add_assoc, ← List.length_append] at hs2
            have HAS : Hid (s.late ++ ((s.lvs.drop kn).take (k + 1)).flatMap Lv.late = (s.late ++ ((s.lvs.drop kn).take k).flatMap Lv.late) ++ p.late) := by unfold Hid; rw [HFS.out, List.append_assoc]
            clear HFS
            generalize s.late ++ ((s.lvs.drop kn).take k).flatMap Lv.late = LT at *
            obtain ⟨gl', lcap', u', elv', hgl', hu', q0, q1, q2, qf, hown', hglB', _, hgllt', hlc', hlcm'⟩ := HR4.out.lvLast (k := kn + k) (p := p) (by show s1.lvs[kn + k]? = _; rw [hl1]; exact hp)
            simp only at elv'
            rw [elv2] at elv'
            simp at elv'
            obtain ⟨e1, eN, e2⟩ := elv'
            subst e1
            clear e2 eN hlc' hlcm'
            rw [Nat.add_mul] at q0 q1 q2
            obtain ⟨ua2, uc2, eu2, _⟩ := own_form hown'
            subst eu2
            obtain ⟨aa, ca, ea, _, hca, _⟩ := own_form (HR4.out.hold.own (11, 0) _ rfl)
            simp only at ea hown'
            subst ea
            have c11 := HR4.out.c11
            simp only at c11
            have OWN : Hid (((wr.alloc (.cells #[.int .i64 p.start, .int .i64 p.head, .slice ua2 p.late.length uc2] 95)).drew).ownsRow 0 80 1 (.slice aa LT.length ca) LT.length (ptrsC H2.cb LT)) := (HR4.out.hold.own (11, 0) _ rfl).alloc _
            have SRC := hide (own_src (hown'.alloc (.cells #[.int .i64 p.start, .int .i64 p.head, .slice ua2 p.late.length uc2] 95)))
            have ONE : Hid (∀ u ∈ ptrsC H2.cb p.late, u.oneCell' = true) := by intro u hu; simp only [ptrsC, List.mem_map] at hu; obtain ⟨i, _, rfl⟩ := hu; rfl
            have LM := hide (HR4.out.lateMore (o := .cells #[.int .i64 p.start, .int .i64 p.head, .slice ua2 p.late.length uc2] 95) (k := kn + k) (p := p) (by show s1.lvs[kn + k]? = _; rw [hl1]; exact hp) rfl)
            simp only at LM
            have hwB : B < wr.heap.size := HR4.out.lt
            have hwg : gl < wr.heap.size := hgllt'
            have hB1 : B ≠ wr.heap.size := by omega
            clear hown' hp hgl' hu' qf hkl3
            generalize ptrsC H2.cb p.late = news at *
            generalize hxs : ptrsC H2.cb LT = xs at *
            clear hxs
            have HL1 := hide hl1
            have HA1 := hide ha1
            have HEL := hide elv2
            have HTN' := hide hTN
            have HLN' := hide hLN
            clear hl1 ha1 ht1 elv2 hTN hLN
            have HLT3 := hide hlt3
            have hk9 : k ≤ 1048576 := Nat.le_trans (Nat.le_of_lt hlt3) (Nat.le_trans (Nat.sub_le _ _) (Nat.le_trans hll (Nat.le_trans htl hV)))
            have HWK : Hid (wrap64 ((k : Int) + 1) = ((k + 1 : Nat) : Int)) := wrap_succ hk9
            go_wp2_with fail
            go_region_law (refine step_append_both rfl (.tmp 82) (.tmp 84) 64 rfl 0 80 i0 (.pointer none) 1 8 Try.underlying64 hi0 hz0 hz1 hz2 rfl (by decide) _ LT.length xs (by simp [Act.eval, Act.put]) OWN.out ua2 p.late.length uc2 news (by simp [Act.eval, Act.put]) SRC.out ONE.out (by unfold maxLen; omega) (by omega) (Nat.zero_le _) ?_; intro a' cap' w' ho hg hat; obtain ⟨⟨c11', f11'⟩, ρ5, HR5, HE5⟩ := LM.out a' cap' w' ho ⟨hg.os, hg.tape, hg.output, hg.size, hg.block⟩ hat; clear ho hg hat)
            all_goals
              rw [← HAS.out] at HR5
              refine forget (P := fun W => Exit.inBlock _ _ Exit.normal _ W) (fun W => ∃ (ρ5 : Nat → Rl) (av5 : Value), Hid (Rep ρ5 W B { H2 with av := av5 } { s1 with trail := s1.trail.take lv.start, head := lv.head, late := s.late ++ ((s.lvs.drop kn).take (k + 1)).flatMap Lv.late }) ∧ Hid (Ev ρ0 W0 ρ5 W)) ⟨ρ5, _, HR5, HE4.out.trans HE5.out⟩ ?_
              clear HR5 HE5 c11' f11' OWN SRC ONE LM q0 q1 q2 c11 hs2 hwB hwg hB1 hi0 hz0 hz1 hz2 hlcm htm hne hne2 htB hbx htlt HLt hgllt hlt hk
              rintro W5 ⟨ρ5, av5, HR5, HE5⟩
              go_wp2_with fail
              go_roundw
              case rel => exact ⟨k + 1, ρ5, av5, HLT3.out, by first | go_num | (rw [HWK.out]), HR5, HE5⟩
              case measure => (have h31 := HLT3.out; simp [intOf]; first | exact meas_lt h31 | (rw [HWK.out]; exact meas_lt h31))
          · have ekl : (s.lvs.drop kn).take k = s.lvs.drop kn := List.take_of_length_le (by rw [List.length_drop, hLN]; omega)
            rw [ekl] at HR4
            have hl4 : ({ s1 with trail := s1.trail.take lv.start, head := lv.head, late := s.late ++ (s.lvs.drop kn).flatMap Lv.late } : PS).lvs.length = LN := by show s1.lvs.length = LN; rw [hl1, hLN]
            have own9 := HR4.out.drew.hold.own (9, 0) _ rfl
            simp only at own9
            rw [elv2, hl1, hLN] at own9
            have DL := hide (delete48 wr.drew gl LN kn lcap _ own9 hkl hlc (by unfold maxLen; omega))
            have FN := hide (fun (w' : World) (hD : DelP wr.drew 0 95 3 gl kn lcap (lvsC s.lvs H2.lr) w') => HR4.out.drew.lvDel (n := 0) (g := gl) (m := kn) (cap := lcap) (by rw [hl4]; exact elv2) (by rw [hl4]; omega) (w' := w') (by simp only; rw [hl1]; exact hD))
            have HFE := hide (fin_eq s s1 s1.vals lv kn ((s.lvs.drop kn).flatMap Lv.late) HS1.out)
            have c10 := HR4.out.c10
            simp only at c10
            rw [elv2] at c10
            have HL1 := hide hl1
            have HEL := hide elv2
            clear own9 hl1 ha1 ht1 elv2 hTN hLN hl4
            go_wp2_with fail
            go_region_with (go_at_call 56; refine Calls.mono (unhide DL) ?_; rintro e w2 ⟨rfl, hD⟩; obtain ⟨⟨k10, kf10⟩, ρ6, H6, hR6, hE6⟩ := FN.out w2 hD)
            all_goals
              go_end0
              rw [HBK.out, ← HFE.out]
              exact ⟨rfl, ρ6, H6, hR6, HE0.out.trans (HE4.out.trans ((Ev.drew _ _).trans hE6))⟩
end
end Go.Proofs.Ytlmbgaconjcaiab

namespace Go.Proofs.Ytlmbgaconjcaiab
open Go.RowKit

section
variable {ρ : Nat → Rl} {w : World} {B : Nat} {H : Hd} {s : PS}

set_option maxRecDepth 100000 in
set_option maxHeartbeats 800000 in
theorem back_no_d {u : FrameMode} (h : Rep ρ w B H s) (k : Int) (hk : s.lvs.length ≤ k.toNat) :
    CallsD Try.prog 36 #[.pointer (some ⟨B, 0, none⟩), .int .i64 k] u w fun e u' w' => u' = u ∧ (e = .returned (.tuple #[]) ∧ w' = w) := by
  have G := hide (levels_at h)
  have hm := max_zero k
  have hk' : (s.lvs.length : Int) ≤ (k.toNat : Int) := by omega
  clear h
  generalize s.lvs.length = N at *
  generalize k.toNat = K at *
  go_enter_d Try.func36, Try.ntmps36
  go_wp2_with (go_at_call 38; refine (unhide G).mono ?_; rintro e w0 ⟨rfl, hw0⟩; subst w0)
  all_goals
    refine bodyPost_ret (results_none rfl _ _ _) rfl ?_
    exact ⟨rfl, rfl⟩

set_option maxHeartbeats 4000000 in
set_option maxRecDepth 100000 in
theorem back_yes_d {u : FrameMode} (h : Rep ρ w B H s) (hI : Inv s) (k0 : Int) (kn : Nat) (hk0 : k0.toNat = kn) (lv : Lv) (hk : s.lvs[kn]? = some lv) :
    CallsD Try.prog 36 #[.pointer (some ⟨B, 0, none⟩), .int .i64 k0] u w fun e u' w' => u' = u ∧ (e = .returned (.tuple #[]) ∧ BackP ρ w B (s.back kn lv) w') := by
  have hkl : kn < s.lvs.length := (List.getElem?_eq_some_iff.1 hk).1
  have hmem : lv ∈ s.lvs := List.mem_of_getElem? hk
  have hst := hI.tr.sl lv hmem
  have hll := lvs_len hI.tr
  have htl := trail_len hI.tr
  have hV := hI.sz.vars
  have hcls := hI.sz.cls
  obtain ⟨gl, lcap, u, elv, hgl, hu, q0, q1, q2, qf, hown, hglB, _, hgllt, hlc, hlcm⟩ := h.lvLast hk
  obtain ⟨ua, ucap, eu, _⟩ := own_form hown
  subst eu
  obtain ⟨tg, tcap, etv, htg, htn, htm, htlt, htB, htc, htf⟩ := h.row (r := (8, 0)) rfl (by decide) (by simp only; omega)
  simp only at etv htn htc
  have c8 := h.c8
  have c10 := h.c10
  rw [etv] at c8
  rw [elv] at c10
  have G := hide (levels_at h)
  have HH := hide h
  have HLt := h.lt
  have ETV := hide etv
  have ELV := hide elv
  have HK := hide hk
  have HI := hide hI
  unfold maxLen at hlcm htm
  have HTN : Hid (s.trail.length = s.trail.length) := rfl
  have HLN : Hid (s.lvs.length = s.lvs.length) := rfl
  clear h hown etv elv htc htf hgl hk hI htg hu qf
  have hst' : (lv.start : Int) ≤ s.trail.length := by omega
  have hne : ¬ tcap = lv.start := by omega
  have hne2 : ¬ lcap = kn := by omega
  have hkl' : (kn : Int) < s.lvs.length := by omega
  revert HTN HLN
  generalize hTN : s.trail.length = TN at *
  generalize hLN : s.lvs.length = LN at *
  intro HTN HLN
  have hdec : decide (LN ≤ kn) = false := by simp; omega
  have HK0 := hide hk0
  clear hk0
  go_enter_d Try.func36, Try.ntmps36
  go_upto_region 0 with fail
  go_cut [1] from 9 to 10 (fun v wx => v = .int .i64 kn ∧ wx = w)
  case first =>
    go_wp2_with fail
    all_goals
      go_meet
      case rel => exact ⟨by (have := HK0.out; congr 1; omega), rfl⟩
  case rest =>
  obtain ⟨rfl, hwc⟩ := hcut
  obtain rfl : w = wc := hwc.symm
  clear HK0 hwc
  go_wp2_with (go_at_call 38; refine (unhide G).mono ?_; rintro e w0 ⟨rfl, hw0⟩; subst w0)
  have hbx : w.heap.size ≠ B := by omega
  refine forget (P := fun W => Code.wp Try.prog _ _ _ W) (fun W => Rep (rs ρ w.heap.size oth) W B H s ∧ Ev ρ w (rs ρ w.heap.size oth) W ∧ W.heap[w.heap.size]? = some (.cells #[.int .i64 lv.start, .int .i64 lv.head, .slice ua lv.late.length ucap] 95 (0, 0)) ∧ w.heap.size < W.heap.size) ⟨(HH.out.role (fun b hb => rs_other _ _ (by omega))).alloc _, Ev.fresh _ (below_alloc w _) (Nat.le_refl _), heap_alloc_new _ _, by simp⟩ ?_
  rintro W0 ⟨hR0, hE0, hb0, hlt0⟩
  have HE0 := hide hE0
  have HRO : Hid (rs ρ w.heap.size oth w.heap.size = oth) := rs_same _ _ _
  clear hE0 c8 c10 q0 q1 q2 HH G
  generalize rs ρ w.heap.size oth = ρ0 at *
  generalize w.heap.size = bx at *
  have b0 := cellB hb0 (i := 0) rfl
  have c8 := hR0.c8
  rw [ETV.out] at c8
  have HR0 := hide hR0
  have HB0 := hide hb0
  clear hR0 hb0
  go_quiet (fail)
  go_wp2
  clear b0 c8
  go_loopw [30] (fun j wr => ∃ k : Nat, k ≤ TN - lv.start ∧ j = .int .i64 k ∧ Hid (Rep ρ0 wr B H (s.unvals ((s.trail.drop lv.start).take k))) ∧ Hid (Ev ρ0 W0 ρ0 wr)) (fun j _ => TN - lv.start - (intOf j).toNat)
  case atStart => exact ⟨0, Nat.zero_le _, rfl, HR0.out.drewN _, Ev.drewN _ _ _⟩
  case round =>
    obtain ⟨k, hk, rfl, HRk, HEk⟩ := hrel
    have hlen1 := unvals_len ((s.trail.drop lv.start).take k) s
    have hs1 := unvals_eq ((s.trail.drop lv.start).take k) s
    by_cases hlt : k < TN - lv.start
    · have hkT : k < (s.trail.drop lv.start).length := by rw [List.length_drop, hTN]; exact hlt
      have HNX := hide (unval_snoc s (s.trail.drop lv.start) k hkT)
      have hxe : s.trail[lv.start + k]? = some (s.trail.drop lv.start)[k] := by
        rw [← List.getElem?_eq_getElem hkT, List.getElem?_drop]
      have hl := HI.out.tr.ok _ (List.mem_of_getElem? hxe)
      have hv1 : (s.unvals ((s.trail.drop lv.start).take k)).vars = s.vars := by rw [hs1]
      have ht1 : (s.unvals ((s.trail.drop lv.start).take k)).trail = s.trail := by rw [hs1]
      have hsv := HI.out.sz.vals
      rw [← hlen1, ← hv1] at hsv
      rw [← hv1] at hl
      have hV1 : (s.unvals ((s.trail.drop lv.start).take k)).vars ≤ 1048576 := by rw [hv1]; exact hV
      have dx := HRk.out.hold.cell (r := (8, 0)) (g := tg) rfl (by show H.tv.ownBlock = _; rw [ETV.out]; rfl) (i := lv.start + k) (u := .int .i64 (s.trail.drop lv.start)[k]) (by show (intC (s.unvals ((s.trail.drop lv.start).take k)).trail)[lv.start + k]? = _; rw [ht1]; exact intC_get hxe)
      clear hxe hs1 hlen1 ht1 hv1
      generalize (s.trail.drop lv.start)[k] = l at *
      generalize s.unvals ((s.trail.drop lv.start).take k) = s1 at *
      have hl2 := hl.neg
      have hi := ix_int hl
      have hltx := ix_lt hl
      have hi2 := ix_int hl2
      have hltx2 := ix_lt hl2
      obtain ⟨g, cap, e, hg, hgn, hm, hs, hB, hc, hf⟩ := HRk.out.row (r := (4, 0)) rfl (by decide) (by simp only; omega)
      simp only at e hgn hc
      have c1 := HRk.out.c1
      have c5 := HRk.out.c5
      rw [e] at c5
      have d1 := hc (ix s1.vars l) _ (valC_get (by omega))
      have d2 := hc (ix s1.vars (-l)) _ (valC_get (by omega))
      have f1 := hf (ix s1.vars l)
      have f2 := hf (ix s1.vars (-l))
      have hnx : ix s1.vars l ≠ ix s1.vars (-l) := by unfold Lt at hl; omega
      have hki : (k : Int) < ((TN - lv.start : Nat) : Int) := by omega
      unfold Lt at hl
      have hb0 : (0 : Int) ≤ s1.vars + l := by omega
      have hb1 : (s1.vars : Int) + l < s1.vals.length := by omega
      have hb2 : (0 : Int) ≤ s1.vars + -l := by omega
      have hb3 : (s1.vars : Int) + -l < s1.vals.length := by omega
      have hix : ((s1.vars : Int) + l).toNat = ix s1.vars l := rfl
      have hix2 : ((s1.vars : Int) + -l).toNat = ix s1.vars (-l) := rfl
      have HG := hide hg
      have HR : Hid (ρ0 g ≠ oth) := HRk.out.roleOf (r := (4, 0)) rfl hg (by decide)
      have hwr : IntKind.i64.wrap (-l) = -l := wrap_neg (by omega) (by omega)
      have HU : Hid (Rep ρ0 ((wr.drew.setCell ⟨g, ix s1.vars l, none⟩ (.int .i8 0)).setCell ⟨g, ix s1.vars (-l), none⟩ (.int .i8 0)) B H (s1.unval l)) := (HRk.out.drew.setVal hg _ 0).setVal hg _ 0
      unfold maxLen at hm
      clear hsv hc hf hg e hi hi2
      generalize s1.vals.length = N at *
      generalize hk1 : ix s1.vars l = k1 at *
      generalize hk2 : ix s1.vars (-l) = k2 at *
      clear hk1 hk2
      go_wp2_with fail
      go_region_held3 (fun w' => w'.cell? ⟨B, 5, none⟩ = some (.slice (some ⟨g, 0, none⟩) N cap) ∧ w'.cell? ⟨B, 1, none⟩ = some (.int .i64 s1.vars)) (go_keep) (first | (go_at_call 55; refine (at_cell _ _ s1.vars _ ?_ (by omega) (by omega) (by omega)).mono ?_; (simp [*]); rintro e w' ⟨rfl, rfl⟩))
      refine forget (P := fun W => Exit.inBlock _ _ Exit.normal _ W) (fun W => Hid (Rep ρ0 W B H (s1.unval l)) ∧ Hid (Ev ρ0 W0 ρ0 W)) ⟨HU, HEk.out.trans (((Ev.drew _ _).trans (Ev.set HR.out _ _)).trans (Ev.set HR.out _ _))⟩ ?_
      rintro W2 ⟨H2, E2⟩
      rw [HNX.out] at H2
      clear d1 d2 f1 f2 c1 c5 dx
      go_wp2
      go_roundw
      case rel => exact ⟨k + 1, by omega, by go_num, H2, E2⟩
      case measure => simp [intOf]; omega
    · have ekT : (s.trail.drop lv.start).take k = s.trail.drop lv.start := List.take_of_length_le (by rw [List.length_drop, hTN]; omega)
      rw [ekT] at HRk hlen1 hs1
      have ht1 : (s.unvals (s.trail.drop lv.start)).trail = s.trail := by rw [hs1]
      have hl1 : (s.unvals (s.trail.drop lv.start)).lvs = s.lvs := by rw [hs1]
      have ha1 : (s.unvals (s.trail.drop lv.start)).late = s.late := by rw [hs1]
      have HBK := hide (back_eq s kn lv)
      have HS1 := hide hs1
      clear hs1 hlen1 ekT
      generalize s.unvals (s.trail.drop lv.start) = s1 at *
      have hbk : wr.heap[bx]? = some (.cells #[.int .i64 lv.start, .int .i64 lv.head, .slice ua lv.late.length ucap] 95 (0, 0)) := (HEk.out.keep bx hlt0 HRO.out).trans HB0.out
      have b0 := cellB hbk (i := 0) rfl
      have b1 := cellB hbk (i := 1) rfl
      have c8 := HRk.out.c8
      have c9 := HRk.out.c9
      have f8 := HRk.out.fz 8
      have f9 := HRk.out.fz 9
      rw [ETV.out] at c8
      obtain ⟨TR, TE⟩ := HRk.out.drew.trCut (n := lv.start) (cap := tcap) (g := tg) (by rw [ETV.out, ht1, hTN]) (by rw [ht1, hTN]; omega)
      replace TR := hide TR
      replace TE := hide TE
      have hic : (lv.start : Int) ≤ tcap := by omega
      clear hbk
      go_upto_region 8 with fail
      go_cut [] from 52 to 61 (fun wx => ∃ ρ2 H2, Hid (Rep ρ2 wx B H2 { s1 with trail := s1.trail.take lv.start }) ∧ Hid (Ev ρ0 W0 ρ2 wx) ∧ H2.lv = .slice (some ⟨gl, 0, none⟩) LN lcap)
      case first =>
        go_region_law (fail)
        all_goals
          go_wp2_with fail
          go_meet
          case rel => exact ⟨_, _, TR.out, HEk.out.trans ((Ev.drew _ _).trans TE.out), ELV.out⟩
      case rest =>
        obtain ⟨ρ2, H2, HR2, HE2, elv2⟩ := hcut
        clear b0 b1 c8 c9 f8 f9 TR TE HRk
        have hbk : wc.heap[bx]? = some (.cells #[.int .i64 lv.start, .int .i64 lv.head, .slice ua lv.late.length ucap] 95 (0, 0)) := (HE2.out.keep bx hlt0 HRO.out).trans HB0.out
        have b1 := cellB hbk (i := 1) rfl
        have c9 := HR2.out.c9
        have f9 := HR2.out.fz 9
        have c10 := HR2.out.c10
        rw [elv2] at c10
        have HR3 := hide (HR2.out.setHead lv.head)
        have HE3 : Hid (Ev ρ0 W0 ρ2 (wc.setCell ⟨B, 9, none⟩ (.int .i64 lv.head))) := HE2.out.trans (Ev.set HR2.out.roleB _ _)
        clear hbk
        obtain ⟨i0, hi0, hz0, hz1, hz2⟩ := info_parts Try.info80
        have hsum := HI.out.sz.sum
        have HSUM : Hid (∀ k, s.late.length + (((s.lvs.drop kn).take k).flatMap Lv.late).length ≤ 1048576) := by
          intro k
          have := flat_len s.lvs kn k
          omega
        clear hsum
        go_wp2_with fail
        go_loopw [74] (fun j wr2 => ∃ (k : Nat) (ρ3 : Nat → Rl) (av : Value), k ≤ LN - kn ∧ j = .int .i64 k ∧ Hid (Rep ρ3 wr2 B { H2 with av := av } { s1 with trail := s1.trail.take lv.start, head := lv.head, late := s.late ++ ((s.lvs.drop kn).take k).flatMap Lv.late }) ∧ Hid (Ev ρ0 W0 ρ3 wr2)) (fun j _ => LN - kn - (intOf j).toNat)
        case atStart => exact ⟨0, ρ2, H2.av, Nat.zero_le _, rfl, by (unfold Hid; simp only [List.take_zero, List.flatMap_nil, List.append_nil, ← ha1]; exact HR3.out), HE3⟩
        case round =>
          clear c9 f9 c10 b1
          obtain ⟨k, ρ3, av, hk3, rfl, HR4, HE4⟩ := hrel
          by_cases hlt3 : k < LN - kn
          · have hki : (k : Int) < ((LN - kn : Nat) : Int) := by omega
            have hkl3 : kn + k < s.lvs.length := by omega
            obtain ⟨p, hp⟩ : ∃ p, s.lvs[kn + k]? = some p := ⟨_, List.getElem?_eq_getElem hkl3⟩
            have HFS : Hid (((s.lvs.drop kn).take (k + 1)).flatMap Lv.late = ((s.lvs.drop kn).take k).flatMap Lv.late ++ p.late) := flat_snoc _ _ _ (by rw [List.getElem?_drop]; exact hp)
            have hs2 := HSUM.out (k + 1)
            rw [HFS.out, List.length_append, ← Nat.add_assoc, ← List.length_append] at hs2
            have HAS : Hid (s.late ++ ((s.lvs.drop kn).take (k + 1)).flatMap Lv.late = (s.late ++ ((s.lvs.drop kn).take k).flatMap Lv.late) ++ p.late) := by unfold Hid; rw [HFS.out, List.append_assoc]
            clear HFS
            generalize s.late ++ ((s.lvs.drop kn).take k).flatMap Lv.late = LT at *
            obtain ⟨gl', lcap', u', elv', hgl', hu', q0, q1, q2, qf, hown', hglB', _, hgllt', hlc', hlcm'⟩ := HR4.out.lvLast (k := kn + k) (p := p) (by show s1.lvs[kn + k]? = _; rw [hl1]; exact hp)
            simp only at elv'
            rw [elv2] at elv'
            simp at elv'
            obtain ⟨e1, eN, e2⟩ := elv'
            subst e1
            clear e2 eN hlc' hlcm'
            rw [Nat.add_mul] at q0 q1 q2
            obtain ⟨ua2, uc2, eu2, _⟩ := own_form hown'
            subst eu2
            obtain ⟨aa, ca, ea, _, hca, _⟩ := own_form (HR4.out.hold.own (11, 0) _ rfl)
            simp only at ea hown'
            subst ea
            have c11 := HR4.out.c11
            simp only at c11
            have OWN : Hid (((wr.alloc (.cells #[.int .i64 p.start, .int .i64 p.head, .slice ua2 p.late.length uc2] 95)).drew).ownsRow 0 80 1 (.slice aa LT.length ca) LT.length (ptrsC H2.cb LT)) := (HR4.out.hold.own (11, 0) _ rfl).alloc _
            have SRC := hide (own_src (hown'.alloc (.cells #[.int .i64 p.start, .int .i64 p.head, .slice ua2 p.late.length uc2] 95)))
            have ONE : Hid (∀ u ∈ ptrsC H2.cb p.late, u.oneCell' = true) := by intro u hu; simp only [ptrsC, List.mem_map] at hu; obtain ⟨i, _, rfl⟩ := hu; rfl
            have LM := hide (HR4.out.lateMore (o := .cells #[.int .i64 p.start, .int .i64 p.head, .slice ua2 p.late.length uc2] 95) (k := kn + k) (p := p) (by show s1.lvs[kn + k]? = _; rw [hl1]; exact hp) rfl)
            simp only at LM
            have hwB : B < wr.heap.size := HR4.out.lt
            have hwg : gl < wr.heap.size := hgllt'
            have hB1 : B ≠ wr.heap.size := by omega
            clear hown' hp hgl' hu' qf hkl3
            generalize ptrsC H2.cb p.late = news at *
            generalize hxs : ptrsC H2.cb LT = xs at *
            clear hxs
            have HL1 := hide hl1
            have HA1 := hide ha1
            have HEL := hide elv2
            have HTN' := hide hTN
            have HLN' := hide hLN
            clear hl1 ha1 ht1 elv2 hTN hLN
            have HLT3 := hide hlt3
            have hk9 : k ≤ 1048576 := Nat.le_trans (Nat.le_of_lt hlt3) (Nat.le_trans (Nat.sub_le _ _) (Nat.le_trans hll (Nat.le_trans htl hV)))
            have HWK : Hid (wrap64 ((k : Int) + 1) = ((k + 1 : Nat) : Int)) := wrap_succ hk9
            go_wp2_with fail
            go_region_law (refine step_append_both rfl (.tmp 82) (.tmp 84) 64 rfl 0 80 i0 (.pointer none) 1 8 Try.underlying64 hi0 hz0 hz1 hz2 rfl (by decide) _ LT.length xs (by simp [Act.eval, Act.put]) OWN.out ua2 p.late.length uc2 news (by simp [Act.eval, Act.put]) SRC.out ONE.out (by unfold maxLen; omega) (by omega) (Nat.zero_le _) ?_; intro a' cap' w' ho hg hat; obtain ⟨⟨c11', f11'⟩, ρ5, HR5, HE5⟩ := LM.out a' cap' w' ho ⟨hg.os, hg.tape, hg.output, hg.size, hg.block⟩ hat; clear ho hg hat)
            all_goals
              rw [← HAS.out] at HR5
              refine forget (P := fun W => Exit.inBlock _ _ Exit.normal _ W) (fun W => ∃ (ρ5 : Nat → Rl) (av5 : Value), Hid (Rep ρ5 W B { H2 with av := av5 } { s1 with trail := s1.trail.take lv.start, head := lv.head, late := s.late ++ ((s.lvs.drop kn).take (k + 1)).flatMap Lv.late }) ∧ Hid (Ev ρ0 W0 ρ5 W)) ⟨ρ5, _, HR5, HE4.out.trans HE5.out⟩ ?_
              clear HR5 HE5 c11' f11' OWN SRC ONE LM q0 q1 q2 c11 hs2 hwB hwg hB1 hi0 hz0 hz1 hz2 hlcm htm hne hne2 htB hbx htlt HLt hgllt hlt hk
              rintro W5 ⟨ρ5, av5, HR5, HE5⟩
              go_wp2_with fail
              go_roundw
              case rel => exact ⟨k + 1, ρ5, av5, HLT3.out, by first | go_num | (rw [HWK.out]), HR5, HE5⟩
              case measure => (have h31 := HLT3.out; simp [intOf]; first | exact meas_lt h31 | (rw [HWK.out]; exact meas_lt h31))
          · have ekl : (s.lvs.drop kn).take k = s.lvs.drop kn := List.take_of_length_le (by rw [List.length_drop, hLN]; omega)
            rw [ekl] at HR4
            have hl4 : ({ s1 with trail := s1.trail.take lv.start, head := lv.head, late := s.late ++ (s.lvs.drop kn).flatMap Lv.late } : PS).lvs.length = LN := by show s1.lvs.length = LN; rw [hl1, hLN]
            have own9 := HR4.out.drew.hold.own (9, 0) _ rfl
            simp only at own9
            rw [elv2, hl1, hLN] at own9
            have DL := hide (delete48 wr.drew gl LN kn lcap _ own9 hkl hlc (by unfold maxLen; omega))
            have FN := hide (fun (w' : World) (hD : DelP wr.drew 0 95 3 gl kn lcap (lvsC s.lvs H2.lr) w') => HR4.out.drew.lvDel (n := 0) (g := gl) (m := kn) (cap := lcap) (by rw [hl4]; exact elv2) (by rw [hl4]; omega) (w' := w') (by simp only; rw [hl1]; exact hD))
            have HFE := hide (fin_eq s s1 s1.vals lv kn ((s.lvs.drop kn).flatMap Lv.late) HS1.out)
            have c10 := HR4.out.c10
            simp only at c10
            rw [elv2] at c10
            have HL1 := hide hl1
            have HEL := hide elv2
            clear own9 hl1 ha1 ht1 elv2 hTN hLN hl4
            go_wp2_with fail
            go_region_with (go_at_call 56; refine Calls.mono (unhide DL) ?_; rintro e w2 ⟨rfl, hD⟩; obtain ⟨⟨k10, kf10⟩, ρ6, H6, hR6, hE6⟩ := FN.out w2 hD)
            all_goals
              go_end0
              rw [HBK.out, ← HFE.out]
              exact ⟨rfl, ρ6, H6, hR6, HE0.out.trans (HE4.out.trans ((Ev.drew _ _).trans hE6))⟩
end
end Go.Proofs.Ytlmbgaconjcaiab
