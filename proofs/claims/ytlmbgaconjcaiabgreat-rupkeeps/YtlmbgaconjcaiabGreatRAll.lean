/- Joined: Contracts: a keeper's propagator: what is asked is decided, and what follows is told. Contracts: what follows without any question is let follow. Contracts: whether a clause is at hand by units; what was asked is taken back. Contracts: the greatest variable of a clause; whether steps are a proof. Contracts: a keeper of a formula, for the steps of a proof. Plain and contracts: what Unit tells of a clause. Contracts: Unit where the formula or the clause is not right; Small, short. Plain: what Unit tells is implied; contracts: Small. -/
import Derived.Test.YtlmbgaconjcaiabGreatNa
import Derived.Test.YtlmbgaconjcaiabGreatHc
import Derived.Test.YtlmbgaconjcaiabGreatHa
import Derived.BigQuiet
import Derived.Deep.RegionHeld3
import Derived.Test.YtlmbgaconjcaiabGreatIBll
import Derived.Defers
import Derived.Test.YtlmbgaconjcaiabGreatHd
import Derived.Deep.DeepCutAuto
import Derived.Test.YtlmbgaconjcaiabGreatWalkM
set_option linter.unusedVariables false
set_option linter.unusedSimpArgs false
namespace Go.Proofs.YtlmbgaconjcaiabGreat
open Go.RowKit

/-- A keeper in memory, and its propagator. -/
structure KP (ρ : Nat → Rl) (w : World) (k B : Nat) (s : PS) (x1 x2 x3 x4 : Int) (m1 m2 : Value) : Prop where
  rep : ∃ H, Rep ρ w B H s
  blk : w.heap[k]? = some (.cells #[.pointer (some ⟨B, 0, none⟩), .int .i64 x1, .int .i64 x2, .int .i64 x3, .int .i64 x4, m1, m2] 50 (0, 0))
  ro : ρ k = oth
  inv : Inv s
  cnt : Cnt s
  lits : ∀ c ∈ s.cls, c.lits.length ≤ 4096

/-- The clauses and what is counted stay, and decisions come behind. -/
structure Grw (s t : PS) (ds : List Int) : Prop where
  vars : t.vars = s.vars
  cl : t.cls.map key = s.cls.map key
  dec : t.dec = s.dec ++ ds
theorem Grw.refl (s : PS) : Grw s s [] := ⟨rfl, rfl, by simp⟩
theorem Grw.decide {s t : PS} {ds : List Int} (h : Grw s t ds) (hI : Inv t) (l : Int) : Grw s (t.decide l) (ds ++ [l]) :=
  ⟨h.vars, h.cl, by rw [dec_decide hI, h.dec, List.append_assoc]⟩
theorem Grw.frm {s t u : PS} {ds : List Int} (h : Grw s t ds) (hI : Inv t) (hF : Frm t u) : Grw s u ds := ⟨hF.vars.trans h.vars, hF.cl.trans h.cl, by rw [hF.dec hI, h.dec]⟩

theorem Frm.litsK {s s' : PS} {n : Nat} (h : s'.cls.map key = s.cls.map key) (hl : ∀ c ∈ s.cls, c.lits.length ≤ n) : ∀ c ∈ s'.cls, c.lits.length ≤ n := by
  intro c hc
  have : key c ∈ s.cls.map key := by rw [← h]; exact List.mem_map_of_mem hc
  obtain ⟨c', hc', e⟩ := List.mem_map.1 this
  simp only [key, Prod.mk.injEq] at e
  rw [← e.1]; exact hl c' hc'

section
variable {ρ ρ' : Nat → Rl} {w w' : World} {k B : Nat} {s t : PS} {x1 x2 x3 x4 : Int} {m1 m2 : Value}

theorem KP.ev (h : KP ρ w k B s x1 x2 x3 x4 m1 m2) {H : Hd} (hR : Rep ρ' w' B H t) (hI : Inv t) (hC : Cnt t) (hl : ∀ c ∈ t.cls, c.lits.length ≤ 4096) (hE : Ev ρ w ρ' w') : KP ρ' w' k B t x1 x2 x3 x4 m1 m2 :=
  ⟨⟨H, hR⟩, (hE.keep k (lt_of_block h.blk) h.ro).trans h.blk, (hE.agree k (lt_of_block h.blk)).trans h.ro, hI, hC, hl⟩
theorem KP.below (h : KP ρ w k B s x1 x2 x3 x4 m1 m2) (hb : Below w.heap.size w w') : KP ρ w' k B s x1 x2 x3 x4 m1 m2 := by
  obtain ⟨H, hR⟩ := h.rep
  exact ⟨⟨H, hR.below hb⟩, (hb.block k (lt_of_block h.blk)).trans h.blk, h.ro, h.inv, h.cnt, h.lits⟩

/-- What is told of a clause whose literals are supposed to be false. -/
def Told (t : PS) (c : List Int) (b : Bool) : Prop :=
  (b = true ∧ ((∃ l ∈ c, l ∈ t.trail) ∨ ∃ n, Brk t n)) ∨ (b = false ∧ t.late = [] ∧ t.head = t.trail.length ∧ ∀ l ∈ c, -l ∈ t.trail)

def BreaksP (ρ : Nat → Rl) (w : World) (k B : Nat) (s : PS) (x1 x2 x3 x4 : Int) (m1 m2 : Value) (c : List Int) (b : Bool) (w' : World) : Prop :=
  ∃ ρ' t ds, KP ρ' w' k B t x1 x2 x3 x4 m1 m2 ∧ Ev ρ w ρ' w' ∧ Grw s t ds ∧ (∀ d ∈ ds, -d ∈ c) ∧ Told t c b

set_option maxHeartbeats 4000000 in
set_option maxRecDepth 100000 in
theorem breaks_any (h : KP ρ w k B s x1 x2 x3 x4 m1 m2) (a : Option Addr) (cap : Nat) (c : List Int) {NN : Nat} (hr : RowO ρ NN w a c) (hl : c.length ≤ 10000) (hc : ∀ x ∈ c, Lt s.vars x) :
    Calls Tryz.prog 27 #[.pointer (some ⟨k, 0, none⟩), .slice a c.length cap] w fun e w' => ∃ b, e = .returned (.bool b) ∧ BreaksP ρ w k B s x1 x2 x3 x4 m1 m2 c b w' := by
  have HH := hide h
  have HR := hide hr
  have HC := hide hc
  have hVs := h.inv.sz.vars
  clear h hr hc
  go_enter Tryz.func27, Tryz.ntmps27
  go_wp2_with fail
  go_loopw [9] (fun j9 wr => ∃ (i : Nat) (ρ1 : Nat → Rl) (t : PS) (ds : List Int), j9 = .int .i64 i ∧ i ≤ c.length ∧ Hid (KP ρ1 wr k B t x1 x2 x3 x4 m1 m2) ∧ Hid (Ev ρ w ρ1 wr) ∧ Hid (Grw s t ds) ∧ Hid (∀ d ∈ ds, -d ∈ c) ∧ Hid (∀ l ∈ c.take i, -l ∈ t.trail)) (fun j9 _ => c.length - (intOf j9).toNat)
  case atStart => exact ⟨0, ρ, s, [], rfl, Nat.zero_le _, HH, Ev.refl _ _, Grw.refl _, by simp [Hid], by simp [Hid]⟩
  case round =>
    clear HH
    obtain ⟨i, ρ1, t, ds, rfl, hi, HK, HE, HG, HD, HT⟩ := hrel
    have p0 := cell_of_block HK.out.blk (i := 0) rfl
    by_cases hlt : i < c.length
    · have hii : (i : Int) < c.length := by omega
      obtain ⟨bb, off, rfl, hbb, hcell⟩ := (HR.out.ev HE.out).row i hlt
      have hx := HC.out c[i] (List.getElem_mem hlt)
      rw [← HG.out.vars] at hx
      have VL : Hid (Calls Tryz.prog 43 #[.pointer (some ⟨B, 0, none⟩), .int .i64 c[i]] wr fun e w' => e = .returned (.int .i64 (t.val c[i])) ∧ ∃ n, w' = wr.drewN n) := by
        obtain ⟨H, hR⟩ := HK.out.rep
        have q := propValue_any hR HK.out.inv.shp c[i]
        have e : t.valT c[i] = t.val c[i] := by unfold PS.valT; rw [if_pos (ltB_true.2 hx)]
        rw [e] at q; exact q
      have HTS : Hid (∀ (u : PS), (∃ m, u.trail = t.trail ++ m) → -c[i] ∈ u.trail → ∀ l ∈ c.take (i + 1), -l ∈ u.trail) := by
        intro u ⟨m, hm⟩ hu l hl'
        rw [List.take_succ_eq_append_getElem hlt, List.mem_append] at hl'
        rcases hl' with hl' | hl'
        · rw [hm]; exact List.mem_append_left _ (HT.out l hl')
        · simp at hl'; subst hl'; exact hu
      have hmem := List.getElem_mem hlt
      have hwr : IntKind.i64.wrap (-c[i]) = -c[i] := by unfold Lt at hx; have := HK.out.inv.sz.vars; exact wrap_neg (by omega) (by omega)
      have hv := HK.out.inv.tr.vl c[i] hx
      by_cases h1 : c[i] ∈ t.trail
      · have hv1 : t.val c[i] = 1 := by rw [hv]; exact tval_one.2 h1
        rw [hv1] at VL
        have HFIN : Hid (∀ n, BreaksP ρ w k B s x1 x2 x3 x4 m1 m2 c true (wr.drewN n)) := fun n => ⟨ρ1, t, ds, HK.out.below (bquiet (Below.refl _ _) n), HE.out.trans (Ev.drewN _ _ n), HG.out, HD.out, .inl ⟨rfl, .inl ⟨c[i], hmem, h1⟩⟩⟩
        clear hv hv1 hx h1 hmem HTS hwr
        generalize c[i] = x at *
        go_wp2_with (go_at_call 43; refine (unhide VL).mono ?_; rintro e w1 ⟨rfl, n1, rfl⟩)
        go_ret
        exact ⟨true, rfl, HFIN.out n1⟩
      · by_cases h2 : -c[i] ∈ t.trail
        · have hv1 : t.val c[i] = -1 := by rw [hv]; unfold tval; rw [if_neg h1, if_pos h2]
          rw [hv1] at VL
          have HT2 := hide (HTS.out t ⟨[], by simp⟩ h2)
          clear hv hv1 hx h1 h2 hmem HTS hwr
          generalize c[i] = x at *
          go_wp2_with (go_at_call 43; refine (unhide VL).mono ?_; rintro e w1 ⟨rfl, n1, rfl⟩)
          go_roundw
          case rel => exact ⟨i + 1, ρ1, t, ds, by go_num, by omega, HK.out.below (bquiet (Below.refl _ _) n1), HE.out.trans (Ev.drewN _ _ n1), HG, HD, HT2⟩
          case measure => simp [intOf]; omega
        · have hv0 : t.val c[i] = 0 := by rw [hv]; exact tval_zero.2 ⟨h1, h2⟩
          rw [hv0] at VL
          have hx2 := hx.neg
          have h1' : - -c[i] ∉ t.trail := by rw [Int.neg_neg]; exact h1
          have hvn : t.val (-c[i]) = 0 := by rw [HK.out.inv.tr.vl _ hx2]; exact tval_zero.2 ⟨h2, h1'⟩
          have hhd : t.head ≤ 1048576 := by have q := HK.out.inv.tr.hd; have q2 := trail_len HK.out.inv.tr; have q3 := HK.out.inv.sz.vars; omega
          have DC : Hid (∀ n, Calls Tryz.prog 38 #[.pointer (some ⟨B, 0, none⟩), .int .i64 (-c[i])] (wr.drewN n) fun e w' => e = .returned (.int .i64 0) ∧ ∃ ρ2, Hid (KP ρ2 w' k B (t.decide (-c[i])) x1 x2 x3 x4 m1 m2) ∧ Hid (Ev ρ w ρ2 w')) := fun n => by
            obtain ⟨H, hR⟩ := HK.out.rep
            refine (decide_yes (hR.drewN n) HK.out.inv.shp (HK.out.inv.small (fun c hc => by have := HK.out.lits c hc; omega)) (-c[i]) hx2 hvn hhd).mono ?_
            rintro e w' ⟨rfl, ρ2, H2, hR2, hE2⟩
            exact ⟨rfl, ρ2, (HK.out.below (bquiet (Below.refl _ _) n)).ev hR2 (decide_inv HK.out.inv hx2 h2 h1') (HK.out.cnt.decide _) HK.out.lits hE2, (HE.out.trans (Ev.drewN _ _ n)).trans hE2⟩
          have HG2 := hide (HG.out.decide HK.out.inv (-c[i]))
          have HD2 : Hid (∀ d ∈ ds ++ [-c[i]], -d ∈ c) := by
            intro d hd
            rcases List.mem_append.1 hd with hd | hd
            · exact HD.out d hd
            · simp at hd; subst hd; rw [Int.neg_neg]; exact hmem
          have HT2 : Hid (∀ l ∈ c.take (i + 1), -l ∈ (t.decide (-c[i])).trail) := HTS.out _ ⟨[-c[i]], rfl⟩ (by show -c[i] ∈ t.trail ++ [-c[i]]; simp)
          have q0 : ∀ n, (wr.drewN n).cell? ⟨k, 0, none⟩ = some (.pointer (some ⟨B, 0, none⟩)) := fun n => p0
          clear hv hv0 hx hx2 h1 h2 h1' hvn hmem HTS hhd
          generalize c[i] = x at *
          go_wp2_with (first | (go_at_call 43; refine (unhide VL).mono ?_; rintro e w1 ⟨rfl, n1, rfl⟩) | (go_at_call 38; refine (DC.out n1).mono ?_; rintro e w2 ⟨rfl, ρ2, HK2, HE2⟩))
          go_roundw
          case rel => exact ⟨i + 1, ρ2, _, _, by go_num, by omega, HK2, HE2, HG2, HD2, HT2⟩
          case measure => simp [intOf]; omega
    · obtain rfl : i = c.length := by omega
      have RN : Hid (Calls Tryz.prog 39 #[.pointer (some ⟨B, 0, none⟩)] wr fun e w' => ∃ n, e = .returned (.int .i64 n) ∧ BreaksP ρ w k B s x1 x2 x3 x4 m1 m2 c (decide (0 ≤ n)) w') := by
        obtain ⟨H, hR⟩ := HK.out.rep
        refine (run_any hR HK.out.inv (fun c hc => by have := HK.out.lits c hc; omega)).mono ?_
        rintro e w' ⟨n, rfl, ρ2, H2, t2, hR2, hI2, hE2, hF2, hn2⟩
        refine ⟨n, rfl, ρ2, t2, ds, HK.out.ev hR2 hI2 (HK.out.cnt.frm hF2) (Frm.litsK hF2.cl HK.out.lits) hE2, HE.out.trans hE2, HG.out.frm HK.out.inv hF2, HD.out, ?_⟩
        rcases hn2 with ⟨e1, e2, e3⟩ | hb
        · right
          refine ⟨by subst e1; rfl, e2, e3, fun l hl' => ?_⟩
          obtain ⟨m, hm⟩ := hF2.tr
          rw [hm]
          exact List.mem_append_left _ (HT.out l (by rw [List.take_length]; exact hl'))
        · left
          refine ⟨?_, .inr ⟨n, hb⟩⟩
          obtain ⟨j, _, rfl, _⟩ := hb
          exact decide_eq_true (by omega)
      clear HT HD HG HE HK
      go_wp2_with (go_at_call 39; refine (unhide RN).mono ?_; rintro e w1 ⟨n1, rfl, hP⟩)
      go_ret
      exact ⟨_, rfl, hP⟩
end
end Go.Proofs.YtlmbgaconjcaiabGreat

namespace Go.Proofs.YtlmbgaconjcaiabGreat
open Go.RowKit

section
variable {ρ ρ' : Nat → Rl} {w w' : World} {k B : Nat} {s t : PS} {x1 x2 x3 : Int} {sp : Nat} {m1 m2 : Value}

def SettleP (ρ : Nat → Rl) (w : World) (k B : Nat) (s : PS) (x1 x2 x3 : Int) (sp : Nat) (m1 m2 : Value) (w' : World) : Prop :=
  ∃ ρ' t ds, KP ρ' w' k B t x1 x2 x3 sp m1 m2 ∧ Ev ρ w ρ' w' ∧ Grw s t ds ∧ (sp = 0 → t = s ∧ ds = []) ∧ (sp ≠ 0 → (s.lvs = [] → ds = [(sp : Int)]) ∧ (s.lvs ≠ [] → ds = []) ∧ t.lvs ≠ [])

theorem lvs_ne {s t : PS} {ds : List Int} (h : Grw s t ds) (hn : s.dec ++ ds ≠ []) : t.lvs ≠ [] := by
  intro e
  have : t.dec = [] := by simp [PS.dec, e]
  exact hn (h.dec.symm.trans this)

set_option maxHeartbeats 4000000 in
set_option maxRecDepth 100000 in
theorem settle_k (h : KP ρ w k B s x1 x2 x3 sp m1 m2) (hsp : sp ≤ s.vars) (h0 : sp ≠ 0 → s.lvs = [] → s.trail = []) :
    Calls Tryz.prog 24 #[.pointer (some ⟨k, 0, none⟩)] w fun e w' => e = .returned (.tuple #[]) ∧ SettleP ρ w k B s x1 x2 x3 sp m1 m2 w' := by
  have HK := hide h
  have p0 := cell_of_block h.blk (i := 0) rfl
  have p4 := cell_of_block h.blk (i := 4) rfl
  have hVs := h.inv.sz.vars
  have hlv := lvs_len h.inv.tr
  have htl := trail_len h.inv.tr
  have hln : s.lvs.length ≤ 1048576 := by omega
  have RUN : Hid (∀ (ρ1 : Nat → Rl) (t : PS) (x : World), KP ρ1 x k B t x1 x2 x3 sp m1 m2 → Calls Tryz.prog 39 #[.pointer (some ⟨B, 0, none⟩)] x fun e w' => ∃ n ρ2 u, e = .returned (.int .i64 n) ∧ KP ρ2 w' k B u x1 x2 x3 sp m1 m2 ∧ Ev ρ1 x ρ2 w' ∧ Frm t u) := fun ρ1 t x hK => by
    obtain ⟨H, hR⟩ := hK.rep
    refine (run_any hR hK.inv (fun c hc => by have := hK.lits c hc; omega)).mono ?_
    rintro e w' ⟨n, rfl, ρ2, H2, u, hR2, hI2, hE2, hF2, _⟩
    exact ⟨n, ρ2, u, rfl, hK.ev hR2 hI2 (hK.cnt.frm hF2) (Frm.litsK hF2.cl hK.lits) hE2, hE2, hF2⟩
  have LV : Hid (Calls Tryz.prog 26 #[.pointer (some ⟨B, 0, none⟩)] w fun e w' => e = .returned (.int .i64 s.lvs.length) ∧ w' = w) := by
    obtain ⟨H, hR⟩ := h.rep
    exact propLevels_any hR
  have hdl : s.dec.length = s.lvs.length := by simp [PS.dec]
  by_cases hz : sp = 0
  · subst hz
    have HFIN : Hid (SettleP ρ w k B s x1 x2 x3 0 m1 m2 w) := ⟨ρ, s, [], h, Ev.refl _ _, Grw.refl _, fun _ => ⟨rfl, rfl⟩, fun h => absurd rfl h⟩
    clear h h0 hdl
    go_enter Tryz.func24, Tryz.ntmps24
    go_wp2
    refine bodyPost_ret (results_none rfl _ _ _) rfl ?_
    exact ⟨rfl, HFIN.out⟩
  · have hz' : ((sp : Int) == 0) = false := by simp; omega
    by_cases hl0 : s.lvs = []
    · have hlen0 : s.lvs.length = 0 := by rw [hl0]; rfl
      rw [hlen0] at LV
      have htr := h0 hz hl0
      have hx : Lt s.vars (sp : Int) := by unfold Lt; omega
      have hv : s.val (sp : Int) = 0 := by rw [h.inv.tr.vl _ hx, htr]; rfl
      have hhd : s.head ≤ 1048576 := by have q := h.inv.tr.hd; omega
      have DC : Hid (∀ x, Below w.heap.size w x → Calls Tryz.prog 38 #[.pointer (some ⟨B, 0, none⟩), .int .i64 sp] x fun e w' => e = .returned (.int .i64 0) ∧ ∃ ρ2, Hid (KP ρ2 w' k B (s.decide sp) x1 x2 x3 sp m1 m2) ∧ Hid (Ev ρ w ρ2 w')) := fun x hxb => by
        obtain ⟨H, hR⟩ := h.rep
        refine (decide_yes (hR.below hxb) h.inv.shp (h.inv.small (fun c hc => by have := h.lits c hc; omega)) sp hx hv hhd).mono ?_
        rintro e w' ⟨rfl, ρ2, H2, hR2, hE2⟩
        exact ⟨rfl, ρ2, (h.below hxb).ev hR2 (decide_inv h.inv hx (by rw [htr]; simp) (by rw [htr]; simp)) (h.cnt.decide _) h.lits hE2, (Ev.below hxb).trans hE2⟩
      have HG := hide ((Grw.refl s).decide h.inv (sp : Int))
      have HDI := hide (decide_inv h.inv hx (by rw [htr]; simp) (by rw [htr]; simp))
      have HL0 := hide hl0
      clear h h0 hlen0 htr hx hv hhd hdl hl0
      go_enter Tryz.func24, Tryz.ntmps24
      go_wp2_with (go_at_call 26; refine (unhide LV).mono ?_; rintro e w0 ⟨rfl, hw0⟩; subst w0)
      go_region_held3 (fun q => q.cell? ⟨k, 0, none⟩ = some (.pointer (some ⟨B, 0, none⟩)) ∧ q.cell? ⟨k, 4, none⟩ = some (.int .i64 sp)) (first | exact ⟨by assumption, by assumption⟩ | go_keep) (first
        | (go_at_call 38; refine (DC.out _ (by first | exact Below.refl _ _ | exact (Below.refl _ _).drew)).mono ?_; rintro e w1 ⟨rfl, ρ2, HK2, HE2⟩; have s0 := cell_of_block HK2.out.blk (i := 0) rfl; have s4 := cell_of_block HK2.out.blk (i := 4) rfl))
      all_goals
        have R2 := hide (RUN.out ρ2 (s.decide sp) w1 HK2.out)
        clear p0 p4 DC LV RUN
        go_wp2_with (go_at_call 39; refine (unhide R2).mono ?_; rintro e w3 ⟨n3, ρ3, u3, rfl, hK3, hE3, hF3⟩)
        go_end0
        exact ⟨rfl, ρ3, u3, _, hK3, HE2.out.trans hE3, HG.out.frm HDI.out hF3, fun e => absurd e hz, fun _ => ⟨fun _ => by simp, fun e => absurd HL0.out e, lvs_ne (HG.out.frm HDI.out hF3) (by simp)⟩⟩
    · have hne : (s.lvs.length : Int) ≠ 0 := by
        have : s.lvs.length ≠ 0 := fun e => hl0 (List.length_eq_zero_iff.1 e)
        omega
      have hne' : ((s.lvs.length : Int) == 0) = false := by simpa using hne
      have R2 := hide (RUN.out ρ s w h)
      have HDN : Hid (s.dec ++ [] ≠ []) := by
        intro e
        have e2 : s.dec = [] := by simpa using e
        rw [e2] at hdl; exact hl0 (List.length_eq_zero_iff.1 hdl.symm)
      have HI := hide h.inv
      clear h h0 hdl RUN
      generalize hNN : s.lvs.length = NN at *
      clear hNN
      go_enter Tryz.func24, Tryz.ntmps24
      go_wp2_with (first | (go_at_call 26; refine (unhide LV).mono ?_; rintro e w0 ⟨rfl, hw0⟩; subst w0) | (go_at_call 39; refine (unhide R2).mono ?_; rintro e w3 ⟨n3, ρ3, u3, rfl, hK3, hE3, hF3⟩))
      go_end0
      exact ⟨rfl, ρ3, u3, [], hK3, hE3, (Grw.refl s).frm HI.out hF3, fun e => absurd e hz, fun _ => ⟨fun e => absurd e hl0, fun _ => rfl, lvs_ne ((Grw.refl s).frm HI.out hF3) HDN.out⟩⟩
end
end Go.Proofs.YtlmbgaconjcaiabGreat

namespace Go.Proofs.YtlmbgaconjcaiabGreat
open Go.RowKit

section
variable {ρ ρ' : Nat → Rl} {w w' : World} {k B : Nat} {s t : PS} {x1 x2 x3 : Int} {sp : Nat} {m1 m2 : Value}

def UnitsP (ρ : Nat → Rl) (w : World) (k B : Nat) (s : PS) (x1 x2 x3 : Int) (sp : Nat) (m1 m2 : Value) (c : List Int) (b : Bool) (w' : World) : Prop :=
  ∃ ρ' u ds0, KP ρ' w' k B u x1 x2 x3 sp m1 m2 ∧ Ev ρ w ρ' w' ∧ Grw s u ds0 ∧ (sp = 0 → ds0 = []) ∧ (sp ≠ 0 → (s.lvs = [] → ds0 = [(sp : Int)]) ∧ (s.lvs ≠ [] → ds0 = []) ∧ u.lvs ≠ []) ∧ ∃ t ds, Inv t ∧ Grw s t (ds0 ++ ds) ∧ (∀ d ∈ ds, -d ∈ c) ∧ Told t c b

theorem Grw.trans {s t u : PS} {d e : List Int} (h : Grw s t d) (k : Grw t u e) : Grw s u (d ++ e) := ⟨k.vars.trans h.vars, k.cl.trans h.cl, by rw [k.dec, h.dec, List.append_assoc]⟩
theorem Grw.back {s t : PS} {ds : List Int} {lv : Lv} (h : Grw s t ds) (hI : Inv t) (hk : t.lvs[s.lvs.length]? = some lv) : Grw s (t.back s.lvs.length lv) [] := by
  have hl : s.dec.length = s.lvs.length := by simp [PS.dec]
  refine ⟨by rw [back_eq]; exact h.vars, by rw [back_eq]; exact h.cl, ?_⟩
  rw [back_dec hI hk, h.dec, ← hl, List.take_left, List.append_nil]
theorem Grw.same {s t : PS} {ds : List Int} (h : Grw s t ds) (hl : t.lvs.length ≤ s.lvs.length) : ds = [] := by
  have e := congrArg List.length h.dec
  have e1 : t.dec.length = t.lvs.length := by simp [PS.dec]
  have e2 : s.dec.length = s.lvs.length := by simp [PS.dec]
  rw [List.length_append, e1, e2] at e
  exact List.length_eq_zero_iff.1 (by omega)

set_option maxHeartbeats 4000000 in
set_option maxRecDepth 100000 in
theorem byUnits_any (h : KP ρ w k B s x1 x2 x3 sp m1 m2) (hsp : sp ≤ s.vars) (h0 : sp ≠ 0 → s.lvs = [] → s.trail = []) (a : Option Addr) (cap : Nat) (c : List Int) {NN : Nat} (hr : RowO ρ NN w a c) (hl : c.length ≤ 10000) (hc : ∀ x ∈ c, Lt s.vars x) :
    Calls Tryz.prog 31 #[.pointer (some ⟨k, 0, none⟩), .slice a c.length cap] w fun e w' => ∃ b, e = .returned (.bool b) ∧ UnitsP ρ w k B s x1 x2 x3 sp m1 m2 c b w' := by
  have ST := hide (settle_k h hsp h0)
  have HBR : Hid (∀ w1 ρ1 t1 ds0, KP ρ1 w1 k B t1 x1 x2 x3 sp m1 m2 → Ev ρ w ρ1 w1 → Grw s t1 ds0 → ∀ x, Below w1.heap.size w1 x → Calls Tryz.prog 27 #[.pointer (some ⟨k, 0, none⟩), .slice a c.length cap] x fun e w' => ∃ b, e = .returned (.bool b) ∧ BreaksP ρ1 x k B t1 x1 x2 x3 sp m1 m2 c b w') := fun w1 ρ1 t1 ds0 hK hE hG x hx => breaks_any (hK.below hx) a cap c ((hr.ev hE).ev (Ev.below hx)) hl (by rw [hG.vars]; exact hc)
  have p0 := cell_of_block h.blk (i := 0) rfl
  clear h hr hc
  go_enter_defers Tryz.func31, Tryz.ntmps31
  go_wp2_with fail
  refine Calls.mono (unhide ST) ?_
  rintro e w1 ⟨rfl, ρ1, t1, ds0, hK1, hE1, hG1, hz1, hn1⟩
  have q0 := cell_of_block hK1.blk (i := 0) rfl
  have LV : Hid (∀ x, Below w1.heap.size w1 x → Calls Tryz.prog 26 #[.pointer (some ⟨B, 0, none⟩)] x fun e w' => e = .returned (.int .i64 t1.lvs.length) ∧ w' = x) := fun x hx => by
    obtain ⟨H, hR⟩ := hK1.rep
    exact propLevels_any (hR.below hx)
  have BR := hide (HBR.out w1 ρ1 t1 ds0 hK1 hE1 hG1)
  have HK1 := hide hK1
  have HE1 := hide hE1
  have HG1 := hide hG1
  have HZ1 := hide hz1
  have HN1 := hide hn1
  have hln : t1.lvs.length ≤ 1048576 := by have q := lvs_len hK1.inv.tr; have q2 := trail_len hK1.inv.tr; have q3 := hK1.inv.sz.vars; omega
  clear ST HBR p0 hK1 hE1 hG1 hz1 hn1
  simp only
  generalize hNN : t1.lvs.length = NN at *
  have HNN := hide hNN
  clear hNN
  go_wp2_with fail
  go_region_held3 (fun q => q.cell? ⟨k, 0, none⟩ = some (.pointer (some ⟨B, 0, none⟩))) (first | assumption | go_keep) (first
    | (go_at_call 26; refine (LV.out _ (by first | exact Below.refl _ _ | exact (Below.refl _ _).drew)).mono ?_; rintro e w0 ⟨rfl, hw0⟩; subst w0))
  all_goals
    clear q0 LV
    go_wp2_with fail
    refine Calls.mono (BR.out _ (by first | exact Below.refl _ _ | exact (Below.refl _ _).drew)) ?_
    rintro e w2 ⟨b, rfl, ρ2, t2, ds, hK2, hE2, hG2, hd2, hT2⟩
    have HE12 : Hid (Ev ρ w ρ2 w2) := HE1.out.trans ((Ev.drew _ _).trans hE2)
    have HK2 := hide hK2
    have HG2 := hide hG2
    have HD2 := hide hd2
    have HT2 := hide hT2
    have BKN : Hid (t2.lvs.length ≤ NN → ∀ u : FrameMode, CallsD Tryz.prog 25 #[.pointer (some ⟨B, 0, none⟩), .int .i64 NN] u w2 fun e u' w' => u' = u ∧ (e = .returned (.tuple #[]) ∧ UnitsP ρ w k B s x1 x2 x3 sp m1 m2 c b w')) := by
      intro hle u
      obtain ⟨H, hR⟩ := HK2.out.rep
      refine (back_no_d hR (NN : Int) (by simpa using hle)).mono ?_
      rintro e u' w' ⟨rfl, rfl, rfl⟩
      have hds := HG2.out.same (by rw [HNN.out]; exact hle)
      subst hds
      have hGu := HG1.out.trans HG2.out
      rw [List.append_nil] at hGu
      exact ⟨rfl, rfl, ρ2, t2, ds0, HK2.out, HE12.out, hGu, fun e => (HZ1.out e).2, fun e => ⟨(HN1.out e).1, (HN1.out e).2.1, lvs_ne HG2.out (by
        rw [List.append_nil]
        intro e2
        have q : t1.dec.length = t1.lvs.length := by simp [PS.dec]
        rw [e2] at q
        exact (HN1.out e).2.2 (List.length_eq_zero_iff.1 q.symm))⟩, t2, [], HK2.out.inv, HG1.out.trans HG2.out, HD2.out, HT2.out⟩
    have BKY : Hid (¬ t2.lvs.length ≤ NN → ∀ u : FrameMode, CallsD Tryz.prog 25 #[.pointer (some ⟨B, 0, none⟩), .int .i64 NN] u w2 fun e u' w' => u' = u ∧ (e = .returned (.tuple #[]) ∧ UnitsP ρ w k B s x1 x2 x3 sp m1 m2 c b w')) := by
      intro hle u
      obtain ⟨H, hR⟩ := HK2.out.rep
      have hlt : NN < t2.lvs.length := by omega
      have hlv := List.getElem?_eq_getElem hlt
      refine (back_yes_d hR HK2.out.inv (NN : Int) NN (by simp) _ hlv).mono ?_
      rintro e u' w' ⟨rfl, rfl, ρ3, H3, hR3, hE3⟩
      have hN := HNN.out
      have hK3 : KP ρ3 w' k B (t2.back NN t2.lvs[NN]) x1 x2 x3 sp m1 m2 := HK2.out.ev hR3 (back_inv HK2.out.inv hlv) (HK2.out.cnt.back _ _) (by rw [back_eq]; exact HK2.out.lits) hE3
      have hGb2 : Grw t1 (t2.back NN t2.lvs[NN]) [] := by
        refine ⟨by rw [back_eq]; exact HG2.out.vars, by rw [back_eq]; exact HG2.out.cl, ?_⟩
        have hl : t1.dec.length = NN := by rw [← hN]; simp [PS.dec]
        rw [back_dec HK2.out.inv hlv, HG2.out.dec, ← hl, List.take_left, List.append_nil]
      have hGu := HG1.out.trans hGb2
      rw [List.append_nil] at hGu
      exact ⟨rfl, rfl, ρ3, _, ds0, hK3, HE12.out.trans hE3, hGu, fun e => (HZ1.out e).2, fun e => ⟨(HN1.out e).1, (HN1.out e).2.1, lvs_ne hGb2 (by
        rw [List.append_nil]
        intro e2
        have q : t1.dec.length = t1.lvs.length := by simp [PS.dec]
        rw [e2] at q
        exact (HN1.out e).2.2 (List.length_eq_zero_iff.1 q.symm))⟩, t2, ds, HK2.out.inv, HG1.out.trans HG2.out, HD2.out, HT2.out⟩
    clear BR hK2 hE2 hG2 hd2 hT2
    go_wp2_with fail
    refine leaves_cons (f := 25) (args := #[.pointer (some ⟨B, 0, none⟩), .int .i64 NN]) (by simp) (by simp [go_sem]) ?_
    by_cases hle : t2.lvs.length ≤ NN
    · refine (BKN.out hle .returning).mono ?_
      rintro e u' w3 ⟨rfl, rfl, hP⟩
      exact ⟨_, results_tmp rfl _ _ _, b, rfl, hP⟩
    · refine (BKY.out hle .returning).mono ?_
      rintro e u' w3 ⟨rfl, rfl, hP⟩
      exact ⟨_, results_tmp rfl _ _ _, b, rfl, hP⟩
end
end Go.Proofs.YtlmbgaconjcaiabGreat

namespace Go.Proofs.YtlmbgaconjcaiabGreat
open Go.RowKit

/-- The greatest variable. -/
def gtN (c : List Int) : Nat := c.foldl (fun t x => max t x.natAbs) 0
theorem gtN_snoc (c : List Int) (x : Int) : gtN (c ++ [x]) = max (gtN c) x.natAbs := by unfold gtN; rw [List.foldl_append]; rfl
theorem gtN_le {c : List Int} {V : Nat} : (∀ x ∈ c, x.natAbs ≤ V) → gtN c ≤ V := by
  have key : ∀ (l : List Int) (t : Nat), t ≤ V → (∀ x ∈ l, x.natAbs ≤ V) → l.foldl (fun t x => max t x.natAbs) t ≤ V := by
    intro l
    induction l with
    | nil => intro t ht _; exact ht
    | cons x r ih =>
      intro t ht hl
      exact ih _ (Nat.max_le.2 ⟨ht, hl x (by simp)⟩) (fun y hy => hl y (List.mem_cons_of_mem _ hy))
  exact fun h => key c 0 (Nat.zero_le _) h
theorem le_gtN {c : List Int} : ∀ x ∈ c, x.natAbs ≤ gtN c := by
  have key : ∀ (l : List Int) (t : Nat), t ≤ l.foldl (fun t x => max t x.natAbs) t ∧ ∀ x ∈ l, x.natAbs ≤ l.foldl (fun t x => max t x.natAbs) t := by
    intro l
    induction l with
    | nil => intro t; exact ⟨Nat.le_refl _, fun x hx => by simp at hx⟩
    | cons y r ih =>
      intro t
      obtain ⟨h1, h2⟩ := ih (max t y.natAbs)
      refine ⟨Nat.le_trans (Nat.le_max_left _ _) h1, fun x hx => ?_⟩
      rcases List.mem_cons.1 hx with rfl | hx
      · exact Nat.le_trans (Nat.le_max_right _ _) h1
      · exact h2 x hx
  exact (key c 0).2

theorem max3 (g : Nat) (x : Int) (W : World) : Sem.run Tryz.prog (Builtin.max_ #[3, 3, 3] 3 #[.int .i64 (g : Int), .int .i64 x, .int .i64 (-x)]) W = .ok (.int .i64 ((max g x.natAbs : Nat) : Int)) W := by
  simp [Builtin.max_, Builtin.max2, go_sem]
  split <;> split <;> omega
theorem max2n (g h : Nat) (W : World) : Sem.run Tryz.prog (Builtin.max_ #[3, 3] 3 #[.int .i64 (g : Int), .int .i64 (h : Int)]) W = .ok (.int .i64 ((max g h : Nat) : Int)) W := by
  simp [Builtin.max_, Builtin.max2, go_sem]
  split <;> omega

set_option maxHeartbeats 4000000 in
set_option maxRecDepth 100000 in
theorem greatest_any (a : Option Addr) (cap : Nat) (c : List Int) (w : World) (hr : Row w a c) (hl : c.length ≤ maxLen) (hc : ∀ x ∈ c, -1048576 ≤ x ∧ x ≤ 1048576) :
    Calls Tryz.prog 22 #[.slice a c.length cap] w fun e w' => e = .returned (.int .i64 (gtN c)) ∧ w' = w := by
  unfold maxLen at hl
  go_enter Tryz.func22, Tryz.ntmps22
  go_wp2
  go_loop [3, 8] (fun t3 t8 => ∃ (i g : Nat), t8 = .int .i64 i ∧ i ≤ c.length ∧ t3 = .int .i64 g ∧ g ≤ 1048576 ∧ Hid (g = gtN (c.take i))) (fun _ t8 => c.length - (intOf t8).toNat)
  case atStart => exact ⟨0, 0, rfl, Nat.zero_le _, rfl, by omega, by simp [Hid, gtN]⟩
  case round =>
    obtain ⟨i, g, rfl, hi, rfl, hg, HG⟩ := hrel
    by_cases hlt : i < c.length
    · have hii : (i : Int) < c.length := by omega
      obtain ⟨bb, off, rfl, hbb, hcell⟩ := hr i hlt
      have hx := hc c[i] (List.getElem_mem hlt)
      have HN : Hid (gtN (c.take (i + 1)) = max g c[i].natAbs) := by unfold Hid; rw [List.take_succ_eq_append_getElem hlt, gtN_snoc, ← HG.out]
      have hwr : IntKind.i64.wrap (-c[i]) = -c[i] := wrap_neg (by omega) (by omega)
      clear hr HG hc
      generalize c[i] = x at *
      have hmb : max g x.natAbs ≤ 1048576 := by omega
      have hmax := max3 g x
      generalize max g x.natAbs = g2 at *
      go_wp2
      go_round
      case rel => exact ⟨i + 1, g2, by go_num, by omega, rfl, hmb, HN.out.symm⟩
      case measure => simp [intOf]; omega
    · obtain rfl : i = c.length := by omega
      have HE := HG.out
      rw [List.take_length] at HE
      have HE2 := hide HE
      clear HE HG hr hc
      go_wp2
      go_ret
      exact ⟨ret_int (by rw [HE2.out]), rfl⟩

theorem checkLit_any (a : Option Addr) (cap : Nat) (c : List Int) (w : World) (hr : Row w a c) (hl : c.length ≤ maxLen) :
    Calls Tryz.prog 36 #[.slice a c.length cap] w fun e w' => e = .returned (.int .i64 (if mayB c 1048576 then 0 else 1)) ∧ w' = w := by
  have C := isClause_any a cap c 1048576 w hr hl (by omega) (by omega)
  clear hr
  cases h : mayB c 1048576 with
  | true =>
    rw [h] at C
    replace C := hide C
    clear h
    go_enter Tryz.func36, Tryz.ntmps36
    go_wp2_with (go_at_call 35; refine (unhide C).mono ?_; rintro e w0 ⟨rfl, hw0⟩; subst w0)
    go_ret
    exact ⟨rfl, rfl⟩
  | false =>
    rw [h] at C
    replace C := hide C
    clear h
    go_enter Tryz.func36, Tryz.ntmps36
    go_wp2_with (go_at_call 35; refine (unhide C).mono ?_; rintro e w0 ⟨rfl, hw0⟩; subst w0)
    go_ret
    exact ⟨rfl, rfl⟩

/-- A step: whether a clause goes, and its literals. -/
structure StD where
  d : Bool
  c : List Int

structure StAt (w : World) (b off i : Nat) (x : StD) (ai : Option Addr) (ci : Nat) : Prop where
  c0 : w.cell? ⟨b, off + i * 2, none⟩ = some (.bool x.d)
  c1 : w.cell? ⟨b, off + i * 2 + 1, none⟩ = some (.slice ai x.c.length ci)
  row : Row w ai x.c
  len : x.c.length ≤ maxLen
  nil : ai = none → ci = 0
def Sts (w : World) (a : Option Addr) (l : List StD) : Prop := ∀ i (h : i < l.length), ∃ b off ai ci, a = some ⟨b, off, none⟩ ∧ b < w.heap.size ∧ StAt w b off i l[i] ai ci
theorem Sts.below {w w' : World} {a : Option Addr} {l : List StD} (h : Sts w a l) (hb : Below w.heap.size w w') : Sts w' a l := by
  intro i hi
  obtain ⟨b, off, ai, ci, e, hlt, hA⟩ := h i hi
  exact ⟨b, off, ai, ci, e, Nat.lt_of_lt_of_le hlt hb.size, (hb.cell (p := ⟨b, _, none⟩) hlt).trans hA.c0, (hb.cell (p := ⟨b, _, none⟩) hlt).trans hA.c1, hA.row.below hb, hA.len, hA.nil⟩

def proofB (l : List StD) : Bool := l.all (fun x => mayB x.c 1048576)
def errN (b : Bool) : Int := if b then 0 else 1

set_option maxHeartbeats 4000000 in
set_option maxRecDepth 100000 in
theorem traceCheck_any (a : Option Addr) (cap : Nat) (l : List StD) (w : World) (hr : Sts w a l) (hl : l.length ≤ 262144) :
    Calls Tryz.prog 21 #[.slice a l.length cap] w fun e w' => e = .returned (.int .i64 (errN (proofB l))) ∧ Below w.heap.size w w' := by
  have hl' : ¬ (262144 : Int) < l.length := by omega
  have HR := hide hr
  clear hr
  go_enter Tryz.func21, Tryz.ntmps21
  go_wp2
  go_loopw [10] (fun t10 wr => ∃ i : Nat, t10 = .int .i64 i ∧ i ≤ l.length ∧ Hid ((l.take i).all (fun x => mayB x.c 1048576) = true) ∧ Hid (Below w.heap.size w wr)) (fun t10 _ => l.length - (intOf t10).toNat)
  case atStart => exact ⟨0, rfl, Nat.zero_le _, by simp [Hid], Below.refl _ _⟩
  case round =>
    obtain ⟨i, rfl, hi, HA, HB⟩ := hrel
    by_cases hlt : i < l.length
    · have hii : (i : Int) < l.length := by omega
      obtain ⟨bb, off, ai, ci, rfl, hbb, hS⟩ := (HR.out.below HB.out) i hlt
      have k0 := hS.c0
      have k1 := hS.c1
      have hbn : bb ≠ wr.heap.size := Nat.ne_of_lt hbb
      have HC : Hid (∀ x, Below wr.heap.size wr x → Calls Tryz.prog 36 #[.slice ai l[i].c.length ci] x fun e w' => e = .returned (.int .i64 (if mayB l[i].c 1048576 then 0 else 1)) ∧ w' = x) := fun x hx => checkLit_any ai ci l[i].c x (hS.row.below hx) hS.len
      cases hm : mayB l[i].c 1048576 with
      | true =>
        have HN : Hid ((l.take (i + 1)).all (fun x => mayB x.c 1048576) = true) := by
          unfold Hid; rw [List.take_succ_eq_append_getElem hlt, List.all_append, HA.out]; simp [hm]
        rw [hm] at HC
        simp only [if_true] at HC
        clear hS hm HA
        generalize l[i] = st at *
        obtain ⟨sd, sc⟩ := st
        simp only at k0 k1 HC
        go_wp2_with (go_at_call 36; refine (HC.out _ (below_alloc _ _)).mono ?_; rintro e w0 ⟨rfl, hw0⟩; subst w0)
        go_roundw
        case rel => exact ⟨i + 1, by go_num, by omega, HN, HB.out.alloc HB.out.size _⟩
        case measure => simp [intOf]; omega
      | false =>
        have HN : Hid (proofB l = false) := by
          unfold Hid proofB; rw [List.all_eq_false]; exact ⟨l[i], List.getElem_mem hlt, by simp [hm]⟩
        rw [hm] at HC
        simp only [Bool.false_eq_true, if_false] at HC
        clear hS hm HA
        generalize l[i] = st at *
        obtain ⟨sd, sc⟩ := st
        simp only at k0 k1 HC
        go_wp2_with (go_at_call 36; refine (HC.out _ (below_alloc _ _)).mono ?_; rintro e w0 ⟨rfl, hw0⟩; subst w0)
        go_ret
        exact ⟨ret_int (by rw [HN.out]; rfl), HB.out.alloc HB.out.size _⟩
    · have HN : Hid (proofB l = true) := by
        have q := HA.out
        rw [List.take_of_length_le (by omega)] at q
        exact q
      clear HA
      go_wp2
      go_ret
      exact ⟨ret_int (by rw [HN.out]; rfl), HB.out⟩
end Go.Proofs.YtlmbgaconjcaiabGreat

namespace Go.Proofs.YtlmbgaconjcaiabGreat
open Go.RowKit

/-- The greatest variable of a formula and of steps; the spare one; how many a propagator has. -/
def topN (V : Nat) (l : List StD) : Nat := l.foldl (fun t x => max t (gtN x.c)) V
def spareN (V : Nat) (l : List StD) : Nat := if topN V l < 1048576 then topN V l + 1 else 0
def varsN (V : Nat) (l : List StD) : Nat := if topN V l < 1048576 then topN V l + 1 else topN V l
theorem topN_snoc (V : Nat) (l : List StD) (x : StD) : topN V (l ++ [x]) = max (topN V l) (gtN x.c) := by unfold topN; rw [List.foldl_append]; rfl
theorem topN_le {V : Nat} {l : List StD} (hV : V ≤ 1048576) (h : proofB l = true) : topN V l ≤ 1048576 := by
  have key : ∀ (l : List StD) (t : Nat), t ≤ 1048576 → (∀ x ∈ l, gtN x.c ≤ 1048576) → l.foldl (fun t x => max t (gtN x.c)) t ≤ 1048576 := by
    intro l
    induction l with
    | nil => intro t ht _; exact ht
    | cons x r ih => intro t ht hl; exact ih _ (Nat.max_le.2 ⟨ht, hl x (by simp)⟩) (fun y hy => hl y (List.mem_cons_of_mem _ hy))
  refine key l V hV (fun x hx => gtN_le (fun y hy => ?_))
  unfold proofB at h
  rw [List.all_eq_true] at h
  have hm := h x hx
  unfold mayB at hm
  simp only [Bool.and_eq_true, decide_eq_true_eq, List.all_eq_true] at hm
  have := hm.2 y hy
  unfold litB at this
  simp only [decide_eq_true_eq] at this
  omega
theorem le_topN (V : Nat) (l : List StD) : V ≤ topN V l ∧ ∀ x ∈ l, gtN x.c ≤ topN V l := by
  have key : ∀ (l : List StD) (t : Nat), t ≤ l.foldl (fun t x => max t (gtN x.c)) t ∧ ∀ x ∈ l, gtN x.c ≤ l.foldl (fun t x => max t (gtN x.c)) t := by
    intro l
    induction l with
    | nil => intro t; exact ⟨Nat.le_refl _, fun x hx => by simp at hx⟩
    | cons y r ih =>
      intro t
      obtain ⟨h1, h2⟩ := ih (max t (gtN y.c))
      refine ⟨Nat.le_trans (Nat.le_max_left _ _) h1, fun x hx => ?_⟩
      rcases List.mem_cons.1 hx with rfl | hx
      · exact Nat.le_trans (Nat.le_max_right _ _) h1
      · exact h2 x hx
  exact key l V
theorem may_lits {c : List Int} (h : mayB c 1048576 = true) : ∀ x ∈ c, x ≠ 0 ∧ -1048576 ≤ x ∧ x ≤ 1048576 := by
  intro x hx
  unfold mayB at h
  simp only [Bool.and_eq_true, decide_eq_true_eq, List.all_eq_true] at h
  have := h.2 x hx
  unfold litB at this
  simp only [decide_eq_true_eq] at this
  omega
theorem cnf_up {V V' : Nat} {css : List (List Int)} (h : cnfB V css = true) (hle : V ≤ V') (hV : V' ≤ 1048576) : cnfB V' css = true := by
  unfold cnfB at h ⊢
  simp only [Bool.and_eq_true, decide_eq_true_eq, List.all_eq_true] at h ⊢
  refine ⟨⟨by omega, by omega, h.1.2.2⟩, fun c hc => ?_⟩
  have hm := h.2 c hc
  unfold mayB at hm ⊢
  simp only [Bool.and_eq_true, decide_eq_true_eq, List.all_eq_true] at hm ⊢
  refine ⟨hm.1, fun x hx => ?_⟩
  have := hm.2 x hx
  unfold litB at this ⊢
  simp only [decide_eq_true_eq] at this ⊢
  omega

set_option maxHeartbeats 4000000 in
set_option maxRecDepth 100000 in
theorem open_no' (a al : Option Addr) (cap cal : Nat) (n : Int) (css : List (List Int)) (l : List StD) (w : World) (hg : Grid w a css) (hl : css.length ≤ maxLen) (hs : Sts w al l) (hll : l.length ≤ 262144) (hno : cnfB n css = false ∨ (cnfB n css = true ∧ proofB l = false)) :
    Calls Tryz.prog 13 #[.agg #[.int .i64 n, .slice a css.length cap], .slice al l.length cal] w fun e w' => e = .returned (.tuple #[.pointer none, .int .i64 1]) ∧ Below w.heap.size w w' := by
  have hb0 := below_alloc w (.cells #[.int .i64 n, .slice a css.length cap] 24)
  have CC := checkCnf_any a cap n css _ (hg.below hb0) hl
  have TC : ∀ x, Below w.heap.size w x → Calls Tryz.prog 21 #[.slice al l.length cal] x fun e w' => e = .returned (.int .i64 (errN (proofB l))) ∧ Below x.heap.size x w' := fun x hx => traceCheck_any al cal l x (hs.below hx) hll
  have HB0 := hide hb0
  clear hg hb0 hs
  rcases hno with h | ⟨h, h2⟩
  · rw [h] at CC
    replace CC := hide CC
    clear TC h
    go_enter Tryz.func13, Tryz.ntmps13
    go_wp2_with (go_at_call 20; refine (unhide CC).mono ?_; rintro e w1 ⟨rfl, hb1⟩)
    go_ret2
    exact ⟨rfl, HB0.out.trans (hb1.mono HB0.out.size)⟩
  · rw [h] at CC
    replace CC := hide CC
    have TC' : Hid (∀ x, Below w.heap.size w x → Calls Tryz.prog 21 #[.slice al l.length cal] x fun e w' => e = .returned (.int .i64 1) ∧ Below x.heap.size x w') := fun x hx => by have q := TC x hx; rw [h2] at q; exact q
    clear TC h h2
    go_enter Tryz.func13, Tryz.ntmps13
    go_wp2_with (first | (go_at_call 20; refine (unhide CC).mono ?_; rintro e w1 ⟨rfl, hb1⟩; have hb1w := HB0.out.trans (hb1.mono HB0.out.size)) | (go_at_call 21; refine (TC'.out _ hb1w).mono ?_; rintro e w2 ⟨rfl, hb2⟩))
    go_ret2
    exact ⟨rfl, hb1w.trans (hb2.mono hb1w.size)⟩

theorem setBlk {w : World} {k i : Nat} {cs : Array Value} {t : TypeId} (h : w.heap[k]? = some (.cells cs t (0, 0))) (v : Value) : (w.setCell ⟨k, i, none⟩ v).heap[k]? = some (.cells (cs.setIfInBounds i v) t (0, 0)) := by
  have hlt := lt_of_block h
  have h' : w.heap[k] = .cells cs t (0, 0) := by simpa [Array.getElem?_eq_getElem hlt] using h
  show (w.heap.modify k _)[k]? = _
  rw [Array.getElem?_eq_getElem (by simpa using hlt), Array.getElem_modify_self, h']
  rfl
theorem setOff (w : World) (k i : Nat) (v : Value) : (∀ b, b ≠ k → (w.setCell ⟨k, i, none⟩ v).heap[b]? = w.heap[b]?) ∧ (w.setCell ⟨k, i, none⟩ v).heap.size = w.heap.size := ⟨fun b hb => Below.heap_setCell _ _ _ _ hb, by simp [World.setCell]⟩

/-- What open leaves. -/
def OpenP (w : World) (V : Nat) (css : List (List Int)) (l : List StD) (k B : Nat) (w' : World) : Prop :=
  ∃ ρ s, KP ρ w' k B s V css.length css.length (spareN V l : Nat) (.map none) (.map none) ∧ Ev free w ρ w' ∧ s.vars = varsN V l ∧ s.cls.map key = css.map (fun c => (c, false)) ∧ s.trail = [] ∧ s.lvs = [] ∧ w.heap.size ≤ k

/-- The propagator is laid into the keeper. -/
theorem open_fin {w x w4 : World} {V k B : Nat} {css : List (List Int)} {l : List StD} (hb : Below w.heap.size w x) (hk : w.heap.size ≤ k) (hblk : x.heap[k]? = some (.cells #[.pointer none, .int .i64 V, .int .i64 css.length, .int .i64 css.length, .int .i64 (spareN V l : Nat), .map none, .map none] 50 (0, 0))) (hc : cnfB (varsN V l) css = true) (hl : css.length ≤ 900) (hP : NewP x B (varsN V l) css w4) :
    OpenP w V css l k B (w4.setCell ⟨k, 0, none⟩ (.pointer (some ⟨B, 0, none⟩))) ∧ w4.cell? ⟨k, 0, none⟩ = some (.pointer none) ∧ w4.frozen? ⟨k, 0, none⟩ = false := by
  obtain ⟨ρ, H, hR, hE⟩ := hP
  have hVV : varsN V l ≤ 1048576 := by
    unfold cnfB at hc
    simp only [Bool.and_eq_true, decide_eq_true_eq] at hc
    omega
  have hLt := cnf_lt hc
  obtain ⟨e1, e2, e3, e4, e5, e6, e7⟩ := news (varsN V l) hVV css (fun c hc => (hLt c hc).2) hl
  have hk4 := (hE.keep k (lt_of_block hblk) rfl).trans hblk
  have hro : ρ k = oth := hE.agree k (lt_of_block hblk)
  obtain ⟨o1, o2⟩ := setOff w4 k 0 (.pointer (some ⟨B, 0, none⟩))
  have hsb := setBlk (i := 0) hk4 (.pointer (some ⟨B, 0, none⟩))
  have hE2 : Ev free w ρ w4 := (Ev.below hb).trans hE
  refine ⟨⟨ρ, _, ⟨⟨H, hR.off (fun b hb' hr => o1 b (by rintro rfl; exact hr hro))⟩, by rw [hsb]; rfl, hro, e1, Cnt.new e3 e6 e7, fun c hc' => ?_⟩, ⟨hE2.os, hE2.tape, hE2.output, by rw [o2]; exact hE2.size, hE2.agree, fun b hb' ho => (o1 b (by omega)).trans (hE2.keep b hb' ho)⟩, e2, e3, e4, e5, hk⟩, cell_of_block hk4 (i := 0) rfl, frz_of_block hk4 (i := 0)⟩
  have hkk : key c ∈ (css.foldl PS.attach (PS.zero (varsN V l))).cls.map key := List.mem_map_of_mem hc'
  rw [e3] at hkk
  obtain ⟨d, hd', e⟩ := List.mem_map.1 hkk
  have e9 : d = c.lits := congrArg Prod.fst e
  have := (hLt d hd').1
  rw [e9] at this; omega

set_option maxHeartbeats 4000000 in
set_option maxRecDepth 100000 in
theorem open_yes (a al : Option Addr) (cap cal : Nat) (V : Nat) (css : List (List Int)) (l : List StD) (w : World) (hg : GridC w a css) (hl : css.length ≤ 900) (hs : Sts w al l) (hll : l.length ≤ 1000) (hc : cnfB V css = true) (hp : proofB l = true) :
    Calls Tryz.prog 13 #[.agg #[.int .i64 V, .slice a css.length cap], .slice al l.length cal] w fun e w' => ∃ k B, e = .returned (.tuple #[.pointer (some ⟨k, 0, none⟩), .int .i64 0]) ∧ OpenP w V css l k B w' := by
  have hV : V ≤ 1048576 := by
    unfold cnfB at hc
    simp only [Bool.and_eq_true, decide_eq_true_eq] at hc
    omega
  have htop := topN_le hV hp
  have hle := (le_topN V l).1
  have hcV : cnfB (varsN V l) css = true := cnf_up hc (by unfold varsN; split <;> omega) (by unfold varsN; split <;> omega)
  have hb0 := below_alloc w (.cells #[.int .i64 V, .slice a css.length cap] 24)
  have CC := checkCnf_any a cap V css _ (hg.grid.below hb0) (by unfold maxLen; omega)
  rw [hc] at CC
  replace CC := hide CC
  have TC : Hid (∀ x, Below w.heap.size w x → Calls Tryz.prog 21 #[.slice al l.length cal] x fun e w' => e = .returned (.int .i64 0) ∧ Below x.heap.size x w') := fun x hx => by have q := traceCheck_any al cal l x (hs.below hx) (by omega); rw [hp] at q; exact q
  have NW : Hid (∀ x, Below w.heap.size w x → Calls Tryz.prog 23 #[.agg #[.int .i64 (varsN V l : Nat), .slice a css.length cap]] x fun e w' => ∃ B, e = .returned (.tuple #[.pointer (some ⟨B, 0, none⟩), .int .i64 0]) ∧ NewP x B (varsN V l) css w') := fun x hx => new_yes a cap (varsN V l) css x (hg.below hx) hl hcV (by unfold varsN; split <;> omega)
  have HFN : Hid (∀ (k B : Nat) (x w4 : World), Below w.heap.size w x → w.heap.size ≤ k → x.heap[k]? = some (.cells #[.pointer none, .int .i64 V, .int .i64 css.length, .int .i64 css.length, .int .i64 (spareN V l : Nat), .map none, .map none] 50 (0, 0)) → NewP x B (varsN V l) css w4 → OpenP w V css l k B (w4.setCell ⟨k, 0, none⟩ (.pointer (some ⟨B, 0, none⟩))) ∧ w4.cell? ⟨k, 0, none⟩ = some (.pointer none) ∧ w4.frozen? ⟨k, 0, none⟩ = false) := fun k B x w4 hb hk hblk hP => open_fin hb hk hblk hcV hl hP
  have HB0 := hide hb0
  have HK := hide (heap_alloc_new w (.cells #[.int .i64 V, .slice a css.length cap] 24))
  have HS := hide hs
  have HPR := hide hp
  clear hg hb0 hs hc hcV hp
  go_enter Tryz.func13, Tryz.ntmps13
  go_wp2_with (first | (go_at_call 20; refine (unhide CC).mono ?_; rintro e w1 ⟨rfl, hb1⟩; have k1 := (hb1.cell (p := ⟨w.heap.size, 1, none⟩) (by simp)).trans (cell_of_block HK.out (i := 1) rfl); have k0 := (hb1.cell (p := ⟨w.heap.size, 0, none⟩) (by simp)).trans (cell_of_block HK.out (i := 0) rfl); have hb1w := HB0.out.trans (hb1.mono HB0.out.size); have hlt1 : w.heap.size < w1.heap.size := Nat.lt_of_lt_of_le (by simp) hb1.size) | (go_at_call 21; refine (TC.out _ hb1w).mono ?_; rintro e w2 ⟨rfl, hb2⟩; have j1 := (hb2.cell (p := ⟨w.heap.size, 1, none⟩) hlt1).trans k1; have j0 := (hb2.cell (p := ⟨w.heap.size, 0, none⟩) hlt1).trans k0; have hb2w := hb1w.trans (hb2.mono hb1w.size); have hlt2 : w.heap.size < w2.heap.size := Nat.lt_of_lt_of_le hlt1 hb2.size; have hne2 : w.heap.size ≠ w2.heap.size := Nat.ne_of_lt hlt2))
  have HT := hide htop
  have HLE := hide hle
  clear htop hle
  have hk0 := heap_alloc_new w2 (.cells #[.pointer none, .int .i64 V, .int .i64 css.length, .int .i64 css.length, .int .i64 0, .map none, .map none] 50)
  have hbx : Below w.heap.size w (w2.alloc (.cells #[.pointer none, .int .i64 V, .int .i64 css.length, .int .i64 css.length, .int .i64 0, .map none, .map none] 50)) := hb2w.alloc hb2w.size _
  have hkx : w2.heap.size < (w2.alloc (.cells #[.pointer none, .int .i64 V, .int .i64 css.length, .int .i64 css.length, .int .i64 0, .map none, .map none] 50)).heap.size := by simp
  have hbk := below_alloc w2 (.cells #[.pointer none, .int .i64 V, .int .i64 css.length, .int .i64 css.length, .int .i64 0, .map none, .map none] 50)
  have i1 := (hbk.cell (p := ⟨w.heap.size, 1, none⟩) hlt2).trans j1
  have hlx := Nat.lt_of_lt_of_le hlt2 hbk.size
  have hkw := hb2w.size
  clear hbk j1 j0 k1 k0 hb1 hb2 hb1w hb2w hlt1 CC TC HB0 HK
  generalize w2.alloc (.cells #[.pointer none, .int .i64 V, .int .i64 css.length, .int .i64 css.length, .int .i64 0, .map none, .map none] 50) = x0 at *
  generalize w2.heap.size = k at *
  go_loopw [7, 33] (fun t7 t33 wr => ∃ i g : Nat, t33 = .int .i64 i ∧ i ≤ l.length ∧ t7 = .int .i64 g ∧ g ≤ 1048576 ∧ Hid (g = topN V (l.take i)) ∧ Hid (Below x0.heap.size x0 wr)) (fun _ t33 _ => l.length - (intOf t33).toNat)
  case atStart => exact ⟨0, V, rfl, Nat.zero_le _, rfl, hV, by simp [Hid, topN], Below.refl _ _⟩
  case round =>
    obtain ⟨i, g, rfl, hi, rfl, hg, HG, HB⟩ := hrel
    by_cases hlt : i < l.length
    · have hii : (i : Int) < l.length := by omega
      obtain ⟨bb, off, ai, ci, rfl, hbb, hS⟩ := (HS.out.below (hbx.trans (HB.out.mono hbx.size))) i hlt
      have k0 := hS.c0
      have k1 := hS.c1
      have hbn : bb ≠ wr.heap.size := Nat.ne_of_lt hbb
      have hmy : mayB l[i].c 1048576 = true := by
        have q := HPR.out
        unfold proofB at q
        rw [List.all_eq_true] at q
        exact q _ (List.getElem_mem hlt)
      have hgl : gtN l[i].c ≤ 1048576 := Nat.le_trans ((le_topN V l).2 _ (List.getElem_mem hlt)) HT.out
      have HC : Hid (∀ x, Below wr.heap.size wr x → Calls Tryz.prog 22 #[.slice ai l[i].c.length ci] x fun e w' => e = .returned (.int .i64 (gtN l[i].c)) ∧ w' = x) := fun x hx => greatest_any ai ci l[i].c x (hS.row.below hx) hS.len (fun y hy => (may_lits hmy y hy).2)
      have HN : Hid (topN V (l.take (i + 1)) = max g (gtN l[i].c)) := by
        unfold Hid; rw [List.take_succ_eq_append_getElem hlt, topN_snoc, ← HG.out]
      have hmb : max g (gtN l[i].c) ≤ 1048576 := Nat.max_le.2 ⟨hg, hgl⟩
      have hmax := max2n g (gtN l[i].c)
      clear hS hmy HG hgl i1 hk0 HFN NW
      generalize l[i] = st at *
      obtain ⟨sd, sc⟩ := st
      simp only at k0 k1 HC HN hmb hmax
      generalize max g (gtN sc) = g2 at *
      generalize gtN sc = g1 at *
      go_wp2_with (go_at_call 22; refine (HC.out _ (below_alloc _ _)).mono ?_; rintro e w0 ⟨rfl, hw0⟩; subst w0)
      go_roundw
      case rel => exact ⟨i + 1, g2, by go_num, by omega, rfl, hmb, HN.out.symm, HB.out.alloc HB.out.size _⟩
      case measure => simp [intOf]; omega
    · obtain rfl : i = l.length := by omega
      have HE := HG.out
      rw [List.take_length] at HE
      have hkr := (HB.out.block k hkx).trans hk0
      have i2 := (HB.out.cell (p := ⟨w.heap.size, 1, none⟩) hlx).trans i1
      have hbr := hbx.trans (HB.out.mono hbx.size)
      have c4 := cell_of_block hkr (i := 4) rfl
      have f4 := frz_of_block hkr (i := 4)
      by_cases ht : g < 1048576
      · have hti : (g : Int) < 1048576 := by omega
        have hsp : spareN V l = g + 1 := by unfold spareN; rw [← HE, if_pos ht]
        have hva : varsN V l = g + 1 := by unfold varsN; rw [← HE, if_pos ht]
        have hsb := setBlk (i := 4) hkr (.int .i64 ((g : Int) + 1))
        simp only [List.setIfInBounds_toArray, List.set_cons_zero, List.set_cons_succ] at hsb
        have hbs := hbr.setCell (p := ⟨k, 4, none⟩) hkw (.int .i64 ((g : Int) + 1))
        have i3 : (wr.setCell ⟨k, 4, none⟩ (.int .i64 ((g : Int) + 1))).cell? ⟨w.heap.size, 1, none⟩ = some (.slice a css.length cap) := by
          have q := (setOff wr k 4 (.int .i64 ((g : Int) + 1))).1 w.heap.size hne2
          unfold World.cell? at i2 ⊢
          rw [q]; exact i2
        rw [hsp, hva] at HFN
        rw [hva] at NW
        simp only [Int.natCast_add, Int.natCast_one, Int.cast_ofNat_Int] at HFN NW
        have NW2 := NW.out _ hbs
        have HF2 := fun B w4 => HFN.out k B _ w4 hbs hkw hsb
        replace NW2 := hide NW2
        replace HF2 := hide HF2
        clear HFN NW HG HE HB hbx hk0 hkr hsb hbs hsp hva HT HLE HS HPR hbr
        go_wp2_with (go_at_call 23; refine (unhide NW2).mono ?_; rintro e w4 ⟨B, rfl, hP⟩; obtain ⟨hO, hc0, hf0⟩ := (unhide HF2) B w4 hP; replace hO := hide hO)
        go_ret2
        exact ⟨k, B, rfl, hO.out⟩
      · have hti : ¬ (g : Int) < 1048576 := by omega
        have hsp : spareN V l = 0 := by unfold spareN; rw [← HE, if_neg ht]
        have hva : varsN V l = g := by unfold varsN; rw [← HE, if_neg ht]
        rw [hsp, hva] at HFN
        rw [hva] at NW
        have NW2 := NW.out _ hbr
        have HF2 := fun B w4 => HFN.out k B _ w4 hbr hkw hkr
        replace NW2 := hide NW2
        replace HF2 := hide HF2
        clear HFN NW HG HE HB hbx hk0 hkr hsp hva HT HLE HS HPR hbr
        go_wp2_with (go_at_call 23; refine (unhide NW2).mono ?_; rintro e w4 ⟨B, rfl, hP⟩; obtain ⟨hO, hc0, hf0⟩ := (unhide HF2) B w4 hP; replace hO := hide hO)
        go_ret2
        exact ⟨k, B, rfl, hO.out⟩
end Go.Proofs.YtlmbgaconjcaiabGreat

namespace Go.Proofs.YtlmbgaconjcaiabGreat
open Go.RowKit

/-- A valuation that makes the clauses true and every literal of c false: nothing is told of c, if what was decided is true. -/
theorem told_no {t : PS} (hI : Inv t) {c : List Int} {css : List (List Int)} (hcl : t.cls.map key = css.map (fun c => (c, false))) (v : Int → Int) (hneg : ∀ x, v (-x) = - v x) (hcs : ∀ d ∈ css, ∃ x ∈ d, v x = 1) (hd : ∀ l ∈ t.dec, v l = 1) (hc : ∀ l ∈ c, v l ≠ 1) : ¬ Told t c true := by
  have hcc : ∀ (i : Nat) d, t.cls[i]? = some d → d.gone = false → ∃ x ∈ d.lits, v x = 1 := by
    intro i d hi _
    have hk : key d ∈ t.cls.map key := List.mem_map_of_mem (List.mem_of_getElem? hi)
    rw [hcl] at hk
    obtain ⟨e, he, e2⟩ := List.mem_map.1 hk
    have e3 : e = d.lits := congrArg Prod.fst e2
    rw [← e3]; exact hcs e he
  rintro (⟨_, ⟨l, hl, ht⟩ | ⟨n, hn⟩⟩ | ⟨h, _⟩)
  · exact hc l hl (sound_trail hI v hneg hcc hd l ht)
  · exact sound_broken hI v hneg hcc hd hn
  · simp at h

/-- The literals' values under a valuation of variables, with the spare variable true. -/
theorem unit_implied {w w' : World} {V k B : Nat} {css : List (List Int)} {c : List Int} {ρ : Nat → Rl} {s : PS} {x1 x2 x3 : Int} {m1 m2 : Value} (hcl : s.cls.map key = css.map (fun c => (c, false))) (hlv : s.lvs = []) (hU : UnitsP ρ w k B s x1 x2 x3 (spareN V [⟨false, c⟩]) m1 m2 c true w') (v : Int → Int) (hneg : ∀ x, v (-x) = - v x) (hsp : spareN V [⟨false, c⟩] ≠ 0 → v (spareN V [⟨false, c⟩] : Nat) = 1) (hcs : ∀ d ∈ css, ∃ x ∈ d, v x = 1) (hc : ∀ l ∈ c, v l = -1) : False := by
  obtain ⟨ρ', u, ds0, hK, hE, hG, h0, h1, t, ds, hI, hGt, hds, hT⟩ := hU
  refine told_no hI (hGt.cl.trans hcl) v hneg hcs (fun l hl => ?_) (fun l hl => by rw [hc l hl]; decide) hT
  rw [hGt.dec] at hl
  have hd0 : s.dec = [] := by simp [PS.dec, hlv]
  rw [hd0, List.nil_append] at hl
  rcases List.mem_append.1 hl with hl | hl
  · by_cases hz : spareN V [⟨false, c⟩] = 0
    · rw [h0 hz] at hl; simp at hl
    · rw [(h1 hz).1 hlv] at hl
      obtain rfl : l = _ := by simpa using hl
      exact hsp hz
  · have := hc _ (hds l hl)
    rw [hneg] at this; omega

theorem blk2 (w : World) (o1 o2 : Obj) : ((w.alloc o1).alloc o2).heap[w.heap.size + 1]? = some o2 := by
  have q := heap_alloc_new (w.alloc o1) o2
  have hs : (w.alloc o1).heap.size = w.heap.size + 1 := by simp
  rwa [hs] at q

/-- What Unit tells: nothing is made true that does not follow. -/
def UnitT (V : Nat) (css : List (List Int)) (c : List Int) (b : Bool) : Prop :=
  b = true → ∀ v : Int → Int, (∀ x, v (-x) = - v x) → (spareN V [⟨false, c⟩] ≠ 0 → v (spareN V [⟨false, c⟩] : Nat) = 1) → (∀ d ∈ css, ∃ x ∈ d, v x = 1) → (∀ l ∈ c, v l = -1) → False

/-- How Unit comes to tell it. -/
def UnitE (V : Nat) (css : List (List Int)) (c : List Int) (b : Bool) : Prop :=
  ∃ t ds, Inv t ∧ t.cls.map key = css.map (fun c => (c, false)) ∧ (spareN V [⟨false, c⟩] ≠ 0 → t.dec = (spareN V [⟨false, c⟩] : Int) :: ds) ∧ (spareN V [⟨false, c⟩] = 0 → t.dec = ds) ∧ (∀ d ∈ ds, -d ∈ c) ∧ Told t c b

set_option maxHeartbeats 4000000 in
set_option maxRecDepth 100000 in
theorem unit_yes (a ac : Option Addr) (cap cac : Nat) (V : Nat) (css : List (List Int)) (c : List Int) (w : World) (hg : GridC w a css) (hl : css.length ≤ 900) (hr : Row w ac c) (hlc : c.length ≤ 4096) (hn : ac = none → cac = 0) (hc : cnfB V css = true) (hm : mayB c 1048576 = true) :
    Calls Tryz.prog 33 #[.agg #[.int .i64 V, .slice a css.length cap], .slice ac c.length cac] w fun e w' => ∃ b, e = .returned (.bool b) ∧ (UnitT V css c b ∧ UnitE V css c b) ∧ Below w.heap.size w w' := by
  have hp : proofB [⟨false, c⟩] = true := by simp [proofB, hm]
  have hV : V ≤ 1048576 := by
    unfold cnfB at hc
    simp only [Bool.and_eq_true, decide_eq_true_eq] at hc
    omega
  have ON : Hid (∀ x, Below w.heap.size w x → x.cell? ⟨w.heap.size + 1, 0, none⟩ = some (.bool false) → x.cell? ⟨w.heap.size + 1, 1, none⟩ = some (.slice ac c.length cac) → w.heap.size + 1 < x.heap.size → Calls Tryz.prog 13 #[.agg #[.int .i64 V, .slice a css.length cap], .slice (some ⟨w.heap.size + 1, 0, none⟩) 1 1] x fun e w' => ∃ k B, e = .returned (.tuple #[.pointer (some ⟨k, 0, none⟩), .int .i64 0]) ∧ OpenP w V css [⟨false, c⟩] k B w') := by
    intro x hx h0 h1 hlt
    refine (open_yes a (some ⟨w.heap.size + 1, 0, none⟩) cap 1 V css [⟨false, c⟩] x (hg.below hx) hl ?_ (by simp) hc hp).mono ?_
    · intro i hi
      obtain rfl : i = 0 := by simp at hi; omega
      exact ⟨_, _, ac, cac, rfl, hlt, ⟨by simpa using h0, by simpa using h1, hr.below hx, by simp [maxLen]; omega, hn⟩⟩
    · rintro e w' ⟨k, B, rfl, ρ, s, hK, hE, r1, r2, r3, r4, r5⟩
      exact ⟨k, B, rfl, ρ, s, hK, (Ev.below hx).trans hE, r1, r2, r3, r4, Nat.le_trans hx.size r5⟩
  have BU : Hid (∀ k B w1, OpenP w V css [⟨false, c⟩] k B w1 → Calls Tryz.prog 31 #[.pointer (some ⟨k, 0, none⟩), .slice ac c.length cac] w1 fun e w' => ∃ b, e = .returned (.bool b) ∧ (UnitT V css c b ∧ UnitE V css c b) ∧ Below w.heap.size w w') := by
    rintro k B w1 ⟨ρ, s, hK, hE, e1, e2, e3, e4, _⟩
    have htop := topN_le hV hp
    have hgt := (le_topN V [⟨false, c⟩]).2 _ (List.mem_singleton_self _)
    have hsv : spareN V [⟨false, c⟩] ≤ s.vars := by rw [e1]; unfold spareN varsN; split <;> omega
    have hlt : ∀ x ∈ c, Lt s.vars x := by
      intro x hx
      have q := may_lits hm x hx
      have q2 := le_gtN x hx
      have q3 : topN V [⟨false, c⟩] ≤ s.vars := by rw [e1]; unfold varsN; split <;> omega
      simp only at hgt
      unfold Lt; omega
    refine (byUnits_any hK hsv (fun _ _ => e3) ac cac c (hr.rowO hE) (by omega) hlt).mono ?_
    · rintro e w' ⟨b, rfl, hU⟩
      refine ⟨b, rfl, ⟨?_, ?_⟩, ?_⟩
      · rintro rfl v hneg hsp hcs hcf
        exact unit_implied e2 e4 hU v hneg hsp hcs hcf
      · obtain ⟨ρ', u, ds0, _, _, _, h0, h1, t, ds, hI, hGt, hds, hT⟩ := hU
        have hd0 : s.dec = [] := by simp [PS.dec, e4]
        refine ⟨t, ds, hI, hGt.cl.trans e2, fun hz => ?_, fun hz => ?_, hds, hT⟩
        · rw [hGt.dec, hd0, (h1 hz).1 e4]; rfl
        · rw [hGt.dec, hd0, h0 hz]; rfl
      · obtain ⟨ρ', u, ds0, _, hE', _⟩ := hU
        exact (hE.trans hE').bel
  clear hg hr hc hm hp
  go_enter Tryz.func33, Tryz.ntmps33
  go_wp2_with (first | (go_at_call 13; refine (ON.out _ ?_ ?_ ?_ ?_).mono ?_; rotate_left 4; rintro e w1 ⟨k, B, rfl, hO⟩; replace hO := hide hO) | (go_at_call 31; refine (BU.out k B _ hO.out).mono ?_; rintro e w2 ⟨b, rfl, hT, hb⟩; replace hT := hide hT))
  · go_ret
    exact ⟨b, rfl, hT.out, hb⟩
  · exact (below_alloc w _).alloc (by simp) _
  · exact cell_of_block (blk2 _ _ _) rfl
  · exact cell_of_block (blk2 _ _ _) rfl
  · simp
end Go.Proofs.YtlmbgaconjcaiabGreat

namespace Go.Proofs.YtlmbgaconjcaiabGreat
open Go.RowKit

set_option maxHeartbeats 4000000 in
set_option maxRecDepth 100000 in
theorem unit_no (a ac : Option Addr) (cap cac : Nat) (n : Int) (css : List (List Int)) (c : List Int) (w : World) (hg : Grid w a css) (hl : css.length ≤ maxLen) (hr : Row w ac c) (hlc : c.length ≤ maxLen) (hn : ac = none → cac = 0) (hno : cnfB n css = false ∨ (cnfB n css = true ∧ mayB c 1048576 = false)) :
    Calls Tryz.prog 33 #[.agg #[.int .i64 n, .slice a css.length cap], .slice ac c.length cac] w fun e w' => e = .returned (.bool false) ∧ Below w.heap.size w w' := by
  have ON : Hid (∀ x, Below w.heap.size w x → x.cell? ⟨w.heap.size + 1, 0, none⟩ = some (.bool false) → x.cell? ⟨w.heap.size + 1, 1, none⟩ = some (.slice ac c.length cac) → w.heap.size + 1 < x.heap.size → Calls Tryz.prog 13 #[.agg #[.int .i64 n, .slice a css.length cap], .slice (some ⟨w.heap.size + 1, 0, none⟩) 1 1] x fun e w' => e = .returned (.tuple #[.pointer none, .int .i64 1]) ∧ Below w.heap.size w w') := by
    intro x hx h0 h1 hlt
    refine (open_no' a (some ⟨w.heap.size + 1, 0, none⟩) cap 1 n css [⟨false, c⟩] x (hg.below hx) hl ?_ (by simp) ?_).mono ?_
    · intro i hi
      obtain rfl : i = 0 := by simp at hi; omega
      exact ⟨_, _, ac, cac, rfl, hlt, ⟨by simpa using h0, by simpa using h1, hr.below hx, hlc, hn⟩⟩
    · rcases hno with h | ⟨h1, h2⟩
      · exact .inl h
      · exact .inr ⟨h1, by simp [proofB, h2]⟩
    · rintro e w' ⟨rfl, hb⟩
      exact ⟨rfl, hx.trans (hb.mono hx.size)⟩
  clear hg hr hno
  go_enter Tryz.func33, Tryz.ntmps33
  go_wp2_with (go_at_call 13; refine (ON.out _ ?_ ?_ ?_ ?_).mono ?_; rotate_left 4; rintro e w1 ⟨rfl, hb⟩)
  · go_ret
    exact ⟨rfl, hb⟩
  · exact (below_alloc w _).alloc (by simp) _
  · exact cell_of_block (blk2 _ _ _) rfl
  · exact cell_of_block (blk2 _ _ _) rfl
  · simp

theorem short_any (ac : Option Addr) (cac : Nat) (c : List Int) (w : World) (hlc : c.length ≤ maxLen) :
    Calls Tryz.prog 5 #[.slice ac c.length cac] w fun e w' => e = .returned (.bool (decide ((c.length : Int) ≤ 60))) ∧ w' = w := by
  go_enter Tryz.func5, Tryz.ntmps5
  go_wp2
  go_ret
  exact ⟨rfl, rfl⟩
end Go.Proofs.YtlmbgaconjcaiabGreat

namespace Go.Proofs.YtlmbgaconjcaiabGreat
open Go.RowKit

theorem valI_neg (m : List Int) (x : Int) : valI m (-x) = - valI m x := by
  have h1 : litB (-x) 1048576 = litB x 1048576 := by unfold litB; congr 1; apply propext; constructor <;> intro h <;> omega
  have h2 : varI (-x) = varI x := by unfold varI; split <;> split <;> omega
  have h3 : sgn (-x) = - sgn x := by unfold sgn; split <;> split <;> (try split) <;> (try split) <;> omega
  unfold valI
  rw [h1, h2, h3]
  split
  · exact Int.mul_neg _ _
  · rfl

theorem holds_all {m : List Int} {css : List (List Int)} (h : holdsB m css = true) : ∀ c ∈ css, ∃ x ∈ c, valI m x = 1 := by
  intro c hc
  unfold holdsB at h
  rw [List.all_eq_true] at h
  have h1 := h c hc
  have h2 : clauseI m c = 1 := by simpa using h1
  unfold clauseI at h2
  split at h2
  · rename_i h3
    rw [List.any_eq_true] at h3
    obtain ⟨x, hx, h4⟩ := h3
    exact ⟨x, hx, by simpa using h4⟩
  · split at h2 <;> simp at h2

theorem spare_top {V : Nat} {l : List StD} (h : spareN V l ≠ 0) : topN V l < spareN V l := by
  unfold spareN at h ⊢
  split at h
  · rename_i q; rw [if_pos q]; omega
  · omega

/-- A valuation of the literals, with one variable true besides. -/
def vSp (m : List Int) (sp : Nat) (x : Int) : Int := if x.natAbs = sp ∧ sp ≠ 0 then (if 0 < x then 1 else -1) else valI m x
theorem vSp_neg (m : List Int) (sp : Nat) (x : Int) : vSp m sp (-x) = - vSp m sp x := by
  unfold vSp
  rw [Int.natAbs_neg]
  by_cases h : x.natAbs = sp ∧ sp ≠ 0
  · rw [if_pos h, if_pos h]
    have : x ≠ 0 := by omega
    split <;> split <;> omega
  · rw [if_neg h, if_neg h]; exact valI_neg m x
theorem vSp_low {m : List Int} {sp : Nat} {x : Int} (h : sp ≠ 0 → x.natAbs < sp) : vSp m sp x = valI m x := by
  unfold vSp; rw [if_neg]; rintro ⟨h1, h2⟩; have := h h2; omega

theorem unit_law {V : Nat} {css : List (List Int)} {c m : List Int} (hT : UnitT V css c true) (hc : cnfB V css = true) (hh : holdsB m css = true) (h0 : ∀ l ∈ c, valI m l ≠ 0) : clauseI m c = 1 := by
  by_cases hany : c.any (fun l => valI m l == 1) = true
  · exact clauseI_one hany
  exfalso
  have hle := le_topN V [⟨false, c⟩]
  refine hT rfl (vSp m (spareN V [⟨false, c⟩])) (vSp_neg m _) (fun hs => ?_) (fun d hd => ?_) (fun l hl => ?_)
  · unfold vSp; rw [if_pos ⟨by omega, hs⟩, if_pos (by omega)]
  · obtain ⟨x, hx, hv⟩ := holds_all hh d hd
    have q := (cnf_lt hc d hd).2 x hx
    refine ⟨x, hx, (vSp_low (fun hs => ?_)).trans hv⟩
    have := spare_top hs
    unfold Lt at q
    have := hle.1
    omega
  · have q := le_gtN l hl
    have q2 := hle.2 _ (List.mem_singleton_self _)
    simp only at q2
    rw [vSp_low (fun hs => by have := spare_top hs; omega)]
    have q3 : valI m l ≠ 1 := by
      intro e
      apply hany
      rw [List.any_eq_true]
      exact ⟨l, hl, by simp [e]⟩
    rcases valI_cases m l with e | e | e
    · exact e
    · exact (h0 l hl e).elim
    · exact (q3 e).elim

set_option maxHeartbeats 1000000 in
theorem small_any (a : Option Addr) (cap : Nat) (n : Int) (css : List (List Int)) (w : World) (hg : Grid w a css) (hl : css.length ≤ maxLen) :
    Calls Tryz.prog 4 #[.agg #[.int .i64 n, .slice a css.length cap]] w fun e w' => e = .returned (.bool (lightB css && decide (css.length ≤ 40))) ∧ Below w.heap.size w w' := by
  have hb0 := below_alloc w (.cells #[.int .i64 n, .slice a css.length cap] 24)
  have C := hide (light_any a cap n css _ (hg.below hb0) hl)
  have HK := hide (heap_alloc_new w (.cells #[.int .i64 n, .slice a css.length cap] 24))
  have HB := hide hb0
  have hlt : w.heap.size < (w.alloc (.cells #[.int .i64 n, .slice a css.length cap] 24)).heap.size := by simp
  clear hg hb0
  cases hL : lightB css with
  | false =>
    rw [hL] at C
    go_enter Tryz.func4, Tryz.ntmps4
    go_wp2_with (go_at_call 10; refine (unhide C).mono ?_; rintro e w1 ⟨rfl, hb1⟩)
    go_ret
    exact ⟨rfl, HB.out.trans (hb1.mono HB.out.size)⟩
  | true =>
    rw [hL] at C
    by_cases h4 : css.length ≤ 40
    · have h4' : (css.length : Int) ≤ 40 := by omega
      go_enter Tryz.func4, Tryz.ntmps4
      go_wp2_with (go_at_call 10; refine (unhide C).mono ?_; rintro e w1 ⟨rfl, hb1⟩; have k1 := (hb1.cell (p := ⟨w.heap.size, 1, none⟩) hlt).trans (cell_of_block HK.out (i := 1) rfl))
      go_ret
      exact ⟨ret_bool (by simp [h4]), HB.out.trans (hb1.mono HB.out.size)⟩
    · have h4' : ¬ (css.length : Int) ≤ 40 := by omega
      go_enter Tryz.func4, Tryz.ntmps4
      go_wp2_with (go_at_call 10; refine (unhide C).mono ?_; rintro e w1 ⟨rfl, hb1⟩; have k1 := (hb1.cell (p := ⟨w.heap.size, 1, none⟩) hlt).trans (cell_of_block HK.out (i := 1) rfl))
      go_ret
      exact ⟨ret_bool (by simp [h4]; omega), HB.out.trans (hb1.mono HB.out.size)⟩
end Go.Proofs.YtlmbgaconjcaiabGreat
