/- Joined: Contract: whether a clause is at hand by its first literal, whatever was asked before. Contract: a clause is put behind the others, whatever was asked before. Contract: a keeper does a step, whatever was asked and done before. Contract: where a proof ends, and how. Contracts: whether a proof is not too great; whether its clauses may be; where one ends that may not be. -/
import Derived.Test.YtlmbgaconjcaiabJhAll
import Derived.Test.YtlmbgaconjcaiabRiAll
import Derived.Test.YtlmbgaconjcaiabVFAll
set_option linter.unusedVariables false
set_option linter.unusedSimpArgs false
namespace Go.Proofs.Ytlmbgaconjcaiab
open Go.RowKit

section
variable {ρ ρ' : Nat → Rl} {A1 A2 A1' A2' : Nat → Bool} {w w' : World} {k B : Nat} {s t : PS} {x1 x2 x4 : Int} {sp N : Nat} {m1 m2 : Value}
theorem KM.ev (h : KM A1 A2 ρ w k B s x1 x2 x4 N m1 m2) (hK : KP ρ' w' k B t x1 x2 (s.cls.length : Int) x4 m1 m2) (hE : Ev ρ w ρ' w') (hq : t.cls.map key = s.cls.map key) : KM A1 A2 (fr ρ' w'.heap.size) w' k B t x1 x2 x4 N m1 m2 := by
  have hl : t.cls.length = s.cls.length := by simpa using congrArg List.length hq
  exact KM.of (by rw [hl]; exact hK) (h.mp.ev hE hq)
theorem Zf.grw {s t : PS} (h : Zf s) (hz : Z0 t) (hG : Grw s t []) : Zf t := by
  refine ⟨hz, lvs_ne hG ?_⟩
  rw [List.append_nil]
  intro e
  have q : s.dec.length = s.lvs.length := by simp [PS.dec]
  rw [e] at q
  exact h.2 (List.length_eq_zero_iff.1 q.symm)

/-- What byFirst leaves and tells. -/
def FirstG (A1 A2 : Nat → Bool) (ρ : Nat → Rl) (w : World) (k B : Nat) (s : PS) (x1 x2 : Int) (sp N : Nat) (m1 : Value) (c : List Int) (l : Int) (b : Bool) (w' : World) : Prop :=
  ∃ ρ' A2' u ds0 g ns, KM A1 A2' ρ' w' k B u x1 x2 sp (N + 41000001) m1 (.map (some g)) ∧ EvM k ρ A1 A2 w ρ' A1 A2' w' ∧ Grw s u ds0 ∧ (sp = 0 → ds0 = []) ∧ (sp ≠ 0 → (s.lvs = [] → ds0 = [(sp : Int)]) ∧ (s.lvs ≠ [] → ds0 = [])) ∧ (Z0 s → Z0 u) ∧ (∀ z, z ∈ ns ↔ z ∈ noteL s.cls 0 (fun _ => []) l) ∧ FirstB s ds0 c l ns b

set_option maxHeartbeats 4000000 in
set_option maxRecDepth 100000 in
theorem byFirst_any (hKM : KM A1 A2 ρ w k B s x1 x2 sp N m1 m2) (hN : N ≤ 2000000000) (hsp : sp ≤ s.vars) (hZ0 : Z0 s) (hcl : s.cls.length ≤ 10000) (a : Option Addr) (cap : Nat) (c : List Int) (har : Arg A1 A2 ρ w k a c) (hl : c.length ≤ 4096) (hc : ∀ x ∈ c, Lt s.vars x) (l0 : Int) (hl0 : c[0]? = some l0) :
    Calls Try.prog 26 #[.pointer (some ⟨k, 0, none⟩), .slice a c.length cap] w fun e w' => ∃ b, e = .returned (.bool b) ∧ FirstG A1 A2 ρ w k B s x1 x2 sp N m1 c (-l0) b w' := by
  have h := hKM.kp
  have h0 : sp ≠ 0 → s.lvs = [] → s.trail = [] := fun _ e => hZ0.nil e
  have hr := har.row
  have hak : ∀ b off, a = some ⟨b, off, none⟩ → c ≠ [] → b ≠ k ∧ A1 b = false ∧ A2 b = false := har.off
  have HKM := hide hKM
  have HZZ := hide hZ0
  clear hKM hZ0 har
  have hcpos : 0 < c.length := (List.getElem?_eq_some_iff.1 hl0).1
  have hc0 : c[0] = l0 := (List.getElem?_eq_some_iff.1 hl0).2
  have hlx := hc l0 (List.mem_of_getElem? hl0)
  have hVs := h.inv.sz.vars
  have ST := hide (settle_z h hsp h0)
  have HBR : Hid (∀ w1 ρ1 t1 ds0, KP ρ1 w1 k B t1 x1 x2 (s.cls.length : Int) sp m1 m2 → Ev ρ w ρ1 w1 → Grw s t1 ds0 → ∀ x, Below w1.heap.size w1 x → Calls Try.prog 39 #[.pointer (some ⟨k, 0, none⟩), .slice a c.length cap] x fun e w' => ∃ b, e = .returned (.bool b) ∧ BreaksZ ρ1 x k B t1 x1 x2 (s.cls.length : Int) sp m1 m2 c b w') := fun w1 ρ1 t1 ds0 hK hE hG x hx => breaks_z (hK.below hx) a cap c ((hr.ev hE).ev (Ev.below hx)) (by omega) (by rw [hG.vars]; exact hc)
  have p0 := cell_of_block h.blk (i := 0) rfl
  have hz0 : ((c.length : Int) == 0) = false := by
    simp
    rintro rfl
    simp at hcpos
  have HC := hide hc
  have HRW := hide hr
  have HKK := hide (lt_of_block h.blk)
  clear h hr hc hl0
  go_enter_defers Try.func26, Try.ntmps26
  go_wp2_with fail
  refine Calls.mono (unhide ST) ?_
  rintro e w1 ⟨rfl, ρ1, t1, ds0, hK1, hE1, hG1, hz1, hn1, hy1⟩
  have q0 := cell_of_block hK1.blk (i := 0) rfl
  have LV : Hid (∀ x, Below w1.heap.size w1 x → Calls Try.prog 38 #[.pointer (some ⟨B, 0, none⟩)] x fun e w' => e = .returned (.int .i64 t1.lvs.length) ∧ w' = x) := fun x hx => by
    obtain ⟨H, hR⟩ := hK1.rep
    exact propLevels_any (hR.below hx)
  have BR := hide (HBR.out w1 ρ1 t1 ds0 hK1 hE1 hG1)
  have HK1 := hide hK1
  have HE1 := hide hE1
  have HG1 := hide hG1
  have HZ1 := hide hz1
  have HN1 := hide hn1
  have HY1 : Hid (Z0 t1) := by
    by_cases e : sp = 0
    · show Z0 t1
      rw [(hz1 e).1]; exact HZZ.out
    · exact hy1 HZZ.out e
  have hln : t1.lvs.length ≤ 1048576 := by have q := lvs_len hK1.inv.tr; have q2 := trail_len hK1.inv.tr; have q3 := hK1.inv.sz.vars; omega
  clear ST HBR p0 hK1 hE1 hG1 hz1 hn1 hy1
  simp only
  generalize hNN : t1.lvs.length = NN at *
  have HNN := hide hNN
  clear hNN
  go_wp2_with fail
  go_region_held3 (fun q => q.cell? ⟨k, 0, none⟩ = some (.pointer (some ⟨B, 0, none⟩))) (first | assumption | go_keep) (first
    | (go_at_call 38; refine (LV.out _ (by first | exact Below.refl _ _ | exact (Below.refl _ _).drew)).mono ?_; rintro e w0 ⟨rfl, hw0⟩; subst w0))
  all_goals
    clear q0 LV
    go_wp2_with fail
    refine Calls.mono (BR.out _ (by first | exact Below.refl _ _ | exact (Below.refl _ _).drew)) ?_
    rintro e w2 ⟨b, rfl, ρ2, t2, ds, hK2, hE2, hG2, hd2, hT2, hy2⟩
    have HE12 : Hid (Ev ρ w ρ2 w2) := HE1.out.trans ((Ev.drew _ _).trans hE2)
    have HK2 := hide hK2
    have HG2 := hide hG2
    have HD2 := hide hd2
    have HT2 := hide hT2
    have HY2 : Hid (Zf t2) := hy2 HY1.out (.inr (by rintro rfl; simp at hcpos))
    clear hy2
    have hkey2 : t2.cls.map key = s.cls.map key := hG2.cl.trans HG1.out.cl
    have hlen2 : t2.cls.length = s.cls.length := by simpa using congrArg List.length hkey2
    have HKEY := hide hkey2
    have hKM2 : KM A1 A2 (fr ρ2 w2.heap.size) w2 k B t2 x1 x2 sp N m1 m2 := HKM.out.ev hK2 HE12.out hkey2
    have hWL := withLiteral_any hKM2 (by omega) (by omega) (-l0) (by unfold Lt at hlx; omega) (by unfold Lt at hlx; omega)
    have hns2 := noteL_key t2.cls s.cls 0 (fun _ => []) hkey2
    have WL : Hid (Calls Try.prog 40 #[.pointer (some ⟨k, 0, none⟩), .int .i64 (-l0)] w2 fun e w3 => ∃ ρ3 A2' g a3 cap3 ns, e = .returned (.slice a3 (List.length ns) cap3) ∧ ns.length ≤ maxLen ∧ Hid (RowO ρ3 w3.heap.size w3 a3 ns) ∧ Hid (KM A1 A2' ρ3 w3 k B t2 x1 x2 sp (N + 41000001) m1 (.map (some g))) ∧ Hid (EvM k ρ A1 A2 w ρ3 A1 A2' w3) ∧ Hid (Here t2 ns) ∧ Hid (∀ z, z ∈ ns ↔ z ∈ noteL s.cls 0 (fun _ => []) (-l0))) := by
      refine hWL.mono ?_
      rintro e w3 ⟨ρ3, A2', g, a3, cap3, ns, rfl, q1, q2, q3, q4, q5⟩
      have q6 : Here t2 ns := fun z hz => here_note t2 (-l0) z ((q1 z).1 hz)
      rw [hns2] at q1
      have hE0 : EvM k ρ A1 A2 w (fr ρ2 w2.heap.size) A1 A2 w2 := (HE12.out.evM).norm
      exact ⟨ρ3, A2', g, a3, cap3, ns, rfl, q2, q3, q4, hE0.trans q5, q6, q1⟩
    clear hns2 hKM2
    obtain ⟨bb, off, rfl, hbb0, hrole0, _, hcell0⟩ := HRW.out 0 hcpos
    have hcell := (World.cell?_of_block (a := ⟨bb, off + 0, none⟩) (HE12.out.keep bb hbb0 hrole0)).trans hcell0
    obtain ⟨hbk, hbA1, hbA2⟩ := hak bb off rfl (by rintro rfl; simp at hcpos)
    rw [hc0, Nat.add_zero] at hcell hcell0
    have hwr : IntKind.i64.wrap (-l0) = -l0 := by unfold Lt at hlx; exact wrap_neg (by omega) (by omega)
    have hlb : -1048576 ≤ l0 ∧ l0 ≤ 1048576 := by unfold Lt at hlx; omega
    obtain ⟨hlb1, hlb2⟩ := hlb
    have hci : (0 : Int) < c.length := by omega
    have HLX := hide hlx
    clear BR hK2 hE2 hG2 hd2 hT2 hkey2 hlx hWL
    simp only
    go_wp2_with (go_at_call 40; refine (unhide WL).mono ?_; rintro e w3 ⟨ρ3, A2', g, a3, cap3, ns, rfl, hnsl, HR3, HK3, HE3, HHERE, HNS⟩)
    unfold maxLen at hnsl
    have FIN : Hid (∀ (b' : Bool) (wr : World) (ρj : Nat → Rl) (uj : PS), KP ρj wr k B uj x1 x2 (s.cls.length : Int) sp m1 (.map (some g)) → Ev ρ3 w3 ρj wr → Grw t2 uj [] → Z0 uj → FirstB s ds0 c (-l0) ns b' → ∀ u : FrameMode, CallsD Try.prog 36 #[.pointer (some ⟨B, 0, none⟩), .int .i64 NN] u wr fun e u' w' => u' = u ∧ (e = .returned (.tuple #[]) ∧ FirstG A1 A2 ρ w k B s x1 x2 sp N m1 c (-l0) b' w')) := by
      intro b' wr ρj uj hK hE hG hZj hF u
      have hGt : Grw t1 uj ds := by have := HG2.out.trans hG; rw [List.append_nil] at this; exact this
      have hlen3 : t2.cls.length = s.cls.length := by simpa using congrArg List.length HKEY.out
      have hK' : KP ρj wr k B uj x1 x2 (t2.cls.length : Int) sp m1 (.map (some g)) := by rw [hlen3]; exact hK
      obtain ⟨H, hR⟩ := hK.rep
      by_cases hle : uj.lvs.length ≤ NN
      · refine (back_no_d hR (NN : Int) (by simpa using hle)).mono ?_
        rintro e u' w' ⟨rfl, rfl, rfl⟩
        have hds := hGt.same (by rw [HNN.out]; exact hle)
        subst hds
        have hGu := HG1.out.trans hGt
        rw [List.append_nil] at hGu
        exact ⟨rfl, rfl, _, A2', uj, ds0, g, ns, HK3.out.ev hK' hE hG.cl, HE3.out.trans (hE.evM).norm, hGu, fun e => (HZ1.out e).2, fun e => ⟨(HN1.out e).1, (HN1.out e).2.1⟩, fun _ => hZj, HNS.out, hF⟩
      · have hlt : NN < uj.lvs.length := by omega
        have hlv := List.getElem?_eq_getElem hlt
        refine (back_yes_d hR hK.inv (NN : Int) NN (by simp) _ hlv).mono ?_
        rintro e u' w' ⟨rfl, rfl, ρ4, H4, hR4, hE4⟩
        have hN := HNN.out
        have hK4 : KP ρ4 w' k B (uj.back NN uj.lvs[NN]) x1 x2 (t2.cls.length : Int) sp m1 (.map (some g)) := hK'.ev hR4 (back_inv hK.inv hlv) (hK.cnt.back _ _) (by rw [back_eq]; exact hK.lits) hE4
        have hGb : Grw t1 (uj.back NN uj.lvs[NN]) [] := by
          refine ⟨by rw [back_eq]; exact hGt.vars, by rw [back_eq]; exact hGt.cl, ?_⟩
          have hl : t1.dec.length = NN := by rw [← hN]; simp [PS.dec]
          rw [back_dec hK.inv hlv, hGt.dec, ← hl, List.take_left, List.append_nil]
        have hGu := HG1.out.trans hGb
        rw [List.append_nil] at hGu
        have hE5 := hE.trans hE4
        exact ⟨rfl, rfl, _, A2', _, ds0, g, ns, HK3.out.ev hK4 hE5 (by rw [back_eq]; exact hG.cl), HE3.out.trans (hE5.evM).norm, hGu, fun e => (HZ1.out e).2, fun e => ⟨(HN1.out e).1, (HN1.out e).2.1⟩, fun _ => hZj.back hlv, HNS.out, hF⟩
    have HCC := hide hcell0
    have HKP3 : Hid (KP ρ3 w3 k B t2 x1 x2 (s.cls.length : Int) sp m1 (.map (some g))) := by
      have hlen3 : t2.cls.length = s.cls.length := by simpa using congrArg List.length HKEY.out
      show KP _ _ _ _ _ _ _ _ _ _ _
      rw [← hlen3]; exact HK3.out.kp
    clear WL hcell hcell0
    go_loopw [35] (fun j wr => ∃ (i : Nat) (ρj : Nat → Rl) (uj : PS), i ≤ ns.length ∧ j = .int .i64 (i : Int) ∧ Hid (KP ρj wr k B uj x1 x2 (s.cls.length : Int) sp m1 (.map (some g))) ∧ Hid (Ev ρ3 w3 ρj wr) ∧ Hid (Grw t2 uj []) ∧ Hid (Z0 uj) ∧ Hid (∀ z ∈ ns.take i, FOne s ds0 c (-l0) z true)) (fun j _ => ns.length - (intOf j).toNat)
    case atStart => exact ⟨0, ρ3, t2, Nat.zero_le _, rfl, HKP3, Ev.refl _ _, Grw.refl _, HY2.out.1, by simp [Hid]⟩
    case round =>
      obtain ⟨i, ρj, uj, hi, rfl, HK, HE, HG, HZJ, HO⟩ := hrel
      by_cases hlt : i < ns.length
      · have hii : (i : Int) < ns.length := by omega
        obtain ⟨b3, off3, rfl, hb3, hcell3⟩ := ((HR3.out.ev HE.out).row) i hlt
        have HSN : Hid (ns.take (i + 1) = ns.take i ++ [ns[i]]) := List.take_succ_eq_append_getElem hlt
        have hmem := List.getElem_mem hlt
        obtain ⟨n, d0, en, hd0, hgone⟩ := HHERE.out ns[i] hmem
        have hkj : uj.cls.map key = s.cls.map key := HG.out.cl.trans HKEY.out
        obtain ⟨d, hd1, hd2, hd3⟩ := keys_get (HG.out.cl) (keys_at rfl hd0)
        simp only at hd2 hd3
        rw [hgone] at hd3
        have hkey : (s.cls.map key)[n]? = some (d.lits, false) := by rw [← hkj, List.getElem?_map, hd1]; simp [key, hd3]
        have hjl : uj.cls.length = s.cls.length := by simpa using congrArg List.length hkj
        have hnlt : n < s.cls.length := by have := (List.getElem?_eq_some_iff.1 hd1).1; omega
        have hdl := HK.out.lits d (List.mem_of_getElem? hd1)
        have hdx : ∀ x ∈ d.lits, Lt uj.vars x := HK.out.inv.wt.ok n d hd1
        have hvj : uj.vars = s.vars := by rw [HG.out.vars, HG2.out.vars, HG1.out.vars]
        have hRl : (wo d.lits (-l0)).length ≤ d.lits.length := by unfold wo; exact List.length_filter_le _ _
        have hlvj : sp ≠ 0 → uj.lvs ≠ [] := fun e => by
          have hGt : Grw t1 uj ds := by have := HG2.out.trans HG.out; rw [List.append_nil] at this; exact this
          refine lvs_ne hGt ?_
          intro e2
          have e3 : t1.dec = [] := (List.append_eq_nil_iff.1 e2).1
          have q : t1.dec.length = t1.lvs.length := by simp [PS.dec]
          rw [e3] at q
          exact (HN1.out e).2.2 (List.length_eq_zero_iff.1 q.symm)
        have hb3' : bb < w3.heap.size := Nat.lt_of_lt_of_le hbb0 HE3.out.size
        have cc0 : wr.cell? ⟨bb, off, none⟩ = some (.int .i64 l0) := by
          have e1 := HE3.out.keep bb hbb0 hbk hrole0 hbA1 hbA2
          have e2 := HE.out.keep bb hb3' ((HE3.out.agree bb hbb0).trans hrole0)
          exact (World.cell?_of_block (a := ⟨bb, off, none⟩) (e2.trans e1)).trans HCC.out
        have hbwr : bb < wr.heap.size := Nat.lt_of_lt_of_le hb3' HE.out.size
        have G47 : Hid (Calls Try.prog 41 #[.pointer (some ⟨B, 0, none⟩), .int .i64 (n : Int)] wr fun e w4 => ∃ a4 cap4, e = .returned (.tuple #[.slice a4 d.lits.length cap4, .bool true]) ∧ w4.cell? ⟨bb, off, none⟩ = some (.int .i64 l0) ∧ Calls Try.prog 42 #[.slice a4 d.lits.length cap4, .int .i64 (-l0)] w4 fun e w5 => ∃ a5 cap5, e = .returned (.slice a5 (wo d.lits (-l0)).length cap5) ∧ Hid (KP (fr ρj wr.heap.size) w5 k B uj x1 x2 (s.cls.length : Int) sp m1 (.map (some g)) ∧ Ev ρ3 w3 (fr ρj wr.heap.size) w5) ∧ Hid (Calls Try.prog 25 #[.pointer (some ⟨k, 0, none⟩), .slice a5 (wo d.lits (-l0)).length cap5] w5 fun e w6 => ∃ b6, e = .returned (.bool b6) ∧ UnitsZ (fr ρj wr.heap.size) w5 k B uj x1 x2 (s.cls.length : Int) sp m1 (.map (some g)) (wo d.lits (-l0)) b6 w6)) := by
          obtain ⟨H, hR⟩ := HK.out.rep
          refine (propClause_yes hR n d hd1 hd3 (by omega) (by omega)).mono ?_
          rintro e w4 ⟨v, rfl, ho4, hb4⟩
          obtain ⟨a4, cap4, rfl, hr4, _⟩ := ho4.row
          refine ⟨a4, cap4, rfl, (hb4.cell (p := ⟨bb, off, none⟩) hbwr).trans cc0, ?_⟩
          refine (without_any a4 cap4 d.lits (-l0) w4 hr4 (by omega)).mono ?_
          rintro e w5 ⟨v5, rfl, ho5, hnn5, hb5⟩
          obtain ⟨a5, cap5, rfl, hr5, _⟩ := ho5.row
          have hb45 : Below wr.heap.size wr w5 := hb4.trans (hb5.mono hb4.size)
          have hK5 := HK.out.fr hb45
          refine ⟨a5, cap5, rfl, ⟨hK5, HE.out.trans (Ev.fr (ρ := ρj) hb45)⟩, ?_⟩
          refine byUnits_z hK5 (by rw [hvj]; exact hsp) (fun e1 e2 => absurd e2 (hlvj e1)) a5 cap5 (wo d.lits (-l0)) (row_O hr5 (fun b o e hx => ?_)) (by omega) (fun x hx => hdx x (List.mem_filter.1 hx).1)
          subst e
          obtain ⟨g6, cap6, e6, _⟩ := own_some ho5 (List.length_pos_iff.2 hx)
          simp at e6
          obtain ⟨⟨rfl, rfl⟩, rfl⟩ := e6
          exact fr_new (Nat.le_trans hb4.size (World.ownsRow.lt ho5 b rfl).1)
        have G48 := G47.out
        rw [← en] at G48
        replace G48 := hide G48
        have p0 := cell_of_block HK.out.blk (i := 0) rfl
        have HEN := hide en
        have HKY := hide hkey
        have HMEM := hide hmem
        have hRb : (wo d.lits (-l0)).length ≤ 4096 := by omega
        clear G47 hd1 hd2 hd3 hkey hkj hdx hd0 hgone hmem en hRl hdl
        generalize hz : ns[i] = z at *
        generalize hRR : wo d.lits (-l0) = R at *
        have HRR := hide hRR
        clear hz hRR
        go_upto_region 11 with (first
          | (go_at_call 41; refine (unhide G48).mono ?_; rintro e w4 ⟨a4, cap4, rfl, c4, G5⟩; replace G5 := hide G5)
          | (go_at_call 42; refine (unhide G5).mono ?_; rintro e w5 ⟨a5, cap5, rfl, HK5, G27⟩))
        by_cases hbig : 4096 < c.length + R.length
        · have hbi : (4096 : Int) < (c.length : Int) + (R.length : Int) := by omega
          have HF := hide (FIN.out false w5 _ uj HK5.out.1 HK5.out.2 HG.out HZJ.out (.inr ⟨rfl, z, HMEM.out, n, d.lits, HEN.out, HKY.out, .inr ⟨rfl, .inl (by rw [HRR.out]; exact hbig)⟩⟩))
          clear G27
          go_wp2_with fail
          refine leaves_cons (f := 36) (args := #[.pointer (some ⟨B, 0, none⟩), .int .i64 NN]) (by simp) (by simp [go_sem]) ?_
          refine (HF.out .returning).mono ?_
          rintro e u' w7 ⟨rfl, rfl, hP⟩
          exact ⟨_, results_tmp rfl _ _ _, false, rfl, hP⟩
        · have hbi : ¬ (4096 : Int) < (c.length : Int) + (R.length : Int) := by omega
          cases b with
          | true =>
            have HO2 : Hid (∀ z ∈ ns.take (i + 1), FOne s ds0 c (-l0) z true) := by
              rw [HSN.out]
              intro y hy
              rcases List.mem_append.1 hy with hy | hy
              · exact HO.out y hy
              · obtain rfl : y = z := by simpa using hy
                refine ⟨n, d.lits, HEN.out, HKY.out, .inl ⟨rfl, by rw [HRR.out]; omega, ?_⟩⟩
                rw [HRR.out]
                exact ft_yes HK2.out.inv (HG1.out.trans HG2.out) HD2.out HT2.out
            clear G27
            go_wp2_with fail
            go_roundw
            case rel => exact ⟨i + 1, _, uj, by omega, by go_num, HK5.out.1, HK5.out.2, HG, HZJ, HO2⟩
            case measure => simp [intOf]; omega
          | false =>
            have G28 : Hid (Calls Try.prog 25 #[.pointer (some ⟨k, 0, none⟩), .slice a5 R.length cap5] w5 fun e w6 => ∃ b6, e = .returned (.bool b6) ∧ ∃ ρ6 u6, Hid (KP ρ6 w6 k B u6 x1 x2 (s.cls.length : Int) sp m1 (.map (some g))) ∧ Hid (Ev ρ3 w3 ρ6 w6) ∧ Hid (Grw t2 u6 []) ∧ Hid (Z0 u6) ∧ Hid (FOne s ds0 c (-l0) z b6)) := by
              refine (unhide G27).mono ?_
              rintro e w6 ⟨b6, rfl, ρ6, u6, dn, q1, q2, q3, q4, q5, qz, t, dr, q6, q7, q8, q9⟩
              have hdn : dn = [] := by
                by_cases hz : sp = 0
                · exact q4 hz
                · exact (q5 hz).2.1 (hlvj hz)
              subst hdn
              have hG6 := HG.out.trans q3
              have hGt := HG.out.trans q7
              rw [List.nil_append] at hG6 hGt
              refine ⟨b6, rfl, ρ6, u6, q1, HK5.out.2.trans q2, hG6, qz HZJ.out (.inr (.inl (HY2.out.grw HZJ.out HG.out).2)), n, d.lits, HEN.out, HKY.out, ?_⟩
              rw [HRR.out]
              have hft : FT s ds0 c R b6 := ft_both HK2.out.inv (HG1.out.trans HG2.out) HD2.out HT2.out q6 hGt (by simpa using q8) q9
              cases b6 with
              | true => exact .inl ⟨rfl, by omega, hft⟩
              | false => exact .inr ⟨rfl, .inr hft⟩
            clear G27
            go_wp2_with (go_at_call 25; refine (unhide G28).mono ?_; rintro e w6 ⟨b6, rfl, ρ6, u6, HK6, HE6, HG6, HZ6, HO6⟩; cases b6)
            · have HF := hide (FIN.out false w6 ρ6 u6 HK6.out HE6.out HG6.out HZ6.out (.inr ⟨rfl, z, HMEM.out, HO6.out⟩))
              refine leaves_cons (f := 36) (args := #[.pointer (some ⟨B, 0, none⟩), .int .i64 NN]) (by simp) (by simp [go_sem]) ?_
              refine (HF.out .returning).mono ?_
              rintro e u' w7 ⟨rfl, rfl, hP⟩
              exact ⟨_, results_tmp rfl _ _ _, false, rfl, hP⟩
            · have HO2 : Hid (∀ z ∈ ns.take (i + 1), FOne s ds0 c (-l0) z true) := by
                rw [HSN.out]
                intro y hy
                rcases List.mem_append.1 hy with hy | hy
                · exact HO.out y hy
                · obtain rfl : y = z := by simpa using hy
                  exact HO6.out
              go_roundw
              case rel => exact ⟨i + 1, ρ6, u6, by omega, by go_num, HK6, HE6, HG6, HZ6, HO2⟩
              case measure => simp [intOf]; omega
      · obtain rfl : i = ns.length := by omega
        have HF := hide (FIN.out true wr ρj uj HK.out HE.out HG.out HZJ.out (.inl ⟨rfl, by have := HO.out; rw [List.take_length] at this; exact this⟩))
        go_wp2_with fail
        refine leaves_cons (f := 36) (args := #[.pointer (some ⟨B, 0, none⟩), .int .i64 NN]) (by simp) (by simp [go_sem]) ?_
        refine (HF.out .returning).mono ?_
        rintro e u' w5 ⟨rfl, rfl, hP⟩
        exact ⟨_, results_tmp rfl _ _ _, true, rfl, hP⟩
end
end Go.Proofs.Ytlmbgaconjcaiab

namespace Go.Proofs.Ytlmbgaconjcaiab
open Go.RowKit

/-- A keeper whose map of literals is not told of. -/
structure KA (A1 A2 : Nat → Bool) (ρ : Nat → Rl) (w : World) (k B : Nat) (s : PS) (x1 x2 x4 : Int) (N : Nat) (m1 m2 : Value) : Prop where
  kp : KP ρ w k B s x1 x2 (s.cls.length : Int) x4 m1 m2
  alk : (m1 = .map none ∧ ∀ b, A1 b = false) ∨ ∃ g, m1 = .map (some g) ∧ Alk A1 w g N (alkL s.cls 0 (fun _ => []))
  d1 : ∀ b, A1 b = true → ρ b = oth ∧ b ≠ k ∧ A2 b = false ∧ b < w.heap.size
  d2 : ∀ b, A2 b = true → ρ b = oth ∧ b ≠ k ∧ b < w.heap.size
  fre : ∀ b, w.heap.size ≤ b → ρ b = oth

section
variable {k B g base : Nat} {ρ ρ' : Nat → Rl} {A1 A2 A1' A2' A' : Nat → Bool} {w w' : World} {s t : PS} {x1 x2 x4 : Int} {N M : Nat} {m1 m2 m3 : Value} {f : Int → List Int}
theorem KA.hav (h : KA A1 A2 ρ w k B s x1 x2 x4 N m1 (.map (some g))) (hN : NA A2 w w') (hG : Gro Try.prog 3 3 (rA A2 w.heap.size) w' g base M (litF f)) (hb : base ≤ w'.heap.size) (hkb : k < base) (hkg : k ≠ g) (hH : HavOk (s.cls.map key) f) (hM : N ≤ M) :
    KM A1 (newA A2 w.heap.size w'.heap.size) ρ w' k B s x1 x2 x4 M m1 (.map (some g)) ∧ EvM k ρ A1 A2 w ρ A1 (newA A2 w.heap.size w'.heap.size) w' := by
  have off : ∀ b, A1 b = true → A2 b = false := fun b hb => (h.d1 b hb).2.2.1
  obtain ⟨H, hR⟩ := h.kp.rep
  have hkA : A2 k = false := by
    cases e : A2 k with
    | false => rfl
    | true => exact absurd rfl (h.d2 k e).2.1
  refine ⟨⟨⟨⟨H, hR.off (fun b hb hr => hN.keep b hb ?_)⟩, (hN.keep k (lt_of_block h.kp.blk) hkA).trans h.kp.blk, h.kp.ro, h.kp.inv, h.kp.cnt, h.kp.lits⟩, ⟨?_, ?_, fun b hb => ?_, fun b hb => ?_⟩, fun b hb => h.fre b (Nat.le_trans hN.size hb)⟩, ?_⟩
  · cases e : A2 b with
    | false => rfl
    | true => exact absurd (h.d2 b e).1 hr
  · rcases h.alk with q | ⟨g', q1, q2⟩
    · exact .inl q
    · exact .inr ⟨g', q1, (q2.same (fun b hb => hN.keep b (q2.lt b hb) (off b hb)) hN.size).mono hM⟩
  · refine .inr ⟨g, base, f, rfl, ?_, hb, hkb, hkg, hH⟩
    rw [rA_newA hN.size]; exact hG
  · obtain ⟨h1, h2, h3, h4⟩ := h.d1 b hb
    refine ⟨h1, h2, ?_, Nat.lt_of_lt_of_le h4 hN.size⟩
    cases e : newA A2 w.heap.size w'.heap.size b with
    | false => rfl
    | true =>
      rcases newA_or e with e | e
      · rw [h3] at e; cases e
      · omega
  · have hk := lt_of_block h.kp.blk
    rcases newA_or hb with e | e
    · obtain ⟨h1, h2, h3⟩ := h.d2 b e
      exact ⟨h1, h2, Nat.lt_of_lt_of_le h3 hN.size⟩
    · exact ⟨h.fre b e.1, by omega, e.2⟩
  · refine ⟨hN.os, hN.tape, hN.output, hN.size, fun _ _ => rfl, fun _ _ e => e, fun b hb e => ?_, fun b hb _ _ _ e => hN.keep b hb e⟩
    cases e2 : newA A2 w.heap.size w'.heap.size b with
    | false => rfl
    | true =>
      rcases newA_or e2 with e3 | e3
      · rw [e] at e3; cases e3
      · omega
/-- The map of texts has turned. -/
theorem KA.note (hK : KP ρ w k B t x1 x2 (t.cls.length : Int) x4 (.map (some g)) m2) (hM : MH A' A2 ρ w k s N m2) (hfr : ∀ b, w.heap.size ≤ b → ρ b = oth) {F : List UInt8 → List Int} (hF : F = alkL t.cls 0 (fun _ => [])) (hP : NoteP A' w g M F w') :
    ∃ A1', KA A1' A2 ρ w' k B t x1 x2 x4 M (.map (some g)) m2 ∧ EvM k ρ A' A2 w ρ A1' A2 w' ∧ NA A' w w' ∧ MH A1' A2 ρ w' k s N m2 := by
  subst hF
  obtain ⟨A1', q1, q2, q3, q4⟩ := hP
  have hMH := hM.note hfr (lt_of_block hK.blk) q2 q4 q1.lt (t := s) rfl (Nat.le_refl N)
  have hkA : A' k = false := by
    cases e : A' k with
    | false => rfl
    | true => exact absurd rfl (hM.d1 k e).2.1
  obtain ⟨H, hR⟩ := hK.rep
  refine ⟨A1', ⟨⟨⟨H, hR.off (fun b hb hr => q2.keep b hb ?_)⟩, (q2.keep k (lt_of_block hK.blk) hkA).trans hK.blk, hK.ro, hK.inv, hK.cnt, hK.lits⟩, .inr ⟨g, rfl, q1⟩, hMH.d1, hMH.d2, fun b hb => hfr b (Nat.le_trans q2.size hb)⟩, q2.evM q4, q2, hMH⟩
  cases e : A' b with
  | false => rfl
  | true => exact absurd (hM.d1 b e).1 hr
end

theorem alkL_attach (s : PS) (c : List Int) : alkC (s.cls.length : Int) (alkL s.cls 0 (fun _ => [])) c = alkL (s.attach c).cls 0 (fun _ => []) := by
  have hk := (attach_cls s c).1
  have e : (s.attach c).cls.map key = (s.cls ++ [(⟨c, 0, 0, false⟩ : Cl)]).map key := by rw [hk]; simp [key]
  rw [alkL_key _ _ _ _ e, alkL_snoc]
  simp

/-- What add leaves. -/
def AddG (A1 A2 : Nat → Bool) (ρ : Nat → Rl) (w : World) (k B : Nat) (s : PS) (x1 : Nat) (x2 x4 : Int) (N : Nat) (m1 m2 : Value) (c : List Int) (e : Ending) (w' : World) : Prop :=
  e = .returned (.tuple #[]) ∧ ∃ ρ' A1' A2', KM A1' A2' ρ' w' k B (s.attach c) ((max x1 (gtN c) : Nat) : Int) (x2 + 1) x4 (N + 5000) m1 m2 ∧ EvM k ρ A1 A2 w ρ' A1' A2' w'

set_option maxHeartbeats 4000000 in
set_option maxRecDepth 100000 in
theorem add_any {A1 A2 : Nat → Bool} {ρ : Nat → Rl} {w : World} {k B : Nat} {s : PS} {x1 : Nat} {x2 x4 : Int} {N : Nat} {m1 m2 : Value} {a : Option Addr} (h : KM A1 A2 ρ w k B s x1 x2 x4 N m1 m2) (hN : N ≤ 2500000000) (cap : Nat) (c : List Int) (har : Arg A1 A2 ρ w k a c) (hl : c.length ≤ 4096) (hcap : a = none → cap = 0)
    (hyes : cnfB s.vars [c] = true) (hcl : s.cls.length ≤ 10000) (hx1 : x1 ≤ 1048576) (hx2 : 0 ≤ x2 ∧ x2 ≤ 262144) (hm : mayB c 1048576 = true) :
    Calls Try.prog 27 #[.pointer (some ⟨k, 0, none⟩), .slice a c.length cap] w (AddG A1 A2 ρ w k B s x1 x2 x4 N m1 m2 c) := by
  obtain ⟨H, hR⟩ := h.kp.rep
  have hc : ∀ x ∈ c, -1048576 ≤ x ∧ x ≤ 1048576 := fun x hx => (may_lits hm x hx).2
  have GA := hide (add_yes hR h.kp.inv (fun d hd => by have := h.kp.lits d hd; omega) (by omega) a cap c har.nf (by unfold maxLen; omega) hcap hyes)
  have e0 : w.cell? ⟨k, 0, none⟩ = some (.pointer (some ⟨B, 0, none⟩)) := cell_of_block h.kp.blk rfl
  obtain ⟨mo1, rfl⟩ : ∃ mo, m1 = .map mo := by
    rcases h.mp.alk with ⟨rfl, _⟩ | ⟨g, rfl, _⟩
    · exact ⟨_, rfl⟩
    · exact ⟨_, rfl⟩
  obtain ⟨mo2, rfl⟩ : ∃ mo, m2 = .map mo := by
    rcases h.mp.hav with ⟨rfl, _⟩ | ⟨g, _, _, rfl, _⟩
    · exact ⟨_, rfl⟩
    · exact ⟨_, rfl⟩
  have HKM := hide h
  have HA := hide har
  have HC := hide hc
  have hlts := (cnf_lt hyes c (by simp)).2
  have HLT := hide hlts
  have HMAY := hide hm
  clear hR h hc hyes hlts har hm
  go_enter Try.func27, Try.ntmps27
  go_upto_region 1 with (first | (go_at_call 43; refine (unhide GA).mono ?_; rintro e w1 ⟨rfl, ρ1, H1, hR1, hE1⟩))
  have hlits1 : ∀ d ∈ (s.attach c).cls, d.lits.length ≤ 4096 := by
    have hk := (attach_cls s c).1
    intro d hd
    have : key d ∈ (s.attach c).cls.map key := List.mem_map_of_mem hd
    rw [hk, List.mem_append] at this
    rcases this with h1 | h1
    · obtain ⟨d', hd', e⟩ := List.mem_map.1 h1
      have e9 : d'.lits = d.lits := congrArg Prod.fst e
      rw [← e9]; exact HKM.out.kp.lits d' hd'
    · simp at h1
      have e9 : d.lits = c := congrArg Prod.fst h1
      rw [e9]; exact hl
  have K1 := hide (HKM.out.kp.ev hR1 (attach_inv HKM.out.kp.inv HLT.out (by omega)) (HKM.out.kp.cnt.attach c) hlits1 hE1)
  have E1 := hide (hE1.evN k)
  have R1 := hide (HA.out.row.ev hE1).row
  clear hR1 hE1 hlits1 GA e0
  have c1 : w1.cell? ⟨k, 1, none⟩ = some (.int .i64 (x1 : Int)) := cell_of_block K1.out.blk rfl
  have z1 : w1.frozen? ⟨k, 1, none⟩ = false := frz_of_block K1.out.blk
  have GG : Hid (∀ m, Calls Try.prog 22 #[.slice a c.length cap] (w1.drewN m) fun e w' => e = .returned (.int .i64 (gtN c)) ∧ w' = w1.drewN m) := fun m => greatest_any a cap c (w1.drewN m) R1.out (by unfold maxLen; omega) HC.out
  have hmx := max2n x1 (gtN c)
  go_cut [] from 15 to 24 (fun wx => Hid (KP ρ1 wx k B (s.attach c) ((max x1 (gtN c) : Nat) : Int) x2 (s.cls.length : Int) x4 (.map mo1) (.map mo2)) ∧ Hid (EvN k ρ w ρ1 wx))
  case first =>
    go_region_with (first | (go_at_call 22; refine (unhide GG _).mono ?_; rintro e w0 ⟨rfl, hw0⟩; subst w0))
    all_goals
      go_wp2_with fail
      go_meet
      case rel => exact ⟨(K1.out.drewN 1).set rfl, (E1.out.drewN 1).setCell _⟩
  case rest =>
  obtain ⟨K2, E2⟩ := hcut
  clear K1 E1 R1 c1 z1 GG hmx HLT
  generalize hxm : ((max x1 (gtN c) : Nat) : Int) = xm at K2
  have HXM := hide hxm
  clear hxm
  have hlen : ((s.attach c).cls.length : Int) = (s.cls.length : Int) + 1 := by
    have := congrArg List.length (attach_cls s c).1
    simp at this
    omega
  have c2 : wc.cell? ⟨k, 2, none⟩ = some (.int .i64 x2) := cell_of_block K2.out.blk rfl
  have z2 : wc.frozen? ⟨k, 2, none⟩ = false := frz_of_block K2.out.blk
  have K3 : Hid (KP ρ1 (wc.setCell ⟨k, 2, none⟩ (.int .i64 (x2 + 1))) k B (s.attach c) xm (x2 + 1) (s.cls.length : Int) x4 (.map mo1) (.map mo2)) := K2.out.set rfl
  have E3 := hide (E2.out.setCell (i := 2) (.int .i64 (x2 + 1)))
  clear K2 E2
  obtain ⟨hx2a, hx2b⟩ := hx2
  go_upto_region 3 with fail
  refine forget (P := fun W => Code.wp Try.prog _ _ _ W) (fun W => Hid (KP ρ1 W k B (s.attach c) xm (x2 + 1) (s.cls.length : Int) x4 (.map mo1) (.map mo2)) ∧ Hid (EvN k ρ w ρ1 W)) ⟨K3, E3⟩ ?_
  rintro W4 ⟨K4, E4⟩
  clear K3 E3 c2 z2
  have c3 : W4.cell? ⟨k, 3, none⟩ = some (.int .i64 (s.cls.length : Int)) := cell_of_block K4.out.blk rfl
  have z3 : W4.frozen? ⟨k, 3, none⟩ = false := frz_of_block K4.out.blk
  have K5 : Hid (KP ρ1 (W4.setCell ⟨k, 3, none⟩ (.int .i64 ((s.cls.length : Int) + 1))) k B (s.attach c) xm (x2 + 1) ((s.cls.length : Int) + 1) x4 (.map mo1) (.map mo2)) := K4.out.set rfl
  have E5 := hide (E4.out.setCell (i := 3) (.int .i64 ((s.cls.length : Int) + 1)))
  clear K4 E4
  go_upto_region 4 with fail
  refine forget (P := fun W => Code.wp Try.prog _ _ _ W) (fun W => Hid (KP ρ1 W k B (s.attach c) xm (x2 + 1) ((s.cls.length : Int) + 1) x4 (.map mo1) (.map mo2)) ∧ Hid (EvN k ρ w ρ1 W)) ⟨K5, E5⟩ ?_
  rintro W6 ⟨K6, E6⟩
  clear K5 E5 c3 z3
  have HX : Hid (KP (fr ρ1 W6.heap.size) W6 k B (s.attach c) xm (x2 + 1) ((s.attach c).cls.length : Int) x4 (.map mo1) (.map mo2) ∧ EvM k ρ A1 A2 w (fr ρ1 W6.heap.size) A1 A2 W6 ∧ MH A1 A2 (fr ρ1 W6.heap.size) W6 k s N (.map mo2) ∧ (∀ g, .map mo1 = Value.map (some g) → Alk A1 W6 g N (alkL s.cls 0 (fun _ => [])))) := by
    have hEf : EvN k ρ w (fr ρ1 W6.heap.size) W6 := ⟨E6.out.os, E6.out.tape, E6.out.output, E6.out.size, fun b hb => (fr_old (Nat.lt_of_lt_of_le hb E6.out.size)).trans (E6.out.agree b hb), E6.out.keep⟩
    refine ⟨by rw [hlen]; exact K6.out.fr (Below.refl _ _), hEf.evM, HKM.out.mp.mh.step hEf (fun _ h => h), fun g e => ?_⟩
    rcases HKM.out.mp.alk with ⟨e2, _⟩ | ⟨g', e2, q⟩
    · rw [e2] at e; cases e
    · rw [e2] at e; cases e
      exact q.step (fun b hb => ⟨(HKM.out.mp.d1 b hb).1, (HKM.out.mp.d1 b hb).2.1⟩) hEf
  have HNIL : Hid (mo1 = none → ∀ b, A1 b = false) := by
    rintro rfl
    rcases HKM.out.mp.alk with ⟨_, q⟩ | ⟨g', e2, _⟩
    · exact q
    · cases e2
  have HARG := hide (HA.out.ev HX.out.2.1)
  clear HKM K6 E6
  have c5 : W6.cell? ⟨k, 5, none⟩ = some (.map mo1) := cell_of_block HX.out.1.blk rfl
  have q5 := run_neq_map_nil (P := Try.prog) W6 50 _ _ mo1 Try.underlying50
  go_upto_if 43 with fail
  go_cut [] from 44 to 47 (fun wx => ∃ A1', Hid (KA A1' A2 (fr ρ1 W6.heap.size) wx k B (s.attach c) xm (x2 + 1) x4 (N + 1) (.map mo1) (.map mo2)) ∧ Hid (EvM k ρ A1 A2 w (fr ρ1 W6.heap.size) A1' A2 wx) ∧ Hid (MH A1' A2 (fr ρ1 W6.heap.size) wx k s N (.map mo2)))
  case first =>
    cases mo1 with
    | none =>
      go_wp2_with fail
      go_meet
      case rel => exact ⟨A1, ⟨HX.out.1, .inl ⟨rfl, HNIL.out (by first | rfl | trivial)⟩, HX.out.2.2.1.d1, HX.out.2.2.1.d2, fun b hb => fr_new hb⟩, HX.out.2.1, HX.out.2.2.1⟩
    | some g =>
      have hA6 := HX.out.2.2.2 g rfl
      have hkA : A1 k = false := by
        cases e : A1 k with
        | false => rfl
        | true => exact absurd rfl (HX.out.2.2.1.d1 k e).2.1
      have NC := hide (noteAlike_x c5 hkA (lt_of_block HX.out.1.blk) hA6 s.cls.length (by omega) a cap c HARG.out.nf hl hcap (by omega) HMAY.out)
      clear hA6 hkA
      go_wp2_with (go_at_call 33; refine (unhide NC).mono ?_; rintro e w7 ⟨rfl, hP⟩)
      go_meet
      case rel =>
        obtain ⟨A1', r1, r2, r3, r4⟩ := KA.note HX.out.1 HX.out.2.2.1 (fun b hb => fr_new hb) (alkL_attach s c) hP
        exact ⟨A1', r1, HX.out.2.1.trans r2, r4⟩
  case rest =>
  obtain ⟨A1', K7, E7, M7⟩ := hcut
  clear c5 q5 HX HNIL HARG
  obtain ⟨W7, rfl⟩ : ∃ W, W = wc := ⟨_, rfl⟩
  have HARG := hide (HA.out.ev E7.out)
  have c6 : W7.cell? ⟨k, 6, none⟩ = some (.map mo2) := cell_of_block K7.out.kp.blk rfl
  have q6 := run_neq_map_nil (P := Try.prog) W7 51 _ _ mo2 Try.underlying51
  clear HA
  cases mo2 with
  | none =>
    have hA2 : ∀ b, A2 b = false := by
      rcases M7.out.hav with ⟨_, q⟩ | ⟨g, base, f, e, _⟩
      · exact q
      · cases e
    have HF : Hid (AddG A1 A2 ρ w k B s x1 x2 x4 N (.map mo1) (.map none) c (.returned (.tuple #[])) W7) := by
      refine ⟨rfl, _, A1', A2, ⟨by rw [HXM.out]; exact K7.out.kp, ⟨?_, .inl ⟨rfl, hA2⟩, K7.out.d1, K7.out.d2⟩, K7.out.fre⟩, E7.out⟩
      rcases K7.out.alk with q | ⟨g, q1, q2⟩
      · exact .inl q
      · exact .inr ⟨g, q1, q2.mono (by omega)⟩
    clear hA2 K7 E7 M7 HARG
    go_wp2
    go_end0
    exact HF.out
  | some g =>
    obtain ⟨base, f, hG, hbs, hkb, hkg, hH⟩ : ∃ base f, Gro Try.prog 3 3 (rA A2 W7.heap.size) W7 g base N (litF f) ∧ base ≤ W7.heap.size ∧ k < base ∧ k ≠ g ∧ HavOk (s.cls.map key) f := by
      rcases M7.out.hav with ⟨e, _⟩ | ⟨g', base, f, e, q⟩
      · cases e
      · cases e; exact ⟨base, f, q⟩
    have hrs : RowS base g (rA A2 W7.heap.size) W7 a c := by
      intro i hi
      obtain ⟨b, off, ea, hb, hro, _, hcell⟩ := HARG.out.row i hi
      obtain ⟨h1, h2, h3⟩ := HARG.out.off b off ea (by rintro rfl; simp at hi)
      exact ⟨b, off, ea, hb, .inl (rA_out hb h3), hcell⟩
    have NH := hide (noteHaving_any (ρ := rA A2 W7.heap.size) (w := W7) (k := k) (f := f) c6 hkb hkg (lt_of_block K7.out.kp.blk) hG (fun b hb => rA_new hb) hbs s.cls.length (by omega) a cap c hrs (by omega) (by omega) HC.out)
    have HF : Hid (∀ w8, Gro Try.prog 3 3 (rA A2 W7.heap.size) w8 g base (N + c.length) (litF (noteC (s.cls.length : Int) f c)) → NF base g (rA A2 W7.heap.size) W7 w8 → AddG A1 A2 ρ w k B s x1 x2 x4 N (.map mo1) (.map (some g)) c (.returned (.tuple #[])) w8) := by
      intro w8 hG8 hN8
      have hNA : NA A2 W7 w8 := ⟨hN8.os, hN8.tape, hN8.output, hN8.size, fun b hb hA => hN8.keep b hb (.inl (rA_out hb hA))⟩
      have hH8 : HavOk ((s.attach c).cls.map key) (noteC (s.cls.length : Int) f c) := by
        rw [(attach_cls s c).1]
        have := hH.add c
        rw [List.length_map] at this
        exact this
      obtain ⟨r1, r2⟩ := K7.out.hav (M := N + 5000) hNA (hG8.mono (by omega)) (Nat.le_trans hbs hN8.size) hkb hkg hH8 (by omega)
      exact ⟨rfl, _, A1', _, ⟨by rw [HXM.out]; exact r1.kp, r1.mp, r1.fre⟩, E7.out.trans r2⟩
    clear hG hrs hH K7 E7 M7 HARG HC
    go_wp2_with (go_at_call 44; refine (unhide NH).mono ?_; rintro e w8 ⟨rfl, hG8, hN8⟩)
    go_end0
    exact HF.out w8 hG8 hN8
end Go.Proofs.Ytlmbgaconjcaiab

namespace Go.Proofs.Ytlmbgaconjcaiab
open Go.RowKit

/-- A keeper between two steps: the formula that it keeps. -/
structure KS (A1 A2 : Nat → Bool) (ρ : Nat → Rl) (w : World) (k B : Nat) (s : PS) (V : Nat) (css : List (List Int)) (sp T0 N : Nat) (m1 m2 : Value) : Prop where
  km : KM A1 A2 ρ w k B s (V : Int) (css.length : Int) (sp : Int) N m1 m2
  z : Z0 s
  dec : ∀ x ∈ s.dec, sp ≠ 0 ∧ x = (sp : Int)
  live : liveL s.cls = css
  cnf : cnfB V css = true
  top : V ≤ T0 ∧ T0 ≤ s.vars ∧ sp ≤ s.vars ∧ (sp ≠ 0 → T0 < sp)

section
variable {k B V sp T0 N : Nat} {ρ ρ' : Nat → Rl} {A1 A2 A1' A2' : Nat → Bool} {w w' W W' : World} {s u t : PS} {css : List (List Int)} {c : List Int} {d : Bool} {m1 m2 : Value}

/-- What the step is. -/
structure StK (T0 : Nat) (d : Bool) (c : List Int) : Prop where
  may : mayB c 1048576 = true
  len : c.length ≤ 4096
  top : gtN c ≤ T0
theorem KS.vars (h : KS A1 A2 ρ w k B s V css sp T0 N m1 m2) : s.vars ≤ 1048576 := h.km.kp.inv.sz.vars
theorem StK.lt (h : StK T0 d c) (hT : T0 ≤ s.vars) : ∀ x ∈ c, Lt s.vars x := fun x hx => by
  have h1 := may_lits h.may x hx
  have h2 := le_gtN x hx
  have h3 := h.top
  unfold Lt; omega
theorem StK.cnf (h : StK T0 d c) (hT : T0 ≤ s.vars) (hv : s.vars ≤ 1048576) : cnfB s.vars [c] = true := by
  have hlt := h.lt hT
  unfold cnfB
  simp only [Bool.and_eq_true, decide_eq_true_eq, List.all_cons, List.all_nil, and_true]
  refine ⟨⟨by omega, by omega, by simp⟩, mayB_of h.len ?_⟩
  rw [List.all_eq_true]
  intro x hx
  have := hlt x hx
  unfold Lt at this
  exact litB_true.2 ⟨this.1, by omega, by omega⟩
/-- The spare variable is in no clause. -/
theorem KS.far (h : KS A1 A2 ρ w k B s V css sp T0 N m1 m2) : ∀ d ∈ css, ∀ x ∈ d, x ≠ 0 ∧ (sp ≠ 0 → x ≠ (sp : Int) ∧ -x ≠ (sp : Int)) := by
  intro d hd x hx
  have h1 := (cnf_lt h.cnf d hd).2 x hx
  obtain ⟨t1, t2, t3, t4⟩ := h.top
  unfold Lt at h1
  refine ⟨h1.1, fun hz => ?_⟩
  have := t4 hz
  omega
theorem KS.farC (h : KS A1 A2 ρ w k B s V css sp T0 N m1 m2) (hs : StK T0 d c) : ∀ x ∈ c, x ≠ 0 ∧ (sp ≠ 0 → x ≠ (sp : Int)) := by
  intro x hx
  have h1 := may_lits hs.may x hx
  have h2 := le_gtN x hx
  have h3 := hs.top
  obtain ⟨t1, t2, t3, t4⟩ := h.top
  refine ⟨h1.1, fun hz => ?_⟩
  have := t4 hz
  omega
theorem cnf_snoc {T0 : Nat} (h : cnfB V css = true) (hs : StK T0 d c) (hl : css.length ≤ 1000) (hT : T0 ≤ 1048576) : cnfB (max V (gtN c) : Nat) (css ++ [c]) = true := by
  have h1 := h
  have ht := hs.top
  unfold cnfB at h1
  simp only [Bool.and_eq_true, decide_eq_true_eq, List.all_eq_true] at h1
  refine cnfB_yes ⟨by omega, by omega, by simp; omega⟩ ?_
  rw [List.all_eq_true]
  intro e he
  rcases List.mem_append.1 he with he | he
  · have := cnf_up h (V' := max V (gtN c)) (by omega) (by omega)
    unfold cnfB at this
    simp only [Bool.and_eq_true, List.all_eq_true] at this
    exact this.2 e he
  · obtain rfl : e = c := by simpa using he
    refine mayB_of hs.len ?_
    rw [List.all_eq_true]
    intro x hx
    have q1 := may_lits hs.may x hx
    have q2 := le_gtN x hx
    exact litB_true.2 ⟨q1.1, by omega, by omega⟩
theorem remO_sub (c : List Int) : ∀ css : List (List Int), ∀ d ∈ remO css c, d ∈ css
  | [], d, h => by simp [remO] at h
  | e :: r, d, h => by
    unfold remO at h
    split at h
    · exact List.mem_cons_of_mem _ h
    · rcases List.mem_cons.1 h with h | h
      · rw [h]; exact List.mem_cons_self
      · exact List.mem_cons_of_mem _ (remO_sub c r d h)
theorem remO_le (c : List Int) : ∀ css : List (List Int), (remO css c).length ≤ css.length
  | [] => Nat.le_refl _
  | d :: r => by
    unfold remO
    split
    · simp
    · simp [remO_le c r]
theorem cnf_rem (h : cnfB V css = true) (c : List Int) : cnfB V (remO css c) = true := by
  have h1 := h
  unfold cnfB at h1
  simp only [Bool.and_eq_true, decide_eq_true_eq, List.all_eq_true] at h1
  have hl := remO_le c css
  refine cnfB_yes ⟨by omega, by omega, by omega⟩ ?_
  rw [List.all_eq_true]
  intro e he
  exact h1.2 e (remO_sub c css e he)

/-- What a step leaves. -/
def StepP (A1 A2 : Nat → Bool) (ρ : Nat → Rl) (w : World) (k B : Nat) (s : PS) (V : Nat) (css : List (List Int)) (sp T0 N : Nat) (d : Bool) (c : List Int) (w' : World) : Prop :=
  ∃ ρ' A1' A2', EvM k ρ A1 A2 w ρ' A1' A2' w' ∧ (docE css d c = 0 → ∃ s' m1' m2', s'.cls.length ≤ s.cls.length + 1 ∧ s'.vars = s.vars ∧ (¬(d = false ∧ c = []) → KS A1' A2' ρ' w' k B s' (docX V css d c) (docC css d c) sp T0 (N + 50000000) m1' m2'))

theorem KM.box {x1 x2 x4 : Int} (h : KM A1 A2 ρ w k B s x1 x2 x4 N m1 m2) : ρ w.heap.size = oth ∧ A1 w.heap.size = false ∧ A2 w.heap.size = false ∧ w.heap.size ≠ k := by
  refine ⟨h.fre _ (Nat.le_refl _), ?_, ?_, ?_⟩
  · cases e : A1 w.heap.size with
    | false => rfl
    | true => have := (h.mp.d1 _ e).2.2.2; omega
  · cases e : A2 w.heap.size with
    | false => rfl
    | true => have := (h.mp.d2 _ e).2.2; omega
  · have := lt_of_block h.kp.blk; omega
theorem EvM.box {X : Nat} {o : Obj} (h : EvM k ρ A1 A2 W ρ' A1' A2' w') (hX : W.heap[X]? = some o) (hk : X ≠ k) (hr : ρ X = oth) (h1 : A1 X = false) (h2 : A2 X = false) : w'.heap[X]? = some o ∧ ρ' X = oth ∧ A1' X = false ∧ A2' X = false :=
  ⟨(h.keep X (lt_of_block hX) hk hr h1 h2).trans hX, (h.agree X (lt_of_block hX)).trans hr, h.a1 X (lt_of_block hX) h1, h.a2 X (lt_of_block hX) h2⟩

set_option maxHeartbeats 4000000 in
set_option maxRecDepth 100000 in
theorem do_delG (h : KS A1 A2 ρ w k B s V css sp T0 N m1 m2) (hN : N ≤ 1900000000) (hcl : s.cls.length ≤ 1000) (a : Option Addr) (cap : Nat) (c : List Int) (hs : StK T0 true c) (har : Arg A1 A2 ρ w k a c) (hcap : a = none → cap = 0) :
    Calls Try.prog 15 #[.pointer (some ⟨k, 0, none⟩), .agg #[.bool true, .slice a c.length cap]] w fun e w' => e = .returned (.int .i64 (docE css true c)) ∧ StepP A1 A2 ρ w k B s V css sp T0 N true c w' := by
  have hb0 : Below w.heap.size w (w.alloc (.cells #[.bool true, .slice a c.length cap] 37)) := below_alloc w _
  have hE0 : EvM k ρ A1 A2 w ρ A1 A2 (w.alloc (.cells #[.bool true, .slice a c.length cap] 37)) := (EvM.refl k ρ A1 A2 w).quiet hb0
  have hlen : css.length ≤ 1000 := by have := liveL_len s.cls; rw [h.live] at this; omega
  have RM : Hid (Calls Try.prog 24 #[.pointer (some ⟨k, 0, none⟩), .slice a c.length cap] (w.alloc (.cells #[.bool true, .slice a c.length cap] 37)) fun e w' => e = .returned (.tuple #[]) ∧ Hid (StepP A1 A2 ρ w k B s V css sp T0 N true c w')) := by
    refine (remove_any (h.km.quiet hb0) (by omega) (by omega) h.z a cap c (har.ev hE0) hs.len hcap hs.may ⟨by omega, by omega⟩).mono ?_
    rintro e w' ⟨rfl, ρ', A1', s', x2', g, q1, q2, q3⟩
    refine ⟨rfl, ρ', A1', A2, hE0.trans q1, fun _ => ⟨s', .map (some g), m2, by rw [q3.len]; omega, q3.vars, fun _ => ?_⟩⟩
    have hlive : liveL s'.cls = docC css true c := by
      rw [q3.live, h.live, rem_doc hs.may css (cnf_may h.cnf)]; rfl
    have hx2 : x2' = ((docC css true c).length : Int) := by
      rw [← hlive]
      rcases q3 with ⟨_, rfl, rfl⟩ | ⟨i, dd, q, h1, h2, h3, h4, rfl, h6⟩
      · rw [h.live]
      · have e : s'.cls = s.cls.set i { dd with gone := true, lits := [] } := by
          rcases h6 with rfl | ⟨lv, _, rfl⟩
          · exact drop_cls s i dd
          · rw [drop_cls, back_eq]
        have hcnt := countP_set (fun c : Cl => !c.gone) s.cls i dd { dd with gone := true, lits := [] } h2
        have e1 : ∀ l : List Cl, (liveL l).length = l.countP (fun c => !c.gone) := fun l => by unfold liveL; rw [List.length_map, List.countP_eq_length_filter]
        rw [e, e1, ← h.live, e1]
        simp [h3] at hcnt
        omega
    refine ⟨⟨?_, q2.mp.mono (by omega), q2.fre⟩, q3.z h.z, fun x hx => ?_, hlive, cnf_rem h.cnf c, by rw [q3.vars]; exact h.top⟩
    · rw [← hx2]; exact q2.kp
    · rcases q3.dec h.z with e | e
      · rw [e] at hx; exact h.dec x hx
      · rw [e] at hx; simp at hx
  have HE : Hid (docE css true c = 0) := rfl
  clear h hs har hb0 hE0 hN
  go_enter Try.func15, Try.ntmps15
  go_wp2_with (go_at_call 24; refine (unhide RM).mono ?_; rintro e w2 ⟨rfl, hD⟩)
  go_ret
  exact ⟨by rw [HE.out]; rfl, hD.out⟩

theorem live_attach (u : PS) (c : List Int) : liveL (u.attach c).cls = liveL u.cls ++ [c] := by
  have hk := (attach_cls u c).1
  have e : (u.attach c).cls.map key = (u.cls ++ [(⟨c, 0, 0, false⟩ : Cl)]).map key := by rw [hk]; simp [key]
  rw [liveL_key _ _ e, liveL_snoc]
  simp

theorem step_add {ρ2 : Nat → Rl} {m1' m2' : Value} {M : Nat} (h : KS A1 A2 ρ w k B s V css sp T0 N m1 m2) (hN : N ≤ 1900000000) (hcl : s.cls.length ≤ 1000) (hs : StK T0 false c) (hE : EvM k ρ A1 A2 w ρ2 A1' A2' W) (hK : KM A1' A2' ρ2 W k B u (V : Int) (css.length : Int) (sp : Int) M m1' m2') (hM : M ≤ N + 41000001) (hz : c ≠ [] → Z0 u) (hd : ∀ x ∈ u.dec, sp ≠ 0 ∧ x = (sp : Int)) (hG : u.cls.map key = s.cls.map key) (hv : u.vars = s.vars)
    (a : Option Addr) (cap : Nat) (har : Arg A1' A2' ρ2 W k a c) (hcap : a = none → cap = 0) (href : (refU css c || refF css c) = true) :
    Calls Try.prog 27 #[.pointer (some ⟨k, 0, none⟩), .slice a c.length cap] W fun e w' => e = .returned (.tuple #[]) ∧ StepP A1 A2 ρ w k B s V css sp T0 N false c w' := by
  obtain ⟨t1, t2, t3, t4⟩ := h.top
  have hvs := h.vars
  have hul : u.cls.length = s.cls.length := by simpa using congrArg List.length hG
  have hlen : css.length ≤ 1000 := by have := liveL_len s.cls; rw [h.live] at this; omega
  refine (add_any hK (by omega) cap c har hs.len hcap (by rw [hv]; exact hs.cnf t2 hvs) (by omega) (by omega) ⟨by omega, by omega⟩ hs.may).mono ?_
  rintro e w' ⟨rfl, ρ', A1'', A2'', q1, q2⟩
  obtain ⟨a1, a2, a3, a4, _⟩ := attach_cls u c
  have hal : (u.attach c).cls.length = u.cls.length + 1 := by simpa using congrArg List.length a1
  have e1 : docX V css false c = max V (gtN c) := by simp [docX, href]
  have e2 : docC css false c = css ++ [c] := by simp [docC, href]
  have hlu : liveL u.cls = css := by rw [liveL_key _ _ hG]; exact h.live
  refine ⟨rfl, ρ', A1'', A2'', hE.trans q2, fun _ => ⟨u.attach c, m1', m2', by omega, by rw [a2, hv], fun hne => ?_⟩⟩
  have hc : c ≠ [] := fun e => hne ⟨rfl, e⟩
  have hst : (u.attach c).lvs.map Lv.start = u.lvs.map Lv.start := by rw [a4]
  rw [e1, e2]
  refine ⟨⟨?_, q1.mp.mono (by omega), q1.fre⟩, (hz hc).start a3 hst, by rw [start_dec a3 hst]; exact hd, by rw [live_attach, hlu], cnf_snoc h.cnf hs hlen (by omega), ?_⟩
  · have := q1.kp
    rw [List.length_append, List.length_singleton]
    exact this
  · have := hs.top
    rw [a2, hv]
    exact ⟨by omega, t2, t3, t4⟩

set_option maxHeartbeats 4000000 in
set_option maxRecDepth 100000 in
theorem do_addG (h : KS A1 A2 ρ w k B s V css sp T0 N m1 m2) (hN : N ≤ 1900000000) (hcl : s.cls.length ≤ 1000) (a : Option Addr) (cap : Nat) (c : List Int) (hs : StK T0 false c) (har : Arg A1 A2 ρ w k a c) (hcap : a = none → cap = 0) :
    Calls Try.prog 15 #[.pointer (some ⟨k, 0, none⟩), .agg #[.bool false, .slice a c.length cap]] w fun e w' => e = .returned (.int .i64 (docE css false c)) ∧ StepP A1 A2 ρ w k B s V css sp T0 N false c w' := by
  obtain ⟨t1, t2, t3, t4⟩ := h.top
  have hvs := h.vars
  have hb0 : Below w.heap.size w (w.alloc (.cells #[.bool false, .slice a c.length cap] 37)) := below_alloc w _
  have hE0 : EvM k ρ A1 A2 w ρ A1 A2 (w.alloc (.cells #[.bool false, .slice a c.length cap] 37)) := (EvM.refl k ρ A1 A2 w).quiet hb0
  have hlen : css.length ≤ 1000 := by have := liveL_len s.cls; rw [h.live] at this; omega
  have hbx : (w.alloc (.cells #[.bool false, .slice a c.length cap] 37)).heap[w.heap.size]? = some (.cells #[.bool false, .slice a c.length cap] 37 (0, 0)) := heap_alloc_new w _
  obtain ⟨x1, x2, x3, x4⟩ := h.km.box
  have hK0 := h.km.quiet hb0
  have hlt := hs.lt t2
  have NU : Hid (Calls Try.prog 25 #[.pointer (some ⟨k, 0, none⟩), .slice a c.length cap] (w.alloc (.cells #[.bool false, .slice a c.length cap] 37)) fun e w2 => ∃ b, e = .returned (.bool b) ∧ w2.cell? ⟨w.heap.size, 1, none⟩ = some (.slice a c.length cap) ∧
      ((b = true ∧ Hid (docE css false c = 0) ∧ Hid (Calls Try.prog 27 #[.pointer (some ⟨k, 0, none⟩), .slice a c.length cap] w2 fun e w' => e = .returned (.tuple #[]) ∧ Hid (StepP A1 A2 ρ w k B s V css sp T0 N false c w'))) ∨
       (b = false ∧ Hid (Calls Try.prog 26 #[.pointer (some ⟨k, 0, none⟩), .slice a c.length cap] w2 fun e w3 => ∃ b, e = .returned (.bool b) ∧ w3.cell? ⟨w.heap.size, 1, none⟩ = some (.slice a c.length cap) ∧
         ((b = false ∧ Hid (docE css false c = 7 ∧ StepP A1 A2 ρ w k B s V css sp T0 N false c w3)) ∨ (b = true ∧ Hid (docE css false c = 0) ∧ Hid (Calls Try.prog 27 #[.pointer (some ⟨k, 0, none⟩), .slice a c.length cap] w3 fun e w' => e = .returned (.tuple #[]) ∧ Hid (StepP A1 A2 ρ w k B s V css sp T0 N false c w')))))))) := by
    refine (byUnits_z hK0.kp t3 (fun _ e => h.z.nil e) a cap c (har.ev hE0).row (by have := hs.len; omega) hlt).mono ?_
    rintro e w2 ⟨b, rfl, ρ2, u, ds0, hK, hE, hG, q0, q1, qz, t, ds, hI, hGt, hds, hT⟩
    have hd0 : ∀ x ∈ s.dec ++ ds0, sp ≠ 0 ∧ x = (sp : Int) := by
      intro x hx
      rcases List.mem_append.1 hx with hx | hx
      · exact h.dec x hx
      · by_cases hz : sp = 0
        · rw [q0 hz] at hx; simp at hx
        · by_cases hl : s.lvs = []
          · rw [(q1 hz).1 hl] at hx; exact ⟨hz, by simpa using hx⟩
          · rw [(q1 hz).2.1 hl] at hx; simp at hx
    have hU : refU css c = b := tell_ref hI hGt h.live hd0 hds hT (by omega) (fun d hd x hx => ⟨(h.far d hd x hx).1, fun hz => ((h.far d hd x hx).2 hz).2⟩) (h.farC hs)
    have hKu := hK0.ev hK hE hG.cl
    have hEu : EvM k ρ A1 A2 w (fr ρ2 w2.heap.size) A1 A2 w2 := hE0.trans (hE.evM).norm
    have hud : ∀ x ∈ u.dec, sp ≠ 0 ∧ x = (sp : Int) := by rw [hG.dec]; exact hd0
    have huz : c ≠ [] → Z0 u := fun hc => qz h.z (.inr (.inr hc))
    obtain ⟨b1, b2, b3, b4⟩ := ((hE.evM (k := k) (A1 := A1) (A2 := A2)).norm).box hbx x4 x1 x2 x3
    refine ⟨b, rfl, cell_of_block b1 rfl, ?_⟩
    cases b with
    | true =>
      refine .inl ⟨rfl, by show _ = _; simp [docE, hU], ?_⟩
      exact step_add h hN hcl hs hEu hKu (by omega) huz hud hG.cl hG.vars a cap (har.ev hEu) hcap (by simp [hU])
    | false =>
      refine .inr ⟨rfl, ?_⟩
      cases hcc : c with
      | nil =>
        rw [← hcc]
        have hl0 : c.length = 0 := by rw [hcc]; rfl
        have hF : refF css c = false := by rw [hcc]; rfl
        rw [hl0]
        refine (byFirst_nil w2 k a cap).mono ?_
        rintro e w3 ⟨rfl, rfl⟩
        have hE7 : docE css false c = 7 := by simp [docE, hU, hF]
        exact ⟨false, rfl, by have := cell_of_block b1 (i := 1) rfl; rw [hl0] at this; exact this, .inl ⟨rfl, hE7, _, _, _, hEu, fun e => by rw [hE7] at e; cases e⟩⟩
      | cons l0 r =>
        rw [← hcc]
        have hl0 : c[0]? = some l0 := by rw [hcc]; rfl
        have hcne : c ≠ [] := by rw [hcc]; simp
        have hlive : liveL u.cls = css := by rw [liveL_key _ _ hG.cl]; exact h.live
        have hul : u.cls.length = s.cls.length := by simpa using congrArg List.length hG.cl
        refine (byFirst_any hKu (by omega) (by rw [hG.vars]; exact t3) (huz hcne) (by omega) a cap c (har.ev hEu) hs.len (by rw [hG.vars]; exact hlt) l0 hl0).mono ?_
        rintro e w3 ⟨b', rfl, ρ3, A2', u3, ds3, g, ns, r1, r2, r3, r4, r5, r6, r7, r8⟩
        have hd3 : ∀ x ∈ u.dec ++ ds3, sp ≠ 0 ∧ x = (sp : Int) := by
          intro x hx
          rcases List.mem_append.1 hx with hx | hx
          · exact hud x hx
          · by_cases hz : sp = 0
            · rw [r4 hz] at hx; simp at hx
            · by_cases hl : u.lvs = []
              · rw [(r5 hz).1 hl] at hx; exact ⟨hz, by simpa using hx⟩
              · rw [(r5 hz).2 hl] at hx; simp at hx
        have hF : refF css c = b' := tellF_ref r8 hl0 r7 hlive hd3 (by omega) h.far (h.farC hs)
        have hE3 := hEu.trans r2
        obtain ⟨d1, _, _, _⟩ := r2.box b1 x4 b2 b3 b4
        refine ⟨b', rfl, cell_of_block d1 rfl, ?_⟩
        cases b' with
        | false =>
          have hE7 : docE css false c = 7 := by simp [docE, hU, hF]
          exact .inl ⟨rfl, hE7, _, _, _, hE3, fun e => by rw [hE7] at e; cases e⟩
        | true =>
          refine .inr ⟨rfl, by show _ = _; simp [docE, hF], ?_⟩
          exact step_add h hN hcl hs hE3 r1 (Nat.le_refl _) (fun hc => r6 (huz hc)) (by rw [r3.dec]; exact hd3) (r3.cl.trans hG.cl) (r3.vars.trans hG.vars) a cap (har.ev hE3) hcap (by simp [hF])
  have c2 : (w.alloc (.cells #[.bool false, .slice a c.length cap] 37)).cell? ⟨k, 2, none⟩ = some (.int .i64 (css.length : Int)) := cell_of_block hK0.kp.blk rfl
  have hne : ((css.length : Int) == 262144) = false := by simp; omega
  clear h hs har hb0 hE0 hK0 hbx hlt x1 x2 x3 x4 t1 t2 t3 t4
  go_enter Try.func15, Try.ntmps15
  go_wp2_with (go_at_call 25; refine (unhide NU).mono ?_; rintro e w2 ⟨b, rfl, cb2, ⟨rfl, E0, AD⟩ | ⟨rfl, FI⟩⟩)
  · refine (unhide AD).mono ?_
    rintro e w3 ⟨rfl, hD⟩
    go_wp2
    go_ret
    exact ⟨by rw [E0.out]; rfl, hD.out⟩
  · refine (unhide FI).mono ?_
    rintro e w3 ⟨b, rfl, cb3, ⟨rfl, hD⟩ | ⟨rfl, E0, AD⟩⟩
    · go_wp2
      go_ret
      exact ⟨by rw [hD.out.1]; rfl, hD.out.2⟩
    · go_wp2_with (go_at_call 27; refine (unhide AD).mono ?_; rintro e w4 ⟨rfl, hD⟩)
      go_ret
      exact ⟨by rw [E0.out]; rfl, hD.out⟩
end
end Go.Proofs.Ytlmbgaconjcaiab

namespace Go.Proofs.Ytlmbgaconjcaiab
open Go.RowKit

section
variable {k B V sp T0 N : Nat} {ρ ρ' : Nat → Rl} {A1 A2 A1' A2' : Nat → Bool} {w w' W W' : World} {s u t : PS} {css : List (List Int)} {c : List Int} {d : Bool} {m1 m2 : Value}
theorem KS.quiet (h : KS A1 A2 ρ w k B s V css sp T0 N m1 m2) (hb : Below w.heap.size w w') : KS A1 A2 ρ w' k B s V css sp T0 N m1 m2 :=
  ⟨h.km.quiet hb, h.z, h.dec, h.live, h.cnf, h.top⟩
theorem do_any (h : KS A1 A2 ρ w k B s V css sp T0 N m1 m2) (hN : N ≤ 1900000000) (hcl : s.cls.length ≤ 1000) (a : Option Addr) (cap : Nat) (c : List Int) (hs : StK T0 d c) (har : Arg A1 A2 ρ w k a c) (hcap : a = none → cap = 0) :
    Calls Try.prog 15 #[.pointer (some ⟨k, 0, none⟩), .agg #[.bool d, .slice a c.length cap]] w fun e w' => e = .returned (.int .i64 (docE css d c)) ∧ StepP A1 A2 ρ w k B s V css sp T0 N d c w' := by
  cases d with
  | true => exact do_delG h hN hcl a cap c hs har hcap
  | false => exact do_addG h hN hcl a cap c hs har hcap
end

/-- No block. -/
def nA : Nat → Bool := fun _ => false
theorem evm_below {k : Nat} {w w' : World} {ρ : Nat → Rl} {A1 A2 : Nat → Bool} (h : EvM k free nA nA w ρ A1 A2 w') (hk : w.heap.size ≤ k) : Below w.heap.size w w' :=
  ⟨h.os, h.tape, h.output, h.size, fun b hb => h.keep b hb (by omega) rfl rfl rfl⟩
theorem evm_arg {k : Nat} {w w' : World} {ρ : Nat → Rl} {A1 A2 : Nat → Bool} {a : Option Addr} {c : List Int} (h : EvM k free nA nA w ρ A1 A2 w') (hk : w.heap.size ≤ k) (hr : Row w a c) : Arg A1 A2 ρ w' k a c := by
  refine ⟨fun i hi => ?_, fun b o e hne => ?_⟩
  · obtain ⟨b, off, e, hb, hc⟩ := hr i hi
    exact ⟨b, off, e, Nat.lt_of_lt_of_le hb h.size, h.agree b hb, .inl (Nat.lt_of_lt_of_le hb h.size), (World.cell?_of_block (a := ⟨b, off + i, none⟩) (h.keep b hb (by omega) rfl rfl rfl)).trans hc⟩
  · obtain ⟨b', off, e', hb, _⟩ := hr 0 (List.length_pos_iff.2 hne)
    rw [e] at e'
    cases e'
    exact ⟨by omega, h.a1 b hb rfl, h.a2 b hb rfl⟩
theorem docE_cases (css : List (List Int)) (d : Bool) (c : List Int) : docE css d c = 0 ∨ docE css d c = 7 := by
  unfold docE
  split
  · exact .inl rfl
  · split
    · exact .inl rfl
    · exact .inr rfl
theorem StAt.below {w w' : World} {b off i : Nat} {x : StD} {ai : Option Addr} {ci : Nat} (h : StAt w b off i x ai ci) (hb : Below w.heap.size w w') (hl : b < w.heap.size) : StAt w' b off i x ai ci :=
  ⟨(hb.cell (p := ⟨b, _, none⟩) hl).trans h.c0, (hb.cell (p := ⟨b, _, none⟩) hl).trans h.c1, h.row.below hb, h.len, h.nil⟩

theorem provesP_cons (V : Nat) (css : List (List Int)) (x : StD) (r : List StD) (i : Int) : provesP V css (x :: r) i = if docE css x.d x.c ≠ 0 then (i, docE css x.d x.c) else if x.d = false ∧ x.c = [] then (i, 0) else provesP (docX V css x.d x.c) (docC css x.d x.c) r (i + 1) := rfl

/-- In the midst of a proof. -/
structure PvR (w : World) (k B : Nat) (sp T0 n : Nat) (l : List StD) (r : Int × Int) (i : Nat) (wr : World) (V : Nat) (css : List (List Int)) (A1 A2 : Nat → Bool) (ρ : Nat → Rl) (s : PS) (m1 m2 : Value) : Prop where
  ev : EvM k free nA nA w ρ A1 A2 wr
  ks : KS A1 A2 ρ wr k B s V css sp T0 (50000000 * i) m1 m2
  len : s.cls.length ≤ n + i
  rest : provesP V css (l.drop i) (i : Int) = r

set_option maxHeartbeats 4000000 in
set_option maxRecDepth 100000 in
theorem rupProves_yes (a al : Option Addr) (cap cal : Nat) (V : Nat) (css : List (List Int)) (l : List StD) (w : World) (hg : GridC w a css) (hl : css.length ≤ 900) (hs : Sts w al l) (hll : l.length ≤ 30) (hlx : ∀ x ∈ l, x.c.length ≤ 4096) (hc : cnfB V css = true) (hp : proofB l = true) :
    Calls Try.prog 8 #[.agg #[.int .i64 V, .slice a css.length cap], .slice al l.length cal] w fun e w' => e = .returned (.tuple #[.int .i64 (provesP V css l 0).1, .int .i64 (provesP V css l 0).2]) ∧ Below w.heap.size w w' := by
  have hV : V ≤ 1048576 := by
    unfold cnfB at hc
    simp only [Bool.and_eq_true, decide_eq_true_eq] at hc
    omega
  have htop := topN_le hV hp
  obtain ⟨hgt1, hgt2⟩ := le_topN V l
  have ON : Hid (∀ x, Below w.heap.size w x → Calls Try.prog 14 #[.agg #[.int .i64 V, .slice a css.length cap], .slice al l.length cal] x fun e w1 => ∃ k B, e = .returned (.tuple #[.pointer (some ⟨k, 0, none⟩), .int .i64 0]) ∧ ∃ A1 A2 ρ s m1 m2, Hid (w.heap.size ≤ k ∧ PvR w k B (spareN V l) (topN V l) css.length l (provesP V css l 0) 0 w1 V css A1 A2 ρ s m1 m2)) := by
    intro x hx
    refine (open_yes a al cap cal V css l x (hg.below hx) hl (hs.below hx) (by omega) hc hp).mono ?_
    rintro e w1 ⟨k, B, rfl, ρ, s, hK, hE, e1, e2, e3, e4, e5⟩
    have hlen : s.cls.length = css.length := by simpa using congrArg List.length e2
    have hk : w.heap.size ≤ k := Nat.le_trans hx.size e5
    have hE' : Ev free w ρ w1 := (Ev.below hx).trans hE
    have hM : MP nA nA ρ w1 k s 0 (.map none) (.map none) := ⟨.inl ⟨rfl, fun _ => rfl⟩, .inl ⟨rfl, fun _ => rfl⟩, fun b hb => (by cases hb), fun b hb => (by cases hb)⟩
    have hKM := KM.of (A1 := nA) (A2 := nA) (N := 0) (by rw [hlen]; exact hK) hM
    refine ⟨k, B, rfl, nA, nA, _, s, _, _, hk, (hE'.evM).norm, ⟨hKM, z0_nil e4 e3, fun x hx => ?_, liveL_keys e2, hc, ?_⟩, by omega, by rw [List.drop_zero]; rfl⟩
    · have : s.dec = [] := by simp [PS.dec, e4]
      rw [this] at hx; simp at hx
    · rw [e1]
      unfold spareN varsN
      refine ⟨hgt1, ?_, ?_, ?_⟩
      · split <;> omega
      · split <;> omega
      · split
        · intro _; omega
        · intro h; exact absurd rfl h
  have HS := hide hs
  have HLX := hide hlx
  have HST : Hid (∀ x ∈ l, StK (topN V l) x.d x.c) := fun x hx => by
    refine ⟨?_, hlx x hx, hgt2 x hx⟩
    unfold proofB at hp
    rw [List.all_eq_true] at hp
    exact hp x hx
  have hcl : css.length ≤ 900 := hl
  clear hg hs hc hp hlx hgt1 hgt2
  generalize spareN V l = sp at *
  generalize topN V l = T0 at *
  generalize hr : provesP V css l 0 = r at *
  go_enter Try.func8, Try.ntmps8
  go_upto_region 2 with (go_at_call 14; refine (ON.out _ ?_).mono ?_; rotate_left 1; rintro e w1 ⟨k, B, rfl, A1, A2, ρ, s, m1, m2, HP⟩)
  · have HK := hide HP.out.1
    have hkp : 0 ≤ k := Nat.zero_le _
    have HP0 := hide HP.out.2
    clear HP ON
    go_wp2_with fail
    go_loopw [22] (fun j wr => ∃ (i : Nat) (V' : Nat) (css' : List (List Int)) (A1 A2 : Nat → Bool) (ρ : Nat → Rl) (s : PS) (m1 m2 : Value), i ≤ l.length ∧ j = .int .i64 (i : Int) ∧ Hid (PvR w k B sp T0 css.length l r i wr V' css' A1 A2 ρ s m1 m2)) (fun j _ => l.length - (intOf j).toNat)
    case atStart => exact ⟨0, V, css, A1, A2, ρ, s, m1, m2, Nat.zero_le _, rfl, HP0⟩
    case round =>
      clear HP0
      obtain ⟨i, V', css', A1', A2', ρ', s', m1', m2', hi, rfl, HP⟩ := hrel
      by_cases hlt : i < l.length
      · have hii : (i : Int) < l.length := by omega
        obtain ⟨b, off, ai, ci, rfl, hb, hst⟩ := HS.out i hlt
        have hbel := evm_below HP.out.ev HK.out
        have hst2 := hst.below hbel hb
        have hq := HST.out l[i] (List.getElem_mem hlt)
        have hrest := HP.out.rest
        rw [List.drop_eq_getElem_cons hlt] at hrest
        have harg := fun W (hE : EvM k free nA nA w ρ' A1' A2' W) => evm_arg hE HK.out hst.row
        have hnil := hst.nil
        have hc0 := hst2.c0
        have hc1 := hst2.c1
        obtain ⟨x, hx⟩ : ∃ x, x = l[i] := ⟨_, rfl⟩
        rw [← hx] at hst hst2 hq hrest harg hc0 hc1
        have HX := hide hx
        obtain ⟨d, c⟩ := x
        simp only at hc0 hc1 hq harg
        obtain ⟨y1, y2, y3, y4⟩ := HP.out.ks.km.box
        have hb1 : Below wr.heap.size wr (wr.alloc (.cells #[.bool d, .slice ai c.length ci] 37)) := below_alloc wr _
        have hbx : (wr.alloc (.cells #[.bool d, .slice ai c.length ci] 37)).heap[wr.heap.size]? = some (.cells #[.bool d, .slice ai c.length ci] 37 (0, 0)) := heap_alloc_new wr _
        have HDO : Hid (Calls Try.prog 15 #[.pointer (some ⟨k, 0, none⟩), .agg #[.bool d, .slice ai c.length ci]] (wr.alloc (.cells #[.bool d, .slice ai c.length ci] 37)) fun e w' => e = .returned (.int .i64 (docE css' d c)) ∧ w'.cell? ⟨wr.heap.size, 0, none⟩ = some (.bool d) ∧ w'.cell? ⟨wr.heap.size, 1, none⟩ = some (.slice ai c.length ci) ∧ Hid (Below w.heap.size w w') ∧
            Hid (docE css' d c = 0 → ¬(d = false ∧ c = []) → ∃ A1'' A2'' ρ'' s'' m1'' m2'', PvR w k B sp T0 css.length l r (i + 1) w' (docX V' css' d c) (docC css' d c) A1'' A2'' ρ'' s'' m1'' m2'')) := by
          refine (do_any (HP.out.ks.quiet hb1) (by omega) (by have := HP.out.len; omega) ai ci c hq (harg _ (HP.out.ev.quiet hb1)) hnil).mono ?_
          rintro e w' ⟨rfl, ρ2, A1'', A2'', hE2, hS2⟩
          have hEV := (HP.out.ev.quiet hb1).trans hE2
          obtain ⟨z1, _, _, _⟩ := hE2.box hbx y4 y1 y2 y3
          refine ⟨rfl, cell_of_block z1 rfl, cell_of_block z1 rfl, evm_below hEV HK.out, fun h0 hne => ?_⟩
          obtain ⟨s'', m1'', m2'', q1, q2, q3⟩ := hS2 h0
          refine ⟨A1'', A2'', ρ2, s'', m1'', m2'', hEV, ?_, by have := HP.out.len; omega, ?_⟩
          · have := q3 hne
            rw [show 50000000 * (i + 1) = 50000000 * i + 50000000 by omega]
            exact this
          · rw [← hrest]
            rw [provesP_cons, if_neg (by simp [h0]), if_neg hne, Int.natCast_succ]
        have hend7 : docE css' d c = 7 → r = ((i : Int), 7) := fun h7 => by
          rw [← hrest]
          rw [provesP_cons, if_pos (by simp [h7])]
          simp [h7]
        have hend0 : docE css' d c = 0 → d = false → c = [] → r = ((i : Int), 0) := fun h0 h1 h2 => by
          rw [← hrest]
          rw [provesP_cons, if_neg (by simp [h0]), if_pos ⟨h1, h2⟩]
        have HE7 := hide hend7
        have HE0 := hide hend0
        clear hend7 hend0 hrest hst hst2 hq harg HP hbel hb1 hbx y1 y2 y3 y4 hnil
        rcases docE_cases css' d c with h7 | h7
        · have HZ := hide h7
          rw [h7] at HDO
          clear h7
          cases d with
          | true =>
            go_wp2_with (go_at_call 15; refine (unhide HDO).mono ?_; rintro e w2 ⟨rfl, k0, k1, KB, KN⟩)
            obtain ⟨A1'', A2'', ρ'', s'', m1'', m2'', hN⟩ := KN.out (by first | rfl | trivial | exact HZ.out) (by simp)
            go_roundw
            case rel => exact ⟨i + 1, _, _, A1'', A2'', ρ'', s'', m1'', m2'', by omega, by go_num, hN⟩
            case measure => simp [intOf]; omega
          | false =>
            by_cases hcn : c = []
            · have hl0 : ((c.length : Int) == 0) = true := by rw [hcn]; rfl
              have HR : Hid (r = ((i : Int), 0)) := HE0.out HZ.out rfl hcn
              generalize c.length = cl at *
              go_wp2_with (go_at_call 15; refine (unhide HDO).mono ?_; rintro e w2 ⟨rfl, k0, k1, KB, KN⟩)
              go_ret2
              rw [HR.out]
              exact ⟨rfl, KB.out⟩
            · have hl0 : ((c.length : Int) == 0) = false := by
                simp
                exact hcn
              have HCN := hide hcn
              generalize hcl' : c.length = cl at *
              clear hcl'
              go_wp2_with (go_at_call 15; refine (unhide HDO).mono ?_; rintro e w2 ⟨rfl, k0, k1, KB, KN⟩)
              obtain ⟨A1'', A2'', ρ'', s'', m1'', m2'', hN⟩ := KN.out (by first | rfl | trivial | exact HZ.out) (fun h => HCN.out h.2)
              go_roundw
              case rel => exact ⟨i + 1, _, _, A1'', A2'', ρ'', s'', m1'', m2'', by omega, by go_num, hN⟩
              case measure => simp [intOf]; omega
        · have HR : Hid (r = ((i : Int), 7)) := HE7.out h7
          rw [h7] at HDO
          clear h7 HE0 HE7
          go_wp2_with (go_at_call 15; refine (unhide HDO).mono ?_; rintro e w2 ⟨rfl, k0, k1, KB, KN⟩)
          go_ret2
          rw [HR.out]
          exact ⟨rfl, KB.out⟩
      · obtain rfl : i = l.length := by omega
        have hrest := HP.out.rest
        rw [List.drop_length] at hrest
        have HB := hide (evm_below HP.out.ev HK.out)
        have HR : Hid (r = ((l.length : Int), 4)) := hrest.symm
        clear hrest HP
        go_wp2_with fail
        go_ret2
        rw [HR.out]
        exact ⟨rfl, HB.out⟩
  · exact below_alloc w _
end Go.Proofs.Ytlmbgaconjcaiab

namespace Go.Proofs.Ytlmbgaconjcaiab
open Go.RowKit Go.Maps

/-- How many literals there are. -/
def litsN (l : List StD) : Nat := (l.map (fun s => s.c.length)).sum
theorem litsN_snoc {l : List StD} {k : Nat} (h : k < l.length) : litsN (l.take (k + 1)) = litsN (l.take k) + l[k].c.length := by
  unfold litsN; rw [List.take_succ_eq_append_getElem h, List.map_append, List.sum_append]; simp

/-- What is told is a truth value. -/
def LiP (e : Ending) : Prop := ∃ r : Bool, e = .returned (.bool r)

set_option maxHeartbeats 800000 in
theorem lightS_any (w : World) (a : Option Addr) (cap : Nat) (l : List StD) (hA : Sts w a l) (hl : l.length ≤ maxLen) :
    Calls Try.prog 5 #[.slice a l.length cap] w fun e w' => LiP e ∧ w' = w := by
  unfold maxLen at hl
  go_enter Try.func5, Try.ntmps5
  go_wp2
  go_loop [3, 4] (fun n i => ∃ k : Nat, k ≤ l.length ∧ k ≤ 301 ∧ i = .int .i64 k ∧ n = .int .i64 ((litsN (l.take k) : Nat) : Int) ∧ litsN (l.take k) ≤ 5000 * k) (fun _ i => l.length - (intOf i).toNat)
  case atStart => exact ⟨0, Nat.zero_le _, Nat.zero_le _, rfl, rfl, by simp [litsN]⟩
  case round =>
    obtain ⟨k, hk, hk40, rfl, rfl, hn⟩ := hrel
    by_cases hlt : k < l.length ∧ k ≤ 300
    · obtain ⟨hlt, h300⟩ := hlt
      obtain ⟨b, off, ai, ci, rfl, hb, c0, c1, -, hlen, -⟩ := hA k hlt
      unfold maxLen at hlen
      have HS := hide (litsN_snoc hlt)
      clear hA
      generalize litsN (l.take k) = N at *
      by_cases he : l[k].c.length ≤ 5000
      · have he' : ¬ (5000 : Int) < l[k].c.length := by omega
        have hlt' : (k : Int) < l.length := by omega
        have h300' : (k : Int) ≤ 300 := by omega
        generalize l[k].c.length = M at *
        go_wp2
        go_round
        case rel => exact ⟨k + 1, by omega, by omega, by go_num, by rw [HS.out]; go_num, by rw [HS.out]; omega⟩
        case measure => simp [intOf]; omega
      · have he' : (5000 : Int) < l[k].c.length := by omega
        have hlt' : (k : Int) < l.length := by omega
        have h300' : (k : Int) ≤ 300 := by omega
        go_wp2
        go_ret
        exact ⟨⟨_, rfl⟩, rfl⟩
    · clear hA
      generalize litsN (l.take k) = N at *
      go_wp2
      all_goals
        go_ret
        exact ⟨⟨_, rfl⟩, rfl⟩

set_option maxHeartbeats 4000000 in
set_option maxRecDepth 100000 in
theorem rupProves_no (a al : Option Addr) (cap cal : Nat) (n : Int) (css : List (List Int)) (l : List StD) (w : World) (hg : Grid w a css) (hl : css.length ≤ maxLen) (hs : Sts w al l) (hll : l.length ≤ 30) (hno : cnfB n css = false ∨ (cnfB n css = true ∧ proofB l = false)) :
    Calls Try.prog 8 #[.agg #[.int .i64 n, .slice a css.length cap], .slice al l.length cal] w fun e w' => e = .returned (.tuple #[.int .i64 0, .int .i64 1]) ∧ Below w.heap.size w w' := by
  have ON : Hid (∀ x, Below w.heap.size w x → Calls Try.prog 14 #[.agg #[.int .i64 n, .slice a css.length cap], .slice al l.length cal] x fun e w1 => e = .returned (.tuple #[.pointer none, .int .i64 1]) ∧ Hid (Below w.heap.size w w1)) := by
    intro x hx
    refine (open_no' a al cap cal n css l x (hg.below hx) hl (hs.below hx) (by omega) hno).mono ?_
    rintro e w' ⟨rfl, hb⟩
    exact ⟨rfl, hx.trans (hb.mono hx.size)⟩
  clear hg hs hno
  go_enter Try.func8, Try.ntmps8
  go_wp2_with (go_at_call 14; refine (ON.out _ (below_alloc w _)).mono ?_; rintro e w1 ⟨rfl, HB⟩)
  go_ret2
  exact ⟨rfl, HB.out⟩
end Go.Proofs.Ytlmbgaconjcaiab
