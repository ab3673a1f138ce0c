/- Joined: Contracts: whether a clause is at hand by units; what was asked is taken back. Contract: whether a clause is gone. A map of rows of numbers in memory: what it tells of a key, and what a store leaves. Contract: a clause is noted by its literals. Contract: each clause is noted by its literals. Contracts: the greatest variable of a clause; whether steps are a proof. Contracts: a keeper of a formula, for the steps of a proof. Plain and contracts: what Unit tells of a clause. Contracts: Unit where the formula or the clause is not right; Small, short. Plain: what Unit tells is implied; contracts: Small. Contracts: the library's IndexFunc and DeleteFunc, of what was dropped. Contracts: the library's IndexFunc and DeleteFunc, of watches of what was dropped. Contracts: what was dropped is taken out of all lists. Contracts: the sweep. Contracts: a clause is dropped; a clause is added. What is told where a short proof is looked at: plain. -/
import Derived.Test.YtlmbgaconjcaiabIHAll
import Derived.Test.YtlmbgaconjcaiabIBAll
import Derived.Defers
import Derived.Deep.RegionHeld3
import Derived.Maps.OwnRows
import Derived.Maps.Views
import Derived.Deep.RegionLaw
import Derived.Deep.AppendLies
import Derived.Test.YtlmbgaconjcaiabHAll
import Derived.Deep.DeepCutAuto
import Derived.Test.YtlmbgaconjcaiabWalkM
import Derived.Test.YtlmbgaconjcaiabGh
import Derived.Test.YtlmbgaconjcaiabGi
import Derived.Test.YtlmbgaconjcaiabPlainN
import Derived.Deep.RegionWith
import Derived.Test.YtlmbgaconjcaiabPlainQ
import Derived.BigQuiet
import Derived.Test.YtlmbgaconjcaiabPlainO
set_option linter.unusedVariables false
set_option linter.unusedSimpArgs false
namespace Go.Proofs.Ytlmbgaconjcaiab
open Go.RowKit

section
variable {ρ ρ' : Nat → Rl} {w w' : World} {k B : Nat} {s t : PS} {x1 x2 x3 : Int} {sp : Nat} {m1 m2 : Value}

def UnitsP (ρ : Nat → Rl) (w : World) (k B : Nat) (s : PS) (x1 x2 x3 : Int) (sp : Nat) (m1 m2 : Value) (c : List Int) (b : Bool) (w' : World) : Prop :=
  ∃ ρ' u ds0, KP ρ' w' k B u x1 x2 x3 sp m1 m2 ∧ Ev ρ w ρ' w' ∧ Grw s u ds0 ∧ (sp = 0 → ds0 = []) ∧ (sp ≠ 0 → (s.lvs = [] → ds0 = [(sp : Int)]) ∧ (s.lvs ≠ [] → ds0 = []) ∧ u.lvs ≠ []) ∧ ∃ t ds, Inv t ∧ Grw s t (ds0 ++ ds) ∧ (∀ d ∈ ds, -d ∈ c) ∧ Told t c b

theorem Grw.trans {s t u : PS} {d e : List Int} (h : Grw s t d) (k : Grw t u e) : Grw s u (d ++ e) := ⟨k.vars.trans h.vars, k.cl.trans h.cl, by rw [k.dec, h.dec, List.append_assoc]⟩
theorem Grw.back {s t : PS} {ds : List Int} {lv : Lv} (h : Grw s t ds) (hI : Inv t) (hk : t.lvs[s.lvs.length]? = some lv) : Grw s (t.back s.lvs.length lv) [] := by
  have hl : s.dec.length = s.lvs.length := by simp [PS.dec]
  refine ⟨by rw [back_eq]; exact h.vars, by rw [back_eq]; exact h.cl, ?_⟩
  rw [back_dec hI hk, h.dec, ← hl, List.take_left, List.append_nil]
theorem Grw.same {s t : PS} {ds : List Int} (h : Grw s t ds) (hl : t.lvs.length ≤ s.lvs.length) : ds = [] := by
  have e := congrArg List.length h.dec
  have e1 : t.dec.length = t.lvs.length := by simp [PS.dec]
  have e2 : s.dec.length = s.lvs.length := by simp [PS.dec]
  rw [List.length_append, e1, e2] at e
  exact List.length_eq_zero_iff.1 (by omega)

set_option maxHeartbeats 4000000 in
set_option maxRecDepth 100000 in
theorem byUnits_any (h : KP ρ w k B s x1 x2 x3 sp m1 m2) (hsp : sp ≤ s.vars) (h0 : sp ≠ 0 → s.lvs = [] → s.trail = []) (a : Option Addr) (cap : Nat) (c : List Int) {NN : Nat} (hr : RowO ρ NN w a c) (hl : c.length ≤ 10000) (hc : ∀ x ∈ c, Lt s.vars x) :
    Calls Try.prog 25 #[.pointer (some ⟨k, 0, none⟩), .slice a c.length cap] w fun e w' => ∃ b, e = .returned (.bool b) ∧ UnitsP ρ w k B s x1 x2 x3 sp m1 m2 c b w' := by
  have ST := hide (settle_k h hsp h0)
  have HBR : Hid (∀ w1 ρ1 t1 ds0, KP ρ1 w1 k B t1 x1 x2 x3 sp m1 m2 → Ev ρ w ρ1 w1 → Grw s t1 ds0 → ∀ x, Below w1.heap.size w1 x → Calls Try.prog 39 #[.pointer (some ⟨k, 0, none⟩), .slice a c.length cap] x fun e w' => ∃ b, e = .returned (.bool b) ∧ BreaksP ρ1 x k B t1 x1 x2 x3 sp m1 m2 c b w') := fun w1 ρ1 t1 ds0 hK hE hG x hx => breaks_any (hK.below hx) a cap c ((hr.ev hE).ev (Ev.below hx)) hl (by rw [hG.vars]; exact hc)
  have p0 := cell_of_block h.blk (i := 0) rfl
  clear h hr hc
  go_enter_defers Try.func25, Try.ntmps25
  go_wp2_with fail
  refine Calls.mono (unhide ST) ?_
  rintro e w1 ⟨rfl, ρ1, t1, ds0, hK1, hE1, hG1, hz1, hn1⟩
  have q0 := cell_of_block hK1.blk (i := 0) rfl
  have LV : Hid (∀ x, Below w1.heap.size w1 x → Calls Try.prog 38 #[.pointer (some ⟨B, 0, none⟩)] x fun e w' => e = .returned (.int .i64 t1.lvs.length) ∧ w' = x) := fun x hx => by
    obtain ⟨H, hR⟩ := hK1.rep
    exact propLevels_any (hR.below hx)
  have BR := hide (HBR.out w1 ρ1 t1 ds0 hK1 hE1 hG1)
  have HK1 := hide hK1
  have HE1 := hide hE1
  have HG1 := hide hG1
  have HZ1 := hide hz1
  have HN1 := hide hn1
  have hln : t1.lvs.length ≤ 1048576 := by have q := lvs_len hK1.inv.tr; have q2 := trail_len hK1.inv.tr; have q3 := hK1.inv.sz.vars; omega
  clear ST HBR p0 hK1 hE1 hG1 hz1 hn1
  simp only
  generalize hNN : t1.lvs.length = NN at *
  have HNN := hide hNN
  clear hNN
  go_wp2_with fail
  go_region_held3 (fun q => q.cell? ⟨k, 0, none⟩ = some (.pointer (some ⟨B, 0, none⟩))) (first | assumption | go_keep) (first
    | (go_at_call 38; refine (LV.out _ (by first | exact Below.refl _ _ | exact (Below.refl _ _).drew)).mono ?_; rintro e w0 ⟨rfl, hw0⟩; subst w0))
  all_goals
    clear q0 LV
    go_wp2_with fail
    refine Calls.mono (BR.out _ (by first | exact Below.refl _ _ | exact (Below.refl _ _).drew)) ?_
    rintro e w2 ⟨b, rfl, ρ2, t2, ds, hK2, hE2, hG2, hd2, hT2⟩
    have HE12 : Hid (Ev ρ w ρ2 w2) := HE1.out.trans ((Ev.drew _ _).trans hE2)
    have HK2 := hide hK2
    have HG2 := hide hG2
    have HD2 := hide hd2
    have HT2 := hide hT2
    have BKN : Hid (t2.lvs.length ≤ NN → ∀ u : FrameMode, CallsD Try.prog 36 #[.pointer (some ⟨B, 0, none⟩), .int .i64 NN] u w2 fun e u' w' => u' = u ∧ (e = .returned (.tuple #[]) ∧ UnitsP ρ w k B s x1 x2 x3 sp m1 m2 c b w')) := by
      intro hle u
      obtain ⟨H, hR⟩ := HK2.out.rep
      refine (back_no_d hR (NN : Int) (by simpa using hle)).mono ?_
      rintro e u' w' ⟨rfl, rfl, rfl⟩
      have hds := HG2.out.same (by rw [HNN.out]; exact hle)
      subst hds
      have hGu := HG1.out.trans HG2.out
      rw [List.append_nil] at hGu
      exact ⟨rfl, rfl, ρ2, t2, ds0, HK2.out, HE12.out, hGu, fun e => (HZ1.out e).2, fun e => ⟨(HN1.out e).1, (HN1.out e).2.1, lvs_ne HG2.out (by
        rw [List.append_nil]
        intro e2
        have q : t1.dec.length = t1.lvs.length := by simp [PS.dec]
        rw [e2] at q
        exact (HN1.out e).2.2 (List.length_eq_zero_iff.1 q.symm))⟩, t2, [], HK2.out.inv, HG1.out.trans HG2.out, HD2.out, HT2.out⟩
    have BKY : Hid (¬ t2.lvs.length ≤ NN → ∀ u : FrameMode, CallsD Try.prog 36 #[.pointer (some ⟨B, 0, none⟩), .int .i64 NN] u w2 fun e u' w' => u' = u ∧ (e = .returned (.tuple #[]) ∧ UnitsP ρ w k B s x1 x2 x3 sp m1 m2 c b w')) := by
      intro hle u
      obtain ⟨H, hR⟩ := HK2.out.rep
      have hlt : NN < t2.lvs.length := by omega
      have hlv := List.getElem?_eq_getElem hlt
      refine (back_yes_d hR HK2.out.inv (NN : Int) NN (by simp) _ hlv).mono ?_
      rintro e u' w' ⟨rfl, rfl, ρ3, H3, hR3, hE3⟩
      have hN := HNN.out
      have hK3 : KP ρ3 w' k B (t2.back NN t2.lvs[NN]) x1 x2 x3 sp m1 m2 := HK2.out.ev hR3 (back_inv HK2.out.inv hlv) (HK2.out.cnt.back _ _) (by rw [back_eq]; exact HK2.out.lits) hE3
      have hGb2 : Grw t1 (t2.back NN t2.lvs[NN]) [] := by
        refine ⟨by rw [back_eq]; exact HG2.out.vars, by rw [back_eq]; exact HG2.out.cl, ?_⟩
        have hl : t1.dec.length = NN := by rw [← hN]; simp [PS.dec]
        rw [back_dec HK2.out.inv hlv, HG2.out.dec, ← hl, List.take_left, List.append_nil]
      have hGu := HG1.out.trans hGb2
      rw [List.append_nil] at hGu
      exact ⟨rfl, rfl, ρ3, _, ds0, hK3, HE12.out.trans hE3, hGu, fun e => (HZ1.out e).2, fun e => ⟨(HN1.out e).1, (HN1.out e).2.1, lvs_ne hGb2 (by
        rw [List.append_nil]
        intro e2
        have q : t1.dec.length = t1.lvs.length := by simp [PS.dec]
        rw [e2] at q
        exact (HN1.out e).2.2 (List.length_eq_zero_iff.1 q.symm))⟩, t2, ds, HK2.out.inv, HG1.out.trans HG2.out, HD2.out, HT2.out⟩
    clear BR hK2 hE2 hG2 hd2 hT2
    go_wp2_with fail
    refine leaves_cons (f := 36) (args := #[.pointer (some ⟨B, 0, none⟩), .int .i64 NN]) (by simp) (by simp [go_sem]) ?_
    by_cases hle : t2.lvs.length ≤ NN
    · refine (BKN.out hle .returning).mono ?_
      rintro e u' w3 ⟨rfl, rfl, hP⟩
      exact ⟨_, results_tmp rfl _ _ _, b, rfl, hP⟩
    · refine (BKY.out hle .returning).mono ?_
      rintro e u' w3 ⟨rfl, rfl, hP⟩
      exact ⟨_, results_tmp rfl _ _ _, b, rfl, hP⟩
end
end Go.Proofs.Ytlmbgaconjcaiab

namespace Go.Proofs.Ytlmbgaconjcaiab
open Go.RowKit

set_option maxHeartbeats 1000000 in
theorem keeperGone_any {ρ : Nat → Rl} {w : World} {k B : Nat} {s : PS} {x1 x2 x3 x4 : Int} {m1 m2 : Value} (h : KP ρ w k B s x1 x2 x3 x4 m1 m2) (i : Nat) (c : Cl) (hc : s.cls[i]? = some c) (hn : s.cls.length ≤ 1048576) :
    Calls Try.prog 62 #[.pointer (some ⟨k, 0, none⟩), .int .i64 (i : Int)] w fun e w' => e = .returned (.bool c.gone) ∧ Below w.heap.size w w' := by
  have c0 : w.cell? ⟨k, 0, none⟩ = some (.pointer (some ⟨B, 0, none⟩)) := cell_of_block h.blk rfl
  obtain ⟨H, hR⟩ := h.rep
  have hl := h.lits c (List.mem_of_getElem? hc)
  cases hg : c.gone with
  | false =>
    have G := hide (propClause_yes hR i c hc hg hn (by omega))
    clear h hR hc hg
    go_enter Try.func62, Try.ntmps62
    go_wp2_with (go_at_call 41; refine (unhide G).mono ?_; rintro e w1 ⟨v, rfl, ho, hb⟩)
    go_ret
    exact ⟨rfl, hb⟩
  | true =>
    have G := hide (propClause_no hR (i : Int) (.inr (.inr ⟨c, by omega, by simpa using hc, hg⟩)) hn)
    clear h hR hc hg
    go_enter Try.func62, Try.ntmps62
    go_wp2_with (go_at_call 41; refine (unhide G).mono ?_; rintro e w1 ⟨rfl, hw1⟩; subst w1)
    go_ret
    exact ⟨rfl, Below.refl _ _⟩
end Go.Proofs.Ytlmbgaconjcaiab

namespace Go.Proofs.Ytlmbgaconjcaiab
open Go Go.RowKit Go.ChangeMaps Go.MapKept Go.ChangeShapes
open Go.WideElems (Fit rd rg pl rd_val elemAt)
open Go.Maps (Keyed)

/-- The numbers of a row, as a datum has them. -/
def numI : DataW Unit → List Int
  | .slice es _ => es.filterMap (fun d => match d with | .lit (.int _ n) => some n | _ => none)
  | _ => []
theorem numI_lits (q : IntKind) (zs : List Int) (sp : List (DataW Unit)) : numI (.slice (lits q zs) sp) = zs := by
  unfold numI lits
  induction zs with
  | nil => rfl
  | cons z r ih => simp at ih ⊢; exact ih
theorem numI_row {w : World} {base : Nat} {e : TypeId} {q : IntKind} {v : Value} {zs : List Int} (h : w.ownsInts base e q v zs) : numI (rowDatum q v zs) = zs := by
  rcases h.datum (H := Unit) with ⟨h1, h2⟩ | h1
  · rw [h1, h2]; rfl
  · rw [h1]; exact numI_lits q zs []

/-- A map of rows of numbers: its rows, by keys; all its blocks are nobody's. -/
structure Gro (P : Program) (k : TypeId) (e : TypeId) (ρ : Nat → Rl) (w : World) (g base n : Nat) (F : Lit → List Int) : Prop where
  own : ∃ D : DataW Unit, w.ownsGroups P k base e .i64 g n D ∧ ∀ kl, numI (D.atKey kl .nil) = F kl
  ro : ρ g = oth
  rows : ∀ es clock, w.heap[g]? = some (.map es clock) → ∀ x ∈ es.toList, ∀ b, x.val.ownBlock = some b → ρ b = oth

section
variable {P : Program} {k e t E : TypeId} {ρ ρ' : Nat → Rl} {w w' : World} {g base n : Nat} {F F' : Lit → List Int}

theorem Gro.lt (h : Gro P k e ρ w g base n F) : g < w.heap.size ∧ g < base := by
  obtain ⟨D, ⟨es, clock, hb, _, _, _, hbb, _⟩, _⟩ := h.own
  exact ⟨lt_of_block hb, hbb⟩
/-- What is nobody's stayed: so did the map. -/
theorem Gro.ev (h : Gro P k e ρ w g base n F) (ha : ∀ b, b < w.heap.size → ρ' b = ρ b) (hk : ∀ b, b < w.heap.size → ρ b = oth → w'.heap[b]? = w.heap[b]?) : Gro P k e ρ' w' g base n F := by
  obtain ⟨⟨D, ⟨es, clock, hb, Ft, hs, hD, hbb, hlen, hap⟩, hat⟩, hro, hrows⟩ := h
  have hg := lt_of_block hb
  have hb' : w'.heap[g]? = some (.map es clock) := (hk g hg hro).trans hb
  have stay : ∀ x ∈ es.toList, ∀ zs, w.ownsInts base e .i64 x.val zs → w'.ownsInts base e .i64 x.val zs := fun x hx zs ho =>
    ⟨own_same ho.1 (fun b hbk => hk b (ho.1.lt b hbk).2 (hrows es clock hb x hx b hbk)), ho.2⟩
  have hs2 : ∀ x ∈ es.toList, ∀ z, rowElem (H := Unit) w base e .i64 x.val = some z → rowElem w' base e .i64 x.val = some z := by
    intro x hx z hz
    obtain ⟨ys, ho, rfl⟩ := rowElem_inv hz
    exact rowElem_mk (stay x hx ys ho)
  obtain ⟨F2, hmap2, _⟩ := Ft.stay hs2
  refine ⟨⟨D, ⟨es, clock, hb', F2, hs, by rw [hmap2]; exact hD, hbb, ?_, hap⟩, hat⟩, (ha g hg).trans hro, ?_⟩
  · intro x hx zs ho
    obtain ⟨y, hy⟩ := Ft.reads x hx
    obtain ⟨z, hz, _⟩ := rd_val hy
    obtain ⟨ys, ho0, _⟩ := rowElem_inv hz
    have := (stay x hx ys ho0).unique ho
    rw [← this]; exact hlen x hx ys ho0
  · intro es2 c2 h2 x hx b hbk
    rw [hb'] at h2
    cases h2
    obtain ⟨y, hy⟩ := Ft.reads x hx
    obtain ⟨z, hz, _⟩ := rd_val hy
    obtain ⟨ys, ho0, _⟩ := rowElem_inv hz
    exact (ha b (ho0.1.lt b hbk).2).trans (hrows es clock hb x hx b hbk)

/-- A key's row, and the way back. -/
theorem Gro.at (h : Gro P k e ρ w g base n F) (K : Keyed P k) (ht : P.underlying t = some (.map k E)) (hz : (zeroValue E).run P w = .ok (.slice none 0 0) w) (hn : n < maxLen) {key : Value} {kl : Lit} (hkey : keyOf P k key = some kl) :
    ∃ v, (Instr.lookup t (.map (some g)) key false).run P w = .ok v w ∧ w.ownsInts base e .i64 v (F kl) ∧ (F kl).length ≤ n ∧ (∀ b, v.ownBlock = some b → ρ b = oth) ∧
      ∀ (w1 : World) (v' : Value) (zs' : List Int) (ρ' : Nat → Rl) (F' : Lit → List Int), w.grownBy w1 v.ownBlock → w1.ownsInts base e .i64 v' zs' → zs'.length ≤ n + 1 → (v'.ownBlock = v.ownBlock ∨ ∃ b, v'.ownBlock = some b ∧ w.heap.size ≤ b) →
        (∀ b, b < w.heap.size → ρ' b = ρ b) → (∀ b, v'.ownBlock = some b → ρ' b = oth) → F' kl = zs' → (∀ l, l ≠ kl → F' l = F l) →
        ∃ w2, (Instr.mapUpdate t (.map (some g)) key v').run P w1 = .ok () w2 ∧ Gro P k e ρ' w2 g base (n + 1) F' ∧ w1.grownBy w2 (some g) := by
  obtain ⟨⟨D, hD, hat⟩, hro, hrows⟩ := h
  obtain ⟨v, zs, hrun, hdat, hoi, hzl, hback⟩ := hD.at K ht hz hn hkey
  have e1 : F kl = zs := by rw [← hat kl, hdat]; exact numI_row hoi
  have hD2 := hD
  obtain ⟨es, clock, hb, Ft, hs, hDe, hbb, hlen, hap⟩ := hD2
  have hvo : ∀ b, v.ownBlock = some b → ρ b = oth := by
    intro b hbk
    rcases Maps.fit_look false K ht hz hb Ft hkey with ⟨hr, _, _⟩ | ⟨e0, y, hm0, h3, hr, _⟩
    · rw [hrun] at hr
      simp at hr
      subst hr
      simp [Value.ownBlock] at hbk
    · rw [hrun] at hr
      simp at hr
      subst hr
      exact hrows es clock hb e0 hm0 b hbk
  refine ⟨v, hrun, by rw [e1]; exact hoi, by rw [e1]; exact hzl, hvo, ?_⟩
  intro w1 v' zs' ρ' F' hg hown' hl' hloc hag hro' hF1 hF2
  obtain ⟨w2, hr2, hG2, hg2⟩ := hback w1 v' zs' hg hown' hl' hloc
  have hgl := lt_of_block hb
  have hvg : v.ownBlock ≠ some g := fun e2 => by have := (hoi.1.lt g e2).1; omega
  have hb1 : w1.heap[g]? = some (.map es clock) := (hg.block g hgl (fun e2 => hvg e2.symm)).trans hb
  refine ⟨w2, hr2, ⟨⟨_, hG2, fun l => ?_⟩, (hag g hgl).trans hro, ?_⟩, hg2⟩
  · by_cases hl : l = kl
    · subst hl
      rw [Maps.atKey_put_same (by rw [hDe]; exact ⟨_, rfl⟩) (K.key hkey), hF1]
      exact numI_row hown'
    · rw [Maps.atKey_put_other hl, hat l, hF2 l hl]
  · intro es2 c2 hh2 x hx b hbk
    let R' : Value → Option (DataW Unit × List MemPlace) := fun u => match rowElem (H := Unit) w base e .i64 u with | some z => some z | none => some (.nil, [])
    have hR' : ∃ yv, R' v' = some yv := by
      simp only [R']
      cases rowElem (H := Unit) w base e .i64 v' with
      | none => exact ⟨_, rfl⟩
      | some z => exact ⟨z, rfl⟩
    obtain ⟨yv, hyv⟩ := hR'
    obtain ⟨es', clock', hrun', _, _, _, _, hwho⟩ := Maps.fit_store (R' := R') K ht hb1 Ft (Nat.lt_of_le_of_lt hs hn) (fun x _ _ z hz => by simp only [R', hz]) hkey hyv
    rw [hr2] at hrun'
    simp at hrun'
    subst hrun'
    rw [heap_setBlock_same hb1] at hh2
    cases hh2
    rcases hwho x hx with ⟨hx0, _⟩ | ⟨_, hval⟩
    · obtain ⟨y, hy⟩ := Ft.reads x hx0
      obtain ⟨z, hz, _⟩ := rd_val hy
      obtain ⟨ys, ho0, _⟩ := rowElem_inv hz
      exact (hag b (ho0.1.lt b hbk).2).trans (hrows es clock hb x hx0 b hbk)
    · rw [hval] at hbk
      exact hro' b hbk
/-- A map that was made. -/
theorem gro_made (P : Program) (k e : TypeId) (w : World) (ρ : Nat → Rl) (h : ρ w.heap.size = oth) : Gro P k e ρ (w.alloc (.map #[] 0)) w.heap.size (w.heap.size + 1) 0 (fun _ => []) := by
  refine ⟨⟨_, World.ownsGroups_made w P k e .i64, fun kl => ?_⟩, h, ?_⟩
  · rfl
  · intro es clock hh x hx
    have := (MapKept.heap_alloc w (.map #[] 0)).1
    rw [this] at hh
    cases hh
    simp at hx
end

theorem Gro.mono {P : Program} {k e : TypeId} {ρ : Nat → Rl} {w : World} {g base n m : Nat} {F : Lit → List Int} (h : Gro P k e ρ w g base n F) (hm : n ≤ m) : Gro P k e ρ w g base m F := by
  obtain ⟨⟨D, ⟨es, clock, hb, Ft, hs, hD, hbb, hlen, hap⟩, hat⟩, hro, hrows⟩ := h
  exact ⟨⟨D, ⟨es, clock, hb, Ft, Nat.le_trans hs hm, hD, hbb, fun x hx zs ho => Nat.le_trans (hlen x hx zs ho) hm, hap⟩, hat⟩, hro, hrows⟩
theorem Gro.role {P : Program} {k e : TypeId} {ρ ρ' : Nat → Rl} {w : World} {g base n : Nat} {F : Lit → List Int} (h : Gro P k e ρ w g base n F) (hr : ∀ b, ρ b = oth → ρ' b = oth) : Gro P k e ρ' w g base n F :=
  ⟨h.own, hr _ h.ro, fun es clock hh x hx b hb => hr b (h.rows es clock hh x hx b hb)⟩

/-- Rows by numbers. -/
def litF (f : Int → List Int) : Lit → List Int
  | .int .i64 x => f x
  | _ => []
def updI (f : Int → List Int) (l : Int) (zs : List Int) : Int → List Int := fun x => if x = l then zs else f x
theorem updI_same (f : Int → List Int) (l : Int) (zs : List Int) : updI f l zs l = zs := if_pos rfl
theorem updI_other (f : Int → List Int) {l x : Int} (zs : List Int) (h : x ≠ l) : updI f l zs x = f x := if_neg h

/-- What is nobody's from a block on, and the map's, may turn; nothing else. -/
structure NF (base g : Nat) (ρ : Nat → Rl) (w w' : World) : Prop where
  os : w'.os = w.os
  tape : w'.tape = w.tape
  output : w'.output = w.output
  size : w.heap.size ≤ w'.heap.size
  keep : ∀ b, b < w.heap.size → (ρ b ≠ oth ∨ (b < base ∧ b ≠ g)) → w'.heap[b]? = w.heap[b]?
section
variable {base g : Nat} {ρ : Nat → Rl} {w w' w'' : World}
theorem NF.refl (base g : Nat) (ρ : Nat → Rl) (w : World) : NF base g ρ w w := ⟨rfl, rfl, rfl, Nat.le_refl _, fun _ _ _ => rfl⟩
theorem NF.trans (h : NF base g ρ w w') (k : NF base g ρ w' w'') : NF base g ρ w w'' :=
  ⟨k.os.trans h.os, k.tape.trans h.tape, k.output.trans h.output, Nat.le_trans h.size k.size, fun b hb hr => (k.keep b (Nat.lt_of_lt_of_le hb h.size) hr).trans (h.keep b hb hr)⟩
theorem NF.below (h : Below w.heap.size w w') : NF base g ρ w w' := ⟨h.os, h.tape, h.output, h.size, fun b hb _ => h.block b hb⟩
theorem NF.grown {row : Option Nat} (h : w.grownBy w' row) (hr : ∀ b, row = some b → ρ b = oth ∧ (base ≤ b ∨ b = g)) : NF base g ρ w w' :=
  ⟨h.os, h.tape, h.output, h.size, fun b hb hk => h.block b hb (fun e => by
    obtain ⟨h1, h2⟩ := hr b e.symm
    rcases hk with hk | ⟨h3, h4⟩
    · exact hk h1
    · rcases h2 with h2 | h2
      · omega
      · exact h4 h2)⟩
theorem NF.cell (h : NF base g ρ w w') {b o : Nat} (hb : b < w.heap.size) (hr : ρ b ≠ oth ∨ (b < base ∧ b ≠ g)) : w'.cell? ⟨b, o, none⟩ = w.cell? ⟨b, o, none⟩ := World.cell?_of_block (a := ⟨b, o, none⟩) (h.keep b hb hr)
theorem NF.rep {B : Nat} {H : Hd} {s : PS} (h : NF base g ρ w w') (hR : Rep ρ w B H s) : Rep ρ w' B H s := hR.off (fun b hb hr => h.keep b hb (.inl hr))
/-- A row that stays. -/
def RowS (base g : Nat) (ρ : Nat → Rl) (w : World) (a : Option Addr) (xs : List Int) : Prop :=
  ∀ i (h : i < xs.length), ∃ b off, a = some ⟨b, off, none⟩ ∧ b < w.heap.size ∧ (ρ b ≠ oth ∨ (b < base ∧ b ≠ g)) ∧ w.cell? ⟨b, off + i, none⟩ = some (.int .i64 xs[i])
theorem RowS.nf {a : Option Addr} {xs : List Int} (h : RowS base g ρ w a xs) (hN : NF base g ρ w w') : RowS base g ρ w' a xs := fun i hi => by
  obtain ⟨b, off, e, hb, hr, hc⟩ := h i hi
  exact ⟨b, off, e, Nat.lt_of_lt_of_le hb hN.size, hr, (hN.cell hb hr).trans hc⟩
end

/-- A clause's number is noted at a literal, once. -/
def noteF (n : Int) (f : Int → List Int) (l : Int) : Int → List Int := if (f l).getLast? = some n then f else updI f l (f l ++ [n])
def noteC (n : Int) (f : Int → List Int) (c : List Int) : Int → List Int := c.foldl (noteF n) f
theorem noteC_snoc (n : Int) (f : Int → List Int) (c : List Int) (l : Int) : noteC n f (c ++ [l]) = noteF n (noteC n f c) l := by unfold noteC; rw [List.foldl_append]; rfl

end Go.Proofs.Ytlmbgaconjcaiab

namespace Go.Proofs.Ytlmbgaconjcaiab
open Go.RowKit

theorem law3 : Maps.Keyed Try.prog 3 := Maps.int_keyed Try.underlying3
theorem zero25 (w : World) : (zeroValue 32).run Try.prog w = .ok (.slice none 0 0) w := by kernel_rfl
theorem i64_wf {x : Int} (h0 : -9223372036854775808 ≤ x) (h1 : x ≤ 9223372036854775807) : (Lit.int .i64 x).wf = true := WalkArith.wf_i64 (by omega)
theorem grown_ad (w : World) (o : Obj) (row : Option Nat) : w.grownBy (w.alloc o).drew row :=
  ⟨rfl, rfl, rfl, by simp, fun b hb _ => Below.heap_alloc w o b hb⟩
theorem grown_refl (w : World) (row : Option Nat) : w.grownBy w row := ⟨rfl, rfl, rfl, Nat.le_refl _, fun _ _ _ => rfl⟩

section
variable {ρ : Nat → Rl} {w : World} {g base n : Nat} {f : Int → List Int}
theorem gro_at3 (h : Gro Try.prog 3 3 ρ w g base n (litF f)) (hn : n < maxLen) (hfr : ∀ b, w.heap.size ≤ b → ρ b = oth) (l : Int) (h0 : -1048576 ≤ l) (h1 : l ≤ 1048576) :
    ∃ a cap, (Instr.lookup 51 (.map (some g)) (.int .i64 l) false).run Try.prog w = .ok (.slice a (f l).length cap) w ∧ w.ownsInts base 3 .i64 (.slice a (f l).length cap) (f l) ∧ (f l).length ≤ n ∧ (∀ b, Value.ownBlock (.slice a (f l).length cap) = some b → ρ b = oth) ∧
      ∀ (w1 : World) (v' : Value) (zs' : List Int), w.grownBy w1 (Value.ownBlock (.slice a (f l).length cap)) → w1.ownsInts base 3 .i64 v' zs' → zs'.length ≤ n + 1 → (v'.ownBlock = Value.ownBlock (.slice a (f l).length cap) ∨ ∃ b, v'.ownBlock = some b ∧ w.heap.size ≤ b) →
        ∃ w2, (Instr.mapUpdate 51 (.map (some g)) (.int .i64 l) v').run Try.prog w1 = .ok () w2 ∧ Gro Try.prog 3 3 ρ w2 g base (n + 1) (litF (updI f l zs')) ∧ w1.grownBy w2 (some g) := by
  obtain ⟨v, hr, ho, hl, hro, hb⟩ := h.at (t := 51) (E := 32) law3 Try.underlying51 (zero25 w) hn (Maps.keyOf_int_mk Try.underlying3 (i64_wf (x := l) (by omega) (by omega)))
  obtain ⟨a, cap, rfl, _⟩ := own_form ho.1
  refine ⟨a, cap, hr, ho, hl, hro, fun w1 v' zs' g1 g2 g3 g4 => ?_⟩
  refine hb w1 v' zs' ρ (litF (updI f l zs')) g1 g2 g3 g4 (fun _ _ => rfl) (fun b e => ?_) (updI_same f l zs') (fun q hq => ?_)
  · rcases g4 with g4 | ⟨c, g4, g5⟩
    · exact hro b (g4.symm.trans e)
    · rw [g4] at e; cases e; exact hfr _ g5
  · cases q with
    | int k x =>
      by_cases e : x = l
      · subst e
        cases k <;> first | exact (hq rfl).elim | rfl
      · cases k <;> first | exact updI_other f zs' e | rfl
    | _ => rfl
end

set_option maxHeartbeats 4000000 in
set_option maxRecDepth 100000 in
theorem noteHaving_any {ρ : Nat → Rl} {w : World} {g base sz k : Nat} {f : Int → List Int} (hk : w.cell? ⟨k, 6, none⟩ = some (.map (some g))) (hkb : k < base) (hkg : k ≠ g) (hkl : k < w.heap.size)
    (hG : Gro Try.prog 3 3 ρ w g base sz (litF f)) (hfr : ∀ b, w.heap.size ≤ b → ρ b = oth) (hbase : base ≤ w.heap.size) (n : Nat) (hn : n ≤ 1048576) (a : Option Addr) (cap : Nat) (c : List Int) (hr : RowS base g ρ w a c) (hl : c.length ≤ 10000) (hsz : sz + c.length ≤ 4000000000)
    (hc : ∀ x ∈ c, -1048576 ≤ x ∧ x ≤ 1048576) :
    Calls Try.prog 44 #[.pointer (some ⟨k, 0, none⟩), .int .i64 (n : Int), .slice a c.length cap] w fun e w' => e = .returned (.tuple #[]) ∧ Gro Try.prog 3 3 ρ w' g base (sz + c.length) (litF (noteC n f c)) ∧ NF base g ρ w w' := by
  obtain ⟨i0, hi, hz0, hz1, hz2⟩ := info_parts Try.info3
  have HG := hide hG
  have HR := hide hr
  have HC := hide hc
  clear hG hr hc
  go_enter Try.func44, Try.ntmps44
  go_wp2
  go_loopw [11] (fun j wr => ∃ i : Nat, i ≤ c.length ∧ j = .int .i64 (i : Int) ∧ Hid (Gro Try.prog 3 3 ρ wr g base (sz + i) (litF (noteC n f (c.take i)))) ∧ Hid (NF base g ρ w wr)) (fun j _ => c.length - (intOf j).toNat)
  case atStart => exact ⟨0, Nat.zero_le _, rfl, HG, NF.refl _ _ _ _⟩
  case round =>
    obtain ⟨i, hi', rfl, HG1, HN1⟩ := hrel
    clear HG
    have k6 := (HN1.out.cell (o := 6) hkl (.inr ⟨hkb, hkg⟩)).trans hk
    by_cases hlt : i < c.length
    · have hii : (i : Int) < c.length := by omega
      obtain ⟨b, off, rfl, hb, _, hcell⟩ := (HR.out.nf HN1.out) i hlt
      have hx := HC.out c[i] (List.getElem_mem hlt)
      have HS : Hid (noteC n f (c.take (i + 1)) = noteF n (noteC n f (c.take i)) c[i]) := by unfold Hid; rw [List.take_succ_eq_append_getElem hlt, noteC_snoc]
      have hws : w.heap.size ≤ wr.heap.size := HN1.out.size
      obtain ⟨a1, cap1, hlook, hoi, hlen, hro, hback⟩ := gro_at3 HG1.out (by unfold maxLen; omega) (fun b hb => hfr b (by omega)) c[i] hx.1 hx.2
      generalize noteC n f (c.take i) = f1 at *
      generalize c[i] = l at *
      generalize hzs : f1 l = zs at *
      have HZS := hide hzs
      have HOI := hide hoi
      have HRO := hide hro
      have HBK := hide hback
      clear hzs hro hback
      by_cases hlast : zs.getLast? = some (n : Int)
      · have hne : zs ≠ [] := by rintro rfl; simp at hlast
        have hzl : 0 < zs.length := List.length_pos_iff.2 hne
        obtain ⟨g1, cap2, e1, _, _, _⟩ := own_some hoi.1 hzl
        simp at e1; obtain ⟨rfl, rfl⟩ := e1
        have hcl := own_cell (i := zs.length - 1) hoi.1 rfl (u := .int .i64 (n : Int)) (by
          rw [List.getLast?_eq_getElem?] at hlast
          simp [hlast])
        have HF : Hid (noteF n f1 l = f1) := by unfold Hid noteF; rw [HZS.out, if_pos hlast]
        have hz0' : ((zs.length : Int) == 0) = false := by simp; omega
        clear hoi hlast hne
        generalize zs.length = Z at *
        have hzi : (0 : Int) < Z := by omega
        have hsub : ((Z : Int) - 1).toNat = Z - 1 := by omega
        go_wp2
        go_roundw
        case rel => exact ⟨i + 1, by omega, by go_num, by unfold Hid; rw [HS.out, HF.out]; exact HG1.out.mono (by omega), HN1⟩
        case measure => simp [intOf]; omega
      · have HF : Hid (noteF n f1 l = updI f1 l (zs ++ [(n : Int)])) := by unfold Hid noteF; rw [HZS.out, if_neg hlast]
        have HAP : Hid (∀ (g3 cap3 : Nat) (w3 : World), w3.ownsRow base 3 1 (.slice (some ⟨g3, 0, none⟩) (zs.length + 1) cap3) (zs.length + 1) (zs.map (Value.int .i64) ++ [.int .i64 (n : Int)]) → (wr.alloc (.cells #[.int .i64 (n : Int)] 3)).drew.grownBy w3 (Value.ownBlock (.slice a1 zs.length cap1)) → (Value.ownBlock (.slice a1 zs.length cap1) = some g3 ∨ g3 = wr.heap.size + 1) →
            w3.cell? ⟨k, 6, none⟩ = some (.map (some g)) ∧ ∃ w4, (Instr.mapUpdate 51 (.map (some g)) (.int .i64 l) (.slice (some ⟨g3, 0, none⟩) (zs.length + 1) cap3)).run Try.prog w3 = .ok () w4 ∧ Hid (Gro Try.prog 3 3 ρ w4 g base (sz + (i + 1)) (litF (updI f1 l (zs ++ [(n : Int)])))) ∧ Hid (NF base g ρ w w4)) := by
          intro g3 cap3 w3 ho hg hat
          have hg1 := (grown_ad wr (.cells #[.int .i64 (n : Int)] 3) _).trans hg
          have hoi3 := HOI.out.appended ho (i64_wf (by omega) (by omega))
          obtain ⟨w4, h1, h2, h3⟩ := HBK.out w3 (.slice (some ⟨g3, 0, none⟩) (zs.length + 1) cap3) (zs ++ [(n : Int)]) hg1 hoi3 (by simp; omega) (by
            rcases hat with hat | hat
            · exact .inl hat.symm
            · exact .inr ⟨g3, rfl, by omega⟩)
          have hNF : NF base g ρ wr w3 := NF.grown hg1 (fun b e => ⟨HRO.out b e, .inl (HOI.out.1.lt b e).1⟩)
          exact ⟨(hNF.cell (Nat.lt_of_lt_of_le hkl hws) (.inr ⟨hkb, hkg⟩)).trans k6, w4, h1, h2, HN1.out.trans (hNF.trans (NF.grown h3 (fun b e => by cases e; exact ⟨HG1.out.ro, .inr rfl⟩)))⟩
        have HOW := hide (HOI.out.1)
        have hne : zs = [] ∨ ∃ g1 cap2 y, a1 = some ⟨g1, 0, none⟩ ∧ cap1 = cap2 ∧ wr.cell? ⟨g1, zs.length - 1, none⟩ = some (.int .i64 y) ∧ y ≠ (n : Int) ∧ 0 < zs.length := by
          by_cases e : zs = []
          · exact .inl e
          · right
            have hzl : 0 < zs.length := List.length_pos_iff.2 e
            obtain ⟨g1, cap2, e1, _, _, _⟩ := own_some hoi.1 hzl
            simp at e1; obtain ⟨rfl, rfl⟩ := e1
            rw [List.getLast?_eq_getElem?, List.getElem?_eq_getElem (by omega)] at hlast
            refine ⟨g1, cap1, zs[zs.length - 1], rfl, rfl, own_cell (i := zs.length - 1) hoi.1 rfl (by simp [List.getElem?_eq_getElem (show zs.length - 1 < zs.length by omega)]), fun e => hlast (by rw [e]), hzl⟩
        have HB : Hid (base ≤ wr.heap.size) := Nat.le_trans hbase hws
        have hkf : ∀ o : Obj, (wr.alloc o).cell? ⟨k, 6, none⟩ = some (.map (some g)) := fun o => (World.cell?_of_block (a := ⟨k, 6, none⟩) (Below.heap_alloc wr o k (Nat.lt_of_lt_of_le hkl hws))).trans k6
        rcases hne with hz | ⟨g1, cap2, y, rfl, rfl, hcl, hyn, hzl⟩
        · have hz0' : ((zs.length : Int) == 0) = true := by rw [hz]; rfl
          clear hoi hlast hz HOI HBK HRO
          go_upto_region 5 with fail
          go_region_law (refine step_append_lies _ rfl (.tmp 39) (.tmp 41) 32 rfl base 3 i0 (.int .i64 0) 1 8 Try.underlying32 hi hz0 hz1 hz2 rfl (by decide) (.slice a1 zs.length cap1) zs.length _ (by rfl) (own_same (HOW.out.alloc _) (fun _ _ => rfl)) ⟨wr.heap.size, 0, none⟩ 1 1 [.int .i64 (n : Int)] (by rfl) (by rfl) (World.news_of_block (cs := #[.int .i64 (n : Int)]) (t := 3) (fr := (0, 0)) (show (wr.alloc (.cells #[.int .i64 (n : Int)] 3)).drew.heap[wr.heap.size]? = _ from heap_alloc_new wr _)) (by simp [Value.oneCell']) (by decide) (by unfold maxLen; omega) (by omega) (by have := HB.out; simp; omega) (wr.heap.size + 1) (by simp) ?_; intro g3 cap3 w3 ho3 hgr3 hat3 hlt3; obtain ⟨hk3, w4, hr4, HG4, HN4⟩ := HAP.out g3 cap3 w3 ho3 hgr3 hat3)
          all_goals
            clear HAP HOW hkf hk3 ho3 hgr3 hat3 hlt3 hr4 k6 hlook
            go_wp2
            go_roundw
            case rel => exact ⟨i + 1, by omega, by go_num, by unfold Hid; rw [HS.out, HF.out]; exact HG4.out, HN4⟩
            case measure => simp [intOf]; omega
        · have hz0' : ((zs.length : Int) == 0) = false := by
            simp
            rintro rfl
            simp at hzl
          have hyn' : (y != (n : Int)) = true := by simpa using hyn
          have hyn2 : (y == (n : Int)) = false := by simpa using hyn
          have hzi : (0 : Int) < zs.length := by omega
          have hsub : ((zs.length : Int) - 1).toNat = zs.length - 1 := by omega
          clear hoi hlast HOI HBK HRO hyn
          go_upto_region 5 with fail
          go_region_law (refine step_append_lies _ rfl (.tmp 39) (.tmp 41) 32 rfl base 3 i0 (.int .i64 0) 1 8 Try.underlying32 hi hz0 hz1 hz2 rfl (by decide) (.slice (some ⟨g1, 0, none⟩) zs.length cap1) zs.length _ (by rfl) (own_same (HOW.out.alloc _) (fun _ _ => rfl)) ⟨wr.heap.size, 0, none⟩ 1 1 [.int .i64 (n : Int)] (by rfl) (by rfl) (World.news_of_block (cs := #[.int .i64 (n : Int)]) (t := 3) (fr := (0, 0)) (show (wr.alloc (.cells #[.int .i64 (n : Int)] 3)).drew.heap[wr.heap.size]? = _ from heap_alloc_new wr _)) (by simp [Value.oneCell']) (by decide) (by unfold maxLen; omega) (by omega) (by have := HB.out; simp; omega) (wr.heap.size + 1) (by simp) ?_; intro g3 cap3 w3 ho3 hgr3 hat3 hlt3; obtain ⟨hk3, w4, hr4, HG4, HN4⟩ := HAP.out g3 cap3 w3 ho3 hgr3 hat3)
          all_goals
            clear HAP HOW hkf hk3 ho3 hgr3 hat3 hlt3 hr4 k6 hlook
            go_wp2
            go_roundw
            case rel => exact ⟨i + 1, by omega, by go_num, by unfold Hid; rw [HS.out, HF.out]; exact HG4.out, HN4⟩
            case measure => simp [intOf]; omega
    · obtain rfl : i = c.length := by omega
      have HG2 := HG1.out
      rw [List.take_length] at HG2
      replace HG2 := hide HG2
      go_wp2
      go_end0
      exact ⟨rfl, HG2.out, HN1.out⟩
end Go.Proofs.Ytlmbgaconjcaiab

namespace Go.Proofs.Ytlmbgaconjcaiab
open Go.RowKit

/-- All clauses that are there are noted, by their numbers. -/
def noteL : List Cl → Nat → (Int → List Int) → Int → List Int
  | [], _, f => f
  | c :: r, j, f => noteL r (j + 1) (if c.gone then f else noteC j f c.lits)
theorem noteL_snoc : ∀ (l : List Cl) (j : Nat) (f : Int → List Int) (c : Cl), noteL (l ++ [c]) j f = if c.gone then noteL l j f else noteC ((j + l.length : Nat) : Int) (noteL l j f) c.lits
  | [], j, f, c => by simp [noteL]
  | d :: r, j, f, c => by
    show noteL (r ++ [c]) (j + 1) _ = _
    rw [noteL_snoc r (j + 1)]
    show _ = if c.gone then noteL r (j + 1) _ else noteC ((j + (r.length + 1) : Nat) : Int) (noteL r (j + 1) _) c.lits
    rw [show j + 1 + r.length = j + (r.length + 1) by omega]

/-- The role of what is looked at for a while. -/
def tmpR : Rl := (87, 0)
theorem tmp_ne : tmpR ≠ oth := by decide

section
variable {ρ : Nat → Rl} {w w1 : World} {g base : Nat}
/-- A new row is none of the map's. -/
theorem own_rowS {v : Value} {xs : List Int} (h : Own w.heap.size w1 v xs) : ∃ cb a cap, v = .slice a xs.length cap ∧ w.heap.size ≤ cb ∧ (xs ≠ [] → cb < w1.heap.size) ∧ RowS base g (rs ρ cb tmpR) w1 a xs := by
  by_cases hx : xs = []
  · subst hx
    obtain ⟨a, cap, e, _⟩ := h.row
    exact ⟨w.heap.size, a, cap, e, Nat.le_refl _, fun q => absurd rfl q, fun i hi => by simp at hi⟩
  · obtain ⟨cb, cap, e, _, _, hlt⟩ := own_some h (List.length_pos_iff.2 hx)
    subst e
    refine ⟨cb, _, cap, rfl, (World.ownsRow.lt h cb rfl).1, fun _ => hlt, fun i hi => ?_⟩
    refine ⟨cb, 0, rfl, hlt, .inl (by rw [rs_same]; exact tmp_ne), ?_⟩
    have := own_cell (i := i) h rfl (u := .int .i64 xs[i]) (by simp [List.getElem?_eq_getElem hi])
    rw [Nat.zero_add]; exact this
theorem nf_tmp {w2 : World} {cb : Nat} (hb : Below w.heap.size w w1) (hc : w.heap.size ≤ cb) (h : NF base g (rs ρ cb tmpR) w1 w2) : NF base g ρ w w2 :=
  ⟨h.os.trans hb.os, h.tape.trans hb.tape, h.output.trans hb.output, Nat.le_trans hb.size h.size, fun b hbb hr => (h.keep b (Nat.lt_of_lt_of_le hbb hb.size) (by rw [rs_other _ _ (by omega)]; exact hr)).trans (hb.block b hbb)⟩
theorem role_tmp {cb : Nat} (b : Nat) (hf : ρ cb = oth) (h : rs ρ cb tmpR b = oth) : ρ b = oth := by
  by_cases e : b = cb
  · subst e; exact hf
  · rw [rs_other _ _ e] at h; exact h
end

set_option maxHeartbeats 4000000 in
set_option maxRecDepth 100000 in
theorem each_having {ρ : Nat → Rl} {w : World} {g base k B : Nat} {H : Hd} {s : PS} (hk0 : w.cell? ⟨k, 0, none⟩ = some (.pointer (some ⟨B, 0, none⟩))) (hk3 : w.cell? ⟨k, 3, none⟩ = some (.int .i64 (s.cls.length : Int))) (hk6 : w.cell? ⟨k, 6, none⟩ = some (.map (some g))) (hkb : k < base) (hkg : k ≠ g) (hkl : k < w.heap.size)
    (hR : Rep ρ w B H s) (hI : Inv s) (hlits : ∀ c ∈ s.cls, c.lits.length ≤ 4096) (hcl : s.cls.length ≤ 10000)
    (hG : Gro Try.prog 3 3 ρ w g base 0 (fun _ => [])) (hfr : ∀ b, w.heap.size ≤ b → ρ b = oth) (hbase : base ≤ w.heap.size) :
    Calls Try.prog 32 #[.pointer (some ⟨k, 0, none⟩), .func (.func 44) #[.pointer (some ⟨k, 0, none⟩)] #[]] w fun e w' => e = .returned (.tuple #[]) ∧ Gro Try.prog 3 3 ρ w' g base (4096 * s.cls.length) (litF (noteL s.cls 0 (fun _ => []))) ∧ NF base g ρ w w' := by
  have HG : Hid (Gro Try.prog 3 3 ρ w g base (4096 * 0) (litF (noteL (s.cls.take 0) 0 (fun _ => [])))) := by
    have e : (litF (noteL (s.cls.take 0) 0 (fun _ => []))) = fun _ => [] := by
      funext q
      cases q with
      | int kk x => cases kk <;> rfl
      | _ => rfl
    unfold Hid; rw [e]; exact hG
  have HR := hide hR
  have HI := hide hI
  have HL := hide hlits
  have HFR := hide hfr
  clear hG hR hI hlits hfr
  go_enter Try.func32, Try.ntmps32
  go_wp2
  go_loopw [11] (fun j wr => ∃ i : Nat, i ≤ s.cls.length ∧ j = .int .i64 (i : Int) ∧ Hid (Gro Try.prog 3 3 ρ wr g base (4096 * i) (litF (noteL (s.cls.take i) 0 (fun _ => [])))) ∧ Hid (NF base g ρ w wr)) (fun j _ => s.cls.length - (intOf j).toNat)
  case atStart => exact ⟨0, Nat.zero_le _, rfl, HG, NF.refl _ _ _ _⟩
  case round =>
    obtain ⟨i, hi', rfl, HG1, HN1⟩ := hrel
    clear HG
    have k0 := (HN1.out.cell (o := 0) hkl (.inr ⟨hkb, hkg⟩)).trans hk0
    have k6 := (HN1.out.cell (o := 6) hkl (.inr ⟨hkb, hkg⟩)).trans hk6
    have hws : w.heap.size ≤ wr.heap.size := HN1.out.size
    by_cases hlt : i < s.cls.length
    · have hii : (i : Int) < s.cls.length := by omega
      have hRr := HN1.out.rep HR.out
      have hci := List.getElem?_eq_getElem hlt
      have hli := HL.out s.cls[i] (List.getElem_mem hlt)
      have HS : Hid (noteL (s.cls.take (i + 1)) 0 (fun _ => []) = if s.cls[i].gone then noteL (s.cls.take i) 0 (fun _ => []) else noteC (i : Int) (noteL (s.cls.take i) 0 (fun _ => [])) s.cls[i].lits) := by
        unfold Hid
        rw [List.take_succ_eq_append_getElem hlt, noteL_snoc, List.length_take, Nat.min_eq_left (by omega), Nat.zero_add]
      have hlx : ∀ x ∈ s.cls[i].lits, -1048576 ≤ x ∧ x ≤ 1048576 := fun x hx => by
        have q := HI.out.wt.ok i s.cls[i] hci x hx
        have q2 := HI.out.sz.vars
        unfold Lt at q; omega
      generalize noteL (s.cls.take i) 0 (fun _ => []) = f1 at *
      generalize s.cls[i] = c at *
      cases hg : c.gone with
      | true =>
        have G := hide (propClause_no hRr (i : Int) (.inr (.inr ⟨c, by omega, by simpa using hci, hg⟩)) (by omega))
        rw [hg] at HS
        clear hRr hci
        go_wp2_with (go_at_call 41; refine (unhide G).mono ?_; rintro e w1 ⟨rfl, hw1⟩; subst w1)
        go_roundw
        case rel => exact ⟨i + 1, by omega, by go_num, by unfold Hid; rw [HS.out]; exact HG1.out.mono (by omega), HN1⟩
        case measure => simp [intOf]; omega
      | false =>
        rw [hg] at HS
        have G : Hid (Calls Try.prog 41 #[.pointer (some ⟨B, 0, none⟩), .int .i64 (i : Int)] wr fun e w1 => ∃ a cap, e = .returned (.tuple #[.slice a c.lits.length cap, .bool true]) ∧ Calls Try.prog 44 #[.pointer (some ⟨k, 0, none⟩), .int .i64 (i : Int), .slice a c.lits.length cap] w1 fun e w' => e = .returned (.tuple #[]) ∧ Hid (Gro Try.prog 3 3 ρ w' g base (4096 * (i + 1)) (litF (noteC (i : Int) f1 c.lits))) ∧ Hid (NF base g ρ w w')) := by
          refine (propClause_yes hRr i c hci hg (by omega) (by omega)).mono ?_
          rintro e w1 ⟨v, rfl, ho, hb⟩
          obtain ⟨cb, a, cap, rfl, hcb, hcb2, hrs⟩ := own_rowS (ρ := ρ) (g := g) (base := base) ho
          refine ⟨a, cap, rfl, ?_⟩
          have hfr1 : ∀ b, w1.heap.size ≤ b → ρ b = oth := fun b hb' => HFR.out b (by have := hb.size; omega)
          have hG1 : Gro Try.prog 3 3 (rs ρ cb tmpR) w1 g base (4096 * i) (litF f1) := HG1.out.ev (fun b hbb => rs_other _ _ (by omega)) (fun b hbb _ => hb.block b hbb)
          by_cases hxe : c.lits = []
          · have := noteHaving_any (ρ := ρ) (w := w1) (k := k) (f := f1) ((hb.cell (p := ⟨k, 6, none⟩) (Nat.lt_of_lt_of_le hkl hws)).trans k6) hkb hkg (by have := hb.size; omega) (HG1.out.ev (fun _ _ => rfl) (fun b hbb _ => hb.block b hbb)) hfr1 (by have := hb.size; omega) i (by omega) a cap c.lits (by rw [hxe]; exact fun i hi => by simp at hi) (by omega) (by omega) hlx
            refine this.mono ?_
            rintro e w2 ⟨rfl, q1, q2⟩
            exact ⟨rfl, q1.mono (by omega), HN1.out.trans ((NF.below hb).trans q2)⟩
          · have := noteHaving_any (ρ := rs ρ cb tmpR) (w := w1) (k := k) (f := f1) ((hb.cell (p := ⟨k, 6, none⟩) (Nat.lt_of_lt_of_le hkl hws)).trans k6) hkb hkg (by have := hb.size; omega) hG1 (fun b hb' => by rw [rs_other _ _ (by have := hcb2 hxe; omega)]; exact hfr1 b hb') (by have := hb.size; omega) i (by omega) a cap c.lits hrs (by omega) (by omega) hlx
            refine this.mono ?_
            rintro e w2 ⟨rfl, q1, q2⟩
            exact ⟨rfl, (q1.mono (by omega)).role (fun b hbb => role_tmp b (HFR.out cb (by omega)) hbb), HN1.out.trans (nf_tmp hb hcb q2)⟩
        clear hRr hci
        go_wp2_with (first
          | (go_at_call 41; refine (unhide G).mono ?_; rintro e w1 ⟨a, cap, rfl, G2⟩; replace G2 := hide G2)
          | (go_at_call 44; refine (unhide G2).mono ?_; rintro e w2 ⟨rfl, HG2, HN2⟩))
        go_roundw
        case rel => exact ⟨i + 1, by omega, by go_num, by unfold Hid; rw [HS.out]; exact HG2.out, HN2⟩
        case measure => simp [intOf]; omega
    · obtain rfl : i = s.cls.length := by omega
      have HG2 := HG1.out
      rw [List.take_length] at HG2
      replace HG2 := hide HG2
      clear HG1
      go_wp2
      go_end0
      exact ⟨rfl, HG2.out, HN1.out⟩
end Go.Proofs.Ytlmbgaconjcaiab

namespace Go.Proofs.Ytlmbgaconjcaiab
open Go.RowKit

/-- The greatest variable. -/
def gtN (c : List Int) : Nat := c.foldl (fun t x => max t x.natAbs) 0
theorem gtN_snoc (c : List Int) (x : Int) : gtN (c ++ [x]) = max (gtN c) x.natAbs := by unfold gtN; rw [List.foldl_append]; rfl
theorem gtN_le {c : List Int} {V : Nat} : (∀ x ∈ c, x.natAbs ≤ V) → gtN c ≤ V := by
  have key : ∀ (l : List Int) (t : Nat), t ≤ V → (∀ x ∈ l, x.natAbs ≤ V) → l.foldl (fun t x => max t x.natAbs) t ≤ V := by
    intro l
    induction l with
    | nil => intro t ht _; exact ht
    | cons x r ih =>
      intro t ht hl
      exact ih _ (Nat.max_le.2 ⟨ht, hl x (by simp)⟩) (fun y hy => hl y (List.mem_cons_of_mem _ hy))
  exact fun h => key c 0 (Nat.zero_le _) h
theorem le_gtN {c : List Int} : ∀ x ∈ c, x.natAbs ≤ gtN c := by
  have key : ∀ (l : List Int) (t : Nat), t ≤ l.foldl (fun t x => max t x.natAbs) t ∧ ∀ x ∈ l, x.natAbs ≤ l.foldl (fun t x => max t x.natAbs) t := by
    intro l
    induction l with
    | nil => intro t; exact ⟨Nat.le_refl _, fun x hx => by simp at hx⟩
    | cons y r ih =>
      intro t
      obtain ⟨h1, h2⟩ := ih (max t y.natAbs)
      refine ⟨Nat.le_trans (Nat.le_max_left _ _) h1, fun x hx => ?_⟩
      rcases List.mem_cons.1 hx with rfl | hx
      · exact Nat.le_trans (Nat.le_max_right _ _) h1
      · exact h2 x hx
  exact (key c 0).2

theorem max3 (g : Nat) (x : Int) (W : World) : Sem.run Try.prog (Builtin.max_ #[3, 3, 3] 3 #[.int .i64 (g : Int), .int .i64 x, .int .i64 (-x)]) W = .ok (.int .i64 ((max g x.natAbs : Nat) : Int)) W := by
  simp [Builtin.max_, Builtin.max2, go_sem]
  split <;> split <;> omega
theorem max2n (g h : Nat) (W : World) : Sem.run Try.prog (Builtin.max_ #[3, 3] 3 #[.int .i64 (g : Int), .int .i64 (h : Int)]) W = .ok (.int .i64 ((max g h : Nat) : Int)) W := by
  simp [Builtin.max_, Builtin.max2, go_sem]
  split <;> omega

set_option maxHeartbeats 4000000 in
set_option maxRecDepth 100000 in
theorem greatest_any (a : Option Addr) (cap : Nat) (c : List Int) (w : World) (hr : Row w a c) (hl : c.length ≤ maxLen) (hc : ∀ x ∈ c, -1048576 ≤ x ∧ x ≤ 1048576) :
    Calls Try.prog 22 #[.slice a c.length cap] w fun e w' => e = .returned (.int .i64 (gtN c)) ∧ w' = w := by
  unfold maxLen at hl
  go_enter Try.func22, Try.ntmps22
  go_wp2
  go_loop [3, 8] (fun t3 t8 => ∃ (i g : Nat), t8 = .int .i64 i ∧ i ≤ c.length ∧ t3 = .int .i64 g ∧ g ≤ 1048576 ∧ Hid (g = gtN (c.take i))) (fun _ t8 => c.length - (intOf t8).toNat)
  case atStart => exact ⟨0, 0, rfl, Nat.zero_le _, rfl, by omega, by simp [Hid, gtN]⟩
  case round =>
    obtain ⟨i, g, rfl, hi, rfl, hg, HG⟩ := hrel
    by_cases hlt : i < c.length
    · have hii : (i : Int) < c.length := by omega
      obtain ⟨bb, off, rfl, hbb, hcell⟩ := hr i hlt
      have hx := hc c[i] (List.getElem_mem hlt)
      have HN : Hid (gtN (c.take (i + 1)) = max g c[i].natAbs) := by unfold Hid; rw [List.take_succ_eq_append_getElem hlt, gtN_snoc, ← HG.out]
      have hwr : IntKind.i64.wrap (-c[i]) = -c[i] := wrap_neg (by omega) (by omega)
      clear hr HG hc
      generalize c[i] = x at *
      have hmb : max g x.natAbs ≤ 1048576 := by omega
      have hmax := max3 g x
      generalize max g x.natAbs = g2 at *
      go_wp2
      go_round
      case rel => exact ⟨i + 1, g2, by go_num, by omega, rfl, hmb, HN.out.symm⟩
      case measure => simp [intOf]; omega
    · obtain rfl : i = c.length := by omega
      have HE := HG.out
      rw [List.take_length] at HE
      have HE2 := hide HE
      clear HE HG hr hc
      go_wp2
      go_ret
      exact ⟨ret_int (by rw [HE2.out]), rfl⟩

theorem checkLit_any (a : Option Addr) (cap : Nat) (c : List Int) (w : World) (hr : Row w a c) (hl : c.length ≤ maxLen) :
    Calls Try.prog 30 #[.slice a c.length cap] w fun e w' => e = .returned (.int .i64 (if mayB c 1048576 then 0 else 1)) ∧ w' = w := by
  have C := isClause_any a cap c 1048576 w hr hl (by omega) (by omega)
  clear hr
  cases h : mayB c 1048576 with
  | true =>
    rw [h] at C
    replace C := hide C
    clear h
    go_enter Try.func30, Try.ntmps30
    go_wp2_with (go_at_call 29; refine (unhide C).mono ?_; rintro e w0 ⟨rfl, hw0⟩; subst w0)
    go_ret
    exact ⟨rfl, rfl⟩
  | false =>
    rw [h] at C
    replace C := hide C
    clear h
    go_enter Try.func30, Try.ntmps30
    go_wp2_with (go_at_call 29; refine (unhide C).mono ?_; rintro e w0 ⟨rfl, hw0⟩; subst w0)
    go_ret
    exact ⟨rfl, rfl⟩

/-- A step: whether a clause goes, and its literals. -/
structure StD where
  d : Bool
  c : List Int

structure StAt (w : World) (b off i : Nat) (x : StD) (ai : Option Addr) (ci : Nat) : Prop where
  c0 : w.cell? ⟨b, off + i * 2, none⟩ = some (.bool x.d)
  c1 : w.cell? ⟨b, off + i * 2 + 1, none⟩ = some (.slice ai x.c.length ci)
  row : Row w ai x.c
  len : x.c.length ≤ maxLen
  nil : ai = none → ci = 0
def Sts (w : World) (a : Option Addr) (l : List StD) : Prop := ∀ i (h : i < l.length), ∃ b off ai ci, a = some ⟨b, off, none⟩ ∧ b < w.heap.size ∧ StAt w b off i l[i] ai ci
theorem Sts.below {w w' : World} {a : Option Addr} {l : List StD} (h : Sts w a l) (hb : Below w.heap.size w w') : Sts w' a l := by
  intro i hi
  obtain ⟨b, off, ai, ci, e, hlt, hA⟩ := h i hi
  exact ⟨b, off, ai, ci, e, Nat.lt_of_lt_of_le hlt hb.size, (hb.cell (p := ⟨b, _, none⟩) hlt).trans hA.c0, (hb.cell (p := ⟨b, _, none⟩) hlt).trans hA.c1, hA.row.below hb, hA.len, hA.nil⟩

def proofB (l : List StD) : Bool := l.all (fun x => mayB x.c 1048576)
def errN (b : Bool) : Int := if b then 0 else 1

set_option maxHeartbeats 4000000 in
set_option maxRecDepth 100000 in
theorem traceCheck_any (a : Option Addr) (cap : Nat) (l : List StD) (w : World) (hr : Sts w a l) (hl : l.length ≤ 262144) :
    Calls Try.prog 21 #[.slice a l.length cap] w fun e w' => e = .returned (.int .i64 (errN (proofB l))) ∧ Below w.heap.size w w' := by
  have hl' : ¬ (262144 : Int) < l.length := by omega
  have HR := hide hr
  clear hr
  go_enter Try.func21, Try.ntmps21
  go_wp2
  go_loopw [10] (fun t10 wr => ∃ i : Nat, t10 = .int .i64 i ∧ i ≤ l.length ∧ Hid ((l.take i).all (fun x => mayB x.c 1048576) = true) ∧ Hid (Below w.heap.size w wr)) (fun t10 _ => l.length - (intOf t10).toNat)
  case atStart => exact ⟨0, rfl, Nat.zero_le _, by simp [Hid], Below.refl _ _⟩
  case round =>
    obtain ⟨i, rfl, hi, HA, HB⟩ := hrel
    by_cases hlt : i < l.length
    · have hii : (i : Int) < l.length := by omega
      obtain ⟨bb, off, ai, ci, rfl, hbb, hS⟩ := (HR.out.below HB.out) i hlt
      have k0 := hS.c0
      have k1 := hS.c1
      have hbn : bb ≠ wr.heap.size := Nat.ne_of_lt hbb
      have HC : Hid (∀ x, Below wr.heap.size wr x → Calls Try.prog 30 #[.slice ai l[i].c.length ci] x fun e w' => e = .returned (.int .i64 (if mayB l[i].c 1048576 then 0 else 1)) ∧ w' = x) := fun x hx => checkLit_any ai ci l[i].c x (hS.row.below hx) hS.len
      cases hm : mayB l[i].c 1048576 with
      | true =>
        have HN : Hid ((l.take (i + 1)).all (fun x => mayB x.c 1048576) = true) := by
          unfold Hid; rw [List.take_succ_eq_append_getElem hlt, List.all_append, HA.out]; simp [hm]
        rw [hm] at HC
        simp only [if_true] at HC
        clear hS hm HA
        generalize l[i] = st at *
        obtain ⟨sd, sc⟩ := st
        simp only at k0 k1 HC
        go_wp2_with (go_at_call 30; refine (HC.out _ (below_alloc _ _)).mono ?_; rintro e w0 ⟨rfl, hw0⟩; subst w0)
        go_roundw
        case rel => exact ⟨i + 1, by go_num, by omega, HN, HB.out.alloc HB.out.size _⟩
        case measure => simp [intOf]; omega
      | false =>
        have HN : Hid (proofB l = false) := by
          unfold Hid proofB; rw [List.all_eq_false]; exact ⟨l[i], List.getElem_mem hlt, by simp [hm]⟩
        rw [hm] at HC
        simp only [Bool.false_eq_true, if_false] at HC
        clear hS hm HA
        generalize l[i] = st at *
        obtain ⟨sd, sc⟩ := st
        simp only at k0 k1 HC
        go_wp2_with (go_at_call 30; refine (HC.out _ (below_alloc _ _)).mono ?_; rintro e w0 ⟨rfl, hw0⟩; subst w0)
        go_ret
        exact ⟨ret_int (by rw [HN.out]; rfl), HB.out.alloc HB.out.size _⟩
    · have HN : Hid (proofB l = true) := by
        have q := HA.out
        rw [List.take_of_length_le (by omega)] at q
        exact q
      clear HA
      go_wp2
      go_ret
      exact ⟨ret_int (by rw [HN.out]; rfl), HB.out⟩
end Go.Proofs.Ytlmbgaconjcaiab

namespace Go.Proofs.Ytlmbgaconjcaiab
open Go.RowKit

/-- The greatest variable of a formula and of steps; the spare one; how many a propagator has. -/
def topN (V : Nat) (l : List StD) : Nat := l.foldl (fun t x => max t (gtN x.c)) V
def spareN (V : Nat) (l : List StD) : Nat := if topN V l < 1048576 then topN V l + 1 else 0
def varsN (V : Nat) (l : List StD) : Nat := if topN V l < 1048576 then topN V l + 1 else topN V l
theorem topN_snoc (V : Nat) (l : List StD) (x : StD) : topN V (l ++ [x]) = max (topN V l) (gtN x.c) := by unfold topN; rw [List.foldl_append]; rfl
theorem topN_le {V : Nat} {l : List StD} (hV : V ≤ 1048576) (h : proofB l = true) : topN V l ≤ 1048576 := by
  have key : ∀ (l : List StD) (t : Nat), t ≤ 1048576 → (∀ x ∈ l, gtN x.c ≤ 1048576) → l.foldl (fun t x => max t (gtN x.c)) t ≤ 1048576 := by
    intro l
    induction l with
    | nil => intro t ht _; exact ht
    | cons x r ih => intro t ht hl; exact ih _ (Nat.max_le.2 ⟨ht, hl x (by simp)⟩) (fun y hy => hl y (List.mem_cons_of_mem _ hy))
  refine key l V hV (fun x hx => gtN_le (fun y hy => ?_))
  unfold proofB at h
  rw [List.all_eq_true] at h
  have hm := h x hx
  unfold mayB at hm
  simp only [Bool.and_eq_true, decide_eq_true_eq, List.all_eq_true] at hm
  have := hm.2 y hy
  unfold litB at this
  simp only [decide_eq_true_eq] at this
  omega
theorem le_topN (V : Nat) (l : List StD) : V ≤ topN V l ∧ ∀ x ∈ l, gtN x.c ≤ topN V l := by
  have key : ∀ (l : List StD) (t : Nat), t ≤ l.foldl (fun t x => max t (gtN x.c)) t ∧ ∀ x ∈ l, gtN x.c ≤ l.foldl (fun t x => max t (gtN x.c)) t := by
    intro l
    induction l with
    | nil => intro t; exact ⟨Nat.le_refl _, fun x hx => by simp at hx⟩
    | cons y r ih =>
      intro t
      obtain ⟨h1, h2⟩ := ih (max t (gtN y.c))
      refine ⟨Nat.le_trans (Nat.le_max_left _ _) h1, fun x hx => ?_⟩
      rcases List.mem_cons.1 hx with rfl | hx
      · exact Nat.le_trans (Nat.le_max_right _ _) h1
      · exact h2 x hx
  exact key l V
theorem may_lits {c : List Int} (h : mayB c 1048576 = true) : ∀ x ∈ c, x ≠ 0 ∧ -1048576 ≤ x ∧ x ≤ 1048576 := by
  intro x hx
  unfold mayB at h
  simp only [Bool.and_eq_true, decide_eq_true_eq, List.all_eq_true] at h
  have := h.2 x hx
  unfold litB at this
  simp only [decide_eq_true_eq] at this
  omega
theorem cnf_up {V V' : Nat} {css : List (List Int)} (h : cnfB V css = true) (hle : V ≤ V') (hV : V' ≤ 1048576) : cnfB V' css = true := by
  unfold cnfB at h ⊢
  simp only [Bool.and_eq_true, decide_eq_true_eq, List.all_eq_true] at h ⊢
  refine ⟨⟨by omega, by omega, h.1.2.2⟩, fun c hc => ?_⟩
  have hm := h.2 c hc
  unfold mayB at hm ⊢
  simp only [Bool.and_eq_true, decide_eq_true_eq, List.all_eq_true] at hm ⊢
  refine ⟨hm.1, fun x hx => ?_⟩
  have := hm.2 x hx
  unfold litB at this ⊢
  simp only [decide_eq_true_eq] at this ⊢
  omega

set_option maxHeartbeats 4000000 in
set_option maxRecDepth 100000 in
theorem open_no' (a al : Option Addr) (cap cal : Nat) (n : Int) (css : List (List Int)) (l : List StD) (w : World) (hg : Grid w a css) (hl : css.length ≤ maxLen) (hs : Sts w al l) (hll : l.length ≤ 262144) (hno : cnfB n css = false ∨ (cnfB n css = true ∧ proofB l = false)) :
    Calls Try.prog 14 #[.agg #[.int .i64 n, .slice a css.length cap], .slice al l.length cal] w fun e w' => e = .returned (.tuple #[.pointer none, .int .i64 1]) ∧ Below w.heap.size w w' := by
  have hb0 := below_alloc w (.cells #[.int .i64 n, .slice a css.length cap] 24)
  have CC := checkCnf_any a cap n css _ (hg.below hb0) hl
  have TC : ∀ x, Below w.heap.size w x → Calls Try.prog 21 #[.slice al l.length cal] x fun e w' => e = .returned (.int .i64 (errN (proofB l))) ∧ Below x.heap.size x w' := fun x hx => traceCheck_any al cal l x (hs.below hx) hll
  have HB0 := hide hb0
  clear hg hb0 hs
  rcases hno with h | ⟨h, h2⟩
  · rw [h] at CC
    replace CC := hide CC
    clear TC h
    go_enter Try.func14, Try.ntmps14
    go_wp2_with (go_at_call 20; refine (unhide CC).mono ?_; rintro e w1 ⟨rfl, hb1⟩)
    go_ret2
    exact ⟨rfl, HB0.out.trans (hb1.mono HB0.out.size)⟩
  · rw [h] at CC
    replace CC := hide CC
    have TC' : Hid (∀ x, Below w.heap.size w x → Calls Try.prog 21 #[.slice al l.length cal] x fun e w' => e = .returned (.int .i64 1) ∧ Below x.heap.size x w') := fun x hx => by have q := TC x hx; rw [h2] at q; exact q
    clear TC h h2
    go_enter Try.func14, Try.ntmps14
    go_wp2_with (first | (go_at_call 20; refine (unhide CC).mono ?_; rintro e w1 ⟨rfl, hb1⟩; have hb1w := HB0.out.trans (hb1.mono HB0.out.size)) | (go_at_call 21; refine (TC'.out _ hb1w).mono ?_; rintro e w2 ⟨rfl, hb2⟩))
    go_ret2
    exact ⟨rfl, hb1w.trans (hb2.mono hb1w.size)⟩

theorem setBlk {w : World} {k i : Nat} {cs : Array Value} {t : TypeId} (h : w.heap[k]? = some (.cells cs t (0, 0))) (v : Value) : (w.setCell ⟨k, i, none⟩ v).heap[k]? = some (.cells (cs.setIfInBounds i v) t (0, 0)) := by
  have hlt := lt_of_block h
  have h' : w.heap[k] = .cells cs t (0, 0) := by simpa [Array.getElem?_eq_getElem hlt] using h
  show (w.heap.modify k _)[k]? = _
  rw [Array.getElem?_eq_getElem (by simpa using hlt), Array.getElem_modify_self, h']
  rfl
theorem setOff (w : World) (k i : Nat) (v : Value) : (∀ b, b ≠ k → (w.setCell ⟨k, i, none⟩ v).heap[b]? = w.heap[b]?) ∧ (w.setCell ⟨k, i, none⟩ v).heap.size = w.heap.size := ⟨fun b hb => Below.heap_setCell _ _ _ _ hb, by simp [World.setCell]⟩

/-- What open leaves. -/
def OpenP (w : World) (V : Nat) (css : List (List Int)) (l : List StD) (k B : Nat) (w' : World) : Prop :=
  ∃ ρ s, KP ρ w' k B s V css.length css.length (spareN V l : Nat) (.map none) (.map none) ∧ Ev free w ρ w' ∧ s.vars = varsN V l ∧ s.cls.map key = css.map (fun c => (c, false)) ∧ s.trail = [] ∧ s.lvs = [] ∧ w.heap.size ≤ k

/-- The propagator is laid into the keeper. -/
theorem open_fin {w x w4 : World} {V k B : Nat} {css : List (List Int)} {l : List StD} (hb : Below w.heap.size w x) (hk : w.heap.size ≤ k) (hblk : x.heap[k]? = some (.cells #[.pointer none, .int .i64 V, .int .i64 css.length, .int .i64 css.length, .int .i64 (spareN V l : Nat), .map none, .map none] 53 (0, 0))) (hc : cnfB (varsN V l) css = true) (hl : css.length ≤ 900) (hP : NewP x B (varsN V l) css w4) :
    OpenP w V css l k B (w4.setCell ⟨k, 0, none⟩ (.pointer (some ⟨B, 0, none⟩))) ∧ w4.cell? ⟨k, 0, none⟩ = some (.pointer none) ∧ w4.frozen? ⟨k, 0, none⟩ = false := by
  obtain ⟨ρ, H, hR, hE⟩ := hP
  have hVV : varsN V l ≤ 1048576 := by
    unfold cnfB at hc
    simp only [Bool.and_eq_true, decide_eq_true_eq] at hc
    omega
  have hLt := cnf_lt hc
  obtain ⟨e1, e2, e3, e4, e5, e6, e7⟩ := news (varsN V l) hVV css (fun c hc => (hLt c hc).2) hl
  have hk4 := (hE.keep k (lt_of_block hblk) rfl).trans hblk
  have hro : ρ k = oth := hE.agree k (lt_of_block hblk)
  obtain ⟨o1, o2⟩ := setOff w4 k 0 (.pointer (some ⟨B, 0, none⟩))
  have hsb := setBlk (i := 0) hk4 (.pointer (some ⟨B, 0, none⟩))
  have hE2 : Ev free w ρ w4 := (Ev.below hb).trans hE
  refine ⟨⟨ρ, _, ⟨⟨H, hR.off (fun b hb' hr => o1 b (by rintro rfl; exact hr hro))⟩, by rw [hsb]; rfl, hro, e1, Cnt.new e3 e6 e7, fun c hc' => ?_⟩, ⟨hE2.os, hE2.tape, hE2.output, by rw [o2]; exact hE2.size, hE2.agree, fun b hb' ho => (o1 b (by omega)).trans (hE2.keep b hb' ho)⟩, e2, e3, e4, e5, hk⟩, cell_of_block hk4 (i := 0) rfl, frz_of_block hk4 (i := 0)⟩
  have hkk : key c ∈ (css.foldl PS.attach (PS.zero (varsN V l))).cls.map key := List.mem_map_of_mem hc'
  rw [e3] at hkk
  obtain ⟨d, hd', e⟩ := List.mem_map.1 hkk
  have e9 : d = c.lits := congrArg Prod.fst e
  have := (hLt d hd').1
  rw [e9] at this; omega

set_option maxHeartbeats 4000000 in
set_option maxRecDepth 100000 in
theorem open_yes (a al : Option Addr) (cap cal : Nat) (V : Nat) (css : List (List Int)) (l : List StD) (w : World) (hg : GridC w a css) (hl : css.length ≤ 900) (hs : Sts w al l) (hll : l.length ≤ 1000) (hc : cnfB V css = true) (hp : proofB l = true) :
    Calls Try.prog 14 #[.agg #[.int .i64 V, .slice a css.length cap], .slice al l.length cal] w fun e w' => ∃ k B, e = .returned (.tuple #[.pointer (some ⟨k, 0, none⟩), .int .i64 0]) ∧ OpenP w V css l k B w' := by
  have hV : V ≤ 1048576 := by
    unfold cnfB at hc
    simp only [Bool.and_eq_true, decide_eq_true_eq] at hc
    omega
  have htop := topN_le hV hp
  have hle := (le_topN V l).1
  have hcV : cnfB (varsN V l) css = true := cnf_up hc (by unfold varsN; split <;> omega) (by unfold varsN; split <;> omega)
  have hb0 := below_alloc w (.cells #[.int .i64 V, .slice a css.length cap] 24)
  have CC := checkCnf_any a cap V css _ (hg.grid.below hb0) (by unfold maxLen; omega)
  rw [hc] at CC
  replace CC := hide CC
  have TC : Hid (∀ x, Below w.heap.size w x → Calls Try.prog 21 #[.slice al l.length cal] x fun e w' => e = .returned (.int .i64 0) ∧ Below x.heap.size x w') := fun x hx => by have q := traceCheck_any al cal l x (hs.below hx) (by omega); rw [hp] at q; exact q
  have NW : Hid (∀ x, Below w.heap.size w x → Calls Try.prog 23 #[.agg #[.int .i64 (varsN V l : Nat), .slice a css.length cap]] x fun e w' => ∃ B, e = .returned (.tuple #[.pointer (some ⟨B, 0, none⟩), .int .i64 0]) ∧ NewP x B (varsN V l) css w') := fun x hx => new_yes a cap (varsN V l) css x (hg.below hx) hl hcV (by unfold varsN; split <;> omega)
  have HFN : Hid (∀ (k B : Nat) (x w4 : World), Below w.heap.size w x → w.heap.size ≤ k → x.heap[k]? = some (.cells #[.pointer none, .int .i64 V, .int .i64 css.length, .int .i64 css.length, .int .i64 (spareN V l : Nat), .map none, .map none] 53 (0, 0)) → NewP x B (varsN V l) css w4 → OpenP w V css l k B (w4.setCell ⟨k, 0, none⟩ (.pointer (some ⟨B, 0, none⟩))) ∧ w4.cell? ⟨k, 0, none⟩ = some (.pointer none) ∧ w4.frozen? ⟨k, 0, none⟩ = false) := fun k B x w4 hb hk hblk hP => open_fin hb hk hblk hcV hl hP
  have HB0 := hide hb0
  have HK := hide (heap_alloc_new w (.cells #[.int .i64 V, .slice a css.length cap] 24))
  have HS := hide hs
  have HPR := hide hp
  clear hg hb0 hs hc hcV hp
  go_enter Try.func14, Try.ntmps14
  go_wp2_with (first | (go_at_call 20; refine (unhide CC).mono ?_; rintro e w1 ⟨rfl, hb1⟩; have k1 := (hb1.cell (p := ⟨w.heap.size, 1, none⟩) (by simp)).trans (cell_of_block HK.out (i := 1) rfl); have k0 := (hb1.cell (p := ⟨w.heap.size, 0, none⟩) (by simp)).trans (cell_of_block HK.out (i := 0) rfl); have hb1w := HB0.out.trans (hb1.mono HB0.out.size); have hlt1 : w.heap.size < w1.heap.size := Nat.lt_of_lt_of_le (by simp) hb1.size) | (go_at_call 21; refine (TC.out _ hb1w).mono ?_; rintro e w2 ⟨rfl, hb2⟩; have j1 := (hb2.cell (p := ⟨w.heap.size, 1, none⟩) hlt1).trans k1; have j0 := (hb2.cell (p := ⟨w.heap.size, 0, none⟩) hlt1).trans k0; have hb2w := hb1w.trans (hb2.mono hb1w.size); have hlt2 : w.heap.size < w2.heap.size := Nat.lt_of_lt_of_le hlt1 hb2.size; have hne2 : w.heap.size ≠ w2.heap.size := Nat.ne_of_lt hlt2))
  have HT := hide htop
  have HLE := hide hle
  clear htop hle
  have hk0 := heap_alloc_new w2 (.cells #[.pointer none, .int .i64 V, .int .i64 css.length, .int .i64 css.length, .int .i64 0, .map none, .map none] 53)
  have hbx : Below w.heap.size w (w2.alloc (.cells #[.pointer none, .int .i64 V, .int .i64 css.length, .int .i64 css.length, .int .i64 0, .map none, .map none] 53)) := hb2w.alloc hb2w.size _
  have hkx : w2.heap.size < (w2.alloc (.cells #[.pointer none, .int .i64 V, .int .i64 css.length, .int .i64 css.length, .int .i64 0, .map none, .map none] 53)).heap.size := by simp
  have hbk := below_alloc w2 (.cells #[.pointer none, .int .i64 V, .int .i64 css.length, .int .i64 css.length, .int .i64 0, .map none, .map none] 53)
  have i1 := (hbk.cell (p := ⟨w.heap.size, 1, none⟩) hlt2).trans j1
  have hlx := Nat.lt_of_lt_of_le hlt2 hbk.size
  have hkw := hb2w.size
  clear hbk j1 j0 k1 k0 hb1 hb2 hb1w hb2w hlt1 CC TC HB0 HK
  generalize w2.alloc (.cells #[.pointer none, .int .i64 V, .int .i64 css.length, .int .i64 css.length, .int .i64 0, .map none, .map none] 53) = x0 at *
  generalize w2.heap.size = k at *
  go_loopw [7, 33] (fun t7 t33 wr => ∃ i g : Nat, t33 = .int .i64 i ∧ i ≤ l.length ∧ t7 = .int .i64 g ∧ g ≤ 1048576 ∧ Hid (g = topN V (l.take i)) ∧ Hid (Below x0.heap.size x0 wr)) (fun _ t33 _ => l.length - (intOf t33).toNat)
  case atStart => exact ⟨0, V, rfl, Nat.zero_le _, rfl, hV, by simp [Hid, topN], Below.refl _ _⟩
  case round =>
    obtain ⟨i, g, rfl, hi, rfl, hg, HG, HB⟩ := hrel
    by_cases hlt : i < l.length
    · have hii : (i : Int) < l.length := by omega
      obtain ⟨bb, off, ai, ci, rfl, hbb, hS⟩ := (HS.out.below (hbx.trans (HB.out.mono hbx.size))) i hlt
      have k0 := hS.c0
      have k1 := hS.c1
      have hbn : bb ≠ wr.heap.size := Nat.ne_of_lt hbb
      have hmy : mayB l[i].c 1048576 = true := by
        have q := HPR.out
        unfold proofB at q
        rw [List.all_eq_true] at q
        exact q _ (List.getElem_mem hlt)
      have hgl : gtN l[i].c ≤ 1048576 := Nat.le_trans ((le_topN V l).2 _ (List.getElem_mem hlt)) HT.out
      have HC : Hid (∀ x, Below wr.heap.size wr x → Calls Try.prog 22 #[.slice ai l[i].c.length ci] x fun e w' => e = .returned (.int .i64 (gtN l[i].c)) ∧ w' = x) := fun x hx => greatest_any ai ci l[i].c x (hS.row.below hx) hS.len (fun y hy => (may_lits hmy y hy).2)
      have HN : Hid (topN V (l.take (i + 1)) = max g (gtN l[i].c)) := by
        unfold Hid; rw [List.take_succ_eq_append_getElem hlt, topN_snoc, ← HG.out]
      have hmb : max g (gtN l[i].c) ≤ 1048576 := Nat.max_le.2 ⟨hg, hgl⟩
      have hmax := max2n g (gtN l[i].c)
      clear hS hmy HG hgl i1 hk0 HFN NW
      generalize l[i] = st at *
      obtain ⟨sd, sc⟩ := st
      simp only at k0 k1 HC HN hmb hmax
      generalize max g (gtN sc) = g2 at *
      generalize gtN sc = g1 at *
      go_wp2_with (go_at_call 22; refine (HC.out _ (below_alloc _ _)).mono ?_; rintro e w0 ⟨rfl, hw0⟩; subst w0)
      go_roundw
      case rel => exact ⟨i + 1, g2, by go_num, by omega, rfl, hmb, HN.out.symm, HB.out.alloc HB.out.size _⟩
      case measure => simp [intOf]; omega
    · obtain rfl : i = l.length := by omega
      have HE := HG.out
      rw [List.take_length] at HE
      have hkr := (HB.out.block k hkx).trans hk0
      have i2 := (HB.out.cell (p := ⟨w.heap.size, 1, none⟩) hlx).trans i1
      have hbr := hbx.trans (HB.out.mono hbx.size)
      have c4 := cell_of_block hkr (i := 4) rfl
      have f4 := frz_of_block hkr (i := 4)
      by_cases ht : g < 1048576
      · have hti : (g : Int) < 1048576 := by omega
        have hsp : spareN V l = g + 1 := by unfold spareN; rw [← HE, if_pos ht]
        have hva : varsN V l = g + 1 := by unfold varsN; rw [← HE, if_pos ht]
        have hsb := setBlk (i := 4) hkr (.int .i64 ((g : Int) + 1))
        simp only [List.setIfInBounds_toArray, List.set_cons_zero, List.set_cons_succ] at hsb
        have hbs := hbr.setCell (p := ⟨k, 4, none⟩) hkw (.int .i64 ((g : Int) + 1))
        have i3 : (wr.setCell ⟨k, 4, none⟩ (.int .i64 ((g : Int) + 1))).cell? ⟨w.heap.size, 1, none⟩ = some (.slice a css.length cap) := by
          have q := (setOff wr k 4 (.int .i64 ((g : Int) + 1))).1 w.heap.size hne2
          unfold World.cell? at i2 ⊢
          rw [q]; exact i2
        rw [hsp, hva] at HFN
        rw [hva] at NW
        simp only [Int.natCast_add, Int.natCast_one, Int.cast_ofNat_Int] at HFN NW
        have NW2 := NW.out _ hbs
        have HF2 := fun B w4 => HFN.out k B _ w4 hbs hkw hsb
        replace NW2 := hide NW2
        replace HF2 := hide HF2
        clear HFN NW HG HE HB hbx hk0 hkr hsb hbs hsp hva HT HLE HS HPR hbr
        go_wp2_with (go_at_call 23; refine (unhide NW2).mono ?_; rintro e w4 ⟨B, rfl, hP⟩; obtain ⟨hO, hc0, hf0⟩ := (unhide HF2) B w4 hP; replace hO := hide hO)
        go_ret2
        exact ⟨k, B, rfl, hO.out⟩
      · have hti : ¬ (g : Int) < 1048576 := by omega
        have hsp : spareN V l = 0 := by unfold spareN; rw [← HE, if_neg ht]
        have hva : varsN V l = g := by unfold varsN; rw [← HE, if_neg ht]
        rw [hsp, hva] at HFN
        rw [hva] at NW
        have NW2 := NW.out _ hbr
        have HF2 := fun B w4 => HFN.out k B _ w4 hbr hkw hkr
        replace NW2 := hide NW2
        replace HF2 := hide HF2
        clear HFN NW HG HE HB hbx hk0 hkr hsp hva HT HLE HS HPR hbr
        go_wp2_with (go_at_call 23; refine (unhide NW2).mono ?_; rintro e w4 ⟨B, rfl, hP⟩; obtain ⟨hO, hc0, hf0⟩ := (unhide HF2) B w4 hP; replace hO := hide hO)
        go_ret2
        exact ⟨k, B, rfl, hO.out⟩
end Go.Proofs.Ytlmbgaconjcaiab

namespace Go.Proofs.Ytlmbgaconjcaiab
open Go.RowKit

/-- A valuation that makes the clauses true and every literal of c false: nothing is told of c, if what was decided is true. -/
theorem told_no {t : PS} (hI : Inv t) {c : List Int} {css : List (List Int)} (hcl : t.cls.map key = css.map (fun c => (c, false))) (v : Int → Int) (hneg : ∀ x, v (-x) = - v x) (hcs : ∀ d ∈ css, ∃ x ∈ d, v x = 1) (hd : ∀ l ∈ t.dec, v l = 1) (hc : ∀ l ∈ c, v l ≠ 1) : ¬ Told t c true := by
  have hcc : ∀ (i : Nat) d, t.cls[i]? = some d → d.gone = false → ∃ x ∈ d.lits, v x = 1 := by
    intro i d hi _
    have hk : key d ∈ t.cls.map key := List.mem_map_of_mem (List.mem_of_getElem? hi)
    rw [hcl] at hk
    obtain ⟨e, he, e2⟩ := List.mem_map.1 hk
    have e3 : e = d.lits := congrArg Prod.fst e2
    rw [← e3]; exact hcs e he
  rintro (⟨_, ⟨l, hl, ht⟩ | ⟨n, hn⟩⟩ | ⟨h, _⟩)
  · exact hc l hl (sound_trail hI v hneg hcc hd l ht)
  · exact sound_broken hI v hneg hcc hd hn
  · simp at h

/-- The literals' values under a valuation of variables, with the spare variable true. -/
theorem unit_implied {w w' : World} {V k B : Nat} {css : List (List Int)} {c : List Int} {ρ : Nat → Rl} {s : PS} {x1 x2 x3 : Int} {m1 m2 : Value} (hcl : s.cls.map key = css.map (fun c => (c, false))) (hlv : s.lvs = []) (hU : UnitsP ρ w k B s x1 x2 x3 (spareN V [⟨false, c⟩]) m1 m2 c true w') (v : Int → Int) (hneg : ∀ x, v (-x) = - v x) (hsp : spareN V [⟨false, c⟩] ≠ 0 → v (spareN V [⟨false, c⟩] : Nat) = 1) (hcs : ∀ d ∈ css, ∃ x ∈ d, v x = 1) (hc : ∀ l ∈ c, v l = -1) : False := by
  obtain ⟨ρ', u, ds0, hK, hE, hG, h0, h1, t, ds, hI, hGt, hds, hT⟩ := hU
  refine told_no hI (hGt.cl.trans hcl) v hneg hcs (fun l hl => ?_) (fun l hl => by rw [hc l hl]; decide) hT
  rw [hGt.dec] at hl
  have hd0 : s.dec = [] := by simp [PS.dec, hlv]
  rw [hd0, List.nil_append] at hl
  rcases List.mem_append.1 hl with hl | hl
  · by_cases hz : spareN V [⟨false, c⟩] = 0
    · rw [h0 hz] at hl; simp at hl
    · rw [(h1 hz).1 hlv] at hl
      obtain rfl : l = _ := by simpa using hl
      exact hsp hz
  · have := hc _ (hds l hl)
    rw [hneg] at this; omega

theorem blk2 (w : World) (o1 o2 : Obj) : ((w.alloc o1).alloc o2).heap[w.heap.size + 1]? = some o2 := by
  have q := heap_alloc_new (w.alloc o1) o2
  have hs : (w.alloc o1).heap.size = w.heap.size + 1 := by simp
  rwa [hs] at q

/-- What Unit tells: nothing is made true that does not follow. -/
def UnitT (V : Nat) (css : List (List Int)) (c : List Int) (b : Bool) : Prop :=
  b = true → ∀ v : Int → Int, (∀ x, v (-x) = - v x) → (spareN V [⟨false, c⟩] ≠ 0 → v (spareN V [⟨false, c⟩] : Nat) = 1) → (∀ d ∈ css, ∃ x ∈ d, v x = 1) → (∀ l ∈ c, v l = -1) → False

/-- How Unit comes to tell it. -/
def UnitE (V : Nat) (css : List (List Int)) (c : List Int) (b : Bool) : Prop :=
  ∃ t ds, Inv t ∧ t.cls.map key = css.map (fun c => (c, false)) ∧ (spareN V [⟨false, c⟩] ≠ 0 → t.dec = (spareN V [⟨false, c⟩] : Int) :: ds) ∧ (spareN V [⟨false, c⟩] = 0 → t.dec = ds) ∧ (∀ d ∈ ds, -d ∈ c) ∧ Told t c b

set_option maxHeartbeats 4000000 in
set_option maxRecDepth 100000 in
theorem unit_yes (a ac : Option Addr) (cap cac : Nat) (V : Nat) (css : List (List Int)) (c : List Int) (w : World) (hg : GridC w a css) (hl : css.length ≤ 900) (hr : Row w ac c) (hlc : c.length ≤ 4096) (hn : ac = none → cac = 0) (hc : cnfB V css = true) (hm : mayB c 1048576 = true) :
    Calls Try.prog 19 #[.agg #[.int .i64 V, .slice a css.length cap], .slice ac c.length cac] w fun e w' => ∃ b, e = .returned (.bool b) ∧ (UnitT V css c b ∧ UnitE V css c b) ∧ Below w.heap.size w w' := by
  have hp : proofB [⟨false, c⟩] = true := by simp [proofB, hm]
  have hV : V ≤ 1048576 := by
    unfold cnfB at hc
    simp only [Bool.and_eq_true, decide_eq_true_eq] at hc
    omega
  have ON : Hid (∀ x, Below w.heap.size w x → x.cell? ⟨w.heap.size + 1, 0, none⟩ = some (.bool false) → x.cell? ⟨w.heap.size + 1, 1, none⟩ = some (.slice ac c.length cac) → w.heap.size + 1 < x.heap.size → Calls Try.prog 14 #[.agg #[.int .i64 V, .slice a css.length cap], .slice (some ⟨w.heap.size + 1, 0, none⟩) 1 1] x fun e w' => ∃ k B, e = .returned (.tuple #[.pointer (some ⟨k, 0, none⟩), .int .i64 0]) ∧ OpenP w V css [⟨false, c⟩] k B w') := by
    intro x hx h0 h1 hlt
    refine (open_yes a (some ⟨w.heap.size + 1, 0, none⟩) cap 1 V css [⟨false, c⟩] x (hg.below hx) hl ?_ (by simp) hc hp).mono ?_
    · intro i hi
      obtain rfl : i = 0 := by simp at hi; omega
      exact ⟨_, _, ac, cac, rfl, hlt, ⟨by simpa using h0, by simpa using h1, hr.below hx, by simp [maxLen]; omega, hn⟩⟩
    · rintro e w' ⟨k, B, rfl, ρ, s, hK, hE, r1, r2, r3, r4, r5⟩
      exact ⟨k, B, rfl, ρ, s, hK, (Ev.below hx).trans hE, r1, r2, r3, r4, Nat.le_trans hx.size r5⟩
  have BU : Hid (∀ k B w1, OpenP w V css [⟨false, c⟩] k B w1 → Calls Try.prog 25 #[.pointer (some ⟨k, 0, none⟩), .slice ac c.length cac] w1 fun e w' => ∃ b, e = .returned (.bool b) ∧ (UnitT V css c b ∧ UnitE V css c b) ∧ Below w.heap.size w w') := by
    rintro k B w1 ⟨ρ, s, hK, hE, e1, e2, e3, e4, _⟩
    have htop := topN_le hV hp
    have hgt := (le_topN V [⟨false, c⟩]).2 _ (List.mem_singleton_self _)
    have hsv : spareN V [⟨false, c⟩] ≤ s.vars := by rw [e1]; unfold spareN varsN; split <;> omega
    have hlt : ∀ x ∈ c, Lt s.vars x := by
      intro x hx
      have q := may_lits hm x hx
      have q2 := le_gtN x hx
      have q3 : topN V [⟨false, c⟩] ≤ s.vars := by rw [e1]; unfold varsN; split <;> omega
      simp only at hgt
      unfold Lt; omega
    refine (byUnits_any hK hsv (fun _ _ => e3) ac cac c (hr.rowO hE) (by omega) hlt).mono ?_
    · rintro e w' ⟨b, rfl, hU⟩
      refine ⟨b, rfl, ⟨?_, ?_⟩, ?_⟩
      · rintro rfl v hneg hsp hcs hcf
        exact unit_implied e2 e4 hU v hneg hsp hcs hcf
      · obtain ⟨ρ', u, ds0, _, _, _, h0, h1, t, ds, hI, hGt, hds, hT⟩ := hU
        have hd0 : s.dec = [] := by simp [PS.dec, e4]
        refine ⟨t, ds, hI, hGt.cl.trans e2, fun hz => ?_, fun hz => ?_, hds, hT⟩
        · rw [hGt.dec, hd0, (h1 hz).1 e4]; rfl
        · rw [hGt.dec, hd0, h0 hz]; rfl
      · obtain ⟨ρ', u, ds0, _, hE', _⟩ := hU
        exact (hE.trans hE').bel
  clear hg hr hc hm hp
  go_enter Try.func19, Try.ntmps19
  go_wp2_with (first | (go_at_call 14; refine (ON.out _ ?_ ?_ ?_ ?_).mono ?_; rotate_left 4; rintro e w1 ⟨k, B, rfl, hO⟩; replace hO := hide hO) | (go_at_call 25; refine (BU.out k B _ hO.out).mono ?_; rintro e w2 ⟨b, rfl, hT, hb⟩; replace hT := hide hT))
  · go_ret
    exact ⟨b, rfl, hT.out, hb⟩
  · exact (below_alloc w _).alloc (by simp) _
  · exact cell_of_block (blk2 _ _ _) rfl
  · exact cell_of_block (blk2 _ _ _) rfl
  · simp
end Go.Proofs.Ytlmbgaconjcaiab

namespace Go.Proofs.Ytlmbgaconjcaiab
open Go.RowKit

set_option maxHeartbeats 4000000 in
set_option maxRecDepth 100000 in
theorem unit_no (a ac : Option Addr) (cap cac : Nat) (n : Int) (css : List (List Int)) (c : List Int) (w : World) (hg : Grid w a css) (hl : css.length ≤ maxLen) (hr : Row w ac c) (hlc : c.length ≤ maxLen) (hn : ac = none → cac = 0) (hno : cnfB n css = false ∨ (cnfB n css = true ∧ mayB c 1048576 = false)) :
    Calls Try.prog 19 #[.agg #[.int .i64 n, .slice a css.length cap], .slice ac c.length cac] w fun e w' => e = .returned (.bool false) ∧ Below w.heap.size w w' := by
  have ON : Hid (∀ x, Below w.heap.size w x → x.cell? ⟨w.heap.size + 1, 0, none⟩ = some (.bool false) → x.cell? ⟨w.heap.size + 1, 1, none⟩ = some (.slice ac c.length cac) → w.heap.size + 1 < x.heap.size → Calls Try.prog 14 #[.agg #[.int .i64 n, .slice a css.length cap], .slice (some ⟨w.heap.size + 1, 0, none⟩) 1 1] x fun e w' => e = .returned (.tuple #[.pointer none, .int .i64 1]) ∧ Below w.heap.size w w') := by
    intro x hx h0 h1 hlt
    refine (open_no' a (some ⟨w.heap.size + 1, 0, none⟩) cap 1 n css [⟨false, c⟩] x (hg.below hx) hl ?_ (by simp) ?_).mono ?_
    · intro i hi
      obtain rfl : i = 0 := by simp at hi; omega
      exact ⟨_, _, ac, cac, rfl, hlt, ⟨by simpa using h0, by simpa using h1, hr.below hx, hlc, hn⟩⟩
    · rcases hno with h | ⟨h1, h2⟩
      · exact .inl h
      · exact .inr ⟨h1, by simp [proofB, h2]⟩
    · rintro e w' ⟨rfl, hb⟩
      exact ⟨rfl, hx.trans (hb.mono hx.size)⟩
  clear hg hr hno
  go_enter Try.func19, Try.ntmps19
  go_wp2_with (go_at_call 14; refine (ON.out _ ?_ ?_ ?_ ?_).mono ?_; rotate_left 4; rintro e w1 ⟨rfl, hb⟩)
  · go_ret
    exact ⟨rfl, hb⟩
  · exact (below_alloc w _).alloc (by simp) _
  · exact cell_of_block (blk2 _ _ _) rfl
  · exact cell_of_block (blk2 _ _ _) rfl
  · simp

end Go.Proofs.Ytlmbgaconjcaiab

namespace Go.Proofs.Ytlmbgaconjcaiab
open Go.RowKit

theorem valI_neg (m : List Int) (x : Int) : valI m (-x) = - valI m x := by
  have h1 : litB (-x) 1048576 = litB x 1048576 := by unfold litB; congr 1; apply propext; constructor <;> intro h <;> omega
  have h2 : varI (-x) = varI x := by unfold varI; split <;> split <;> omega
  have h3 : sgn (-x) = - sgn x := by unfold sgn; split <;> split <;> (try split) <;> (try split) <;> omega
  unfold valI
  rw [h1, h2, h3]
  split
  · exact Int.mul_neg _ _
  · rfl

theorem holds_all {m : List Int} {css : List (List Int)} (h : holdsB m css = true) : ∀ c ∈ css, ∃ x ∈ c, valI m x = 1 := by
  intro c hc
  unfold holdsB at h
  rw [List.all_eq_true] at h
  have h1 := h c hc
  have h2 : clauseI m c = 1 := by simpa using h1
  unfold clauseI at h2
  split at h2
  · rename_i h3
    rw [List.any_eq_true] at h3
    obtain ⟨x, hx, h4⟩ := h3
    exact ⟨x, hx, by simpa using h4⟩
  · split at h2 <;> simp at h2

theorem spare_top {V : Nat} {l : List StD} (h : spareN V l ≠ 0) : topN V l < spareN V l := by
  unfold spareN at h ⊢
  split at h
  · rename_i q; rw [if_pos q]; omega
  · omega

/-- A valuation of the literals, with one variable true besides. -/
def vSp (m : List Int) (sp : Nat) (x : Int) : Int := if x.natAbs = sp ∧ sp ≠ 0 then (if 0 < x then 1 else -1) else valI m x
theorem vSp_neg (m : List Int) (sp : Nat) (x : Int) : vSp m sp (-x) = - vSp m sp x := by
  unfold vSp
  rw [Int.natAbs_neg]
  by_cases h : x.natAbs = sp ∧ sp ≠ 0
  · rw [if_pos h, if_pos h]
    have : x ≠ 0 := by omega
    split <;> split <;> omega
  · rw [if_neg h, if_neg h]; exact valI_neg m x
theorem vSp_low {m : List Int} {sp : Nat} {x : Int} (h : sp ≠ 0 → x.natAbs < sp) : vSp m sp x = valI m x := by
  unfold vSp; rw [if_neg]; rintro ⟨h1, h2⟩; have := h h2; omega

theorem unit_law {V : Nat} {css : List (List Int)} {c m : List Int} (hT : UnitT V css c true) (hc : cnfB V css = true) (hh : holdsB m css = true) (h0 : ∀ l ∈ c, valI m l ≠ 0) : clauseI m c = 1 := by
  by_cases hany : c.any (fun l => valI m l == 1) = true
  · exact clauseI_one hany
  exfalso
  have hle := le_topN V [⟨false, c⟩]
  refine hT rfl (vSp m (spareN V [⟨false, c⟩])) (vSp_neg m _) (fun hs => ?_) (fun d hd => ?_) (fun l hl => ?_)
  · unfold vSp; rw [if_pos ⟨by omega, hs⟩, if_pos (by omega)]
  · obtain ⟨x, hx, hv⟩ := holds_all hh d hd
    have q := (cnf_lt hc d hd).2 x hx
    refine ⟨x, hx, (vSp_low (fun hs => ?_)).trans hv⟩
    have := spare_top hs
    unfold Lt at q
    have := hle.1
    omega
  · have q := le_gtN l hl
    have q2 := hle.2 _ (List.mem_singleton_self _)
    simp only at q2
    rw [vSp_low (fun hs => by have := spare_top hs; omega)]
    have q3 : valI m l ≠ 1 := by
      intro e
      apply hany
      rw [List.any_eq_true]
      exact ⟨l, hl, by simp [e]⟩
    rcases valI_cases m l with e | e | e
    · exact e
    · exact (h0 l hl e).elim
    · exact (q3 e).elim

set_option maxHeartbeats 1000000 in
theorem small_any (a : Option Addr) (cap : Nat) (n : Int) (css : List (List Int)) (w : World) (hg : Grid w a css) (hl : css.length ≤ maxLen) :
    Calls Try.prog 4 #[.agg #[.int .i64 n, .slice a css.length cap]] w fun e w' => e = .returned (.bool (lightB css && decide (css.length ≤ 40))) ∧ Below w.heap.size w w' := by
  have hb0 := below_alloc w (.cells #[.int .i64 n, .slice a css.length cap] 24)
  have C := hide (light_any a cap n css _ (hg.below hb0) hl)
  have HK := hide (heap_alloc_new w (.cells #[.int .i64 n, .slice a css.length cap] 24))
  have HB := hide hb0
  have hlt : w.heap.size < (w.alloc (.cells #[.int .i64 n, .slice a css.length cap] 24)).heap.size := by simp
  clear hg hb0
  cases hL : lightB css with
  | false =>
    rw [hL] at C
    go_enter Try.func4, Try.ntmps4
    go_wp2_with (go_at_call 10; refine (unhide C).mono ?_; rintro e w1 ⟨rfl, hb1⟩)
    go_ret
    exact ⟨rfl, HB.out.trans (hb1.mono HB.out.size)⟩
  | true =>
    rw [hL] at C
    by_cases h4 : css.length ≤ 40
    · have h4' : (css.length : Int) ≤ 40 := by omega
      go_enter Try.func4, Try.ntmps4
      go_wp2_with (go_at_call 10; refine (unhide C).mono ?_; rintro e w1 ⟨rfl, hb1⟩; have k1 := (hb1.cell (p := ⟨w.heap.size, 1, none⟩) hlt).trans (cell_of_block HK.out (i := 1) rfl))
      go_ret
      exact ⟨ret_bool (by simp [h4]), HB.out.trans (hb1.mono HB.out.size)⟩
    · have h4' : ¬ (css.length : Int) ≤ 40 := by omega
      go_enter Try.func4, Try.ntmps4
      go_wp2_with (go_at_call 10; refine (unhide C).mono ?_; rintro e w1 ⟨rfl, hb1⟩; have k1 := (hb1.cell (p := ⟨w.heap.size, 1, none⟩) hlt).trans (cell_of_block HK.out (i := 1) rfl))
      go_ret
      exact ⟨ret_bool (by simp [h4]; omega), HB.out.trans (hb1.mono HB.out.size)⟩
end Go.Proofs.Ytlmbgaconjcaiab

namespace Go.Proofs.Ytlmbgaconjcaiab
open Go.RowKit

set_option maxRecDepth 100000 in
set_option maxHeartbeats 400000 in
theorem isGone_cell (w : World) (b : Nat) (r : Bool) (o4 : w.cell? ⟨b, 4, none⟩ = some (.bool r)) :
    Calls Try.prog 69 #[.pointer (some ⟨b, 0, none⟩)] w fun e w' => e = .returned (.bool r) ∧ w' = w := by
  go_enter Try.func69, Try.ntmps69
  go_wp2
  go_ret
  exact ⟨rfl, rfl⟩

set_option maxRecDepth 100000 in
set_option maxHeartbeats 400000 in
theorem isGoneW_cell (w : World) (b : Nat) (r : Bool) (o4 : w.cell? ⟨b, 4, none⟩ = some (.bool r)) (hlt : b < w.heap.size) (hint : Int) :
    Calls Try.prog 67 #[.agg #[.pointer (some ⟨b, 0, none⟩), .int .i64 hint]] w fun e w' => e = .returned (.bool r) ∧ w' = w.alloc (.cells #[.pointer (some ⟨b, 0, none⟩), .int .i64 hint] 100) := by
  have hne : b ≠ w.heap.size := by omega
  go_enter Try.func67, Try.ntmps67
  go_wp2
  go_ret
  exact ⟨rfl, rfl⟩

/-- The place of the first that is not; -1: there is none. -/
def idxI {α : Type} (al : α → Bool) (is : List α) (k : Nat) : Int := match is with
  | [] => -1
  | i :: r => if al i then idxI al r (k + 1) else k

set_option maxRecDepth 100000 in
set_option maxHeartbeats 2000000 in
theorem index71 (w : World) (cb : Nat → Nat) (al : Nat → Bool) (a : Option Addr) (n cap : Nat) (is : List Nat) (hn : is.length = n) (hn1 : n ≤ 2000000) (hown : w.ownsRow 0 80 1 (.slice a n cap) n (ptrsC cb is))
    (hal : ∀ i ∈ is, w.cell? ⟨cb i, 4, none⟩ = some (.bool (!al i))) :
    Calls Try.prog 79 #[.slice a n cap, .func (.func 69) #[] #[]] w fun e w' => e = .returned (.int .i64 (idxI al is 0)) ∧ w' = w := by
  have hsrc := hown.1
  have hE : Hid (idxI al (is.drop 0) 0 = idxI al is 0) := rfl
  go_enter Try.func79, Try.ntmps79
  go_wp2
  go_loopw [8] (fun j wr => ∃ k : Nat, k ≤ n ∧ j = .int .i64 k ∧ Hid (idxI al (is.drop k) k = idxI al is 0) ∧ wr = w) (fun j _ => n - (intOf j).toNat)
  case atStart => exact ⟨0, Nat.zero_le _, rfl, rfl, rfl⟩
  case round =>
    obtain ⟨k, hk, rfl, HS, rfl⟩ := hrel
    by_cases hlt : k < n
    · have hki : (k : Int) < n := by omega
      obtain ⟨g, cap', ev, _, _, _⟩ := own_some hown (by omega)
      simp at ev; obtain ⟨rfl, rfl⟩ := ev
      have hkl : k < is.length := by omega
      have hc := own_cell (i := k) hown rfl (u := ptrC cb is[k]) (by simp [ptrsC, List.getElem?_eq_getElem hkl])
      have o4 := hal is[k] (List.getElem_mem hkl)
      have HS2 := HS.out
      rw [List.drop_eq_getElem_cons hkl] at HS2
      simp only [idxI] at HS2
      simp only [ptrC] at hc
      clear hal hown hsrc
      generalize is[k] = i at *
      cases hA : al i with
      | true =>
        rw [hA] at o4 HS2
        simp only [if_true, Bool.not_true] at o4 HS2
        have GG := hide (isGone_cell wr _ _ o4)
        replace HS2 := hide HS2
        generalize cb i = b at *
        go_wp2_with (go_at_call 69; refine (unhide GG).mono ?_; rintro e w1 ⟨rfl, hw1⟩; subst w1)
        go_roundw
        case rel => exact ⟨k + 1, by omega, by go_num, HS2, by trivial⟩
        case measure => simp [intOf]; omega
      | false =>
        rw [hA] at o4 HS2
        simp only [Bool.false_eq_true, if_false, Bool.not_false] at o4 HS2
        have GG := hide (isGone_cell wr _ _ o4)
        replace HS2 := hide HS2
        generalize cb i = b at *
        go_wp2_with (go_at_call 69; refine (unhide GG).mono ?_; rintro e w1 ⟨rfl, hw1⟩; subst w1)
        go_ret
        exact ⟨ret_int HS2.out, rfl⟩
    · have hkl : is.drop k = [] := List.drop_eq_nil_of_le (by omega)
      have HS2 := HS.out
      rw [hkl] at HS2
      replace HS2 := hide HS2
      clear hal hown hsrc hkl
      go_wp2
      go_ret
      exact ⟨ret_int HS2.out, rfl⟩

/-- In the midst of DeleteFunc: what stays lies ahead, what is still to be looked at behind. -/
structure Mid {α : Type} (al : α → Bool) (is : List α) (i j : Nat) (raw : List α) : Prop where
  len : raw.length = is.length
  ij : i < j
  jn : j ≤ is.length
  tk : raw.take i = (is.take j).filter al
  dr : raw.drop j = is.drop j

section
variable {α : Type} {al : α → Bool} {is raw : List α} {i j : Nat}
theorem Mid.at (h : Mid al is i j raw) (hj : j < is.length) : raw[j]? = some is[j] := by
  have := congrArg (fun l => l[0]?) h.dr
  simp only [List.getElem?_drop, Nat.add_zero] at this
  rw [this, List.getElem?_eq_getElem hj]
theorem Mid.no (h : Mid al is i j raw) (hj : j < is.length) (hx : al is[j] = false) : Mid al is i (j + 1) raw := by
  refine ⟨h.len, by have := h.ij; omega, by omega, ?_, ?_⟩
  · rw [h.tk, List.take_succ_eq_append_getElem hj, List.filter_append]; simp [hx]
  · have := congrArg (List.drop 1) h.dr
    simpa [List.drop_drop, Nat.add_comm] using this
theorem Mid.yes (h : Mid al is i j raw) (hj : j < is.length) (hx : al is[j] = true) : Mid al is (i + 1) (j + 1) (raw.set i is[j]) := by
  have hi : i < raw.length := by rw [h.len]; have := h.ij; omega
  refine ⟨by rw [List.length_set]; exact h.len, by have := h.ij; omega, by omega, ?_, ?_⟩
  · rw [List.take_succ_eq_append_getElem hj, List.filter_append, ← h.tk, List.take_succ_eq_append_getElem (by simpa using hi)]
    simp [hx, List.take_set_of_le]
  · have := congrArg (List.drop 1) h.dr
    rw [List.drop_set_of_lt (by have := h.ij; omega)]
    simpa [List.drop_drop, Nat.add_comm] using this
theorem Mid.done (h : Mid al is i j raw) (hj : ¬ j < is.length) : raw.take i = is.filter al ∧ i = (is.filter al).length ∧ i < is.length := by
  have e : j = is.length := by have := h.jn; omega
  have h1 : raw.take i = is.filter al := by rw [h.tk, e, List.take_length]
  have hi : i < is.length := by have := h.ij; omega
  refine ⟨h1, ?_, hi⟩
  rw [← h1, List.length_take, h.len]; omega
end

theorem idxI_cases {α : Type} (al : α → Bool) : ∀ (is : List α) (k : Nat), (idxI al is k = -1 ∧ is.filter al = is) ∨ ∃ m, m < is.length ∧ idxI al is k = ((k + m : Nat) : Int) ∧ is.take m = (is.take (m + 1)).filter al
  | [], k => .inl ⟨rfl, rfl⟩
  | i :: r, k => by
    cases h : al i with
    | false => exact .inr ⟨0, by simp, by simp [idxI, h], by simp [h]⟩
    | true =>
      rcases idxI_cases al r (k + 1) with ⟨h1, h2⟩ | ⟨m, h1, h2, h3⟩
      · exact .inl ⟨by simp [idxI, h, h1], by simp [h, h2]⟩
      · refine .inr ⟨m + 1, by simp; omega, by simp [idxI, h, h2]; omega, by simp [h, h3]⟩

def DFP (w : World) (e sz : Nat) (v v' : Value) (n : Nat) (xs : List Value) (w' : World) : Prop := w.grownBy w' v.ownBlock ∧ w'.ownsRow 0 e sz v' n xs

theorem ptrsC_set (cb : Nat → Nat) (is : List Nat) (i x : Nat) : (ptrsC cb is).set i (ptrC cb x) = ptrsC cb (is.set i x) := by simp [ptrsC, List.map_set]

set_option maxHeartbeats 4000000 in
set_option maxRecDepth 100000 in
theorem del65 (w : World) (cb : Nat → Nat) (al : Nat → Bool) (a : Option Addr) (n cap : Nat) (is : List Nat) (hn : is.length = n) (hn1 : n ≤ 2000000) (hown : w.ownsRow 0 80 1 (.slice a n cap) n (ptrsC cb is))
    (hal : ∀ i ∈ is, w.cell? ⟨cb i, 4, none⟩ = some (.bool (!al i)) ∧ cb i < w.heap.size ∧ ∀ g, (Value.slice a n cap).ownBlock = some g → cb i ≠ g) :
    Calls Try.prog 68 #[.slice a n cap, .func (.func 69) #[] #[]] w fun e w' => e = .returned (.slice a (is.filter al).length cap) ∧ DFP w 80 1 (.slice a n cap) (.slice a (is.filter al).length cap) (is.filter al).length (ptrsC cb (is.filter al)) w' := by
  have IX := hide (index71 w cb al a n cap is hn hn1 hown (fun i hi => (hal i hi).1))
  rcases idxI_cases al is 0 with ⟨h1, h2⟩ | ⟨m, h1, h2, h3⟩
  · rw [h1] at IX
    have HF : Hid (DFP w 80 1 (.slice a n cap) (.slice a (is.filter al).length cap) (is.filter al).length (ptrsC cb (is.filter al)) w) := by
      rw [h2, hn]; exact ⟨World.grownBy.refl _ _, hown⟩
    have HN : Hid ((is.filter al).length = n) := by unfold Hid; rw [h2, hn]
    clear hal hown h1 h2
    go_enter Try.func68, Try.ntmps68
    go_wp2_with (go_at_call 79; refine (unhide IX).mono ?_; rintro e w1 ⟨rfl, hw1⟩; subst w1)
    go_ret
    exact ⟨by rw [HN.out]; rfl, HF.out⟩
  · rw [h2] at IX
    have hm : m < n := by omega
    obtain ⟨g, cap', ev, hc1, hc2, hglt⟩ := own_some hown (by omega)
    simp at ev; obtain ⟨rfl, rfl⟩ := ev
    have HM : Hid (Mid al is m (m + 1) is) := ⟨rfl, by omega, by omega, h3, rfl⟩
    have HO := hide hown
    have HA := hide hal
    have HN := hide hn
    unfold maxLen at hc2
    have e0 : ((0 + m : Nat) : Int) = (m : Int) := by omega
    rw [e0] at IX
    have em : ((m : Int) == -1) = false := by simp
    clear hal hown h1 h2 h3 hn e0
    go_enter Try.func68, Try.ntmps68
    go_wp2_with (go_at_call 79; refine (unhide IX).mono ?_; rintro e w1 ⟨rfl, hw1⟩; subst w1)
    go_loopw [5, 6] (fun pi pj wr => ∃ (i j : Nat) (raw : List Nat), pi = .int .i64 i ∧ pj = .int .i64 j ∧ i < j ∧ j ≤ n ∧ Hid (Mid al is i j raw) ∧ Hid (wr.ownsRow 0 80 1 (.slice (some ⟨g, 0, none⟩) n cap) n (ptrsC cb raw)) ∧ Hid (w.grownBy wr (some g))) (fun _ pj _ => n - (intOf pj).toNat)
    case atStart => exact ⟨m, m + 1, is, rfl, by go_num, by omega, by omega, HM, HO, World.grownBy.refl _ _⟩
    case round =>
      obtain ⟨i, j, raw, rfl, rfl, hij, hjn, HM, HO, HG⟩ := hrel
      have hii : (i : Int) < n := by omega
      by_cases hlt : j < n
      · have hji : (j : Int) < n := by omega
        have hjl : j < is.length := by rw [HN.out]; exact hlt
        have hc := own_cell (i := j) HO.out rfl (u := ptrC cb is[j]) (by simp [ptrsC, HM.out.at hjl])
        have hrl : i < raw.length := by rw [HM.out.len]; omega
        have hci := own_cell (i := i) HO.out rfl (u := ptrC cb raw[i]) (by simp [ptrsC, List.getElem?_eq_getElem hrl])
        have hfi := own_fz HO.out rfl i
        obtain ⟨a1, a2, a3⟩ := HA.out is[j] (List.getElem_mem hjl)
        have o4 : wr.cell? ⟨cb is[j], 4, none⟩ = some (.bool (!al is[j])) := (World.cell?_of_block (a := ⟨cb is[j], 4, none⟩) (HG.out.block _ a2 (fun e => a3 g rfl (by simpa using e)))).trans a1
        have M1 := hide (HM.out.no hjl)
        have M2 := hide (HM.out.yes hjl)
        simp only [ptrC] at hc hci
        have HS : Hid ((ptrsC cb raw).set i (.pointer (some ⟨cb is[j], 0, none⟩)) = ptrsC cb (raw.set i is[j])) := ptrsC_set cb raw i is[j]
        clear a1 a2 a3
        generalize is[j] = x at *
        cases hA : al x with
        | true =>
          rw [hA] at o4
          simp only [Bool.not_true] at o4
          have GG := hide (isGone_cell wr _ _ o4)
          generalize cb x = b at *
          go_wp2_with (go_at_call 69; refine (unhide GG).mono ?_; rintro e w1 ⟨rfl, hw1⟩; subst w1)
          go_roundw
          case rel => exact ⟨i + 1, j + 1, raw.set i x, by go_num, by go_num, by omega, by omega, M2.out hA, by have := own_set (i := i) HO.out rfl (.pointer (some ⟨b, 0, none⟩)); rw [HS.out] at this; exact this, grownBy_trans HG.out (grownBy_set _ _ _ _)⟩
          case measure => simp [intOf]; omega
        | false =>
          rw [hA] at o4
          simp only [Bool.not_false] at o4
          have GG := hide (isGone_cell wr _ _ o4)
          generalize cb x = b at *
          go_wp2_with (go_at_call 69; refine (unhide GG).mono ?_; rintro e w1 ⟨rfl, hw1⟩; subst w1)
          go_roundw
          case rel => exact ⟨i, j + 1, raw, rfl, by go_num, by omega, by omega, M1.out hA, HO, HG⟩
          case measure => simp [intOf]; omega
      · obtain ⟨d1, d2, d3⟩ := HM.out.done (by rw [HN.out]; exact hlt)
        have hclw : ∀ ty, (Builtin.clear_ #[64] ty #[.slice (some ⟨g, i, none⟩) (n - i) (cap - i)]).run Try.prog wr = .ok (.tuple #[]) (wr.setCells g i (Builtin.zeroCells (Value.pointer none).cells (n - i)).toList) :=
          fun ty => run_clear_any wr 64 80 ty _ 1 Try.underlying64 zero82 rfl (by decide) (by simp [Value.cells, Value.oneCell']) g i (n - i) (cap - i) (by omega) (fun j hj => own_isSome HO.out (by omega)) (fun j _ => own_fz HO.out rfl _)
        have HF : Hid (DFP w 80 1 (.slice (some ⟨g, 0, none⟩) n cap) (.slice (some ⟨g, 0, none⟩) i cap) i (ptrsC cb (is.filter al)) (wr.setCells g i (Builtin.zeroCells (Value.pointer none).cells (n - i)).toList)) := by
          refine ⟨grownBy_trans HG.out (grownBy_sets g _ _ _), ?_⟩
          have h2 := own_cut HO.out (m := i) (by omega)
          have e : (ptrsC cb raw).take (i * 1) = ptrsC cb (is.filter al) := by rw [← d1]; simp [ptrsC]
          rw [e] at h2
          refine own_sets_beyond rfl _ _ _ h2 ?_
          rw [d2]; simp [ptrsC]
        have HD := hide d2
        have hne : ¬ cap = i := by omega
        have hic : (i : Int) ≤ cap := by omega
        clear d1 d2 d3 HM HO
        go_wp2
        go_ret
        rw [← HD.out]
        exact ⟨rfl, HF.out⟩
end Go.Proofs.Ytlmbgaconjcaiab

namespace Go.Proofs.Ytlmbgaconjcaiab
open Go.RowKit

theorem own_up {w w' : World} {base e sz n : Nat} {v : Value} {xs : List Value} (h : w.ownsRow base e sz v n xs) (hb : Below w.heap.size w w') : w'.ownsRow base e sz v n xs :=
  own_same h (fun k hk => hb.block k (World.ownsRow.lt h k hk).2)

theorem below_twice (w : World) (v : Obj) : Below w.heap.size w ((w.alloc v).alloc v) := (below_alloc w v).trans ((below_alloc _ v).mono (by simp))
theorem grown_below {w w' : World} (hb : Below w.heap.size w w') (r : Option Nat) : w.grownBy w' r := ⟨hb.os, hb.tape, hb.output, hb.size, fun b h _ => hb.block b h⟩

set_option maxRecDepth 100000 in
set_option maxHeartbeats 2000000 in
theorem index70 (w : World) (cb : Nat → Nat) (al : Nat → Bool) (a : Option Addr) (n cap : Nat) (q : List (Nat × Int)) (hn : q.length = n) (hn1 : n ≤ 2000000) (hown : w.ownsRow 0 100 2 (.slice a n cap) n (watC cb q))
    (hal : ∀ p ∈ q, w.cell? ⟨cb p.1, 4, none⟩ = some (.bool (!al p.1)) ∧ cb p.1 < w.heap.size) :
    Calls Try.prog 78 #[.slice a n cap, .func (.func 67) #[] #[]] w fun e w' => e = .returned (.int .i64 (idxI (fun p => al p.1) q 0)) ∧ Below w.heap.size w w' := by
  go_enter Try.func78, Try.ntmps78
  go_wp2
  go_loopw [8] (fun j wr => ∃ k : Nat, k ≤ n ∧ j = .int .i64 k ∧ Hid (idxI (fun p => al p.1) (q.drop k) k = idxI (fun p => al p.1) q 0) ∧ Hid (Below w.heap.size w wr)) (fun j _ => n - (intOf j).toNat)
  case atStart => exact ⟨0, Nat.zero_le _, rfl, rfl, Below.refl _ _⟩
  case round =>
    obtain ⟨k, hk, rfl, HS, HB⟩ := hrel
    by_cases hlt : k < n
    · have hki : (k : Int) < n := by omega
      have hown' := own_up hown HB.out
      obtain ⟨g, cap', ev, _, _, hglt⟩ := own_some hown' (by omega)
      simp at ev; obtain ⟨rfl, rfl⟩ := ev
      have hkl : k < q.length := by omega
      have hw := watC_get cb q k _ (List.getElem?_eq_getElem hkl)
      have hc := own_cell (i := k * 2) hown' rfl hw.1
      have hc2 := own_cell (i := k * 2 + 1) hown' rfl hw.2
      obtain ⟨a1, a2⟩ := hal q[k] (List.getElem_mem hkl)
      have o4 : wr.cell? ⟨cb q[k].1, 4, none⟩ = some (.bool (!al q[k].1)) := (HB.out.cell (p := ⟨cb q[k].1, 4, none⟩) a2).trans a1
      have hblt : cb q[k].1 < wr.heap.size := Nat.lt_of_lt_of_le a2 HB.out.size
      have HS2 := HS.out
      rw [List.drop_eq_getElem_cons hkl] at HS2
      simp only [idxI] at HS2
      simp only [ptrC] at hc
      clear hal hown hown' hw a1 a2
      generalize q[k] = pr at *
      obtain ⟨i, hint⟩ := pr
      simp only at *
      cases hA : al i with
      | true =>
        rw [hA] at o4
        rw [if_pos hA] at HS2
        simp only [Bool.not_true] at o4
        have GG := hide (isGoneW_cell wr _ _ o4 hblt hint)
        replace HS2 := hide HS2
        generalize cb i = b at *
        go_wp2_with (go_at_call 67; refine (unhide GG).mono ?_; rintro e w1 ⟨rfl, hw1⟩; subst w1)
        go_roundw
        case rel => exact ⟨k + 1, by omega, by go_num, HS2, HB.out.trans ((below_alloc wr _).mono HB.out.size)⟩
        case measure => simp [intOf]; omega
      | false =>
        rw [hA] at o4
        rw [if_neg (by simp [hA])] at HS2
        simp only [Bool.not_false] at o4
        have GG := hide (isGoneW_cell wr _ _ o4 hblt hint)
        replace HS2 := hide HS2
        generalize cb i = b at *
        go_wp2_with (go_at_call 67; refine (unhide GG).mono ?_; rintro e w1 ⟨rfl, hw1⟩; subst w1)
        go_ret
        exact ⟨ret_int HS2.out, HB.out.trans ((below_alloc wr _).mono HB.out.size)⟩
    · have hkl : q.drop k = [] := List.drop_eq_nil_of_le (by omega)
      have HS2 := HS.out
      rw [hkl] at HS2
      replace HS2 := hide HS2
      clear hal hown hkl
      go_wp2
      go_ret
      exact ⟨ret_int HS2.out, HB.out⟩

set_option maxHeartbeats 4000000 in
set_option maxRecDepth 100000 in
theorem del63 (w : World) (cb : Nat → Nat) (al : Nat → Bool) (a : Option Addr) (n cap : Nat) (q : List (Nat × Int)) (hn : q.length = n) (hn1 : n ≤ 2000000) (hown : w.ownsRow 0 100 2 (.slice a n cap) n (watC cb q))
    (hal : ∀ p ∈ q, w.cell? ⟨cb p.1, 4, none⟩ = some (.bool (!al p.1)) ∧ cb p.1 < w.heap.size ∧ ∀ g, (Value.slice a n cap).ownBlock = some g → cb p.1 ≠ g) :
    Calls Try.prog 66 #[.slice a n cap, .func (.func 67) #[] #[]] w fun e w' => e = .returned (.slice a (q.filter (fun p => al p.1)).length cap) ∧ DFP w 100 2 (.slice a n cap) (.slice a (q.filter (fun p => al p.1)).length cap) (q.filter (fun p => al p.1)).length (watC cb (q.filter (fun p => al p.1))) w' := by
  have IX := hide (index70 w cb al a n cap q hn hn1 hown (fun i hi => ⟨(hal i hi).1, (hal i hi).2.1⟩))
  rcases idxI_cases (fun p => al p.1) q 0 with ⟨h1, h2⟩ | ⟨m, h1, h2, h3⟩
  · rw [h1] at IX
    have HF : ∀ w', Below w.heap.size w w' → DFP w 100 2 (.slice a n cap) (.slice a (q.filter (fun p => al p.1)).length cap) (q.filter (fun p => al p.1)).length (watC cb (q.filter (fun p => al p.1))) w' := by
      intro w' hb
      rw [h2, hn]; exact ⟨⟨hb.os, hb.tape, hb.output, hb.size, fun b h _ => hb.block b h⟩, own_up hown hb⟩
    replace HF := hide HF
    have HN : Hid ((q.filter (fun p => al p.1)).length = n) := by unfold Hid; rw [h2, hn]
    clear hal hown h1 h2
    go_enter Try.func66, Try.ntmps66
    go_wp2_with (go_at_call 78; refine (unhide IX).mono ?_; rintro e w1 ⟨rfl, hw1⟩)
    go_ret
    exact ⟨by rw [HN.out]; rfl, HF.out _ hw1⟩
  · rw [h2] at IX
    have hm : m < n := by omega
    obtain ⟨g, cap', ev, hc1, hc2, hglt⟩ := own_some hown (by omega)
    simp at ev; obtain ⟨rfl, rfl⟩ := ev
    have HM : Hid (Mid (fun p : Nat × Int => al p.1) q m (m + 1) q) := ⟨rfl, by omega, by omega, h3, rfl⟩
    have HO := hide hown
    have HA := hide hal
    have HN := hide hn
    unfold maxLen at hc2
    have e0 : ((0 + m : Nat) : Int) = (m : Int) := by omega
    rw [e0] at IX
    have em : ((m : Int) == -1) = false := by simp
    clear hal hown h1 h2 h3 hn e0
    go_enter Try.func66, Try.ntmps66
    go_wp2_with (go_at_call 78; refine (unhide IX).mono ?_; rintro e w1 ⟨rfl, hw1⟩)
    go_loopw [5, 6] (fun pi pj wr => ∃ (i j : Nat) (raw : List (Nat × Int)), pi = .int .i64 i ∧ pj = .int .i64 j ∧ i < j ∧ j ≤ n ∧ Hid (Mid (fun p : Nat × Int => al p.1) q i j raw) ∧ Hid (wr.ownsRow 0 100 2 (.slice (some ⟨g, 0, none⟩) n cap) n (watC cb raw)) ∧ Hid (w.grownBy wr (some g))) (fun _ pj _ => n - (intOf pj).toNat)
    case atStart => exact ⟨m, m + 1, q, rfl, by go_num, by omega, by omega, HM, own_up HO.out hw1, ⟨hw1.os, hw1.tape, hw1.output, hw1.size, fun b h _ => hw1.block b h⟩⟩
    case round =>
      obtain ⟨i, j, raw, rfl, rfl, hij, hjn, HM, HO, HG⟩ := hrel
      have hii : (i : Int) < n := by omega
      by_cases hlt : j < n
      · have hji : (j : Int) < n := by omega
        have hjl : j < q.length := by rw [HN.out]; exact hlt
        have hwj := watC_get cb raw j _ (HM.out.at hjl)
        have hc := own_cell (i := j * 2) HO.out rfl hwj.1
        have hcb := own_cell (i := j * 2 + 1) HO.out rfl hwj.2
        have hrl : i < raw.length := by rw [HM.out.len]; omega
        have hwi := watC_get cb raw i _ (List.getElem?_eq_getElem hrl)
        have hci := own_cell (i := i * 2) HO.out rfl hwi.1
        have hcj := own_cell (i := i * 2 + 1) HO.out rfl hwi.2
        have hfi := own_fz HO.out rfl (i * 2)
        have hfj := own_fz HO.out rfl (i * 2 + 1)
        obtain ⟨a1, a2, a3⟩ := HA.out q[j] (List.getElem_mem hjl)
        have o4 : wr.cell? ⟨cb q[j].1, 4, none⟩ = some (.bool (!al q[j].1)) := (World.cell?_of_block (a := ⟨cb q[j].1, 4, none⟩) (HG.out.block _ a2 (fun e => a3 g rfl (by simpa using e)))).trans a1
        have hblt : cb q[j].1 < wr.heap.size := Nat.lt_of_lt_of_le a2 HG.out.size
        have M1 := hide (HM.out.no hjl)
        have M2 := hide (HM.out.yes hjl)
        have hgl : g < wr.heap.size := (World.ownsRow.lt HO.out g rfl).2
        have hg1 : g ≠ wr.heap.size := by omega
        have hg2 : g ≠ wr.heap.size + 1 := by omega
        simp only [ptrC] at hc hci
        have HS : Hid (((watC cb raw).set (i * 2) (.pointer (some ⟨cb q[j].1, 0, none⟩))).set (i * 2 + 1) (.int .i64 q[j].2) = watC cb (raw.set i q[j])) := watC_set cb raw i q[j]
        have hb1 : ∀ v, Hid (Below (wr.heap.size) wr ((wr.alloc v).alloc v)) := fun v => ((below_alloc wr v).trans ((below_alloc _ v).mono (by simp)))
        clear a1 a2 a3 hwj hwi
        generalize q[j] = pr at *
        obtain ⟨x, hint⟩ := pr
        simp only at *
        cases hA : al x with
        | true =>
          rw [hA] at o4
          simp only [Bool.not_true] at o4
          generalize cb x = b at *
          have HBX := hb1 (.cells #[.pointer (some ⟨b, 0, none⟩), .int .i64 hint] 100)
          have GG := hide (isGoneW_cell (wr.alloc (.cells #[.pointer (some ⟨b, 0, none⟩), .int .i64 hint] 100)) b _ ((World.cell?_of_block (a := ⟨b, 4, none⟩) (heap_alloc_old wr _ hblt)).trans o4) (by simp; omega) hint)
          go_wp2_with (go_at_call 67; refine (unhide GG).mono ?_; rintro e w1 ⟨rfl, hw1⟩; subst w1)
          go_roundw
          case rel => exact ⟨i + 1, j + 1, raw.set i (x, hint), by go_num, by go_num, by omega, by omega, M2.out hA, by have := own_up (own_set (i := i * 2 + 1) (own_set (i := i * 2) HO.out rfl (.pointer (some ⟨b, 0, none⟩))) rfl (.int .i64 hint)) (below_twice _ (.cells #[.pointer (some ⟨b, 0, none⟩), .int .i64 hint] 100)); rw [HS.out] at this; exact this, grownBy_trans HG.out (grownBy_trans (grownBy_trans (grownBy_set _ _ _ _) (grownBy_set _ _ _ _)) (grown_below (below_twice _ _) _))⟩
          case measure => simp [intOf]; omega
        | false =>
          rw [hA] at o4
          simp only [Bool.not_false] at o4
          generalize cb x = b at *
          have HBX := hb1 (.cells #[.pointer (some ⟨b, 0, none⟩), .int .i64 hint] 100)
          have GG := hide (isGoneW_cell (wr.alloc (.cells #[.pointer (some ⟨b, 0, none⟩), .int .i64 hint] 100)) b _ ((World.cell?_of_block (a := ⟨b, 4, none⟩) (heap_alloc_old wr _ hblt)).trans o4) (by simp; omega) hint)
          go_wp2_with (go_at_call 67; refine (unhide GG).mono ?_; rintro e w1 ⟨rfl, hw1⟩; subst w1)
          go_roundw
          case rel => exact ⟨i, j + 1, raw, rfl, by go_num, by omega, by omega, M1.out hA, own_up HO.out HBX.out, grownBy_trans HG.out ⟨HBX.out.os, HBX.out.tape, HBX.out.output, HBX.out.size, fun b h _ => HBX.out.block b h⟩⟩
          case measure => simp [intOf]; omega
      · obtain ⟨d1, d2, d3⟩ := HM.out.done (by rw [HN.out]; exact hlt)
        have hclw : ∀ ty, (Builtin.clear_ #[98] ty #[.slice (some ⟨g, i * 2, none⟩) (n - i) (cap - i)]).run Try.prog wr = .ok (.tuple #[]) (wr.setCells g (i * 2) (Builtin.zeroCells (Value.agg #[.pointer none, .int .i64 0]).cells (n - i)).toList) :=
          fun ty => run_clear_any wr 98 100 ty _ 2 Try.underlying98 zero97 rfl (by decide) (by simp [Value.cells, Value.oneCell']) g (i * 2) (n - i) (cap - i) (by omega) (fun j hj => own_isSome HO.out (by omega)) (fun j _ => own_fz HO.out rfl _)
        have HF : Hid (DFP w 100 2 (.slice (some ⟨g, 0, none⟩) n cap) (.slice (some ⟨g, 0, none⟩) i cap) i (watC cb (q.filter (fun p => al p.1))) (wr.setCells g (i * 2) (Builtin.zeroCells (Value.agg #[.pointer none, .int .i64 0]).cells (n - i)).toList)) := by
          refine ⟨grownBy_trans HG.out (grownBy_sets g _ _ _), ?_⟩
          have h2 := own_cut HO.out (m := i) (by omega)
          have e : (watC cb raw).take (i * 2) = watC cb (q.filter (fun p => al p.1)) := by rw [← d1, watC_take]
          rw [e] at h2
          refine own_sets_beyond rfl _ _ _ h2 ?_
          rw [watC_len, d2]; exact Nat.le_refl _
        have HD := hide d2
        have hne : ¬ cap = i := by omega
        have hic : (i : Int) ≤ cap := by omega
        clear d1 d2 d3 HM HO
        go_wp2
        go_ret
        rw [← HD.out]
        exact ⟨rfl, HF.out⟩
end Go.Proofs.Ytlmbgaconjcaiab

namespace Go.Proofs.Ytlmbgaconjcaiab
open Go.RowKit

/-- A list of which the first ones were gone through. -/
def Thru {α : Type} (F : α → α) (A L : List α) (k : Nat) : Prop := L.length = A.length ∧ ∀ i, L[i]? = if i < k then (A[i]?).map F else A[i]?
theorem Thru.zero {α : Type} (F : α → α) (A : List α) : Thru F A A 0 := ⟨rfl, fun i => by simp⟩
theorem Thru.at {α : Type} {F : α → α} {A L : List α} {k : Nat} (h : Thru F A L k) : L[k]? = A[k]? := by rw [h.2 k, if_neg (by omega)]
theorem Thru.step {α : Type} {F : α → α} {A L : List α} {k : Nat} {x : α} (h : Thru F A L k) (hx : A[k]? = some x) : Thru F A (L.set k (F x)) (k + 1) := by
  have hk : k < A.length := (List.getElem?_eq_some_iff.1 hx).1
  refine ⟨by simp [h.1], fun i => ?_⟩
  by_cases e : i = k
  · subst e
    rw [List.getElem?_set_self (by rw [h.1]; exact hk), if_pos (by omega), hx]; rfl
  · rw [List.getElem?_set_ne (Ne.symm e), h.2 i]
    by_cases h1 : i < k
    · rw [if_pos h1, if_pos (by omega)]
    · rw [if_neg h1, if_neg (by omega)]
theorem Thru.done {α : Type} {F : α → α} {A L : List α} {k : Nat} (h : Thru F A L k) (hk : A.length ≤ k) : L = A.map F := by
  apply List.ext_getElem?
  intro i
  rw [h.2 i, List.getElem?_map]
  by_cases h1 : i < k
  · rw [if_pos h1]
  · rw [if_neg h1, List.getElem?_eq_none (by omega)]; rfl

section
variable {ρ : Nat → Rl} {w : World} {B : Nat} {H : Hd} {s : PS}

/-- What DeleteFunc asks of clauses. -/
theorem Rep.aliveAt (h : Rep ρ w B H s) {i : Nat} (hi : i < s.cls.length) : w.cell? ⟨H.cb i, 4, none⟩ = some (.bool (!s.alive i)) ∧ H.cb i < w.heap.size := by
  obtain ⟨c, hc⟩ : ∃ c, s.cls[i]? = some c := ⟨_, List.getElem?_eq_getElem hi⟩
  obtain ⟨_, _, _, _, o4, _, hlt, _⟩ := h.obj hc
  refine ⟨?_, hlt⟩
  rw [o4]; unfold PS.alive; rw [hc]; simp
theorem Rep.cbNe (h : Rep ρ w B H s) {i g : Nat} (hi : i < s.cls.length) {r : Rl} {x : Ent} (hr : ents B H s r = some x) (hg : x.v.ownBlock = some g) (hn : r.1 ≠ 2) : H.cb i ≠ g := by
  obtain ⟨c, hc⟩ : ∃ c, s.cls[i]? = some c := ⟨_, List.getElem?_eq_getElem hi⟩
  have hr2 : ents B H s (2, i) = some ⟨84, 5, obj1 (H.cb i), 1, objC i (H.cl i) c⟩ := by simp [ents, hc]
  exact h.hold.ne hr2 rfl hr hg (fun e => hn (by rw [← e]))

/-- A literal's watches are swept. -/
theorem Rep.sweepW (h : Rep ρ w B H s) {j : Nat} {q : List (Nat × Int)} (hq : s.wat[j]? = some q) (hidx : ∀ p ∈ q, p.1 < s.cls.length) (al : Nat → Bool) (hal : ∀ i, i < s.cls.length → al i = s.alive i) (hqn : q.length ≤ 1048576) :
    ∃ gw cw u cu, H.wv = .slice (some ⟨gw, 0, none⟩) s.wat.length cw ∧ gw ≠ B ∧ w.cell? ⟨gw, j, none⟩ = some (.slice u q.length cu) ∧ w.frozen? ⟨gw, j, none⟩ = false ∧ gw < w.heap.size ∧
    (∀ x, Ev ρ w ρ x → (∀ b, b < w.heap.size → x.heap[b]? = w.heap[b]?) → Calls Try.prog 66 #[.slice u q.length cu, .func (.func 67) #[] #[]] x fun e w' => e = .returned (.slice u (q.filter (fun p => al p.1)).length cu) ∧
      (w'.cell? ⟨B, 6, none⟩ = some H.wv ∧ w'.cell? ⟨gw, j, none⟩ = some (.slice u q.length cu) ∧ w'.frozen? ⟨gw, j, none⟩ = false) ∧ ∃ ρ' H', H'.wv = H.wv ∧ H'.cb = H.cb ∧ Hid (Rep ρ' (w'.setCell ⟨gw, j, none⟩ (.slice u (q.filter (fun p => al p.1)).length cu)) B H' { s with wat := s.wat.set j (q.filter (fun p => al p.1)) }) ∧ Hid (Ev ρ w ρ' (w'.setCell ⟨gw, j, none⟩ (.slice u (q.filter (fun p => al p.1)).length cu)))) := by
  have hj : j < s.wat.length := (List.getElem?_eq_some_iff.1 hq).1
  obtain ⟨gw, cw, e, hgw, _, _, hs, hB, hc, hf⟩ := h.row (r := (5, 0)) rfl (by decide) (by simp only; omega)
  simp only at e hc
  obtain ⟨uv, hu⟩ : ∃ u, H.wr[j]? = some u := ⟨_, List.getElem?_eq_getElem (by rw [h.wr]; exact hj)⟩
  have hr : ents B H s (6, j) = some ⟨100, 2, uv, q.length, watC H.cb q⟩ := by simp [ents, hq, hu, watE]
  have hown := h.hold.own _ _ hr
  simp only at hown
  obtain ⟨u, cu, eu, _, _, hform⟩ := own_form hown
  subst eu
  refine ⟨gw, cw, u, cu, e, hB, hc j _ hu, hf j, hs, fun x hE hx => ?_⟩
  have hownx : x.ownsRow 0 100 2 (.slice u q.length cu) q.length (watC H.cb q) := own_same hown (fun k hk => hx k (World.ownsRow.lt hown k hk).2)
  have hcell : ∀ (b i : Nat) (v : Value), b < w.heap.size → w.cell? ⟨b, i, none⟩ = some v → x.cell? ⟨b, i, none⟩ = some v := fun b i v hb hv => (World.cell?_of_block (a := ⟨b, i, none⟩) (hx b hb)).trans hv
  refine (del63 x H.cb al u q.length cu q rfl (by omega) hownx (fun p hp => ?_)).mono ?_
  · obtain ⟨k1, k2⟩ := h.aliveAt (hidx p hp)
    rw [← hal _ (hidx p hp)] at k1
    exact ⟨hcell _ _ _ k2 k1, Nat.lt_of_lt_of_le k2 hE.size, fun g hg => h.cbNe (hidx p hp) hr hg (by simp)⟩
  · rintro e' w' ⟨rfl, hg, ho⟩
    have hgw' : w.grownBy w' (Value.slice u q.length cu).ownBlock := ⟨hg.os.trans hE.os, hg.tape.trans hE.tape, hg.output.trans hE.output, Nat.le_trans hE.size hg.size, fun b hb hne => (hg.block b (Nat.lt_of_lt_of_le hb hE.size) hne).trans (hx b hb)⟩
    have eB : w'.heap[B]? = w.heap[B]? := hgw'.block B h.lt (fun e => (h.hold.ne hr e.symm (q := (0, 0)) rfl rfl (by simp)) rfl)
    have eG : w'.heap[gw]? = w.heap[gw]? := hgw'.block gw hs (fun e => (h.hold.ne hr e.symm (q := (5, 0)) rfl hgw (by simp)) rfl)
    refine ⟨rfl, ⟨(World.cell?_of_block (a := ⟨B, 6, none⟩) eB).trans h.c6, (World.cell?_of_block (a := ⟨gw, j, none⟩) eG).trans (hc j _ hu), (World.frozen?_of_block (a := ⟨gw, j, none⟩) eG).trans (hf j)⟩, ?_⟩
    rcases hform with ⟨rfl, h0, rfl⟩ | ⟨g, rfl, hg2⟩
    · obtain ⟨k1, k2⟩ := h.wTurn (gg := w.heap.size) hq hu hgw hgw' ho (fun g hg => by simp [Value.ownBlock] at hg) (.inr (Nat.le_refl _))
      refine ⟨_, _, ?_, ?_, k1, k2⟩ <;> rfl
    · obtain ⟨k1, k2⟩ := h.wTurn (gg := g) hq hu hgw hgw' ho (fun g' hg' => by simp [Value.ownBlock] at hg'; exact hg'.symm) (.inl rfl)
      refine ⟨_, _, ?_, ?_, k1, k2⟩ <;> rfl

/-- A level's late clauses are swept. -/
theorem Rep.sweepL (h : Rep ρ w B H s) {j : Nat} {p : Lv} (hp : s.lvs[j]? = some p) (hidx : ∀ i ∈ p.late, i < s.cls.length) (al : Nat → Bool) (hal : ∀ i, i < s.cls.length → al i = s.alive i) (hqn : p.late.length ≤ 1048576) :
    ∃ gl cl u cu, H.lv = .slice (some ⟨gl, 0, none⟩) s.lvs.length cl ∧ gl ≠ B ∧ w.cell? ⟨gl, j * 3 + 2, none⟩ = some (.slice u p.late.length cu) ∧ w.frozen? ⟨gl, j * 3 + 2, none⟩ = false ∧ gl < w.heap.size ∧
    (∀ x, Ev ρ w ρ x → (∀ b, b < w.heap.size → x.heap[b]? = w.heap[b]?) → Calls Try.prog 68 #[.slice u p.late.length cu, .func (.func 69) #[] #[]] x fun e w' => e = .returned (.slice u (p.late.filter al).length cu) ∧
      (w'.cell? ⟨B, 10, none⟩ = some H.lv ∧ w'.cell? ⟨gl, j * 3 + 2, none⟩ = some (.slice u p.late.length cu) ∧ w'.frozen? ⟨gl, j * 3 + 2, none⟩ = false) ∧ ∃ ρ' H', H'.lv = H.lv ∧ H'.cb = H.cb ∧ Hid (Rep ρ' (w'.setCell ⟨gl, j * 3 + 2, none⟩ (.slice u (p.late.filter al).length cu)) B H' { s with lvs := s.lvs.set j { p with late := p.late.filter al } }) ∧ Hid (Ev ρ w ρ' (w'.setCell ⟨gl, j * 3 + 2, none⟩ (.slice u (p.late.filter al).length cu)))) := by
  obtain ⟨gl, cl, uv, e, hgl, hu, q0, q1, q2, qf, hown, hglB, hub, hgllt, _, _⟩ := h.lvLast hp
  have hr : ents B H s (10, j) = some ⟨80, 1, uv, p.late.length, ptrsC H.cb p.late⟩ := by simp only [ents, hp, hu, lvlE]
  obtain ⟨u, cu, eu, _, _, hform⟩ := own_form hown
  subst eu
  have hset : s.lvs.modify j (fun a => { a with late := p.late.filter al }) = s.lvs.set j { p with late := p.late.filter al } := by
    apply List.ext_getElem?
    intro i
    rw [List.getElem?_modify]
    by_cases e : i = j
    · subst e
      rw [List.getElem?_set_self (List.getElem?_eq_some_iff.1 hp).1, hp]; simp
    · rw [List.getElem?_set_ne (Ne.symm e)]
      cases s.lvs[i]? <;> simp [Ne.symm e]
  refine ⟨gl, cl, u, cu, e, hglB, q2, qf _, hgllt, fun x hE hx => ?_⟩
  have hownx : x.ownsRow 0 80 1 (.slice u p.late.length cu) p.late.length (ptrsC H.cb p.late) := own_same hown (fun k hk => hx k (World.ownsRow.lt hown k hk).2)
  have hcell : ∀ (b i : Nat) (v : Value), b < w.heap.size → w.cell? ⟨b, i, none⟩ = some v → x.cell? ⟨b, i, none⟩ = some v := fun b i v hb hv => (World.cell?_of_block (a := ⟨b, i, none⟩) (hx b hb)).trans hv
  refine (del65 x H.cb al u p.late.length cu p.late rfl (by omega) hownx (fun i hi => ?_)).mono ?_
  · obtain ⟨k1, k2⟩ := h.aliveAt (hidx i hi)
    rw [← hal _ (hidx i hi)] at k1
    exact ⟨hcell _ _ _ k2 k1, Nat.lt_of_lt_of_le k2 hE.size, fun g hg => h.cbNe (hidx i hi) hr hg (by simp)⟩
  · rintro e' w' ⟨rfl, hg, ho⟩
    have hgw' : w.grownBy w' (Value.slice u p.late.length cu).ownBlock := ⟨hg.os.trans hE.os, hg.tape.trans hE.tape, hg.output.trans hE.output, Nat.le_trans hE.size hg.size, fun b hb hne => (hg.block b (Nat.lt_of_lt_of_le hb hE.size) hne).trans (hx b hb)⟩
    have eB : w'.heap[B]? = w.heap[B]? := hgw'.block B h.lt (fun e => (h.hold.ne hr e.symm (q := (0, 0)) rfl rfl (by simp)) rfl)
    have eG : w'.heap[gl]? = w.heap[gl]? := hgw'.block gl hgllt (fun e => (h.hold.ne hr e.symm (q := (9, 0)) rfl hgl (by simp)) rfl)
    refine ⟨rfl, ⟨(World.cell?_of_block (a := ⟨B, 10, none⟩) eB).trans h.c10, (World.cell?_of_block (a := ⟨gl, j * 3 + 2, none⟩) eG).trans q2, (World.frozen?_of_block (a := ⟨gl, j * 3 + 2, none⟩) eG).trans (qf _)⟩, ?_⟩
    rcases hform with ⟨rfl, h0, rfl⟩ | ⟨g, rfl, hg2⟩
    · obtain ⟨k1, k2⟩ := h.llTurn (gg := w.heap.size) hp hu hgl hgw' ho (fun g hg => by simp [Value.ownBlock] at hg) (.inr (Nat.le_refl _))
      rw [hset] at k1
      refine ⟨_, _, ?_, ?_, k1, k2⟩ <;> rfl
    · obtain ⟨k1, k2⟩ := h.llTurn (gg := g) hp hu hgl hgw' ho (fun g' hg' => by simp [Value.ownBlock] at hg'; exact hg'.symm) (.inl rfl)
      rw [hset] at k1
      refine ⟨_, _, ?_, ?_, k1, k2⟩ <;> rfl

/-- The late clauses are swept. -/
theorem Rep.sweepA (h : Rep ρ w B H s) (hidx : ∀ i ∈ s.late, i < s.cls.length) (al : Nat → Bool) (hal : ∀ i, i < s.cls.length → al i = s.alive i) (hqn : s.late.length ≤ 1048576) :
    ∃ u cu, H.av = .slice u s.late.length cu ∧ Calls Try.prog 68 #[.slice u s.late.length cu, .func (.func 69) #[] #[]] w fun e w' => e = .returned (.slice u (s.late.filter al).length cu) ∧
      (w'.cell? ⟨B, 11, none⟩ = some (.slice u s.late.length cu) ∧ w'.frozen? ⟨B, 11, none⟩ = false) ∧ ∃ ρ' H', Hid (Rep ρ' (w'.setCell ⟨B, 11, none⟩ (.slice u (s.late.filter al).length cu)) B H' { s with late := s.late.filter al }) ∧ Hid (Ev ρ w ρ' (w'.setCell ⟨B, 11, none⟩ (.slice u (s.late.filter al).length cu))) := by
  have hr : ents B H s (11, 0) = some ⟨80, 1, H.av, s.late.length, ptrsC H.cb s.late⟩ := rfl
  have hown := h.hold.own _ _ hr
  simp only at hown
  obtain ⟨u, cu, eu, _, _, hform⟩ := own_form hown
  rw [eu] at hown
  refine ⟨u, cu, eu, ?_⟩
  refine (del65 w H.cb al u s.late.length cu s.late rfl (by omega) hown (fun i hi => ?_)).mono ?_
  · obtain ⟨k1, k2⟩ := h.aliveAt (hidx i hi)
    rw [← hal _ (hidx i hi)] at k1
    exact ⟨k1, k2, fun g hg => h.cbNe (hidx i hi) hr (by simp only; rw [eu]; exact hg) (by simp)⟩
  · rintro e' w' ⟨rfl, hg, ho⟩
    have hgw' : w.grownBy w' H.av.ownBlock := by rw [eu]; exact hg
    have eB : w'.heap[B]? = w.heap[B]? := hgw'.block B h.lt (fun e => (h.hold.ne hr e.symm (q := (0, 0)) rfl rfl (by simp)) rfl)
    refine ⟨rfl, ⟨(World.cell?_of_block (a := ⟨B, 11, none⟩) eB).trans (by rw [h.c11, eu]), (World.frozen?_of_block (a := ⟨B, 11, none⟩) eB).trans (h.fz 11)⟩, ?_⟩
    rcases hform with ⟨rfl, h0, rfl⟩ | ⟨g, rfl, hg2⟩
    · obtain ⟨k1, k2⟩ := h.avTurn (gg := w.heap.size) hgw' ho (fun g hg => by simp [Value.ownBlock] at hg) (.inr (Nat.le_refl _))
      exact ⟨_, _, k1, k2⟩
    · obtain ⟨k1, k2⟩ := h.avTurn (gg := g) hgw' ho (fun g' hg' => by simp [Value.ownBlock] at hg'; exact hg'.symm) (.inl (by rw [eu]; rfl))
      exact ⟨_, _, k1, k2⟩
end
end Go.Proofs.Ytlmbgaconjcaiab

namespace Go.Proofs.Ytlmbgaconjcaiab
open Go.RowKit

def SwP (ρ : Nat → Rl) (w : World) (B : Nat) (t : PS) (w' : World) : Prop := ∃ ρ' H', Rep ρ' w' B H' t ∧ Ev ρ w ρ' w'

section
variable {ρ : Nat → Rl} {w : World} {B : Nat} {H : Hd} {s : PS}

set_option maxHeartbeats 40000000 in
set_option maxRecDepth 100000 in
theorem sweep_any (h : Rep ρ w B H s) (hI : Inv s) :
    Calls Try.prog 54 #[.pointer (some ⟨B, 0, none⟩)] w fun e w' => e = .returned (.tuple #[]) ∧ SwP ρ w B s.swept w' := by
  have hwl := hI.sz.wat
  have hVs := hI.sz.vars
  have hll : s.lvs.length ≤ 1048576 := by have := lvs_len hI.tr; have := trail_len hI.tr; omega
  have HWQ : Hid (∀ (j : Nat) q, s.wat[j]? = some q → (∀ p ∈ q, p.1 < s.cls.length) ∧ q.length ≤ 1048576) := fun j q hq => ⟨hI.widx hq, by have := hI.wlen hq; have := hI.sz.cls; omega⟩
  have HLQ : Hid (∀ (j : Nat) p, s.lvs[j]? = some p → (∀ i ∈ p.late, i < s.cls.length) ∧ p.late.length ≤ 1048576) := fun j p hp => ⟨hI.sz.lv p (List.mem_of_getElem? hp), by have := le_sum s.lvs p (List.mem_of_getElem? hp); have := hI.sz.sum; have := hI.sz.cls; omega⟩
  have HAQ : Hid ((∀ i ∈ s.late, i < s.cls.length) ∧ s.late.length ≤ 1048576) := ⟨hI.sz.la, by have := hI.sz.sum; have := hI.sz.cls; omega⟩
  obtain ⟨gw, cw, ew, hgw, hwn, hwm, hws, hwB, _, _⟩ := h.row (r := (5, 0)) rfl (by decide) (by simp only; omega)
  simp only at ew hwn
  have c6 := h.c6
  rw [ew] at c6
  have HH := hide h
  have EW := hide ew
  have hWL : s.wat.length ≤ 3300000 := by omega
  unfold maxLen at hwm
  have hBlt := h.lt
  clear h hI ew hgw hwl
  generalize hNW : s.wat.length = NW at *
  have HNW := hide hNW
  clear hNW
  go_enter Try.func54, Try.ntmps54
  go_wp2_with fail
  go_loopw [10] (fun j wr => ∃ (k : Nat) (ρ1 : Nat → Rl) (H1 : Hd) (L : List (List (Nat × Int))), k ≤ NW ∧ j = .int .i64 k ∧ Hid (H1.wv = .slice (some ⟨gw, 0, none⟩) NW cw) ∧ Hid (Rep ρ1 wr B H1 { s with wat := L }) ∧ Hid (Ev ρ w ρ1 wr) ∧ Hid (Thru (fun q => q.filter (fun p => s.alive p.1)) s.wat L k)) (fun j _ => NW - (intOf j).toNat)
  case atStart => exact ⟨0, ρ, H, s.wat, Nat.zero_le _, rfl, EW, HH, Ev.refl _ _, Thru.zero _ _⟩
  case round =>
    clear c6 HH EW
    obtain ⟨k, ρ1, H1, L, hk, rfl, EW1, HR1, HE1, HT⟩ := hrel
    by_cases hlt : k < NW
    · have hki : (k : Int) < NW := by omega
      have hkl : k < s.wat.length := by rw [HNW.out]; exact hlt
      obtain ⟨q, hq⟩ : ∃ q, s.wat[k]? = some q := ⟨_, List.getElem?_eq_getElem hkl⟩
      have hLq : L[k]? = some q := HT.out.at.trans hq
      obtain ⟨hq1, hq2⟩ := HWQ.out k q hq
      obtain ⟨gw', cw', u, cu, e1, hgB, d1, d2, hgl, CD⟩ := HR1.out.sweepW (j := k) (q := q) hLq hq1 s.alive (fun i _ => rfl) hq2
      simp only at e1
      rw [EW1.out] at e1
      simp at e1
      obtain ⟨e2, eN, e3⟩ := e1
      subst e2
      have c6 := HR1.out.c6
      rw [EW1.out] at c6
      have HST := hide (HT.out.step hq)
      have CD' := hide (CD wr.drew (Ev.drew _ _) (fun _ _ => rfl))
      clear eN e3 CD hLq hq hq1
      have hBg : B ≠ gw := Ne.symm hgB
      have hk3 : k ≤ 3300000 := by omega
      have hlt' := hide hlt
      generalize hfq : q.filter (fun p => s.alive p.1) = fq at *
      clear hfq
      generalize fq.length = mq at *
      generalize q.length = nq0 at *
      go_wp2_with fail
      go_region_held3 (fun x => x.cell? ⟨B, 6, none⟩ = some (.slice (some ⟨gw, 0, none⟩) NW cw)) (first | assumption | go_keep) (first | (go_at_call 66; refine (unhide CD').mono ?_; rintro e w1 ⟨rfl, ⟨t1, t2, t3⟩, ρ2, H2, e4, e5, HR2, HE2⟩; rw [EW1.out] at t1 e4))
      refine forget (P := fun W => Exit.inBlock _ _ Exit.normal _ W) (fun W => Hid (Rep ρ2 W B H2 { s with wat := L.set k fq }) ∧ Hid (Ev ρ w ρ2 W)) ⟨HR2, HE1.out.trans HE2.out⟩ ?_
      rintro W2 ⟨HR3, HE3⟩
      have E4 := hide e4
      clear HR2 HE2 t1 t2 t3 d1 d2 c6 CD' HR1 HE1 e4 e5
      go_wp2_with fail
      go_roundw
      case rel => exact ⟨k + 1, ρ2, H2, L.set k fq, hlt'.out, by go_num, E4, HR3, HE3, HST⟩
      case measure => (have h31 := hlt'.out; simp [intOf]; omega)
    · have hL := HT.out.done (by rw [HNW.out]; omega)
      subst hL
      obtain ⟨al, cl, el, _⟩ := own_form (HR1.out.hold.own (9, 0) _ rfl)
      simp only at el
      have c10 := HR1.out.c10
      (try simp only at c10)
      rw [el] at c10
      have EL := hide el
      clear HT HWQ el
      generalize hLN : s.lvs.length = LN at *
      have HLN := hide hLN
      clear hLN
      go_wp2_with fail
      go_loopw [29] (fun j wr2 => ∃ (k2 : Nat) (ρ2 : Nat → Rl) (H2 : Hd) (M : List Lv), k2 ≤ LN ∧ j = .int .i64 k2 ∧ Hid (H2.lv = .slice al LN cl) ∧ Hid (Rep ρ2 wr2 B H2 { s with wat := s.wat.map (fun q => q.filter (fun p => s.alive p.1)), lvs := M }) ∧ Hid (Ev ρ w ρ2 wr2) ∧ Hid (Thru (fun v => { v with late := v.late.filter s.alive }) s.lvs M k2)) (fun j _ => LN - (intOf j).toNat)
      case atStart => exact ⟨0, ρ1, H1, s.lvs, Nat.zero_le _, rfl, EL, HR1, HE1, Thru.zero _ _⟩
      case round =>
        clear c10 HR1 HE1 EL EW1
        obtain ⟨k2, ρ2, H2, M, hk2, rfl, EL2, HR2, HE2, HT2⟩ := hrel
        by_cases hlt2 : k2 < LN
        · have hki2 : (k2 : Int) < LN := by omega
          have hkl2 : k2 < s.lvs.length := by rw [HLN.out]; exact hlt2
          obtain ⟨p, hp⟩ : ∃ p, s.lvs[k2]? = some p := ⟨_, List.getElem?_eq_getElem hkl2⟩
          have hMp : M[k2]? = some p := HT2.out.at.trans hp
          obtain ⟨hp1, hp2⟩ := HLQ.out k2 p hp
          obtain ⟨gl, cl', u, cu, e1, hgB, d1, d2, hgl, CD⟩ := HR2.out.sweepL (j := k2) (p := p) hMp hp1 s.alive (fun i _ => rfl) hp2
          simp only at e1
          rw [EL2.out] at e1
          simp at e1
          obtain ⟨e2, eN, e3⟩ := e1
          subst e2
          have c10 := HR2.out.c10
          (try simp only at c10)
          rw [EL2.out] at c10
          have HST2 := hide (HT2.out.step hp)
          have CD' := hide (CD wr.drew (Ev.drew _ _) (fun _ _ => rfl))
          have hBg : B ≠ gl := Ne.symm hgB
          have hlt2' := hide hlt2
          clear eN e3 CD hMp hp hp1
          generalize hfq : p.late.filter s.alive = fq at *
          clear hfq
          generalize fq.length = mq at *
          generalize p.late.length = nq0 at *
          go_wp2_with fail
          first | (go_region_with (go_at_call 68; refine (unhide CD').mono ?_; rintro e w1 ⟨rfl, ⟨t1, t2, t3⟩, ρ3, H3, e4, e5, HR3, HE3⟩; rw [EL2.out] at t1 e4)) | fail
          all_goals
            refine forget (P := fun W => Exit.inBlock _ _ Exit.normal _ W) (fun W => Hid (Rep ρ3 W B H3 { s with wat := s.wat.map (fun q => q.filter (fun p => s.alive p.1)), lvs := M.set k2 { p with late := fq } }) ∧ Hid (Ev ρ w ρ3 W)) ⟨HR3, HE2.out.trans HE3.out⟩ ?_
            rintro W3 ⟨HR4, HE4⟩
            have E4 := hide e4
            clear HR3 HE3 t1 t2 t3 d1 d2 c10 CD' HR2 HE2 e4 e5
            go_wp2_with fail
            go_roundw
            case rel => exact ⟨k2 + 1, ρ3, H3, M.set k2 { p with late := fq }, hlt2'.out, by go_num, E4, HR4, HE4, HST2⟩
            case measure => (have h31 := hlt2'.out; simp [intOf]; omega)
        · have hM := HT2.out.done (by rw [HLN.out]; omega)
          subst hM
          obtain ⟨u, cu, eav, CD⟩ := HR2.out.sweepA HAQ.out.1 s.alive (fun i _ => rfl) HAQ.out.2
          have c11 := HR2.out.c11
          rw [eav] at c11
          simp only at c11 CD
          replace CD := hide CD
          clear HT2 HLQ eav
          go_wp2_with fail
          refine (unhide CD).mono ?_
          rintro e w1 ⟨rfl, ⟨t1, t2⟩, ρ3, H3, HR3, HE3⟩
          clear c11 CD
          have HR4 := hide (HR3.out.setStale 0)
          have c4 := HR3.out.c4
          have f4 := HR3.out.fz 4
          simp only at c4
          have HE4 : Hid (Ev ρ w ρ3 ((w1.setCell ⟨B, 11, none⟩ (.slice u (s.late.filter s.alive).length cu)).setCell ⟨B, 4, none⟩ (.int .i64 0))) := (HE2.out.trans HE3.out).trans (Ev.set HR3.out.roleB _ _)
          generalize hmA : (s.late.filter s.alive).length = mA at *
          clear hmA
          simp only
          go_wp2_with fail
          go_end0
          exact ⟨rfl, ρ3, H3, HR4.out, HE4.out⟩
end
end Go.Proofs.Ytlmbgaconjcaiab

namespace Go.Proofs.Ytlmbgaconjcaiab
open Go.RowKit

section
variable {ρ : Nat → Rl} {w : World} {B : Nat} {H : Hd} {s : PS}

set_option maxRecDepth 100000 in
set_option maxHeartbeats 800000 in
theorem drop_none (h : Rep ρ w B H s) (i : Int) (hno : i < 0 ∨ s.cls.length ≤ i ∨ ∃ c, 0 ≤ i ∧ s.cls[i.toNat]? = some c ∧ c.gone = true) (hn : s.cls.length ≤ 1048576) :
    Calls Try.prog 35 #[.pointer (some ⟨B, 0, none⟩), .int .i64 i] w fun e w' => e = .returned (.int .i64 4) ∧ w' = w := by
  have G := hide (has_no h i hno hn)
  clear h hno
  go_enter Try.func35, Try.ntmps35
  go_wp2_with (go_at_call 52; refine (unhide G).mono ?_; rintro e w0 ⟨rfl, hw0⟩; subst w0)
  go_ret
  exact ⟨rfl, rfl⟩

set_option maxRecDepth 100000 in
set_option maxHeartbeats 800000 in
theorem drop_bad (h : Rep ρ w B H s) (hS : Shp s) (i : Nat) (c : Cl) (hc : s.cls[i]? = some c) (hg : c.gone = false) (hn : s.cls.length ≤ 1048576) (hl : ∀ x ∈ c.lits, Lt s.vars x) (hr : s.rsnB i c.lits = true) :
    Calls Try.prog 35 #[.pointer (some ⟨B, 0, none⟩), .int .i64 i] w fun e w' => e = .returned (.int .i64 7) ∧ ∃ n, w' = w.drewN n := by
  have G := hide (has_yes h i c hc hg hn)
  have R := isReason_any h hS i c hc hl
  rw [hr] at R
  replace R := hide R
  obtain ⟨g, cap, e, _, hB, hcell, _⟩ := h.cvAt hc
  have hlt : i < s.cls.length := (List.getElem?_eq_some_iff.1 hc).1
  have hlt' : (i : Int) < s.cls.length := by omega
  have c2 := h.c2
  rw [e] at c2
  rw [hg] at hcell
  simp only [Bool.false_eq_true, if_false, ptrC] at hcell
  clear h hc e
  generalize s.cls.length = N at *
  generalize H.cb i = b at *
  go_enter Try.func35, Try.ntmps35
  go_wp2_with (first | (go_at_call 52; refine (unhide G).mono ?_; rintro e w0 ⟨rfl, hw0⟩; subst w0) | (go_at_call 53; refine (unhide R).mono ?_; rintro e w0 ⟨rfl, n0, rfl⟩))
  go_ret
  exact ⟨rfl, ⟨_, rfl⟩⟩

set_option maxHeartbeats 8000000 in
set_option maxRecDepth 100000 in
theorem drop_ok (h : Rep ρ w B H s) (hI : Inv s) (hN : Cnt s) (i : Nat) (c : Cl) (hc : s.cls[i]? = some c) (hg : c.gone = false) (hr : s.rsnB i c.lits = false) :
    Calls Try.prog 35 #[.pointer (some ⟨B, 0, none⟩), .int .i64 i] w fun e w' => e = .returned (.int .i64 0) ∧ SwP ρ w B (s.drop i c) w' := by
  have hn := hI.sz.cls
  have hl := hI.wt.ok i c hc
  have hnr : ∀ x ∈ c.lits, s.val x = 1 → (s.fct x).2.2 ≠ (i : Int) := by
    intro x hx hv he
    unfold PS.rsnB at hr
    rw [List.any_eq_false] at hr
    exact hr x hx (by simp [hv, he])
  have hDI := dropped_inv hI hN hc hg hnr
  have G := hide (has_yes h i c hc hg hn)
  have R := isReason_any h hI.shp i c hc hl
  rw [hr] at R
  replace R := hide R
  obtain ⟨g, cap, e, hgo, hB, hcell, hcf, _, hglt⟩ := h.cvAt hc
  obtain ⟨o0, o1, o2, o3, o4, of, hol, hoB⟩ := h.obj hc
  have hlt : i < s.cls.length := (List.getElem?_eq_some_iff.1 hc).1
  have hlt' : (i : Int) < s.cls.length := by omega
  have c2 := h.c2
  rw [e] at c2
  rw [hg] at hcell o4
  simp only [Bool.false_eq_true, if_false, ptrC] at hcell
  have hbg : H.cb i ≠ g := h.cbNe hlt (r := (1, 0)) rfl hgo (by simp)
  have hcount := hI.sz.count
  have hstale := hI.sz.stale
  have c3 := h.c3
  have c4 := h.c4
  have HD : Hid (∀ m, Rep ρ ((((w.drewN m).setCell ⟨H.cb i, 4, none⟩ (.bool true)).setCell ⟨H.cb i, 1, none⟩ (.slice none 0 0)).setCell ⟨g, i, none⟩ (.pointer none)) B { H with cl := fun k => if k = i then .slice none 0 0 else H.cl k } { s with cls := s.cls.set i { c with gone := true, lits := [] } } ∧ Ev ρ w ρ ((((w.drewN m).setCell ⟨H.cb i, 4, none⟩ (.bool true)).setCell ⟨H.cb i, 1, none⟩ (.slice none 0 0)).setCell ⟨g, i, none⟩ (.pointer none))) := by
    intro m
    refine ⟨(h.drewN m).dropCl hc hgo, (((Ev.drewN ρ w m).trans (Ev.set ?_ _ _)).trans (Ev.set ?_ _ _)).trans (Ev.set ?_ _ _)⟩
    · exact h.roleOf (r := (2, i)) (x := ⟨84, 5, obj1 (H.cb i), 1, objC i (H.cl i) c⟩) (by simp [ents, hc]) rfl (by simp [oth])
    · exact h.roleOf (r := (2, i)) (x := ⟨84, 5, obj1 (H.cb i), 1, objC i (H.cl i) c⟩) (by simp [ents, hc]) rfl (by simp [oth])
    · exact h.roleOf (r := (1, 0)) rfl hgo (by decide)
  have f4' := of 4
  have f1' := of 1
  have fi := hcf i
  obtain ⟨acl, ccl, ecl, _⟩ := h.lits hc
  rw [ecl] at o1
  have HH := hide h
  have HSZ := hide hI.sz
  have HDI := hide hDI
  clear h hc e hI hN hl hnr hDI hcf of hr hgo o0 o2 o3 ecl hcount hstale c3 c4
  generalize hb : H.cb i = b at *
  clear hb
  generalize hNN : s.cls.length = N at *
  clear hNN
  go_enter Try.func35, Try.ntmps35
  go_upto_region 9 with (first | (go_at_call 52; refine (unhide G).mono ?_; rintro e w0 ⟨rfl, hw0⟩; subst w0) | (go_at_call 53; refine (unhide R).mono ?_; rintro e w0 ⟨rfl, n0, rfl⟩))
  obtain ⟨hD1, hD2⟩ := HD.out n0
  refine forget (P := fun W => Code.wp Try.prog _ _ _ W) (fun W => Rep ρ W B { H with cl := fun k => if k = i then .slice none 0 0 else H.cl k } { s with cls := s.cls.set i { c with gone := true, lits := [] } } ∧ Ev ρ w ρ W) ⟨hD1, hD2⟩ ?_
  clear hD1 hD2 HD G R hcell o4 o1 f4' f1' fi c2 HH
  rintro W1 ⟨hR1, hE1⟩
  have c3 := hR1.c3
  have c4 := hR1.c4
  have f3 := hR1.fz 3
  have f4 := hR1.fz 4
  simp only at c3 c4
  have hct := HSZ.out.count
  have hst := HSZ.out.stale
  have hcls := HSZ.out.cls
  have HR2 := hide ((hR1.setCount (s.count - 1)).setStale (s.stale + 1))
  have HE2 : Hid (Ev ρ w ρ ((W1.setCell ⟨B, 3, none⟩ (.int .i64 (s.count - 1))).setCell ⟨B, 4, none⟩ (.int .i64 (s.stale + 1)))) := (hE1.trans (Ev.set hR1.roleB _ _)).trans (Ev.set hR1.roleB _ _)
  clear hR1 hE1
  have HDR : Hid (s.dropped i c = { s with cls := s.cls.set i { c with gone := true, lits := [] }, count := s.count - 1, stale := s.stale + 1 }) := rfl
  have HDP : Hid (s.drop i c = if (s.dropped i c).count + (s.dropped i c).wat.length < (s.dropped i c).stale then (s.dropped i c).swept else s.dropped i c) := rfl
  have hc9 : s.count ≤ 1048576 := by omega
  have hs9 : s.stale ≤ 1048576 := by omega
  have hc0 : 0 ≤ s.count := hct.1
  have hs0 : 0 ≤ s.stale := hst.1
  clear hct hst
  generalize hcn : s.count = ct at *
  generalize hsn : s.stale = st at *
  go_upto_region 11 with fail
  refine forget (P := fun W => Code.wp Try.prog _ _ _ W) (fun W => Rep ρ W B { H with cl := fun k => if k = i then .slice none 0 0 else H.cl k } (s.dropped i c) ∧ Ev ρ w ρ W) ⟨by have := HR2.out; rw [HDR.out]; exact this, HE2.out⟩ ?_
  clear HR2 HE2 c3 c4 f3 f4
  rintro W2 ⟨hR2, hE2⟩
  have c3 := hR2.c3
  have c4 := hR2.c4
  have c6 := hR2.c6
  obtain ⟨aw, cw, ew, _⟩ := own_form (hR2.hold.own (5, 0) _ rfl)
  simp only at ew
  rw [ew] at c6
  have SW := hide (fun n => sweep_any (hR2.drewN n) HDI.out.1)
  have HR2 := hide hR2
  have HE2 := hide hE2
  have e1 : (s.dropped i c).count = ct - 1 := by rw [HDR.out]
  have e2 : (s.dropped i c).stale = st + 1 := by rw [HDR.out]
  have e3 : (s.dropped i c).wat.length ≤ 3300000 := by
    rw [HDR.out]; show s.wat.length ≤ 3300000
    have := HSZ.out.wat; have := HSZ.out.vars; omega
  have HDP2 := HDP.out
  rw [e1] at c3
  rw [e2] at c4
  rw [e1, e2] at HDP2
  have HDP3 := hide HDP2
  clear hR2 hE2 HDP HDP2 e1 e2 ew HDR
  generalize (s.dropped i c).wat.length = nw at *
  by_cases hcond : ct - 1 + (nw : Int) < st + 1
  · have hd : Hid (s.drop i c = (s.dropped i c).swept) := by unfold Hid; rw [HDP3.out, if_pos hcond]
    go_wp2_with fail
    go_quiet (fail)
    go_wp2_with (go_at_call 54; refine (unhide SW _).mono ?_; rintro e w5 ⟨rfl, ρ5, H5, hR5, hE5⟩)
    go_ret
    exact ⟨rfl, ρ5, H5, by rw [hd.out]; exact hR5, (HE2.out.trans (Ev.drewN _ _ _)).trans hE5⟩
  · have hd : Hid (s.drop i c = s.dropped i c) := by unfold Hid; rw [HDP3.out, if_neg hcond]
    go_wp2_with fail
    go_quiet (fail)
    go_wp2_with fail
    go_ret
    exact ⟨rfl, ρ, _, by rw [hd.out]; exact HR2.out.drewN _, HE2.out.trans (Ev.drewN _ _ _)⟩

theorem grid_one (w : World) (a : Option Addr) (cap : Nat) (lits : List Int) (hr : Row w a lits) (hl : lits.length ≤ maxLen) : Grid (w.alloc (.cells #[.slice a lits.length cap] 32)) (some ⟨w.heap.size, 0, none⟩) [lits] := by
  intro i hi
  obtain rfl : i = 0 := by simp at hi; omega
  refine ⟨w.heap.size, 0, a, cap, rfl, by simp, ?_, hr.below (below_alloc w _), hl⟩
  exact cell_of_block (heap_alloc_new w (.cells #[.slice a lits.length cap] 32)) (i := 0) rfl

set_option maxRecDepth 100000 in
set_option maxHeartbeats 2000000 in
theorem add_no (h : Rep ρ w B H s) (hV : s.vars ≤ 1048576) (a : Option Addr) (cap : Nat) (lits : List Int) (hr : Row w a lits) (hl : lits.length ≤ maxLen) (hno : cnfB s.vars [lits] = false) :
    Calls Try.prog 43 #[.pointer (some ⟨B, 0, none⟩), .slice a lits.length cap] w fun e w' => e = .returned (.tuple #[.int .i64 0, .int .i64 1]) ∧ Below w.heap.size w w' := by
  have G := hide (given_any h)
  have c1 := h.c1
  have hb := below_alloc w (.cells #[.slice a lits.length cap] 32)
  have C := checkCnf_any (some ⟨w.heap.size, 0, none⟩) 1 s.vars [lits] _ (grid_one w a cap lits hr hl) (by simp [maxLen])
  rw [hno] at C
  simp only [List.length_singleton, errI, Bool.false_eq_true, if_false] at C
  replace C := hide C
  have HB := hide hb
  have hBlt : B ≠ w.heap.size := by have := h.lt; omega
  clear h hr hb hno
  generalize s.vars = V at *
  go_enter Try.func43, Try.ntmps43
  go_wp2_with (first | (go_at_call 59; refine (unhide G).mono ?_; rintro e w0 ⟨rfl, hw0⟩; subst w0) | (go_at_call 20; refine (unhide C).mono ?_; rintro e w1 ⟨rfl, hb1⟩))
  go_ret2
  exact ⟨rfl, HB.out.trans (hb1.mono HB.out.size)⟩

set_option maxRecDepth 100000 in
set_option maxHeartbeats 2000000 in
theorem add_yes (h : Rep ρ w B H s) (hI : Inv s) (hlits : ∀ c ∈ s.cls, c.lits.length ≤ 10000) (hcl : s.cls.length < 262144) (a : Option Addr) (cap : Nat) (lits : List Int) (hr : Row w a lits) (hl : lits.length ≤ maxLen) (hcap : a = none → cap = 0) (hyes : cnfB s.vars [lits] = true) :
    Calls Try.prog 43 #[.pointer (some ⟨B, 0, none⟩), .slice a lits.length cap] w fun e w' => e = .returned (.tuple #[.int .i64 s.cls.length, .int .i64 0]) ∧ AttachP ρ w B s lits w' := by
  have hLt := cnf_lt hyes lits (by simp)
  have hM := hI.small hlits
  have hct := hM.count
  have hct2 : s.count < 262144 := by have := hI.sz.count.2; omega
  have G := hide (given_any h)
  have c1 := h.c1
  have hb := below_alloc w (.cells #[.slice a lits.length cap] 32)
  have C := checkCnf_any (some ⟨w.heap.size, 0, none⟩) 1 s.vars [lits] _ (grid_one w a cap lits hr hl) (by simp [maxLen])
  rw [hyes] at C
  simp only [List.length_singleton, errI, if_true] at C
  replace C := hide C
  have AT : Hid (∀ x, Below w.heap.size w x → Calls Try.prog 31 #[.pointer (some ⟨B, 0, none⟩), .slice a lits.length cap] x fun e w' => e = .returned (.int .i64 s.cls.length) ∧ AttachP ρ w B s lits w') := fun x hx => (attach_any (h.below hx) hI.shp hI.vld hM a cap lits (hr.below hx) hLt.2 (by omega) hcap).mono (fun e w' ⟨he, ρ', H', hR, hE⟩ => ⟨he, ρ', H', hR, (Ev.below hx).trans hE⟩)
  have C3 : Hid (∀ x, Below w.heap.size w x → x.cell? ⟨B, 3, none⟩ = some (.int .i64 s.count)) := fun x hx => (h.below hx).c3
  have HB := hide hb
  have hBlt : B ≠ w.heap.size := by have := h.lt; omega
  clear h hr hb hyes hI hlits hM hLt
  generalize s.vars = V at *
  generalize s.count = ct at *
  go_enter Try.func43, Try.ntmps43
  go_wp2_with (first | (go_at_call 59; refine (unhide G).mono ?_; rintro e w0 ⟨rfl, hw0⟩; subst w0) | (go_at_call 20; refine (unhide C).mono ?_; rintro e w1 ⟨rfl, hb1⟩; have hb1w := HB.out.trans (hb1.mono HB.out.size); have k3 := C3.out _ hb1w) | (go_at_call 31; refine (AT.out _ hb1w).mono ?_; rintro e w2 ⟨rfl, hA⟩))
  go_ret2
  exact ⟨rfl, hA⟩
end
end Go.Proofs.Ytlmbgaconjcaiab

namespace Go.Proofs.Ytlmbgaconjcaiab
section
variable {s : PS}

theorem no_both (h : Inv s) {x : Int} (h1 : x ∈ s.trail) (h2 : -x ∈ s.trail) : False := by
  have hl := h.tr.ok x h1
  have a := (h.vone hl).2 h1
  have b := (h.vneg hl).2 h2
  omega
theorem done_cl (h : Inv s) (hl : s.late = []) (hh : s.head = s.trail.length) {css : List (List Int)} (hk : s.cls.map key = css.map (fun c => (c, false))) {i : Nat} {c : List Int} (hc : css[i]? = some c) :
    (∃ x ∈ c, x ∈ s.trail) ∨ ∃ x y, x ∈ c ∧ y ∈ c ∧ x ≠ y ∧ -x ∉ s.trail ∧ -y ∉ s.trail := by
  obtain ⟨C, h1, h2, h3⟩ := keys_get hk (i := i) (k := (c, false)) (by rw [List.getElem?_map, hc]; rfl)
  rcases done_ok h hl hh h1 h3 with ⟨x, a, b⟩ | ⟨x, y, a, b, c', d, e⟩
  · exact .inl ⟨x, by rw [h2] at a; exact a, b⟩
  · rw [List.take_length] at d e
    rw [h2] at a b
    exact .inr ⟨x, y, a, b, c', d, e⟩
/-- Of two literals the other one is true where one is false. -/
theorem bin_l (h : Inv s) (hl : s.late = []) (hh : s.head = s.trail.length) {css : List (List Int)} (hk : s.cls.map key = css.map (fun c => (c, false))) {i : Nat} {a b : Int} (hc : css[i]? = some [a, b]) (hf : -b ∈ s.trail) : a ∈ s.trail := by
  rcases done_cl h hl hh hk hc with ⟨x, hx, ht⟩ | ⟨x, y, hx, hy, hne, h1, h2⟩
  · simp at hx
    rcases hx with rfl | rfl
    · exact ht
    · exact (no_both h ht hf).elim
  · simp at hx hy
    rcases hx with rfl | rfl
    · rcases hy with rfl | rfl
      · exact absurd rfl hne
      · exact absurd hf h2
    · exact absurd hf h1
theorem one_l (h : Inv s) (hl : s.late = []) (hh : s.head = s.trail.length) {css : List (List Int)} (hk : s.cls.map key = css.map (fun c => (c, false))) {i : Nat} {a : Int} (hc : css[i]? = some [a]) : a ∈ s.trail := by
  rcases done_cl h hl hh hk hc with ⟨x, hx, ht⟩ | ⟨x, y, hx, hy, hne, h1, h2⟩
  · simp at hx; subst hx; exact ht
  · simp at hx hy; subst hx hy; exact absurd rfl hne

def css4 : List (List Int) := [[1, 2], [-1, 2], [1, -2], [-1, -2]]
def css5 : List (List Int) := [[1, 2], [-1, 2], [1, -2], [-1, -2], [2]]

theorem aw_one (h : Inv s) (hl : s.late = []) (hh : s.head = s.trail.length) (hk : s.cls.map key = css4.map (fun c => (c, false))) (h2 : -2 ∈ s.trail) : False := by
  have a := bin_l h hl hh hk (i := 0) (a := 1) (b := 2) rfl h2
  have b := bin_l h hl hh hk (i := 1) (a := -1) (b := 2) rfl h2
  exact no_both h a b
theorem aw_two (h : Inv s) (hl : s.late = []) (hh : s.head = s.trail.length) (hk : s.cls.map key = css5.map (fun c => (c, false))) : False := by
  have h2 := one_l h hl hh hk (i := 4) (a := 2) rfl
  have a := bin_l h hl hh hk (i := 2) (a := 1) (b := -2) rfl h2
  have b := bin_l h hl hh hk (i := 3) (a := -1) (b := -2) rfl h2
  exact no_both h a b

theorem aw_trail (h : Inv s) (hk : s.cls.map key = css4.map (fun c => (c, false))) (hd : s.dec = [3]) : ∀ x ∈ s.trail, x = 3 := by
  have main : ∀ (n i : Nat) (x : Int), i < n → s.trail[i]? = some x → x = 3 := by
    intro n
    induction n with
    | zero => intro i x hi; omega
    | succ n ih =>
      intro i x hi hx
      obtain ⟨r, _, hR⟩ := h.tr.fc i x hx
      rcases hR with ⟨_, u, hu, e⟩ | ⟨_, k, c, _, e2, e3, e4, e5⟩
      · have hm : x ∈ s.dec := by
          unfold PS.dec
          refine List.mem_map.2 ⟨u, hu, ?_⟩
          rw [e, List.getD_eq_getElem?_getD, hx]; rfl
        rw [hd] at hm; simpa using hm
      · exfalso
        have hkk := keys_at hk e2
        have hall : ∀ y ∈ c.lits, y ≠ x → -y = 3 := by
          intro y hy hne
          obtain ⟨j, hj, hyj⟩ := mem_take_iff.1 (e5 y hy hne)
          exact ih j (-y) (by omega) hyj
        have hcl : c.lits ∈ css4 := by
          have : (c.lits, c.gone) ∈ css4.map (fun c => (c, false)) := List.mem_of_getElem? hkk
          obtain ⟨d, hd, e⟩ := List.mem_map.1 this
          injection e with e _
          rw [← e]; exact hd
        simp [css4] at hcl
        rcases hcl with e | e | e | e
        all_goals
          rw [e] at e4 hall
          simp at e4 hall
          omega
  intro x hx
  obtain ⟨i, hi⟩ := List.mem_iff_getElem?.1 hx
  exact main (i + 1) i x (by omega) hi
theorem aw_three (h : Inv s) (hk : s.cls.map key = css4.map (fun c => (c, false))) (hd : s.dec = [3]) {n : Int} (hb : Brk s n) : False := by
  obtain ⟨i, c, _, e1, e2, e3⟩ := hb
  have hkk := keys_at hk e1
  have hcl : c.lits ∈ css4 := by
    have : (c.lits, c.gone) ∈ css4.map (fun c => (c, false)) := List.mem_of_getElem? hkk
    obtain ⟨d, hd, e⟩ := List.mem_map.1 this
    injection e with e _
    rw [← e]; exact hd
  have ht := aw_trail h hk hd
  simp [css4] at hcl
  rcases hcl with e | e | e | e
  all_goals
    rw [e] at e3
    simp at e3
    have a := ht _ e3.1
    omega
end
end Go.Proofs.Ytlmbgaconjcaiab
