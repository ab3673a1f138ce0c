/- Plain mathematics: a new propagator; a clause is taken in; a decision. -/
import Derived.Test.YtlmbgaconjcaiabPlainL
set_option linter.unusedVariables false
set_option linter.unusedSimpArgs false
namespace Go.Proofs.Ytlmbgaconjcaiab

theorem zero_inv (V : Nat) (h : V ≤ 1048576) : Inv (PS.zero V) := by
  have hrep : ∀ {α : Type} (n : Nat) (a : α) (i : Nat) (x : α), (List.replicate n a)[i]? = some x → x = a := by
    intro α n a i x hx
    exact List.eq_of_mem_replicate (List.mem_of_getElem? hx)
  have e1 : (PS.zero V).trail = [] := rfl
  have e2 : (PS.zero V).lvs = [] := rfl
  have e3 : (PS.zero V).cls = [] := rfl
  have e4 : (PS.zero V).late = [] := rfl
  refine ⟨⟨(by rw [e1]; simp), (by rw [e1]; exact List.Pairwise.nil), ?_, (by rw [e1]; simp), (by rw [e2]; exact List.Pairwise.nil), (by rw [e2]; simp), Nat.le_refl _, (by rw [e2]; simp), (by rw [e2]; exact List.Pairwise.nil)⟩, ⟨(by rw [e3]; simp), (by rw [e3]; simp), ?_, ?_⟩, ⟨(by rw [e3]; simp), (by rw [e3]; simp)⟩, ⟨h, (by simp [PS.zero]), (by simp [PS.zero]), (by simp [PS.zero]), ?_, ?_, (by rw [e2]; simp), (by rw [e4]; simp), (by simp [PS.zero]), (by simp [PS.zero]), (by simp [PS.zero]), (by simp [PS.zero])⟩⟩
  · intro x hx
    unfold PS.val tval
    simp [PS.zero, List.getD_eq_getElem?_getD, List.getElem?_replicate]
    split <;> rfl
  · intro j q hq
    rw [hrep _ _ _ _ hq]; simp
  · intro j q hq p hp
    rw [hrep _ _ _ _ hq] at hp; cases hp
  · intro x hx
    rw [List.eq_of_mem_replicate hx]; omega
  · intro p hp
    rw [List.eq_of_mem_replicate hp]; simp

section
variable {s : PS}

theorem Inv.falseFrom (h : Inv s) {x : Int} (hx : Lt s.vars x) {a : Nat} (ha : a ≤ s.trail.length) (hf : (a : Int) ≤ s.falseFrom x) : -x ∉ s.trail.take a := by
  intro hm
  obtain ⟨i, i1, i2⟩ := mem_take_iff.1 hm
  obtain ⟨r, e, _⟩ := h.tr.fc i _ i2
  have hn : s.val x < 0 := (h.vneg hx).2 (List.mem_of_getElem? i2)
  have e2 : s.fct x = s.fct (-x) := by unfold PS.fct; rw [Int.natAbs_neg]
  unfold PS.falseFrom at hf
  rw [if_pos hn, e2, e] at hf
  simp only at hf; omega
theorem Inv.falseGe (h : Inv s) {x : Int} (hx : Lt s.vars x) {a : Nat} (ha : a ≤ s.trail.length) (hf : -x ∉ s.trail.take a) : (a : Int) ≤ s.falseFrom x := by
  unfold PS.falseFrom
  split
  · rename_i hn
    obtain ⟨i, i2⟩ := List.mem_iff_getElem?.1 ((h.vneg hx).1 hn)
    obtain ⟨r, e, _⟩ := h.tr.fc i _ i2
    have e2 : s.fct x = s.fct (-x) := by unfold PS.fct; rw [Int.natAbs_neg]
    rw [e2, e]
    have : ¬ i < a := fun hl => hf (mem_take_iff.2 ⟨i, hl, i2⟩)
    simp only; omega
  · omega

/-- What the two that are picked are: unlike literals, none of the others later. -/
structure Pick (s : PS) (ls : List Int) (p : Int × Int) : Prop where
  z : p.1 = 0 → p.2 = 0 ∧ ls = []
  a : p.1 ≠ 0 → p.1 ∈ ls
  b : p.2 ≠ 0 → p.2 ∈ ls ∧ p.1 ≠ p.2 ∧ s.falseFrom p.2 ≤ s.falseFrom p.1 ∧ ∀ x ∈ ls, x = p.1 ∨ x = p.2 ∨ s.falseFrom x ≤ s.falseFrom p.2
  c : p.2 = 0 → ∀ x ∈ ls, x = p.1

theorem pick_snoc {ls : List Int} {p : Int × Int} {l : Int} (h : Pick s ls p) (hl : l ≠ 0) : Pick s (ls ++ [l]) (s.later p l) := by
  obtain ⟨p1, p2⟩ := p
  unfold PS.later
  simp only
  split
  · rename_i hA
    have hp1 : p1 ≠ 0 := by
      intro e
      have h2 := (h.z e).1
      simp only at h2
      rcases hA with hA | hA
      · exact hl (hA.trans e)
      · exact hl (hA.trans h2)
    refine ⟨fun e => absurd e hp1, fun _ => List.mem_append.2 (.inl (h.a hp1)), fun e => ?_, fun e x hx => ?_⟩
    · obtain ⟨b1, b2, b3, b4⟩ := h.b e
      refine ⟨List.mem_append.2 (.inl b1), b2, b3, fun x hx => ?_⟩
      rcases List.mem_append.1 hx with hx | hx
      · exact b4 x hx
      · simp at hx; subst hx
        rcases hA with hA | hA
        · exact .inl hA
        · exact .inr (.inl hA)
    · rcases List.mem_append.1 hx with hx | hx
      · exact h.c e x hx
      · simp at hx; subst hx
        rcases hA with hA | hA
        · exact hA
        · simp only at e; exact absurd (hA.trans e) hl
  · rename_i hA
    have hA1 : l ≠ p1 := fun e => hA (.inl e)
    have hA2 : l ≠ p2 := fun e => hA (.inr e)
    split
    · rename_i hB
      refine ⟨fun e => absurd e hl, fun _ => by simp, fun e => ?_, fun e x hx => ?_⟩
      · simp only at e
        have hf : s.falseFrom p1 < s.falseFrom l := hB.resolve_left e
        refine ⟨List.mem_append.2 (.inl (h.a e)), hA1, Int.le_of_lt hf, fun x hx => ?_⟩
        rcases List.mem_append.1 hx with hx | hx
        · by_cases e2 : p2 = 0
          · exact .inr (.inl (h.c e2 x hx))
          · obtain ⟨b1, b2, b3, b4⟩ := h.b e2
            rcases b4 x hx with h' | h' | h'
            · exact .inr (.inl h')
            · right; right; rw [h']; exact b3
            · right; right; simp only at b3 h' ⊢; omega
        · simp at hx; exact .inl hx
      · simp only at e
        rcases List.mem_append.1 hx with hx | hx
        · rw [(h.z e).2] at hx; cases hx
        · simpa using hx
    · rename_i hB
      have hp1 : p1 ≠ 0 := fun e => hB (.inl e)
      have hf1 : s.falseFrom l ≤ s.falseFrom p1 := by
        have : ¬ s.falseFrom p1 < s.falseFrom l := fun e => hB (.inr e)
        omega
      split
      · rename_i hC
        refine ⟨fun e => absurd e hp1, fun _ => List.mem_append.2 (.inl (h.a hp1)), fun e => ⟨by simp, Ne.symm hA1, hf1, fun x hx => ?_⟩, fun e => absurd e hl⟩
        rcases List.mem_append.1 hx with hx | hx
        · by_cases e2 : p2 = 0
          · exact .inl (h.c e2 x hx)
          · obtain ⟨b1, b2, b3, b4⟩ := h.b e2
            have hf := hC.resolve_left e2
            rcases b4 x hx with h' | h' | h'
            · exact .inl h'
            · right; right; rw [h']; simp only; omega
            · right; right; simp only at h' ⊢; omega
        · simp at hx; exact .inr (.inl hx)
      · rename_i hC
        have hp2 : p2 ≠ 0 := fun e => hC (.inl e)
        have hf2 : s.falseFrom l ≤ s.falseFrom p2 := by
          have : ¬ s.falseFrom p2 < s.falseFrom l := fun e => hC (.inr e)
          omega
        obtain ⟨b1, b2, b3, b4⟩ := h.b hp2
        refine ⟨fun e => absurd e hp1, fun _ => List.mem_append.2 (.inl (h.a hp1)), fun _ => ⟨List.mem_append.2 (.inl b1), b2, b3, fun x hx => ?_⟩, fun e => absurd e hp2⟩
        rcases List.mem_append.1 hx with hx | hx
        · exact b4 x hx
        · simp at hx; subst hx; exact .inr (.inr hf2)

theorem pick_fold (s : PS) : ∀ (ms ls : List Int) (p : Int × Int), (∀ x ∈ ms, x ≠ 0) → Pick s ls p → Pick s (ls ++ ms) (ms.foldl s.later p)
  | [], ls, p, _, h => by simpa using h
  | m :: ms, ls, p, h0, h => by
    have := pick_fold s ms (ls ++ [m]) (s.later p m) (fun x hx => h0 x (List.mem_cons_of_mem _ hx)) (pick_snoc h (h0 m (by simp)))
    simpa using this
theorem pick_latest (s : PS) (ls : List Int) (h0 : ∀ x ∈ ls, x ≠ 0) : Pick s ls (s.latest ls) := by
  have := pick_fold s ls [] (0, 0) h0 ⟨fun _ => ⟨rfl, rfl⟩, fun h => absurd rfl h, fun h => absurd rfl h, fun _ x hx => by cases hx⟩
  simpa [PS.latest] using this

/-- A clause that is taken in: what it watches is open whenever two of its literals are. -/
theorem attach_new (h : Inv s) {ls : List Int} (hl : ∀ x ∈ ls, Lt s.vars x) {f g : Int} (hp : Pick s ls (f, g)) {a b : Nat} (ha : a ≤ s.trail.length) (hb : b ≤ a) (h2 : Two ⟨ls, f, g, false⟩ s.trail a) : OKc ⟨ls, f, g, false⟩ s.trail a b := by
  obtain ⟨x, y, x1, y1, hne, x2, y2⟩ := h2
  simp only at x1 y1
  have fx := h.falseGe (hl x x1) ha x2
  have fy := h.falseGe (hl y y1) ha y2
  have hg : g ≠ 0 := by
    intro e
    exact hne ((hp.c e x x1).trans (hp.c e y y1).symm)
  obtain ⟨b1, b2, b3, b4⟩ := hp.b hg
  simp only at b1 b2 b3 b4
  have hf0 : f ≠ 0 := fun e => hg (hp.z e).1
  have hfm := hp.a hf0
  have hg2 : (a : Int) ≤ s.falseFrom g := by
    rcases b4 x x1 with e | e | e
    · rcases b4 y y1 with e' | e' | e'
      · exact absurd (e.trans e'.symm) hne
      · rw [← e']; exact fy
      · omega
    · rw [← e]; exact fx
    · omega
  have hf2 : (a : Int) ≤ s.falseFrom f := by omega
  exact .inr ⟨hg, fun hm => h.falseFrom (hl f hfm) ha hf2 (take_mono hm hb), fun hm => h.falseFrom (hl g b1) ha hg2 (take_mono hm hb)⟩

theorem modify_get {α : Type} {l : List α} {i j : Nat} {f : α → α} {q : α} (h : (l.modify i f)[j]? = some q) : ∃ u, l[j]? = some u ∧ q = if i = j then f u else u := by
  rw [List.getElem?_modify] at h
  obtain ⟨u, hu, e⟩ := Option.map_eq_some_iff.1 h
  exact ⟨u, hu, e.symm⟩

/-- What a clause that is taken in leaves of the rest. -/
structure Hkd (s t : PS) (ls : List Int) (f g : Int) : Prop where
  vars : t.vars = s.vars
  trail : t.trail = s.trail
  vals : t.vals = s.vals
  fac : t.fac = s.fac
  head : t.head = s.head
  lvs : t.lvs = s.lvs
  late : t.late = s.late
  cls : t.cls = s.cls ++ [⟨ls, f, g, false⟩]
  count : t.count = s.count + 1
  stale : t.stale = s.stale

theorem hooked_zero (ls : List Int) (f : Int) : Hkd s (s.hooked ls f 0) ls 0 0 := by
  unfold PS.hooked; rw [if_pos rfl]; exact ⟨rfl, rfl, rfl, rfl, rfl, rfl, rfl, rfl, rfl, rfl⟩
theorem hooked_two (ls : List Int) {f g : Int} (hg : g ≠ 0) : Hkd s (s.hooked ls f g) ls f g ∧ (s.hooked ls f g).wat = (s.wat.modify (ix s.vars f) (fun q => q ++ [(s.cls.length, g)])).modify (ix s.vars g) (fun q => q ++ [(s.cls.length, f)]) := by
  unfold PS.hooked; rw [if_neg hg]
  refine ⟨⟨rfl, rfl, rfl, rfl, rfl, rfl, rfl, ?_, rfl, rfl⟩, rfl⟩
  show (s.cls ++ [(⟨ls, 0, 0, false⟩ : Cl)]).set s.cls.length _ = _
  rw [List.set_append_right _ _ (Nat.le_refl _), Nat.sub_self]; rfl
/-- The watches when a clause was taken in. -/
def Wsn (s t : PS) (ls : List Int) (f g : Int) : Prop :=
  (g = 0 ∧ t.wat = s.wat) ∨ (g ≠ 0 ∧ f ≠ g ∧ f ∈ ls ∧ g ∈ ls ∧ t.wat = (s.wat.modify (ix s.vars f) (fun q => q ++ [(s.cls.length, g)])).modify (ix s.vars g) (fun q => q ++ [(s.cls.length, f)]))

theorem Wsn.get {t : PS} {ls : List Int} {f g : Int} (h : Wsn s t ls f g) (hl : ∀ x ∈ ls, Lt s.vars x) {j : Nat} {q' : List (Nat × Int)} (hq : t.wat[j]? = some q') :
    ∃ q, s.wat[j]? = some q ∧ (q' = q ∨ (g ≠ 0 ∧ f ∈ ls ∧ g ∈ ls ∧ ((j = ix s.vars f ∧ q' = q ++ [(s.cls.length, g)]) ∨ (j = ix s.vars g ∧ q' = q ++ [(s.cls.length, f)])))) := by
  rcases h with ⟨_, e⟩ | ⟨h1, h2, h3, h4, e⟩
  · rw [e] at hq; exact ⟨q', hq, .inl rfl⟩
  · rw [e] at hq
    have hne : ix s.vars f ≠ ix s.vars g := fun e => h2 (ix_inj (hl f h3) (hl g h4) e)
    obtain ⟨u, hu, eu⟩ := modify_get hq
    obtain ⟨q, hq2, e2⟩ := modify_get hu
    refine ⟨q, hq2, ?_⟩
    by_cases e3 : ix s.vars g = j
    · have e4 : ix s.vars f ≠ j := fun e => hne (e.trans e3.symm)
      rw [if_pos e3] at eu
      rw [if_neg e4] at e2
      exact .inr ⟨h1, h3, h4, .inr ⟨e3.symm, by rw [eu, e2]⟩⟩
    · rw [if_neg e3] at eu
      by_cases e4 : ix s.vars f = j
      · rw [if_pos e4] at e2
        exact .inr ⟨h1, h3, h4, .inl ⟨e4.symm, by rw [eu, e2]⟩⟩
      · rw [if_neg e4] at e2
        exact .inl (by rw [eu, e2])
theorem Wsn.has {t : PS} {ls : List Int} {f g : Int} (h : Wsn s t ls f g) {j : Nat} {q : List (Nat × Int)} (hq : s.wat[j]? = some q) : ∃ q', t.wat[j]? = some q' ∧ (∀ i ∈ q.map Prod.fst, i ∈ q'.map Prod.fst) ∧ (g ≠ 0 → (j = ix s.vars f ∨ j = ix s.vars g) → s.cls.length ∈ q'.map Prod.fst) := by
  rcases h with ⟨h0, e⟩ | ⟨h1, h2, h3, h4, e⟩
  · exact ⟨q, by rw [e]; exact hq, fun i hi => hi, fun h => absurd h0 h⟩
  · rw [e, List.getElem?_modify, List.getElem?_modify, hq]
    refine ⟨_, rfl, fun i hi => ?_, fun _ hj => ?_⟩
    · split <;> split <;> simp_all
    · rcases hj with hj | hj <;> subst hj <;> simp <;> (try split) <;> (try simp_all) <;> (try exact ⟨g, .inr (.inl rfl)⟩)

theorem attach_core (h : Inv s) {t : PS} {ls : List Int} {f g : Int} (hk : Hkd s t ls f g) (hw : Wsn s t ls f g) (hl : ∀ x ∈ ls, Lt s.vars x) (hn : s.cls.length < 1048576) {late : List Nat}
    (hlate : late = s.late ++ [s.cls.length] ∨ (g ≠ 0 ∧ -f ∉ s.trail ∧ -g ∉ s.trail ∧ late = s.late)) (h2 : ∀ a b, a ≤ s.trail.length → b ≤ a → Two ⟨ls, f, g, false⟩ s.trail a → OKc ⟨ls, f, g, false⟩ s.trail a b) : Inv { t with late := late } := by
  have hz := h.sz
  have gc : ∀ (i : Nat) (c : Cl), t.cls[i]? = some c → (i < s.cls.length ∧ s.cls[i]? = some c) ∨ (i = s.cls.length ∧ c = ⟨ls, f, g, false⟩) := by
    intro i c hc
    rw [hk.cls] at hc
    rcases Nat.lt_or_ge i s.cls.length with hi | hi
    · rw [List.getElem?_append_left hi] at hc; exact .inl ⟨hi, hc⟩
    · rw [List.getElem?_append_right hi] at hc
      have : i - s.cls.length = 0 := by
        have := (List.getElem?_eq_some_iff.1 hc).1; simp at this; omega
      rw [this] at hc; simp at hc
      exact .inr ⟨by omega, hc.symm⟩
  have go : ∀ (i : Nat) (c : Cl), s.cls[i]? = some c → t.cls[i]? = some c := by
    intro i c hc; rw [hk.cls, List.getElem?_append_left (List.getElem?_eq_some_iff.1 hc).1]; exact hc
  have gn : t.cls[s.cls.length]? = some ⟨ls, f, g, false⟩ := by rw [hk.cls]; simp
  have hsh : ({ t with late := late } : PS).lvs.map sh = s.lvs.map sh := by show t.lvs.map sh = _; rw [hk.lvs]
  have hT : ∀ k, tk ({ t with late := late } : PS) k = tk s k := fun k => tk_sh (s' := { t with late := late }) (s := s) hk.trail hsh k
  have hK : ∀ k, Ytlmbgaconjcaiab.hk ({ t with late := late } : PS) k = Ytlmbgaconjcaiab.hk s k := fun k => hk_sh (s' := { t with late := late }) (s := s) hk.head hsh k
  have lf : ∀ k i, lateFrom s k i → lateFrom { t with late := late } k i := by
    rintro k i (h' | h')
    · left
      rcases hlate with e | ⟨_, _, _, e⟩
      · show i ∈ late; rw [e]; exact List.mem_append.2 (.inl h')
      · show i ∈ late; rw [e]; exact h'
    · right; show ∃ j v, k ≤ j ∧ t.lvs[j]? = some v ∧ i ∈ v.late; rw [hk.lvs]; exact h'
  have hlen : t.cls.length = s.cls.length + 1 := by rw [hk.cls]; simp
  have hin : ∀ l i, InW s l i → InW { t with late := late } l i := by
    rintro l i ⟨q, e1, e2⟩
    obtain ⟨q', a1, a2, _⟩ := hw.has e1
    exact ⟨q', by show t.wat[ix t.vars l]? = _; rw [hk.vars]; exact a1, a2 i e2⟩
  refine ⟨h.tr.same (s' := { t with late := late }) hk.vars hk.trail hk.vals hk.fac hk.head hsh (fun k c x _ _ h1 h2 => ⟨c, go k c h1, h2, rfl⟩), ⟨?_, ?_, ?_, ?_⟩, ⟨?_, ?_⟩, ⟨by show t.vars ≤ _; rw [hk.vars]; exact hz.vars, by show t.vals.length = 2 * t.vars + 1; rw [hk.vals, hk.vars]; exact hz.vals, ?_, by show t.fac.length = t.vars + 1; rw [hk.fac, hk.vars]; exact hz.fac, by show ∀ x ∈ t.vals, _; rw [hk.vals]; exact hz.bit, by show ∀ p ∈ t.fac, _; rw [hk.fac]; exact hz.num, ?_, ?_, ?_, ?_, ?_, by show t.cls.length ≤ _; omega⟩⟩
  · intro i c hc x hx
    show Lt t.vars x
    rw [hk.vars]
    rcases gc i c hc with ⟨_, hc⟩ | ⟨_, rfl⟩
    · exact h.wt.ok i c hc x hx
    · exact hl x hx
  · intro i c hc hg hw1
    rcases gc i c hc with ⟨_, hc⟩ | ⟨rfl, rfl⟩
    · obtain ⟨a1, a2, a3, a4, a5⟩ := h.wt.ww i c hc hg hw1
      exact ⟨a1, a2, a3, hin _ _ a4, hin _ _ a5⟩
    · simp only at hw1 ⊢
      have hw' := hw
      rcases hw' with ⟨e, _⟩ | ⟨_, n1, n2, n3, _⟩
      · exact absurd e hw1
      · have mk : ∀ x, (x = f ∨ x = g) → InW { t with late := late } x s.cls.length := by
          intro x hx
          have hxl : Lt s.vars x := by rcases hx with rfl | rfl; exact hl _ n2; exact hl _ n3
          obtain ⟨q, hq⟩ : ∃ q, s.wat[ix s.vars x]? = some q := ⟨_, List.getElem?_eq_getElem (by rw [hz.wat]; exact ix_lt hxl)⟩
          obtain ⟨q', a1, _, a3⟩ := hw.has hq
          exact ⟨q', by show t.wat[ix t.vars x]? = _; rw [hk.vars]; exact a1, a3 hw1 (by rcases hx with rfl | rfl; exact .inl rfl; exact .inr rfl)⟩
        exact ⟨n1, n2, n3, mk f (.inl rfl), mk g (.inr rfl)⟩
  · intro j q' hq'
    obtain ⟨q, hq, hc⟩ := hw.get hl hq'
    have hnd := h.wt.nd j q hq
    have hnew : s.cls.length ∉ q.map Prod.fst := by
      intro hm
      obtain ⟨p, hp, ep⟩ := List.mem_map.1 hm
      obtain ⟨c, hc, _⟩ := h.wt.we j q hq p hp
      have := (List.getElem?_eq_some_iff.1 hc).1
      omega
    have key : ∀ x : Int, ((q ++ [(s.cls.length, x)]).map Prod.fst).Nodup := by
      intro x
      rw [List.map_append, List.nodup_append]
      refine ⟨hnd, by simp, fun a ha b hb => ?_⟩
      simp at hb; subst hb
      exact fun e => hnew (e ▸ ha)
    rcases hc with rfl | ⟨_, _, _, ⟨_, rfl⟩ | ⟨_, rfl⟩⟩
    · exact hnd
    · exact key _
    · exact key _
  · intro j q' hq' p hp
    obtain ⟨q, hq, hc⟩ := hw.get hl hq'
    show ∃ c, t.cls[p.1]? = some c ∧ Lt t.vars p.2 ∧ (c.gone = false → c.w1 ≠ 0 ∧ p.2 ∈ c.lits ∧ (j = ix t.vars c.w0 ∨ j = ix t.vars c.w1))
    rw [hk.vars]
    have old : p ∈ q → ∃ c, t.cls[p.1]? = some c ∧ Lt s.vars p.2 ∧ (c.gone = false → c.w1 ≠ 0 ∧ p.2 ∈ c.lits ∧ (j = ix s.vars c.w0 ∨ j = ix s.vars c.w1)) := by
      intro hp
      obtain ⟨c, hc, a1, a2⟩ := h.wt.we j q hq p hp
      exact ⟨c, go _ _ hc, a1, a2⟩
    rcases hc with rfl | ⟨g0, fm, gm, ⟨ej, rfl⟩ | ⟨ej, rfl⟩⟩
    · exact old hp
    · rcases List.mem_append.1 hp with hp | hp
      · exact old hp
      · simp at hp; subst hp; exact ⟨_, gn, hl g gm, fun _ => ⟨g0, gm, .inl ej⟩⟩
    · rcases List.mem_append.1 hp with hp | hp
      · exact old hp
      · simp at hp; subst hp; exact ⟨_, gn, hl f fm, fun _ => ⟨g0, fm, .inr ej⟩⟩
  · intro k hk1 i c hc hg
    rw [hT, hK]
    replace hk1 : k ≤ s.lvs.length := by rw [← hk.lvs]; exact hk1
    show lateFrom _ k i ∨ OKc c t.trail _ _
    rw [hk.trail]
    rcases gc i c hc with ⟨_, hc⟩ | ⟨rfl, rfl⟩
    · rcases h.la.i1 k hk1 i c hc hg with h' | h'
      · exact .inl (lf k i h')
      · exact .inr h'
    · rcases hlate with e | ⟨g0, n1, n2, _⟩
      · left; left; show _ ∈ late; rw [e]; simp
      · right; right
        exact ⟨g0, fun hm => n1 (List.mem_of_mem_take hm), fun hm => n2 (List.mem_of_mem_take hm)⟩
  · intro k hk1 i c hc hg h2'
    rw [hT] at h2' ⊢
    rw [hK]
    replace hk1 : k ≤ s.lvs.length := by rw [← hk.lvs]; exact hk1
    have h2'' : Two c s.trail (tk s k) := by rw [← hk.trail]; exact h2'
    show OKc c t.trail _ _
    rw [hk.trail]
    rcases gc i c hc with ⟨_, hc⟩ | ⟨rfl, rfl⟩
    · exact h.la.i2 k hk1 i c hc hg h2''
    · exact h2 _ _ (h.tr.tk_le k) (h.tr.hk_le k).1 h2''
  · show t.wat.length = 2 * t.vars + 1
    rw [hk.vars]
    rcases hw with ⟨_, e⟩ | ⟨_, _, _, _, e⟩
    · rw [e]; exact hz.wat
    · rw [e]; simp [hz.wat]
  · intro v hv i hi
    have := hz.lv v (by rw [← hk.lvs]; exact hv) i hi
    show i < t.cls.length; omega
  · intro i hi
    show i < t.cls.length
    rw [hlen]
    rcases hlate with e | ⟨_, _, _, e⟩
    · replace hi : i ∈ s.late ++ [s.cls.length] := by rw [← e]; exact hi
      rcases List.mem_append.1 hi with hi | hi
      · have := hz.la i hi; omega
      · simp at hi; omega
    · replace hi : i ∈ s.late := by rw [← e]; exact hi
      have := hz.la i hi; omega
  · show late.length + (t.lvs.map _).sum ≤ t.cls.length
    rw [hk.lvs, hlen]
    have := hz.sum
    rcases hlate with e | ⟨_, _, _, e⟩
    · rw [e]; simp only [List.length_append, List.length_singleton]; omega
    · rw [e]; omega
  · show 0 ≤ t.count ∧ t.count ≤ ((t.cls.length : Nat) : Int)
    rw [hk.count, hlen]; have := hz.count; omega
  · show 0 ≤ t.stale ∧ t.stale ≤ ((t.cls.length : Nat) : Int)
    rw [hk.stale, hlen]; have := hz.stale; omega

/-- A clause is taken in. -/
theorem attach_inv (h : Inv s) {ls : List Int} (hl : ∀ x ∈ ls, Lt s.vars x) (hn : s.cls.length < 1048576) : Inv (s.attach ls) := by
  have hp := pick_latest s ls (fun x hx => (hl x hx).1)
  unfold PS.attach
  simp only
  generalize s.latest ls = p at *
  obtain ⟨f, g⟩ := p
  simp only
  by_cases hg : g = 0
  · subst hg
    rw [if_pos (.inl rfl)]
    have hk := hooked_zero (s := s) ls f
    have e : ({ s.hooked ls f 0 with late := (s.hooked ls f 0).late ++ [s.cls.length] } : PS) = { s.hooked ls f 0 with late := s.late ++ [s.cls.length] } := by rw [hk.late]
    rw [e]
    refine attach_core h hk (.inl ⟨rfl, ?_⟩) hl hn (.inl rfl) (fun a b _ _ ⟨x, y, x1, y1, hne, _⟩ => ?_)
    · unfold PS.hooked; rw [if_pos rfl]; rfl
    · exact absurd ((hp.c rfl x x1).trans (hp.c rfl y y1).symm) hne
  · obtain ⟨hk, hw⟩ := hooked_two (s := s) ls (f := f) hg
    obtain ⟨b1, b2, b3, b4⟩ := hp.b hg
    simp only at b1 b2 b3 b4
    have hf0 : f ≠ 0 := fun e => hg (hp.z e).1
    have hfm := hp.a hf0
    have hW : Wsn s (s.hooked ls f g) ls f g := .inr ⟨hg, b2, hfm, b1, hw⟩
    have h2 : ∀ a b, a ≤ s.trail.length → b ≤ a → Two ⟨ls, f, g, false⟩ s.trail a → OKc ⟨ls, f, g, false⟩ s.trail a b := fun a b ha hb ht => attach_new h hl hp ha hb ht
    by_cases hv : s.val g < 0
    · rw [if_pos (.inr hv)]
      have e : ({ s.hooked ls f g with late := (s.hooked ls f g).late ++ [s.cls.length] } : PS) = { s.hooked ls f g with late := s.late ++ [s.cls.length] } := by rw [hk.late]
      rw [e]
      exact attach_core h hk hW hl hn (.inl rfl) h2
    · rw [if_neg (by rintro (e | e); exact hg e; exact hv e)]
      have hng : -g ∉ s.trail := fun hm => hv ((h.vneg (hl g b1)).2 hm)
      have hnf : -f ∉ s.trail := by
        have e1 : s.falseFrom g = s.trail.length := by unfold PS.falseFrom; rw [if_neg hv]
        have := h.falseFrom (hl f hfm) (a := s.trail.length) (Nat.le_refl _) (by omega)
        rwa [List.take_length] at this
      have e : s.hooked ls f g = { s.hooked ls f g with late := s.late } := by rw [← hk.late]
      rw [e]
      exact attach_core h hk hW hl hn (.inr ⟨hg, hnf, hng, rfl⟩) h2

theorem attach_cls (s : PS) (ls : List Int) : (s.attach ls).cls.map key = s.cls.map key ++ [(ls, false)] ∧ (s.attach ls).vars = s.vars ∧ (s.attach ls).trail = s.trail ∧ (s.attach ls).lvs = s.lvs ∧ (s.attach ls).count = s.count + 1 ∧ (s.attach ls).stale = s.stale := by
  unfold PS.attach
  simp only
  generalize s.latest ls = p at *
  obtain ⟨f, g⟩ := p
  simp only
  have hk : ∃ f' g', Hkd s (s.hooked ls f g) ls f' g' := by
    by_cases hg : g = 0
    · subst hg; exact ⟨0, 0, hooked_zero ls f⟩
    · exact ⟨f, g, (hooked_two ls hg).1⟩
  obtain ⟨f', g', hk⟩ := hk
  split <;> exact ⟨by show (s.hooked ls f g).cls.map key = _; rw [hk.cls]; simp [key], hk.vars, hk.trail, hk.lvs, hk.count, hk.stale⟩
end

end Go.Proofs.Ytlmbgaconjcaiab
