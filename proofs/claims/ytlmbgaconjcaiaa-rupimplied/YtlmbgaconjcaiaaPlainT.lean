/- Plain mathematics: the law's clauses and decisions beside a propagator's; what two runs tell. -/
import Derived.Test.YtlmbgaconjcaiaaPlainS
import Derived.Test.YtlmbgaconjcaiaaPlainQ
import Derived.Test.YtlmbgaconjcaiaaPlainP
import Derived.Test.YtlmbgaconjcaiaaMb
import Derived.Test.YtlmbgaconjcaiaaId
import Derived.Test.YtlmbgaconjcaiaaKc
set_option linter.unusedVariables false
set_option linter.unusedSimpArgs false
namespace Go.Proofs.Ytlmbgaconjcaiaa

section
variable {s t : PS}

theorem Cnt.same (h : Cnt s) (hk : t.cls.map (fun c => c.gone) = s.cls.map (fun c => c.gone)) (hc : t.count = s.count) (hs : t.stale = s.stale) : Cnt t := by
  have key : ∀ (p : Bool → Bool), t.cls.countP (fun c => p c.gone) = s.cls.countP (fun c => p c.gone) := by
    intro p
    have e : ∀ l : List Cl, l.countP (fun c => p c.gone) = (l.map (fun c => c.gone)).countP p := by
      intro l; rw [List.countP_map]; rfl
    rw [e, e, hk]
  refine ⟨?_, ?_⟩
  · rw [hc, h.n, key (fun b => !b)]
  · rw [hs, key (fun b => b)]; exact h.st

theorem gone_key (s : PS) : s.cls.map (fun c => c.gone) = (s.cls.map key).map Prod.snd := by
  rw [List.map_map]; rfl

theorem Cnt.frm (h : Cnt s) (hF : Frm s t) : Cnt t := h.same (by rw [gone_key, gone_key, hF.cl]) hF.count hF.stale
theorem Cnt.back (h : Cnt s) (k : Nat) (lv : Lv) : Cnt (s.back k lv) := by rw [back_eq]; exact h.same rfl rfl rfl
theorem Cnt.decide (h : Cnt s) (l : Int) : Cnt (s.decide l) := h.same rfl rfl rfl
theorem Cnt.attach (h : Cnt s) (ls : List Int) : Cnt (s.attach ls) := by
  obtain ⟨h1, _, _, _, h5, h6⟩ := attach_cls s ls
  have e : ∀ (u : PS) (p : Bool → Bool), u.cls.countP (fun c => p c.gone) = ((u.cls.map key).map Prod.snd).countP p := by
    intro u p
    rw [← gone_key, List.countP_map]; rfl
  refine ⟨?_, ?_⟩
  · rw [h5, h.n, e s (fun b => !b), e (s.attach ls) (fun b => !b), h1]; simp
  · rw [h6, e (s.attach ls) (fun b => b), h1]
    have := h.st
    rw [e s (fun b => b)] at this
    simpa using this

/-- The law's clauses, and which are gone, are a propagator's. -/
structure Kys (s : PS) (css : List (List Int)) (gs : List Bool) : Prop where
  gone : s.cls.map (fun c => c.gone) = gs
  len : s.cls.length = css.length
  lits : ∀ (i : Nat) c, s.cls[i]? = some c → c.gone = false → css[i]? = some c.lits

variable {css : List (List Int)} {gs : List Bool}

theorem Kys.glen (h : Kys s css gs) : gs.length = css.length := by rw [← h.gone, List.length_map, h.len]
theorem Kys.same (h : Kys s css gs) (e : t.cls.map key = s.cls.map key) : Kys t css gs := by
  refine ⟨by rw [gone_key, e, ← gone_key, h.gone], by rw [← h.len]; simpa using congrArg List.length e, fun i c hc hg => ?_⟩
  have hk := keys_at (ks := s.cls.map key) e hc
  rw [List.getElem?_map, Option.map_eq_some_iff] at hk
  obtain ⟨c', hc', he⟩ := hk
  simp only [key, Prod.mk.injEq] at he
  rw [← he.1]
  exact h.lits i c' hc' (he.2.trans hg)
theorem Kys.attach (h : Kys s css gs) (ls : List Int) : Kys (s.attach ls) (css ++ [ls]) (gs ++ [false]) := by
  obtain ⟨h1, _⟩ := attach_cls s ls
  refine ⟨by rw [gone_key, h1, List.map_append, ← gone_key, h.gone]; rfl, ?_, fun i c hc hg => ?_⟩
  · have := congrArg List.length h1
    simp at this
    simp [this, h.len]
  · have hk := keys_at h1 hc
    rcases Nat.lt_or_ge i s.cls.length with q | q
    · rw [List.getElem?_append_left (by simpa using q), List.getElem?_map, Option.map_eq_some_iff] at hk
      obtain ⟨c', hc', he⟩ := hk
      simp only [key, Prod.mk.injEq] at he
      rw [List.getElem?_append_left (by rw [← h.len]; exact q), ← he.1]
      exact h.lits i c' hc' (he.2.trans hg)
    · rw [List.getElem?_append_right (by simpa using q)] at hk
      simp at hk
      obtain ⟨e0, e1⟩ : i - s.cls.length = 0 ∧ (ls, false) = (c.lits, c.gone) := by
        cases hh : i - s.cls.length with
        | zero => rw [hh] at hk; simpa using hk
        | succ n => rw [hh] at hk; simp at hk
      simp at e1
      obtain rfl : i = css.length := by rw [← h.len]; omega
      rw [List.getElem?_append_right (Nat.le_refl _)]
      simp [e1.1]
theorem drop_cls (s : PS) (i : Nat) (c : Cl) : (s.drop i c).cls = s.cls.set i { c with gone := true, lits := [] } := by
  unfold PS.drop
  simp only
  split <;> rfl
theorem Kys.drop (h : Kys s css gs) {i : Nat} {c : Cl} (hc : s.cls[i]? = some c) : Kys (s.drop i c) css (gs.set i true) := by
  refine ⟨by rw [drop_cls, List.map_set, h.gone], by rw [drop_cls, List.length_set, h.len], fun j d hd hg => ?_⟩
  rw [drop_cls] at hd
  rcases set_at hc hd with ⟨rfl, rfl⟩ | ⟨hne, hd'⟩
  · simp at hg
  · exact h.lits j d hd' hg

theorem thereL_mem : ∀ (css : List (List Int)) (gs : List Bool) (L : List Int), L ∈ thereL css gs ↔ ∃ i : Nat, css[i]? = some L ∧ gs[i]? = some false
  | [], gs, L => by simp [thereL]
  | c :: cs, [], L => by simp [thereL]
  | c :: cs, g :: gs, L => by
    have ih := thereL_mem cs gs L
    cases g with
    | true =>
      simp only [thereL, if_true]
      rw [ih]
      constructor
      · rintro ⟨i, h1, h2⟩; exact ⟨i + 1, by simpa using h1, by simpa using h2⟩
      · rintro ⟨i, h1, h2⟩
        cases i with
        | zero => simp at h2
        | succ i => exact ⟨i, by simpa using h1, by simpa using h2⟩
    | false =>
      simp only [thereL, Bool.false_eq_true, if_false, List.mem_cons]
      rw [ih]
      constructor
      · rintro (rfl | ⟨i, h1, h2⟩)
        · exact ⟨0, by simp, by simp⟩
        · exact ⟨i + 1, by simpa using h1, by simpa using h2⟩
      · rintro ⟨i, h1, h2⟩
        cases i with
        | zero => left; simpa using h1.symm
        | succ i => exact .inr ⟨i, by simpa using h1, by simpa using h2⟩
theorem thereL_len : ∀ (css : List (List Int)) (gs : List Bool), (thereL css gs).length ≤ css.length
  | [], gs => by simp [thereL]
  | c :: cs, [] => by simp [thereL]
  | c :: cs, g :: gs => by
    have := thereL_len cs gs
    cases g <;> simp [thereL] <;> omega
theorem thereL_none : ∀ (css : List (List Int)), thereL css (List.replicate css.length false) = css
  | [] => rfl
  | c :: cs => by simp [thereL, List.replicate_succ, thereL_none cs]

theorem Kys.at (h : Kys s css gs) {i : Nat} {c : Cl} (hc : s.cls[i]? = some c) : gs[i]? = some c.gone := by
  rw [← h.gone, List.getElem?_map, hc]; rfl
theorem Kys.alv (h : Kys s css gs) : Alv s (thereL css gs) := by
  intro L
  rw [thereL_mem]
  constructor
  · rintro ⟨i, h1, h2⟩
    have hi : i < s.cls.length := by rw [h.len]; exact (List.getElem?_eq_some_iff.1 h1).1
    have hc := List.getElem?_eq_getElem hi
    have hg := h.at hc
    rw [h2] at hg
    simp at hg
    have := h.lits i _ hc hg
    rw [h1] at this
    simp at this
    exact ⟨i, _, hc, hg, this.symm⟩
  · rintro ⟨i, c, hc, hg, rfl⟩
    exact ⟨i, h.lits i c hc hg, by rw [h.at hc, hg]⟩
theorem Kys.new {css : List (List Int)} (h : s.cls.map key = css.map (fun c => (c, false))) : Kys s css (List.replicate css.length false) := by
  refine ⟨by rw [gone_key, h, List.map_map]; rw [List.eq_replicate_iff]; exact ⟨by simp, by simp⟩, by simpa using congrArg List.length h, fun i c hc hg => ?_⟩
  have hk := keys_at h hc
  rw [List.getElem?_map, Option.map_eq_some_iff] at hk
  obtain ⟨L, hL, he⟩ := hk
  simp at he
  rw [hL, he.1]
theorem Cnt.new {css : List (List Int)} (h : s.cls.map key = css.map (fun c => (c, false))) (hc : s.count = css.length) (hs : s.stale = 0) : Cnt s := by
  have hg : ∀ c ∈ s.cls, c.gone = false := by
    intro c hc
    have : key c ∈ s.cls.map key := List.mem_map_of_mem hc
    rw [h] at this
    obtain ⟨d, _, e⟩ := List.mem_map.1 this
    exact (congrArg Prod.snd e).symm
  have hl : s.cls.length = css.length := by simpa using congrArg List.length h
  refine ⟨?_, by rw [hs]; omega⟩
  rw [hc, List.countP_eq_length.2 (fun c hc => by simp [hg c hc]), hl]

/-- A clause that can't be dropped is a reason of the trail. -/
theorem rsn_trail (h : Inv s) {i : Nat} {c : Cl} (hc : s.cls[i]? = some c) (hr : s.rsnB i c.lits = true) : ∃ x ∈ s.trail, s.rsnT x = (i : Int) := by
  unfold PS.rsnB at hr
  rw [List.any_eq_true] at hr
  obtain ⟨x, hx, h1⟩ := hr
  simp only [Bool.and_eq_true, beq_iff_eq] at h1
  have hl := h.wt.ok i c hc x hx
  refine ⟨x, (h.vone hl).1 h1.1, ?_⟩
  have hv : s.valT x = 1 := by unfold PS.valT; rw [if_pos (ltB_true.2 hl), h1.1]
  unfold PS.rsnT
  rw [hv, h1.2]; simp

/-- A literal that is not open is refused. -/
theorem open_no (h : Inv s) (hV : s.vars ≤ 1048576) {l : Int} (ho : openB s.vars s.trail l = false) : ltB s.vars l = false ∨ (Lt s.vars l ∧ s.val l ≠ 0) := by
  cases hb : ltB s.vars l with
  | false => exact .inl rfl
  | true =>
    right
    have hl := ltB_true.1 hb
    refine ⟨hl, fun hv => ?_⟩
    obtain ⟨h1, h2⟩ := (h.vzero hl).1 hv
    have : openB s.vars s.trail l = true := by
      unfold openB
      unfold Lt at hl
      have e1 : litB l 1048576 = true := by unfold litB; simp only [decide_eq_true_eq]; omega
      have e2 : decide (varI l ≤ s.vars) = true := by unfold varI; simp only [decide_eq_true_eq]; split <;> omega
      rw [e1, e2, hasB_false.2 h1, hasB_false.2 h2]; rfl
    rw [this] at ho; cases ho

/-- What a run tells, by what follows. -/
theorem run_tells (h : Inv s) {cs : List (List Int)} (ha : Alv s cs) (hV : s.vars < 100001) {n : Int} (hn : (n = -1 ∧ s.late = [] ∧ s.head = s.trail.length) ∨ Brk s n) :
    (n = -1 ∧ (followsP cs 100001 s.dec).2 = false ∧ (∀ x, x ∈ (followsP cs 100001 s.dec).1 ↔ x ∈ s.trail) ∧ (followsP cs 100001 s.dec).1.length = s.trail.length) ∨ (0 ≤ n ∧ (followsP cs 100001 s.dec).2 = true) := by
  rcases hn with ⟨h1, h2, h3⟩ | hb
  · left
    exact ⟨h1, follows_done h h2 h3 ha hV⟩
  · right
    have k := follows_brk h ha hb (fuel := 100001) hV
    obtain ⟨i, c, rfl, _⟩ := hb
    exact ⟨by omega, k⟩
end
end Go.Proofs.Ytlmbgaconjcaiaa
