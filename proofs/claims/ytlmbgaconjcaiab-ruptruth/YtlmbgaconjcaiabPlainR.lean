/- Plain mathematics: what follows by the document's own way, and that it is what a trail has. -/
import Derived.Test.YtlmbgaconjcaiabPlainO
set_option linter.unusedVariables false
set_option linter.unusedSimpArgs false
namespace Go.Proofs.Ytlmbgaconjcaiab

/-- The open literal of a clause that is unit, from a place on. -/
def unitR (t : List Int) : List Int → Int → Int
  | [], o => o
  | x :: r, o => if x ∈ t then 0 else if -x ∈ t ∨ x = o then unitR t r o else if o ≠ 0 then 0 else unitR t r x
def brokenP (t c : List Int) : Bool := c.all (fun x => decide (-x ∈ t))
/-- What a round over the clauses finds: none: one is broken. -/
def nextP (t : List Int) : List (List Int) → Int → Option Int
  | [], n => some n
  | c :: cs, n => if brokenP t c then none else nextP t cs (if n = 0 then unitR t c 0 else n)
def followsP (cs : List (List Int)) : Nat → List Int → List Int × Bool
  | 0, t => (t, false)
  | k + 1, t => match nextP t cs 0 with
    | none => (t, true)
    | some u => if u = 0 then (t, false) else followsP cs k (t ++ [u])

theorem unitR_ne {t : List Int} : ∀ (c : List Int) (o : Int), (0 : Int) ∉ c → unitR t c o ≠ 0 → (unitR t c o = o ∨ (o = 0 ∧ unitR t c o ∈ c ∧ unitR t c o ∉ t ∧ -(unitR t c o) ∉ t)) ∧ ∀ y ∈ c, y = unitR t c o ∨ -y ∈ t
  | [], o, _, h => ⟨.inl rfl, by simp⟩
  | x :: r, o, h0, h => by
    have h0r : (0 : Int) ∉ r := fun q => h0 (List.mem_cons_of_mem _ q)
    have hx0 : x ≠ 0 := fun q => h0 (by rw [q]; exact List.mem_cons_self ..)
    unfold unitR at h ⊢
    split at h
    · exact absurd rfl h
    · rename_i h1
      rw [if_neg h1]
      split at h
      · rename_i h2
        rw [if_pos h2]
        obtain ⟨a, b⟩ := unitR_ne r o h0r h
        refine ⟨?_, ?_⟩
        · rcases a with a | ⟨a1, a2, a3⟩
          · exact .inl a
          · exact .inr ⟨a1, List.mem_cons_of_mem _ a2, a3⟩
        · intro y hy
          rcases List.mem_cons.1 hy with rfl | hy
          · rcases h2 with h2 | h2
            · exact .inr h2
            · rcases a with a | ⟨a1, _⟩
              · exact .inl (h2.trans a.symm)
              · exact absurd (h2.trans a1) hx0
          · exact b y hy
      · rename_i h2
        rw [if_neg h2]
        split at h
        · exact absurd rfl h
        · rename_i h3
          rw [if_neg h3]
          have ho : o = 0 := Decidable.not_not.1 h3
          obtain ⟨a, b⟩ := unitR_ne r x h0r h
          have h2a : -x ∉ t := fun q => h2 (.inl q)
          have e : unitR t r x = x := by
            rcases a with a | ⟨a1, _⟩
            · exact a
            · exact absurd a1 hx0
          refine ⟨.inr ⟨ho, by rw [e]; simp, by rw [e]; exact h1, by rw [e]; exact h2a⟩, ?_⟩
          intro y hy
          rcases List.mem_cons.1 hy with rfl | hy
          · exact .inl e.symm
          · exact b y hy

theorem unit_ne {t c : List Int} (h0 : (0 : Int) ∉ c) (h : unitR t c 0 ≠ 0) : unitR t c 0 ∈ c ∧ unitR t c 0 ∉ t ∧ -(unitR t c 0) ∉ t ∧ ∀ y ∈ c, y = unitR t c 0 ∨ -y ∈ t := by
  obtain ⟨a, b⟩ := unitR_ne c 0 h0 h
  rcases a with a | ⟨_, a1, a2, a3⟩
  · exact absurd a h
  · exact ⟨a1, a2, a3, b⟩

/-- A clause that is not unit, and whose literals but one are false: that one is true, or false. -/
theorem unit_zero {t : List Int} (x : Int) : ∀ (c : List Int) (o : Int), (0 : Int) ∉ c → x ≠ 0 → unitR t c o = 0 → (o = 0 ∨ o = x) → (∀ y ∈ c, y = x ∨ -y ∈ t) → (∀ y ∈ c, -y ∈ t → y ∉ t) → (x ∈ c ∨ o = x) → x ∈ t ∨ -x ∈ t
  | [], o, _, hx, h, ho, _, _, hm => by
    simp only [unitR] at h
    rcases hm with hm | hm
    · simp at hm
    · exact absurd (hm.symm.trans h) hx
  | z :: r, o, h0, hx, h, ho, hall, hcon, hm => by
    have h0r : (0 : Int) ∉ r := fun q => h0 (List.mem_cons_of_mem _ q)
    have hallr : ∀ y ∈ r, y = x ∨ -y ∈ t := fun y hy => hall y (List.mem_cons_of_mem _ hy)
    have hconr : ∀ y ∈ r, -y ∈ t → y ∉ t := fun y hy => hcon y (List.mem_cons_of_mem _ hy)
    have hz := hall z (List.mem_cons_self ..)
    have hcz := hcon z (List.mem_cons_self ..)
    unfold unitR at h
    split at h
    · rename_i h1
      rcases hz with rfl | hz
      · exact .inl h1
      · exact absurd h1 (hcz hz)
    · rename_i h1
      split at h
      · rename_i h2
        by_cases e : z = x
        · subst e
          rcases h2 with h2 | h2
          · exact .inr h2
          · exact unit_zero z r o h0r hx h ho hallr hconr (.inr h2.symm)
        · refine unit_zero x r o h0r hx h ho hallr hconr ?_
          rcases hm with hm | hm
          · rcases List.mem_cons.1 hm with q | q
            · exact absurd q.symm e
            · exact .inl q
          · exact .inr hm
      · rename_i h2
        rcases hz with rfl | hz
        · split at h
          · rename_i h3
            rcases ho with ho | ho
            · exact absurd ho h3
            · exact absurd (.inr ho.symm) h2
          · exact unit_zero z r z h0r hx h (.inr rfl) hallr hconr (.inr rfl)
        · exact absurd (.inl hz) h2

theorem nextP_none {t : List Int} : ∀ (cs : List (List Int)) (n : Int), nextP t cs n = none → ∃ c ∈ cs, brokenP t c = true
  | [], n, h => by simp [nextP] at h
  | c :: cs, n, h => by
    unfold nextP at h
    by_cases e : brokenP t c = true
    · exact ⟨c, List.mem_cons_self .., e⟩
    · rw [if_neg e] at h
      obtain ⟨d, hd, q⟩ := nextP_none cs _ h
      exact ⟨d, List.mem_cons_of_mem _ hd, q⟩

theorem nextP_some {t : List Int} : ∀ (cs : List (List Int)) (n u : Int), nextP t cs n = some u → (∀ c ∈ cs, brokenP t c = false) ∧ (u = 0 → n = 0 ∧ ∀ c ∈ cs, unitR t c 0 = 0) ∧ (u ≠ 0 → u = n ∨ ∃ c ∈ cs, u = unitR t c 0)
  | [], n, u, h => by
    simp [nextP] at h; subst h
    exact ⟨by simp, fun e => ⟨e, by simp⟩, fun _ => .inl rfl⟩
  | c :: cs, n, u, h => by
    unfold nextP at h
    by_cases e : brokenP t c = true
    · rw [if_pos e] at h; cases h
    · rw [if_neg e] at h
      obtain ⟨a1, a2, a3⟩ := nextP_some cs _ u h
      refine ⟨?_, ?_, ?_⟩
      · intro d hd
        rcases List.mem_cons.1 hd with rfl | hd
        · simpa using e
        · exact a1 d hd
      · intro eu
        obtain ⟨b1, b2⟩ := a2 eu
        by_cases en : n = 0
        · rw [if_pos en] at b1
          refine ⟨en, fun d hd => ?_⟩
          rcases List.mem_cons.1 hd with rfl | hd
          · exact b1
          · exact b2 d hd
        · rw [if_neg en] at b1; exact absurd b1 en
      · intro eu
        rcases a3 eu with q | ⟨d, hd, q⟩
        · by_cases en : n = 0
          · rw [if_pos en] at q; exact .inr ⟨c, List.mem_cons_self .., q⟩
          · rw [if_neg en] at q; exact .inl q
        · exact .inr ⟨d, List.mem_cons_of_mem _ hd, q⟩

def Nd (t : List Int) : Prop := t.Pairwise (fun a b => a ≠ b ∧ a ≠ -b)

theorem nd_len {V : Nat} {t : List Int} (h : Nd t) (ht : ∀ x ∈ t, Lt V x) : t.length ≤ V := by
  have e : (t.map (fun x => x.natAbs - 1)).length = t.length := by simp
  rw [← e]
  refine nodup_len V _ ?_ ?_
  · show List.Pairwise (· ≠ ·) _
    rw [List.pairwise_map]
    refine List.Pairwise.imp_of_mem ?_ h
    intro a b ha hb hab q
    have h1 := ht a ha
    have h2 := ht b hb
    unfold Lt at h1 h2
    obtain ⟨n1, n2⟩ := hab
    omega
  · intro x hx
    obtain ⟨y, hy, rfl⟩ := List.mem_map.1 hx
    have h1 := ht y hy
    unfold Lt at h1
    omega

/-- What follows, at its end. -/
structure Fol (cs : List (List Int)) (V : Nat) (t : List Int) (p : List Int × Bool) : Prop where
  pre : ∀ x ∈ t, x ∈ p.1
  nd : Nd p.1
  ok : ∀ x ∈ p.1, Lt V x
  br : p.2 = true → ∃ c ∈ cs, brokenP p.1 c = true
  cl : p.2 = false → ∀ c ∈ cs, brokenP p.1 c = false ∧ unitR p.1 c 0 = 0

theorem zero_not {V : Nat} {c : List Int} (h : ∀ x ∈ c, Lt V x) : (0 : Int) ∉ c := fun q => (h 0 q).1 rfl

theorem follows_fol {cs : List (List Int)} {V : Nat} (hcs : ∀ c ∈ cs, ∀ x ∈ c, Lt V x) : ∀ (fuel : Nat) (t : List Int), Nd t → (∀ x ∈ t, Lt V x) → V < fuel + t.length → Fol cs V t (followsP cs fuel t)
  | 0, t, hn, ht, hf => by have := nd_len hn ht; omega
  | k + 1, t, hn, ht, hf => by
    unfold followsP
    cases e : nextP t cs 0 with
    | none => exact ⟨fun _ h => h, hn, ht, fun _ => nextP_none cs 0 e, (fun h => by cases h)⟩
    | some u =>
      obtain ⟨a1, a2, a3⟩ := nextP_some cs 0 u e
      by_cases eu : u = 0
      · simp only [eu, if_true]
        exact ⟨fun _ h => h, hn, ht, (fun h => by cases h), fun _ c hc => ⟨a1 c hc, (a2 eu).2 c hc⟩⟩
      · simp only [eu, if_false]
        obtain ⟨c, hc, q⟩ : ∃ c ∈ cs, u = unitR t c 0 := by
          rcases a3 eu with q | q
          · exact absurd q eu
          · exact q
        obtain ⟨b1, b2, b3, b4⟩ := unit_ne (zero_not (hcs c hc)) (by rw [← q]; exact eu)
        rw [← q] at b1 b2 b3
        have hul := hcs c hc u b1
        have := follows_fol hcs k (t ++ [u]) (by
          refine List.pairwise_append.2 ⟨hn, by simp, ?_⟩
          intro x hx y hy
          simp at hy; subst hy
          exact ⟨fun e => b2 (e ▸ hx), fun e => b3 (e ▸ hx)⟩) (by
          intro x hx
          rcases List.mem_append.1 hx with hx | hx
          · exact ht x hx
          · simp at hx; subst hx; exact hul) (by simp; omega)
        exact ⟨fun x hx => this.pre x (List.mem_append.2 (.inl hx)), this.nd, this.ok, this.br, this.cl⟩

section
variable {s : PS}

/-- The literals of the clauses that are there. -/
def Alv (s : PS) (cs : List (List Int)) : Prop := ∀ L, L ∈ cs ↔ ∃ (i : Nat) (c : Cl), s.cls[i]? = some c ∧ c.gone = false ∧ c.lits = L

theorem Alv.lt (h : Inv s) {cs : List (List Int)} (ha : Alv s cs) : ∀ c ∈ cs, ∀ x ∈ c, Lt s.vars x := by
  intro L hL x hx
  obtain ⟨i, c, h1, h2, rfl⟩ := (ha L).1 hL
  exact h.wt.ok i c h1 x hx

/-- What is closed has the trail. -/
theorem closed_trail (h : Inv s) {cs : List (List Int)} (ha : Alv s cs) {t : List Int} (hn : Nd t) (ht : ∀ x ∈ t, Lt s.vars x) (hcl : ∀ c ∈ cs, brokenP t c = false ∧ unitR t c 0 = 0) (hd : ∀ x ∈ s.dec, x ∈ t) : ∀ x ∈ s.trail, x ∈ t := by
  have key : ∀ (n i : Nat) (x : Int), i < n → s.trail[i]? = some x → x ∈ t := by
    intro n
    induction n with
    | zero => intro i x hi; omega
    | succ n ih =>
      intro i x hi hx
      obtain ⟨r, _, hR⟩ := h.tr.fc i x hx
      rcases hR with ⟨_, u, hu, e⟩ | ⟨_, k, c, _, e2, e3, e4, e5⟩
      · refine hd x ?_
        unfold PS.dec
        refine List.mem_map.2 ⟨u, hu, ?_⟩
        rw [e, List.getD_eq_getElem?_getD, hx]; rfl
      · have hL : c.lits ∈ cs := (ha _).2 ⟨k, c, e2, e3, rfl⟩
        have hlt := Alv.lt h ha c.lits hL
        obtain ⟨q1, q2⟩ := hcl c.lits hL
        have hall : ∀ y ∈ c.lits, y = x ∨ -y ∈ t := by
          intro y hy
          by_cases e : y = x
          · exact .inl e
          · obtain ⟨j, j1, j2⟩ := mem_take_iff.1 (e5 y hy e)
            exact .inr (ih j (-y) (by omega) j2)
        rcases unit_zero x c.lits 0 (zero_not hlt) (hlt x e4).1 q2 (.inl rfl) hall (fun y hy h1 h2 => nd_neg hn (hlt y hy).1 h2 h1) (.inl e4) with q | q
        · exact q
        · exfalso
          have : brokenP t c.lits = true := by
            unfold brokenP
            rw [List.all_eq_true]
            intro y hy
            rcases hall y hy with rfl | hy'
            · simpa using q
            · simpa using hy'
          rw [q1] at this; cases this
  intro x hx
  obtain ⟨i, hi⟩ := List.mem_iff_getElem?.1 hx
  exact key (i + 1) i x (by omega) hi

theorem dec_trail (h : Inv s) : ∀ x ∈ s.dec, x ∈ s.trail := by
  intro x hx
  unfold PS.dec at hx
  obtain ⟨v, hv, rfl⟩ := List.mem_map.1 hx
  have := h.tr.sl v hv
  rw [List.getD_eq_getElem?_getD, List.getElem?_eq_getElem this]
  exact List.getElem_mem this

theorem dec_nd (h : Inv s) : Nd s.dec := by
  unfold PS.dec Nd
  rw [List.pairwise_map]
  refine List.Pairwise.imp_of_mem ?_ h.tr.st
  intro a b ha hb hab
  have h1 := h.tr.sl a ha
  have h2 := h.tr.sl b hb
  rw [List.getD_eq_getElem?_getD, List.getElem?_eq_getElem h1, List.getD_eq_getElem?_getD, List.getElem?_eq_getElem h2]
  exact List.pairwise_iff_getElem.1 h.tr.nd a.start b.start h1 h2 hab

/-- Run told a broken clause: so does the document. -/
theorem follows_brk (h : Inv s) {cs : List (List Int)} (ha : Alv s cs) {n : Int} (hb : Brk s n) {fuel : Nat} (hf : s.vars < fuel) : (followsP cs fuel s.dec).2 = true := by
  have hF := follows_fol (Alv.lt h ha) fuel s.dec (dec_nd h) (fun x hx => h.tr.ok x (dec_trail h x hx)) (by omega)
  cases e : (followsP cs fuel s.dec).2 with
  | true => rfl
  | false =>
    exfalso
    have hcl := hF.cl e
    have hsub := closed_trail h ha hF.nd hF.ok hcl hF.pre
    obtain ⟨i, c, _, e1, e2, e3⟩ := hb
    have hL : c.lits ∈ cs := (ha _).2 ⟨i, c, e1, e2, rfl⟩
    have := (hcl c.lits hL).1
    have q : brokenP (followsP cs fuel s.dec).1 c.lits = true := by
      unfold brokenP
      rw [List.all_eq_true]
      intro y hy
      simpa using hsub _ (e3 y hy)
    rw [this] at q; cases q

/-- Run told that none is broken: what follows lies in the trail. -/
theorem follows_in (h : Inv s) (hl : s.late = []) (hh : s.head = s.trail.length) {cs : List (List Int)} (ha : Alv s cs) : ∀ (fuel : Nat) (t : List Int), (∀ x ∈ t, x ∈ s.trail) → (followsP cs fuel t).2 = false ∧ ∀ x ∈ (followsP cs fuel t).1, x ∈ s.trail
  | 0, t, ht => ⟨rfl, ht⟩
  | k + 1, t, ht => by
    unfold followsP
    have hneg : ∀ x, Lt s.vars x → x ∈ s.trail → -x ∉ s.trail := fun x hx hm => nd_neg h.tr.nd hx.1 hm
    cases e : nextP t cs 0 with
    | none =>
      exfalso
      obtain ⟨L, hL, hb⟩ := nextP_none cs 0 e
      obtain ⟨i, c, h1, h2, rfl⟩ := (ha L).1 hL
      unfold brokenP at hb
      rw [List.all_eq_true] at hb
      have hb' : ∀ y ∈ c.lits, -y ∈ s.trail := fun y hy => ht _ (by simpa using hb y hy)
      rcases done_ok h hl hh h1 h2 with ⟨x, x1, x2⟩ | ⟨x, y, x1, x2, x3, x4, x5⟩
      · exact hneg x (h.wt.ok i c h1 x x1) x2 (hb' x x1)
      · rw [List.take_of_length_le (Nat.le_refl _)] at x4
        exact x4 (hb' x x1)
    | some u =>
      obtain ⟨a1, a2, a3⟩ := nextP_some cs 0 u e
      by_cases eu : u = 0
      · simp only [eu, if_true]; exact ⟨by trivial, ht⟩
      · simp only [eu, if_false]
        obtain ⟨L, hL, q⟩ : ∃ c ∈ cs, u = unitR t c 0 := by
          rcases a3 eu with q | q
          · exact absurd q eu
          · exact q
        have hlt := Alv.lt h ha L hL
        obtain ⟨b1, b2, b3, b4⟩ := unit_ne (zero_not hlt) (by rw [← q]; exact eu)
        rw [← q] at b1 b2 b3 b4
        obtain ⟨i, c, h1, h2, rfl⟩ := (ha L).1 hL
        have hu : u ∈ s.trail := by
          rcases done_ok h hl hh h1 h2 with ⟨x, x1, x2⟩ | ⟨x, y, x1, x2, x3, x4, x5⟩
          · rcases b4 x x1 with rfl | hx
            · exact x2
            · exact absurd (ht _ hx) (hneg x (hlt x x1) x2)
          · rw [List.take_of_length_le (Nat.le_refl _)] at x4 x5
            rcases b4 x x1 with rfl | hx
            · rcases b4 y x2 with rfl | hy
              · exact absurd rfl x3
              · exact absurd (ht _ hy) x5
            · exact absurd (ht _ hx) x4
        exact follows_in h hl hh ha k (t ++ [u]) (by
          intro x hx
          rcases List.mem_append.1 hx with hx | hx
          · exact ht x hx
          · simp at hx; subst hx; exact hu)

theorem sub_len : ∀ (a b : List Int), a.Nodup → (∀ x ∈ a, x ∈ b) → a.length ≤ b.length
  | [], b, _, _ => Nat.zero_le _
  | x :: r, b, hn, hs => by
    obtain ⟨hx, hr⟩ := List.nodup_cons.1 hn
    obtain ⟨p, q, rfl⟩ := List.append_of_mem (hs x (List.mem_cons_self ..))
    have := sub_len r (p ++ q) hr (by
      intro y hy
      have hne : y ≠ x := fun e => hx (e ▸ hy)
      rcases List.mem_append.1 (hs y (List.mem_cons_of_mem _ hy)) with h | h
      · exact List.mem_append.2 (.inl h)
      · rcases List.mem_cons.1 h with h | h
        · exact absurd h hne
        · exact List.mem_append.2 (.inr h))
    simp only [List.length_append, List.length_cons] at this ⊢
    omega
theorem nd_sub {a b : List Int} (ha : Nd a) (hs : ∀ x ∈ a, x ∈ b) : a.length ≤ b.length := sub_len a b (List.Pairwise.imp (fun h => h.1) ha) hs

/-- Run told that none is broken: so does the document, and the trail is what follows. -/
theorem follows_done (h : Inv s) (hl : s.late = []) (hh : s.head = s.trail.length) {cs : List (List Int)} (ha : Alv s cs) {fuel : Nat} (hf : s.vars < fuel) :
    (followsP cs fuel s.dec).2 = false ∧ (∀ x, x ∈ (followsP cs fuel s.dec).1 ↔ x ∈ s.trail) ∧ (followsP cs fuel s.dec).1.length = s.trail.length := by
  have hF := follows_fol (Alv.lt h ha) fuel s.dec (dec_nd h) (fun x hx => h.tr.ok x (dec_trail h x hx)) (by omega)
  obtain ⟨e, hin⟩ := follows_in h hl hh ha fuel s.dec (dec_trail h)
  have hsub := closed_trail h ha hF.nd hF.ok (hF.cl e) hF.pre
  exact ⟨e, fun x => ⟨hin x, hsub x⟩, Nat.le_antisymm (nd_sub hF.nd hin) (nd_sub h.tr.nd hsub)⟩
end
end Go.Proofs.Ytlmbgaconjcaiab
