/- Joined: What a keeper's state tells of a clause is what the document tells, whatever clauses are gone: plain. A keeper in its whole, and what is in the midst of taking a clause out. Contract: the first clause that has the same literals is taken out, whatever was asked before. Contract: the numbers of the clauses that have a literal, whatever was asked before. -/
import Derived.Test.YtlmbgaconjcaiabJaAll
import Derived.Test.YtlmbgaconjcaiabLXAll
import Derived.Test.YtlmbgaconjcaiabRiAll
set_option linter.unusedVariables false
set_option linter.unusedSimpArgs false
namespace Go.Proofs.Ytlmbgaconjcaiab

theorem liveL_mem : ∀ (l : List Cl) (L : List Int), L ∈ liveL l ↔ ∃ (i : Nat) (c : Cl), l[i]? = some c ∧ c.gone = false ∧ c.lits = L
  | [], L => by simp [liveL]
  | d :: r, L => by
    have ih := liveL_mem r L
    rw [liveL_cons]
    cases hg : d.gone with
    | true =>
      simp only [if_true]
      rw [ih]
      constructor
      · rintro ⟨i, c, h1, h2⟩
        exact ⟨i + 1, c, by simpa using h1, h2⟩
      · rintro ⟨i, c, h1, h2, h3⟩
        cases i with
        | zero => simp at h1; subst h1; rw [hg] at h2; cases h2
        | succ i => exact ⟨i, c, by simpa using h1, h2, h3⟩
    | false =>
      simp only [Bool.false_eq_true, if_false, List.mem_cons]
      rw [ih]
      constructor
      · rintro (h | ⟨i, c, h1, h2⟩)
        · exact ⟨0, d, rfl, hg, h.symm⟩
        · exact ⟨i + 1, c, by simpa using h1, h2⟩
      · rintro ⟨i, c, h1, h2, h3⟩
        cases i with
        | zero => simp at h1; subst h1; exact .inl h3.symm
        | succ i => exact .inr ⟨i, c, by simpa using h1, h2, h3⟩
theorem liveL_key : ∀ (a b : List Cl), a.map key = b.map key → liveL a = liveL b
  | [], [], _ => rfl
  | [], _ :: _, h => by simp at h
  | _ :: _, [], h => by simp at h
  | x :: r, y :: q, h => by
    simp only [List.map_cons, List.cons.injEq] at h
    have e1 : x.lits = y.lits := congrArg Prod.fst h.1
    have e2 : x.gone = y.gone := congrArg Prod.snd h.1
    rw [liveL_cons, liveL_cons, e1, e2, liveL_key r q h.2]
theorem alv_live {s : PS} : Alv s (liveL s.cls) := fun L => liveL_mem s.cls L

section
variable {s t : PS} {css : List (List Int)} {c ds0 ds : List Int} {sp : Nat} {b : Bool}
/-- What is told of a clause by units. -/
theorem tell_ref (hI : Inv t) (hG : Grw s t (ds0 ++ ds)) (hlive : liveL s.cls = css) (hd0 : ∀ x ∈ s.dec ++ ds0, sp ≠ 0 ∧ x = (sp : Int)) (hd : ∀ d ∈ ds, -d ∈ c) (hT : Told t c b) (hl : css.length ≤ 100000)
    (hs : ∀ d ∈ css, ∀ x ∈ d, x ≠ 0 ∧ (sp ≠ 0 → -x ≠ (sp : Int))) (hc : ∀ x ∈ c, x ≠ 0 ∧ (sp ≠ 0 → x ≠ (sp : Int))) : refU css c = b := by
  have ha : Alv t css := by
    have := alv_live (s := t)
    rwa [liveL_key _ _ hG.cl, hlive] at this
  unfold refU
  cases ht : tautB c with
  | true => rw [told_taut hI hT ((taut_con c).1 ht)]; rfl
  | false =>
    have hcon : Con c := by
      by_cases h : Con c
      · exact h
      · rw [(taut_con c).2 h] at ht; cases ht
    show (followsP css 100001 (c.map fun x => -x)).2 = b
    have hdec : ∀ x ∈ t.dec, -x ∈ c ∨ (sp ≠ 0 ∧ x = (sp : Int)) := by
      intro x hx
      rw [hG.dec, ← List.append_assoc] at hx
      rcases List.mem_append.1 hx with h | h
      · exact .inr (hd0 x h)
      · exact .inl (hd x h)
    by_cases hz : sp = 0
    · refine told_ref hI ha (sp := 0) hT hcon (fun d hd' x hx e => (hs d hd' x hx).1 (by omega)) (fun x hx => (hc x hx).1) (fun x hx => ?_) (by omega)
      rcases hdec x hx with h | h
      · exact .inl h
      · exact absurd hz h.1
    · refine told_ref hI ha (sp := (sp : Int)) hT hcon (fun d hd' x hx => (hs d hd' x hx).2 hz) (fun x hx => (hc x hx).2 hz) (fun x hx => ?_) (by omega)
      rcases hdec x hx with h | h
      · exact .inl h
      · exact .inr h.2

theorem hasB_i (d : List Int) (x : Int) : hasB d x = true ↔ x ∈ d := by
  unfold hasB
  rw [List.any_eq_true]
  constructor
  · rintro ⟨y, hy, e⟩
    obtain rfl : y = x := by simpa using e
    exact hy
  · intro hy; exact ⟨_, hy, by simp⟩

/-- What is told of a clause by its first literal. -/
theorem tellF_ref {l0 : Int} {ns : List Int} (h : FirstB s ds0 c (-l0) ns b) (h0 : c[0]? = some l0) (hns : ∀ z, z ∈ ns ↔ z ∈ noteL s.cls 0 (fun _ => []) (-l0)) (hlive : liveL s.cls = css) (hd0 : ∀ x ∈ s.dec ++ ds0, sp ≠ 0 ∧ x = (sp : Int)) (hl : css.length ≤ 100000)
    (hs : ∀ d ∈ css, ∀ x ∈ d, x ≠ 0 ∧ (sp ≠ 0 → x ≠ (sp : Int) ∧ -x ≠ (sp : Int))) (hc : ∀ x ∈ c, x ≠ 0 ∧ (sp ≠ 0 → x ≠ (sp : Int))) : refF css c = b := by
  have hft : ∀ d ∈ css, ∀ b', FT s ds0 c (wo d (-l0)) b' → refU css (c ++ wo d (-l0)) = b' := by
    rintro d hd b' ⟨t, ds, hI, hG, hds, hT⟩
    refine tell_ref hI hG hlive hd0 hds hT hl (fun d hd x hx => ⟨(hs d hd x hx).1, fun hz => ((hs d hd x hx).2 hz).2⟩) (fun x hx => ?_)
    rcases List.mem_append.1 hx with hx | hx
    · exact hc x hx
    · have hx' := (List.mem_filter.1 hx).1
      exact ⟨(hs d hd x hx').1, fun hz => ((hs d hd x hx').2 hz).1⟩
  have hrf : refF css c = css.all (refF1 css c (-l0)) := by
    cases c with
    | nil => simp at h0
    | cons l r => simp at h0; subst h0; rfl
  have hmem : ∀ z, z ∈ ns ↔ ∃ (i : Nat) (d : Cl), s.cls[i]? = some d ∧ d.gone = false ∧ -l0 ∈ d.lits ∧ z = (i : Int) := by
    intro z
    rw [hns, noteL_mem]
    constructor
    · rintro (h | ⟨i, d, h1, h2, h3, h4⟩)
      · simp at h
      · exact ⟨i, d, h1, h2, h3, by rw [h4, Nat.zero_add]⟩
    · rintro ⟨i, d, h1, h2, h3, h4⟩
      exact .inr ⟨i, d, h1, h2, h3, by rw [h4, Nat.zero_add]⟩
  have hat : ∀ {i : Nat} {L : List Int}, (s.cls.map key)[i]? = some (L, false) → ∃ d, s.cls[i]? = some d ∧ d.lits = L ∧ d.gone = false := by
    intro i L hi
    rw [List.getElem?_map] at hi
    obtain ⟨d, h1, h2⟩ := Option.map_eq_some_iff.1 hi
    exact ⟨d, h1, congrArg Prod.fst h2, congrArg Prod.snd h2⟩
  rw [hrf]
  rcases h with ⟨rfl, hF⟩ | ⟨rfl, z, hz, i, L, e1, e2, e3⟩
  · rw [List.all_eq_true]
    intro d hd
    unfold refF1
    cases hh : hasB d (-l0) with
    | false => rfl
    | true =>
      rw [← hlive] at hd
      obtain ⟨i, c', h1, h2, h3⟩ := (liveL_mem _ _).1 hd
      rw [hlive] at hd
      obtain ⟨i', L, e1, e2, e3⟩ := hF (i : Int) ((hmem _).2 ⟨i, c', h1, h2, by rw [h3]; exact (hasB_i d _).1 hh, rfl⟩)
      obtain rfl : i = i' := by omega
      obtain ⟨c2, q1, q2, q3⟩ := hat e2
      rw [h1] at q1
      cases q1
      rw [h3] at q2
      subst q2
      rcases e3 with ⟨_, a1, a2⟩ | ⟨a0, _⟩
      · rw [hft d hd true a2, decide_eq_true a1]; rfl
      · cases a0
  · obtain ⟨j, d, h1, h2, h3, h4⟩ := (hmem z).1 hz
    obtain rfl : i = j := by omega
    obtain ⟨c2, q1, q2, q3⟩ := hat e2
    rw [h1] at q1
    cases q1
    subst q2
    have hdm : d.lits ∈ css := by rw [← hlive]; exact (liveL_mem _ _).2 ⟨i, d, h1, h2, rfl⟩
    rw [List.all_eq_false]
    refine ⟨d.lits, hdm, ?_⟩
    unfold refF1
    rw [(hasB_i _ _).2 h3]
    rcases e3 with ⟨a0, _⟩ | ⟨_, a1 | a1⟩
    · cases a0
    · rw [decide_eq_false (by omega)]; simp
    · rw [hft _ hdm false a1]; simp
end

theorem drop_same (s : PS) (i : Nat) (d : Cl) : (s.drop i d).trail = s.trail ∧ (s.drop i d).lvs.map Lv.start = s.lvs.map Lv.start ∧ (s.drop i d).vars = s.vars := by
  unfold PS.drop
  simp only
  split
  · refine ⟨rfl, ?_, rfl⟩
    show ((s.lvs.map _).map Lv.start) = _
    rw [List.map_map]; rfl
  · exact ⟨rfl, rfl, rfl⟩
theorem start_dec {s t : PS} (h1 : t.trail = s.trail) (h2 : t.lvs.map Lv.start = s.lvs.map Lv.start) : t.dec = s.dec := by
  unfold PS.dec
  rw [h1]
  have e : ∀ l : List Lv, l.map (fun v => s.trail.getD v.start 0) = (l.map Lv.start).map (fun n => s.trail.getD n 0) := fun l => by rw [List.map_map]; rfl
  rw [e, e, h2]
theorem Z0.start {s t : PS} (h : Z0 s) (h1 : t.trail = s.trail) (h2 : t.lvs.map Lv.start = s.lvs.map Lv.start) : Z0 t := by
  cases e : t.lvs with
  | nil =>
    rw [e] at h2
    have : s.lvs = [] := by
      cases e2 : s.lvs with
      | nil => rfl
      | cons v r => rw [e2] at h2; simp at h2
    exact z0_nil e (h1.trans (h.nil this))
  | cons v r =>
    rw [e] at h2
    cases e2 : s.lvs with
    | nil => rw [e2] at h2; simp at h2
    | cons v' r' =>
      rw [e2] at h2
      simp only [List.map_cons, List.cons.injEq] at h2
      exact z0_cons e (h2.1.trans (h.cons e2))
theorem Z0.drop {s : PS} (h : Z0 s) (i : Nat) (d : Cl) : Z0 (s.drop i d) := h.start (drop_same s i d).1 (drop_same s i d).2.1
theorem drop_decs (s : PS) (i : Nat) (d : Cl) : (s.drop i d).dec = s.dec := start_dec (drop_same s i d).1 (drop_same s i d).2.1
theorem back0_trail {s : PS} (h : Z0 s) {lv : Lv} (hl : s.lvs[0]? = some lv) : (s.back 0 lv).trail = [] ∧ (s.back 0 lv).lvs = [] ∧ (s.back 0 lv).cls = s.cls ∧ (s.back 0 lv).vars = s.vars := by
  rw [back_eq]
  refine ⟨?_, rfl, rfl, rfl⟩
  cases e : s.lvs with
  | nil => rw [e] at hl; simp at hl
  | cons v r =>
    rw [e] at hl
    simp at hl
    subst hl
    show s.trail.take v.start = []
    rw [h.cons e]; rfl

/-- What taking out leaves of a state. -/
def RemS (s : PS) (c : List Int) (s' : PS) (x2 x2' : Int) : Prop :=
  (idxL s.cls 0 (tx c) = [] ∧ s' = s ∧ x2' = x2) ∨
  ∃ (i : Nat) (d : Cl) (q : List Int), idxL s.cls 0 (tx c) = (i : Int) :: q ∧ s.cls[i]? = some d ∧ d.gone = false ∧ tx d.lits = tx c ∧ x2' = x2 - 1 ∧ (s' = s.drop i d ∨ ∃ lv, s.lvs[0]? = some lv ∧ s' = (s.back 0 lv).drop i d)
theorem RemS.live {s s' : PS} {c : List Int} {x2 x2' : Int} (h : RemS s c s' x2 x2') : liveL s'.cls = remB (liveL s.cls) (tx c) := by
  rcases h with ⟨h1, rfl, _⟩ | ⟨i, d, q, h1, h2, h3, h4, h5, h6⟩
  · exact (rem_none (tx c) s'.cls 0 h1).symm
  · have e : s'.cls = s.cls.set i { d with gone := true, lits := [] } := by
      rcases h6 with rfl | ⟨lv, _, rfl⟩
      · exact drop_cls s i d
      · rw [drop_cls, back_eq]
    rw [e]
    exact rem_first (tx c) _ rfl s.cls 0 (i : Int) q h1 i (by simp)
theorem RemS.z {s s' : PS} {c : List Int} {x2 x2' : Int} (h : RemS s c s' x2 x2') (hz : Z0 s) : Z0 s' := by
  rcases h with ⟨_, rfl, _⟩ | ⟨i, d, q, _, _, _, _, _, rfl | ⟨lv, hl, rfl⟩⟩
  · exact hz
  · exact hz.drop i d
  · exact (hz.back hl).drop i d
theorem RemS.dec {s s' : PS} {c : List Int} {x2 x2' : Int} (h : RemS s c s' x2 x2') (hz : Z0 s) : s'.dec = s.dec ∨ s'.dec = [] := by
  rcases h with ⟨_, rfl, _⟩ | ⟨i, d, q, _, _, _, _, _, rfl | ⟨lv, hl, rfl⟩⟩
  · exact .inl rfl
  · exact .inl (drop_decs s i d)
  · right
    rw [drop_decs]
    unfold PS.dec
    rw [(back0_trail hz hl).2.1]; rfl
theorem RemS.vars {s s' : PS} {c : List Int} {x2 x2' : Int} (h : RemS s c s' x2 x2') : s'.vars = s.vars := by
  rcases h with ⟨_, rfl, _⟩ | ⟨i, d, q, _, _, _, _, _, rfl | ⟨lv, hl, rfl⟩⟩
  · rfl
  · exact (drop_same s i d).2.2
  · rw [(drop_same _ i d).2.2, back_eq]
theorem RemS.len {s s' : PS} {c : List Int} {x2 x2' : Int} (h : RemS s c s' x2 x2') : s'.cls.length = s.cls.length := by
  rcases h with ⟨_, rfl, _⟩ | ⟨i, d, q, _, _, _, _, _, rfl | ⟨lv, hl, rfl⟩⟩
  · rfl
  · rw [drop_cls]; simp
  · rw [drop_cls, back_eq]; simp
theorem liveL_len (l : List Cl) : (liveL l).length ≤ l.length := by
  unfold liveL
  rw [List.length_map]
  exact List.length_filter_le _ _
/-- What a proof leaves, step by step, and where it ends. -/
def provesP : Nat → List (List Int) → List StD → Int → Int × Int
  | _, _, [], i => (i, 4)
  | V, css, x :: r, i => if docE css x.d x.c ≠ 0 then (i, docE css x.d x.c) else if x.d = false ∧ x.c = [] then (i, 0) else provesP (docX V css x.d x.c) (docC css x.d x.c) r (i + 1)
end Go.Proofs.Ytlmbgaconjcaiab

namespace Go.Proofs.Ytlmbgaconjcaiab
open Go.RowKit

/-- A keeper in memory, with its propagator and its maps. -/
structure KM (A1 A2 : Nat → Bool) (ρ : Nat → Rl) (w : World) (k B : Nat) (s : PS) (x1 x2 x4 : Int) (N : Nat) (m1 m2 : Value) : Prop where
  kp : KP ρ w k B s x1 x2 (s.cls.length : Int) x4 m1 m2
  mp : MP A1 A2 ρ w k s N m1 m2
  fre : ∀ b, w.heap.size ≤ b → ρ b = oth

section
variable {k B : Nat} {ρ ρ' ρ'' : Nat → Rl} {A A' A1 A2 A1' A2' : Nat → Bool} {w w' w'' : World} {s t : PS} {x1 x2 x4 : Int} {N M : Nat} {m1 m2 : Value}
theorem MP.roles (h : MP A1 A2 ρ w k s N m1 m2) (ha : ∀ b, b < w.heap.size → ρ' b = ρ b) : MP A1 A2 ρ' w k s N m1 m2 :=
  ⟨h.alk, h.hav, fun b hb => ⟨(ha b (h.d1 b hb).2.2.2).trans (h.d1 b hb).1, (h.d1 b hb).2⟩, fun b hb => ⟨(ha b (h.d2 b hb).2.2).trans (h.d2 b hb).1, (h.d2 b hb).2⟩⟩
theorem KM.of (h : KP ρ w k B s x1 x2 (s.cls.length : Int) x4 m1 m2) (hM : MP A1 A2 ρ w k s N m1 m2) : KM A1 A2 (fr ρ w.heap.size) w k B s x1 x2 x4 N m1 m2 :=
  ⟨h.fr (Below.refl _ _), hM.roles (fun b hb => fr_old hb), fun b hb => fr_new hb⟩
theorem EvM.norm (h : EvM k ρ A1 A2 w ρ' A1' A2' w') : EvM k ρ A1 A2 w (fr ρ' w'.heap.size) A1' A2' w' :=
  ⟨h.os, h.tape, h.output, h.size, fun b hb => (fr_old (Nat.lt_of_lt_of_le hb h.size)).trans (h.agree b hb), h.a1, h.a2, h.keep⟩
theorem EvN.evMA (h : EvN k ρ w ρ' w') (h1 : ∀ b, b < w.heap.size → A1 b = false → A1' b = false) (h2 : ∀ b, b < w.heap.size → A2 b = false → A2' b = false) : EvM k ρ A1 A2 w ρ' A1' A2' w' :=
  ⟨h.os, h.tape, h.output, h.size, h.agree, h1, h2, fun b hb hk hr _ _ => h.keep b hb hk hr⟩
theorem EvM.quiet (h : EvM k ρ A1 A2 w ρ' A1' A2' w') (hb : Below w'.heap.size w' w'') : EvM k ρ A1 A2 w ρ' A1' A2' w'' :=
  ⟨hb.os.trans h.os, hb.tape.trans h.tape, hb.output.trans h.output, Nat.le_trans h.size hb.size, h.agree, h.a1, h.a2, fun b hl hk hr e1 e2 => (hb.block b (Nat.lt_of_lt_of_le hl h.size)).trans (h.keep b hl hk hr e1 e2)⟩
theorem KP.mp_lt (h : KP ρ w k B s x1 x2 (s.cls.length : Int) x4 m1 m2) : k < w.heap.size := lt_of_block h.blk

/-- A row that was handed in, which no call turns. -/
structure Arg (A1 A2 : Nat → Bool) (ρ : Nat → Rl) (w : World) (k : Nat) (a : Option Addr) (c : List Int) : Prop where
  row : RowO ρ w.heap.size w a c
  off : ∀ b o, a = some ⟨b, o, none⟩ → c ≠ [] → b ≠ k ∧ A1 b = false ∧ A2 b = false
theorem Arg.ev {a : Option Addr} {c : List Int} (h : Arg A1 A2 ρ w k a c) (hE : EvM k ρ A1 A2 w ρ' A1' A2' w') : Arg A1' A2' ρ' w' k a c := by
  refine ⟨fun i hi => ?_, fun b o e hne => ?_⟩
  · obtain ⟨b, off, e, hb, hr, _, hc⟩ := h.row i hi
    obtain ⟨h1, h2, h3⟩ := h.off b off e (by rintro rfl; simp at hi)
    exact ⟨b, off, e, Nat.lt_of_lt_of_le hb hE.size, (hE.agree b hb).trans hr, .inl (Nat.lt_of_lt_of_le hb hE.size), (World.cell?_of_block (a := ⟨b, off + i, none⟩) (hE.keep b hb h1 hr h2 h3)).trans hc⟩
  · obtain ⟨h1, h2, h3⟩ := h.off b o e hne
    obtain ⟨b', off, e', hb, _⟩ := h.row 0 (List.length_pos_iff.2 hne)
    rw [e] at e'
    cases e'
    exact ⟨h1, hE.a1 b hb h2, hE.a2 b hb h3⟩
theorem Arg.nf {a : Option Addr} {c : List Int} (h : Arg A1 A2 ρ w k a c) : Row w a c := h.row.row

/-- The map of texts stays where the propagator turns. -/
theorem Alk.step {g : Nat} {F : List UInt8 → List Int} (h : Alk A w g N F) (hd : ∀ b, A b = true → ρ b = oth ∧ b ≠ k) (hE : EvN k ρ w ρ' w') : Alk A w' g N F :=
  h.same (fun b hb => hE.keep b (h.lt b hb) (hd b hb).2 (hd b hb).1) hE.size
theorem MH.step (h : MH A1 A2 ρ w k s N m2) (hE : EvN k ρ w ρ' w') (hq : ∀ f, HavOk (s.cls.map key) f → HavOk (t.cls.map key) f) : MH A1 A2 ρ' w' k t N m2 := by
  refine ⟨?_, fun b hb => ?_, fun b hb => ?_⟩
  · rcases h.hav with q | ⟨g, base, f, q1, q2, q3, q4, q5, q6⟩
    · exact .inl q
    · refine .inr ⟨g, base, f, q1, ?_, Nat.le_trans q3 hE.size, q4, q5, hq f q6⟩
      exact q2.ev (fun b hb => rA_agree hb hE.size) (fun b hb hr => by
        have := h.d2 b (rA_oth hb hr)
        exact hE.keep b hb this.2.1 this.1)
  · obtain ⟨h1, h2, h3, h4⟩ := h.d1 b hb
    exact ⟨(hE.agree b h4).trans h1, h2, h3, Nat.lt_of_lt_of_le h4 hE.size⟩
  · obtain ⟨h1, h2, h4⟩ := h.d2 b hb
    exact ⟨(hE.agree b h4).trans h1, h2, Nat.lt_of_lt_of_le h4 hE.size⟩
theorem MH.mono (h : MH A1 A2 ρ w k s N m2) (hM : N ≤ M) : MH A1 A2 ρ w k s M m2 := by
  refine ⟨?_, h.d1, h.d2⟩
  rcases h.hav with q | ⟨g, base, f, q1, q2, q3⟩
  · exact .inl q
  · exact .inr ⟨g, base, f, q1, q2.mono hM, q3⟩

/-- In the midst of taking a clause out. -/
structure Rm (A1 A2 : Nat → Bool) (ρ : Nat → Rl) (w : World) (k B : Nat) (x1 x4 : Int) (m2 : Value) (g : Nat) (s : PS) (x2 : Int) (N : Nat) (F : List UInt8 → List Int) (A' : Nat → Bool) (ρ' : Nat → Rl) (W : World) : Prop where
  ev : EvM k ρ A1 A2 w ρ' A' A2 W
  kp : KP ρ' W k B s x1 x2 (s.cls.length : Int) x4 (.map (some g)) m2
  alk : Alk A' W g N F
  mh : MH A' A2 ρ' W k s N m2
variable {g : Nat} {F : List UInt8 → List Int} {W W' : World}
theorem Rm.quiet (h : Rm A1 A2 ρ w k B x1 x4 m2 g s x2 N F A' ρ' W) (hb : Below W.heap.size W W') : Rm A1 A2 ρ w k B x1 x4 m2 g s x2 N F A' ρ' W' :=
  ⟨h.ev.quiet hb, h.kp.below hb, h.alk.same (fun b hb' => hb.block b (h.alk.lt b hb')) hb.size, h.mh.step ⟨hb.os, hb.tape, hb.output, hb.size, fun _ _ => rfl, fun b hl _ _ => hb.block b hl⟩ (fun _ h => h)⟩
theorem Rm.step (h : Rm A1 A2 ρ w k B x1 x4 m2 g s x2 N F A' ρ' W) {x2' : Int} (hK : KP ρ'' W' k B t x1 x2' (t.cls.length : Int) x4 (.map (some g)) m2) (hE : EvN k ρ' W ρ'' W') (hq : ∀ f, HavOk (s.cls.map key) f → HavOk (t.cls.map key) f) : Rm A1 A2 ρ w k B x1 x4 m2 g t x2' N F A' ρ'' W' :=
  ⟨h.ev.trans hE.evM, hK, h.alk.step (fun b hb => ⟨(h.mh.d1 b hb).1, (h.mh.d1 b hb).2.1⟩) hE, h.mh.step hE hq⟩
theorem Rm.put (h : Rm A1 A2 ρ w k B x1 x4 m2 g s x2 N F A' ρ' W) {F' : List UInt8 → List Int} (ha : Alk A' W' g (N + 1) F') (hg : W.grownBy W' (some g)) (hfr : ∀ b, W.heap.size ≤ b → ρ' b = oth) : Rm A1 A2 ρ w k B x1 x4 m2 g s x2 (N + 1) F' A' ρ' W' := by
  have hN : NA A' W W' := NA.grown hg (fun b e => by cases e; exact h.alk.ag)
  have hgk := h.mh.d1 g h.alk.ag
  exact ⟨h.ev.trans (hN.evM (fun b hb => .inl hb)), h.kp.grown hg (fun b e => by cases e; exact ⟨hgk.1, hgk.2.1⟩), ha, h.mh.note hfr (lt_of_block h.kp.blk) hN (fun b hb => .inl hb) ha.lt rfl (by omega)⟩
/-- The end of it. -/
theorem Rm.done (h : Rm A1 A2 ρ w k B x1 x4 m2 g s x2 N F A' ρ' W) (hF : F = alkL s.cls 0 (fun _ => [])) : KM A' A2 (fr ρ' W.heap.size) W k B s x1 x2 x4 N (.map (some g)) m2 ∧ EvM k ρ A1 A2 w (fr ρ' W.heap.size) A' A2 W := by
  subst hF
  exact ⟨KM.of h.kp (h.mh.mp h.alk), h.ev.norm⟩
end

theorem key_drop (s : PS) (i : Nat) (d : Cl) : (s.drop i d).cls.map key = (s.cls.map key).set i ([], true) := by
  rw [drop_cls, List.map_set]; rfl
theorem hav_drop {s : PS} {i : Nat} {d : Cl} (h : s.cls[i]? = some d) : ∀ f, HavOk (s.cls.map key) f → HavOk ((s.drop i d).cls.map key) f := by
  intro f hf
  rw [key_drop]
  exact hf.drop (by rw [List.length_map]; exact (List.getElem?_eq_some_iff.1 h).1)
theorem drop_len (s : PS) (i : Nat) (d : Cl) : (s.drop i d).cls.length = s.cls.length := by rw [drop_cls]; simp
theorem RX.some {w : World} {a : Option Addr} {n cap : Nat} {z : Int} {r : List Int} (h : RX w (.slice a n cap) (z :: r)) : ∃ b off c, a = Option.some ⟨b, off, none⟩ ∧ n = r.length + 1 ∧ cap = c + 1 := by
  rcases h with ⟨h, _⟩ | ⟨b, off, c, cs, e, _⟩
  · cases h
  · simp at e
    exact ⟨b, off, c, e.1, e.2.1, e.2.2⟩
end Go.Proofs.Ytlmbgaconjcaiab

namespace Go.Proofs.Ytlmbgaconjcaiab
open Go.RowKit

/-- What remove leaves. -/
def RemG (A1 A2 : Nat → Bool) (ρ : Nat → Rl) (w : World) (k B : Nat) (s : PS) (x1 x2 x4 : Int) (N : Nat) (m2 : Value) (c : List Int) (e : Ending) (w' : World) : Prop :=
  e = .returned (.tuple #[]) ∧ ∃ ρ' A1' s' x2' g, EvM k ρ A1 A2 w ρ' A1' A2 w' ∧ KM A1' A2 ρ' w' k B s' x1 x2' x4 (N + 10001) (.map (some g)) m2 ∧ RemS s c s' x2 x2'

set_option maxHeartbeats 4000000 in
set_option maxRecDepth 100000 in
theorem remove_any {A1 A2 : Nat → Bool} {ρ : Nat → Rl} {w : World} {k B : Nat} {s : PS} {x1 x2 x4 : Int} {N : Nat} {m1 m2 : Value} (h : KM A1 A2 ρ w k B s x1 x2 x4 N m1 m2) (hN : N ≤ 3000000000) (hcl : s.cls.length ≤ 10000) (hz : Z0 s) (a : Option Addr) (cap : Nat) (c : List Int) (har : Arg A1 A2 ρ w k a c) (hl : c.length ≤ 4096) (hcap : a = none → cap = 0) (hc : mayB c 1048576 = true) (hx2 : 0 ≤ x2 ∧ x2 ≤ 262144) :
    Calls Try.prog 24 #[.pointer (some ⟨k, 0, none⟩), .slice a c.length cap] w (RemG A1 A2 ρ w k B s x1 x2 x4 N m2 c) := by
  have HKM := hide h
  have HA := hide har
  have HZ := hide hz
  have hmm := @run_makeMap Try.prog
  have HRES : Hid (∀ W A' ρ' g s' x2' M F, Rm A1 A2 ρ w k B x1 x4 m2 g s' x2' M F A' ρ' W → M ≤ N + 10001 → F = alkL s'.cls 0 (fun _ => []) → RemS s c s' x2 x2' → RemG A1 A2 ρ w k B s x1 x2 x4 N m2 c (.returned (.tuple #[])) W) := by
    intro W A' ρ' g s' x2' M F hR hM hF hS
    obtain ⟨q1, q2⟩ := hR.done hF
    exact ⟨rfl, _, A', s', x2', g, q2, ⟨q1.kp, q1.mp.mono hM, q1.fre⟩, hS⟩
  clear h har hz
  obtain ⟨mo, rfl⟩ : ∃ mo, m1 = .map mo := by
    rcases HKM.out.mp.alk with ⟨rfl, _⟩ | ⟨g, rfl, _⟩
    · exact ⟨_, rfl⟩
    · exact ⟨_, rfl⟩
  have c5 : w.cell? ⟨k, 5, none⟩ = some (.map mo) := cell_of_block HKM.out.kp.blk rfl
  have heq := run_eql_map_nil (P := Try.prog) w 50 _ _ mo Try.underlying50
  go_enter Try.func24, Try.ntmps24
  go_upto_if 10 with fail
  go_cut [] from 11 to 18 (fun wx => ∃ A' ρ' g, Hid (Rm A1 A2 ρ w k B x1 x4 m2 g s x2 (N + 10000) (alkL s.cls 0 (fun _ => [])) A' ρ' wx))
  case first =>
    rcases HKM.out.mp.alk with ⟨e, hA1⟩ | ⟨g, e, hA1⟩ <;> obtain rfl := Value.map.inj e <;> clear e
    · have z5 : w.frozen? ⟨k, 5, none⟩ = false := frz_of_block HKM.out.kp.blk
      have hkl := lt_of_block HKM.out.kp.blk
      have hne : k ≠ w.heap.size := by omega
      have HA1 := hide hA1
      clear hA1
      go_upto_region 2 with fail
      refine forget (P := fun W => Code.wp Try.prog _ _ _ W) (fun W => Hid (KP (fr ρ w.heap.size) W k B s x1 x2 (s.cls.length : Int) x4 (.map (some w.heap.size)) m2) ∧ W.heap[w.heap.size]? = some (.map #[] 0) ∧ Hid (EvN k ρ w (fr ρ w.heap.size) W) ∧ Hid (w.heap.size + 1 = W.heap.size)) ?_ ?_
      · obtain ⟨o1, o2⟩ := setOff w k 5 (.map (some w.heap.size))
        have hb := below_alloc (w.setCell ⟨k, 5, none⟩ (.map (some w.heap.size))) (.map #[] 0)
        have hK1 := (HKM.out.kp.setAlk (.map (some w.heap.size))).fr hb
        have hal : ((w.setCell ⟨k, 5, none⟩ (.map (some w.heap.size))).alloc (.map #[] 0)).heap[(w.setCell ⟨k, 5, none⟩ (.map (some w.heap.size))).heap.size]? = some (.map #[] 0) := (MapKept.heap_alloc _ _).1
        have hE := (((Ev.refl ρ w).evN k).setCell (i := 5) (.map (some w.heap.size))).trans ((Ev.fr (ρ := ρ) hb).evN k)
        rw [o2] at hK1 hal hE
        refine ⟨hK1, hal, hE, ?_⟩
        show _ = _
        simp [o2]
      rintro W1 ⟨HK1, hg1, HE1, HS1⟩
      have hgsz : w.heap.size < W1.heap.size := by have := HS1.out; omega
      have HAL : Hid (Alk (fun b => b == w.heap.size) W1 w.heap.size 0 (fun _ => [])) := alk_empty hg1 (by simp) (fun b hb => by have : b = w.heap.size := (by simpa using hb); omega)
      obtain ⟨H1, hR1⟩ := HK1.out.rep
      have EA := hide (each_x (ρ := fr ρ w.heap.size) (A := fun b => b == w.heap.size) (w := W1) (g := w.heap.size) (k := k) (cell_of_block HK1.out.blk rfl) (cell_of_block HK1.out.blk rfl) (cell_of_block HK1.out.blk rfl) (by simpa using hne) (lt_of_block HK1.out.blk) hR1 HK1.out.inv HK1.out.lits hcl HAL.out (fun b hb => by
        by_cases e : b = w.heap.size
        · subst e; exact absurd (fr_new (Nat.le_refl _)) hb
        · simpa using e))
      have HMH : Hid (MH (fun b => b == w.heap.size) A2 (fr ρ w.heap.size) W1 k s N m2) := by
        have q := HKM.out.mp.mh.step HE1.out (t := s) (fun _ h => h)
        refine ⟨q.hav, fun b hb => ?_, q.d2⟩
        obtain rfl : b = w.heap.size := by simpa using hb
        refine ⟨fr_new (Nat.le_refl _), Ne.symm hne, ?_, hgsz⟩
        cases e : A2 w.heap.size with
        | false => rfl
        | true => have := (HKM.out.mp.d2 _ e).2.2; omega
      have HEM : Hid (EvM k ρ A1 A2 w (fr ρ w.heap.size) (fun b => b == w.heap.size) A2 W1) := HE1.out.evMA (fun b hb _ => by simp; omega) (fun _ _ e => e)
      clear hR1 c5 z5 heq hg1 hmm
      generalize hgg : w.heap.size = g at *
      have HGG := hide hgg
      go_wp2_with (go_at_call 32; refine (unhide EA).mono ?_; rintro e W2 ⟨rfl, hP⟩)
      go_meet
      case rel =>
        obtain ⟨A', q1, q2, q3, q4⟩ := hP
        refine ⟨A', fr ρ g, g, ?_⟩
        have hgs : W1.heap.size = g + 1 := HS1.out.symm
        have hkA : A' k = false := by
          cases e : A' k with
          | false => rfl
          | true =>
            rcases q4 k e with r | r
            · exact absurd (by simpa using r) hne
            · have := lt_of_block HK1.out.blk; omega
        refine ⟨HEM.out.trans (q2.evM q4), ?_, q1.mono (by omega), (HMH.out.note (fun b hb => fr_new (by omega)) (lt_of_block HK1.out.blk) q2 q4 q1.lt rfl (Nat.le_refl _)).mono (by omega)⟩
        obtain ⟨H, hR⟩ := HK1.out.rep
        have off : ∀ b, b < W1.heap.size → fr ρ g b ≠ oth → W2.heap[b]? = W1.heap[b]? := fun b hb hr => q2.keep b hb (by
          by_cases e : b = g
          · subst e; exact absurd (fr_new (Nat.le_refl _)) hr
          · simpa using e)
        exact ⟨⟨H, hR.off off⟩, (q2.keep k (lt_of_block HK1.out.blk) (by simpa using hne)).trans HK1.out.blk, HK1.out.ro, HK1.out.inv, HK1.out.cnt, HK1.out.lits⟩
    · have c5 : w.cell? ⟨k, 5, none⟩ = some (.map (some g)) := cell_of_block HKM.out.kp.blk rfl
      have HR : Hid (Rm A1 A2 ρ w k B x1 x4 m2 g s x2 (N + 10000) (alkL s.cls 0 (fun _ => [])) A1 ρ w) := ⟨EvM.refl _ _ _ _ _, HKM.out.kp, hA1.mono (by omega), HKM.out.mp.mh.mono (by omega)⟩
      clear hA1 hmm
      go_wp2_with fail
      go_meet
      case rel => exact ⟨A1, ρ, g, HR⟩
  case rest =>
  obtain ⟨A', ρ1, g, HR⟩ := hcut
  have GC := hide (common_any a cap c wc (HA.out.ev HR.out.ev).nf hl hcap hc)
  have HTS : Hid ((txt (order c)).size ≤ maxLen) := by
    have hts := txt_size (order c)
    have hol := order_len c
    unfold Hid maxLen; omega
  have HIX : Hid (alkL s.cls 0 (fun _ => []) (txt (order c)).data.toList = idxL s.cls 0 (tx c)) := by
    show _ = _
    rw [alkL_idx]; rfl
  have HAT : Hid (∀ z ∈ idxL s.cls 0 (tx c), ∃ (i : Nat) (d : Cl), s.cls[i]? = some d ∧ d.gone = false ∧ tx d.lits = tx c ∧ z = (i : Int)) := fun z hz => by
    obtain ⟨i, d, h1, h2, h3, h4⟩ := idxL_at (tx c) s.cls 0 z hz
    exact ⟨i, d, h1, h2, h3, by rw [h4, Nat.zero_add]⟩
  have HTX : Hid ((txt (order c)).data.toList = tx c) := rfl
  clear hmm c5 heq HA HKM
  generalize txt (order c) = T at *
  generalize hFF : alkL s.cls 0 (fun _ => []) = F at *
  have HFF := hide hFF
  clear hFF
  go_upto_region 4 with (go_at_call 34; refine (unhide GC).mono ?_; rintro e W3 ⟨rfl, hb3⟩)
  have HR3 := hide (HR.out.quiet hb3)
  clear hb3 GC HR
  obtain ⟨a1, cap1, hlook, hrx, hzl, hro, hlk, hback⟩ := HR3.out.alk.at (by unfold maxLen; omega) T HTS.out
  have k5 : W3.cell? ⟨k, 5, none⟩ = some (.map (some g)) := cell_of_block HR3.out.kp.blk rfl
  cases hzs : F T.data.toList with
  | nil =>
    rw [hzs] at hlook HIX
    have HF := hide (HRES.out W3 A' ρ1 g s x2 (N + 10000) F HR3.out (by omega) HFF.out.symm (.inl ⟨HIX.out.symm, rfl, rfl⟩))
    clear hrx hro hlk hback hzs
    go_wp2
    go_end0
    exact HF.out
  | cons z r =>
    rw [hzs] at hlook hrx hro hzl HIX hback hlk
    obtain ⟨i, d, hd1, hd2, hd3, hzi⟩ := HAT.out z (by rw [← HIX.out]; simp)
    obtain ⟨b, off, cp, rfl, hlen, rfl⟩ := hrx.some
    obtain ⟨hc0, hrl, hcm, hbl, hx0, hx1⟩ := hrx.tail
    obtain ⟨hbA, hbg⟩ := hro b rfl
    have HZF : Hid (F (tx d.lits) = (i : Int) :: r) := by
      show _ = _
      rw [hd3, ← HTX.out, hzs, hzi]
    rw [hlen] at hlook
    have hzb : 0 ≤ z ∧ z ≤ 1048576 := by
      have h1 := (List.getElem?_eq_some_iff.1 hd1).1
      omega
    have hkw : k < W3.heap.size := lt_of_block HR3.out.kp.blk
    have hrlen : r.length ≤ N + 10001 := by simp at hzl; omega
    have PART : Hid (∀ v', RX W3 v' r → (∀ q, blkX v' = some q → q = b) → ∃ W4, (Instr.mapUpdate 50 (.map (some g)) (.string T) v').run Try.prog W3.drew = .ok () W4 ∧ Hid (Rm A1 A2 ρ w k B x1 x4 m2 g s x2 (N + 10001) (updS F (tx d.lits) r) A' (fr ρ1 W3.heap.size) W4) ∧ W4.cell? ⟨b, off, none⟩ = some (.int .i64 z)) := by
      intro v' hv hq
      obtain ⟨W4, q1, q2, q3⟩ := hback A' W3.drew v' r (fun _ _ _ => rfl) (hv.same (fun _ _ => rfl)) hrlen (fun q e => by
        obtain rfl := hq q e
        exact ⟨hbA, hbg, .inl rfl⟩) (fun _ e => e) (fun q e => HR3.out.alk.lt q e)
      have hT : T.data.toList = tx d.lits := by rw [HTX.out, hd3]
      rw [hT] at q2
      have hRf : Rm A1 A2 ρ w k B x1 x4 m2 g s x2 (N + 10000) F A' (fr ρ1 W3.heap.size) W3.drew := by
        have q := HR3.out.quiet (Below.refl _ _).drew
        exact ⟨q.ev.norm, q.kp.fr (Below.refl _ _), q.alk, q.mh.step ⟨rfl, rfl, rfl, Nat.le_refl _, fun b hb => fr_old hb, fun _ _ _ _ => rfl⟩ (fun _ h => h)⟩
      refine ⟨W4, q1, hRf.put q2 q3 (fun q hq => fr_new hq), ?_⟩
      exact (World.cell?_of_block (a := ⟨b, off, none⟩) (q3.block b hbl (by simp; exact hbg))).trans hc0
    clear hback hrx hro hlk
    have hn1 : ((r.length + 1 : Nat) : Int) ≠ 0 := by omega
    have hnz : (((r.length + 1 : Nat) : Int) == 0) = false := by simp; omega
    have hnr := fun (t : PS) (ht : t.trail = []) (hI : Inv t) (hd : t.cls[i]? = some d) => new_rsn hI ht i hd
    have HZS := hide hzs
    have HRB : Hid (s.rsnB i d.lits = true → ∃ lv, s.lvs[0]? = some lv) := by
      intro e
      obtain ⟨x, hx, _⟩ := rsn_trail HR3.out.kp.inv hd1 e
      cases e2 : s.lvs with
      | nil => rw [HZ.out.nil e2] at hx; simp at hx
      | cons v q => exact ⟨v, rfl⟩
    have HLI : Hid (∀ t : PS, (∀ e ∈ t.cls, e.lits.length ≤ 4096) → ∀ e ∈ (t.drop i d).cls, e.lits.length ≤ 4096) := by
      intro t ht e he
      rw [drop_cls] at he
      rcases List.mem_or_eq_of_mem_set he with h | h
      · exact ht e h
      · rw [h]; simp
    have HD1 := hide hd1
    have HRS : Hid (∀ s' x2', (s' = s.drop i d ∨ ∃ lv, s.lvs[0]? = some lv ∧ s' = (s.back 0 lv).drop i d) → x2' = x2 - 1 → RemS s c s' x2 x2') := fun s' x2' h1 h2 => .inr ⟨i, d, r, by rw [← HIX.out, hzi], hd1, hd2, hd3, h2, h1⟩
    have HFD : Hid (∀ t : PS, t.cls = s.cls → updS F (tx d.lits) r = alkL (t.drop i d).cls 0 (fun _ => [])) := by
      intro t ht
      have := alkL_drop (l := s.cls) (i := i) (d := d) (d' := { d with gone := true, lits := [] }) (q := r) hd1 rfl (by rw [HFF.out]; exact HZF.out)
      rw [drop_cls, ht, this, HFF.out]
    -- what Drop leaves
    have HDR : Hid (∀ (ρ4 : Nat → Rl) (W : World) (t : PS), Rm A1 A2 ρ w k B x1 x4 m2 g t x2 (N + 10001) (updS F (tx d.lits) r) A' ρ4 W → t.cls = s.cls → t.rsnB i d.lits = false → ∀ m, Calls Try.prog 35 #[.pointer (some ⟨B, 0, none⟩), .int .i64 z] (W.drewN m) fun e w' => e = .returned (.int .i64 0) ∧ ∃ ρ5, Hid (Rm A1 A2 ρ w k B x1 x4 m2 g (t.drop i d) x2 (N + 10001) (updS F (tx d.lits) r) A' ρ5 w')) := by
      intro ρ4 W t hR ht hrs m
      have hR' := hR.quiet (bquiet (Below.refl _ _) m)
      have hdt : t.cls[i]? = some d := by rw [ht]; exact hd1
      obtain ⟨H, hRp⟩ := hR'.kp.rep
      rw [hzi]
      have hDI := drop_inv hR.kp.inv hR.kp.cnt hdt hd2 (fun x hx hv he => by
        unfold PS.rsnB at hrs
        rw [List.any_eq_false] at hrs
        exact hrs x hx (by simp [hv, he]))
      refine (drop_ok hRp hR'.kp.inv hR'.kp.cnt i d hdt hd2 hrs).mono ?_
      rintro e w' ⟨rfl, ρ5, H5, hR5, hE5⟩
      have hK5 : KP ρ5 w' k B (t.drop i d) x1 x2 ((t.drop i d).cls.length : Int) x4 (.map (some g)) m2 := by
        rw [drop_len]
        exact hR'.kp.ev hR5 hDI.1 hDI.2 (HLI.out t hR.kp.lits) hE5
      exact ⟨rfl, ρ5, hR'.step hK5 (hE5.evN k) (hav_drop hdt)⟩
    have HDB : Hid (∀ (ρ4 : Nat → Rl) (W : World), Rm A1 A2 ρ w k B x1 x4 m2 g s x2 (N + 10001) (updS F (tx d.lits) r) A' ρ4 W → s.rsnB i d.lits = true → ∀ m, Calls Try.prog 35 #[.pointer (some ⟨B, 0, none⟩), .int .i64 z] (W.drewN m) fun e w' => e = .returned (.int .i64 7) ∧ Hid (Rm A1 A2 ρ w k B x1 x4 m2 g s x2 (N + 10001) (updS F (tx d.lits) r) A' ρ4 w') ∧ ∃ n', w' = W.drewN n') := by
      intro ρ4 W hR hrs m
      have hR' := hR.quiet (bquiet (Below.refl _ _) m)
      obtain ⟨H, hRp⟩ := hR'.kp.rep
      rw [hzi]
      refine (drop_bad hRp hR'.kp.inv.shp i d hd1 hd2 (by omega) (fun x hx => hR'.kp.inv.wt.ok i d hd1 x hx) hrs).mono ?_
      rintro e w' ⟨rfl, n, rfl⟩
      exact ⟨rfl, hR'.quiet (bquiet (Below.refl _ _) n), m + n, by rw [World.drewN_drewN]⟩
    have HBK : Hid (∀ (ρ4 : Nat → Rl) (W : World) (lv : Lv), Rm A1 A2 ρ w k B x1 x4 m2 g s x2 (N + 10001) (updS F (tx d.lits) r) A' ρ4 W → W.cell? ⟨b, off, none⟩ = some (.int .i64 z) → s.lvs[0]? = some lv → Calls Try.prog 36 #[.pointer (some ⟨B, 0, none⟩), .int .i64 0] W fun e w' => e = .returned (.tuple #[]) ∧ ∃ ρ5, Hid (Rm A1 A2 ρ w k B x1 x4 m2 g (s.back 0 lv) x2 (N + 10001) (updS F (tx d.lits) r) A' ρ5 w') ∧ w'.cell? ⟨b, off, none⟩ = some (.int .i64 z)) := by
      intro ρ4 W lv hR hcb hlv
      obtain ⟨H, hRp⟩ := hR.kp.rep
      refine (back_yes hRp hR.kp.inv 0 0 rfl lv hlv).mono ?_
      rintro e w' ⟨rfl, ρ5, H5, hR5, hE5⟩
      have hcl5 : (s.back 0 lv).cls = s.cls := by rw [back_eq]
      have hK5 : KP ρ5 w' k B (s.back 0 lv) x1 x2 ((s.back 0 lv).cls.length : Int) x4 (.map (some g)) m2 := by
        rw [hcl5]
        exact hR.kp.ev hR5 (back_inv hR.kp.inv hlv) (hR.kp.cnt.back _ _) (by rw [hcl5]; exact hR.kp.lits) hE5
      obtain ⟨b1, b2, b3, b4⟩ := hR.mh.d1 b hbA
      exact ⟨rfl, ρ5, hR.step hK5 (hE5.evN k) (fun f hf => by rw [hcl5]; exact hf), (World.cell?_of_block (a := ⟨b, off, none⟩) (hE5.keep b b4 b1)).trans hcb⟩
    have HNR : Hid (∀ (lv : Lv) (ρ4 : Nat → Rl) (W : World), s.lvs[0]? = some lv → Rm A1 A2 ρ w k B x1 x4 m2 g (s.back 0 lv) x2 (N + 10001) (updS F (tx d.lits) r) A' ρ4 W → (s.back 0 lv).rsnB i d.lits = false ∧ (s.back 0 lv).cls = s.cls) := fun lv ρ4 W hlv hR => by
      obtain ⟨q1, q2, q3, q4⟩ := back0_trail HZ.out hlv
      exact ⟨hnr _ q1 hR.kp.inv (by rw [q3]; exact hd1), q3⟩
    clear hd1 hd2 hd3 hzi HAT HIX HZF hzs
    generalize hUU : updS F (tx d.lits) r = U at *
    generalize hnn : r.length = n at *
    have hnc : n ≤ cp := hrl
    unfold maxLen at hcm
    go_upto_region 6 with fail
    go_cut [] from 30 to 36 (fun wx => Hid (Rm A1 A2 ρ w k B x1 x4 m2 g s x2 (N + 10001) U A' (fr ρ1 W3.heap.size) wx) ∧ wx.cell? ⟨b, off, none⟩ = some (.int .i64 z))
    case first =>
      by_cases hcc : cp = 0
      · subst hcc
        obtain rfl : n = 0 := by omega
        obtain ⟨W4, hr4, R4, c4⟩ := PART.out (.slice (some ⟨b, off, none⟩) 0 0) (hx0 rfl) (fun q e => by simp [blkX] at e)
        clear PART
        go_region
        all_goals
          go_wp2_with fail
          go_meet
          case rel => exact ⟨R4, c4⟩
      · obtain ⟨W4, hr4, R4, c4⟩ := PART.out (.slice (some ⟨b, off + 1, none⟩) n cp) (hx1 hcc) (fun q e => by
          obtain ⟨c', rfl⟩ : ∃ c', cp = c' + 1 := ⟨cp - 1, by omega⟩
          simp [blkX] at e; exact e.symm)
        clear PART
        go_region
        all_goals
          go_wp2_with fail
          go_meet
          case rel => exact ⟨R4, c4⟩
    case rest =>
    obtain ⟨R4, c4⟩ := hcut
    obtain ⟨W5, rfl⟩ : ∃ W, W = wc := ⟨_, rfl⟩
    have HEND : Hid (∀ (ρ5 : Nat → Rl) (W : World) (t : PS), t.cls = s.cls → Rm A1 A2 ρ w k B x1 x4 m2 g (t.drop i d) x2 (N + 10001) U A' ρ5 W → ((t.drop i d) = s.drop i d ∨ ∃ lv, s.lvs[0]? = some lv ∧ (t.drop i d) = (s.back 0 lv).drop i d) →
        W.cell? ⟨k, 2, none⟩ = some (.int .i64 x2) ∧ W.frozen? ⟨k, 2, none⟩ = false ∧ RemG A1 A2 ρ w k B s x1 x2 x4 N m2 c (.returned (.tuple #[])) (W.setCell ⟨k, 2, none⟩ (.int .i64 (x2 - 1)))) := by
      intro ρ5 W t ht hR hs
      refine ⟨cell_of_block hR.kp.blk rfl, frz_of_block hR.kp.blk, ?_⟩
      have hK6 : KP ρ5 (W.setCell ⟨k, 2, none⟩ (.int .i64 (x2 - 1))) k B (t.drop i d) x1 (x2 - 1) ((t.drop i d).cls.length : Int) x4 (.map (some g)) m2 := hR.kp.set rfl
      have hE6 : EvN k ρ5 W ρ5 (W.setCell ⟨k, 2, none⟩ (.int .i64 (x2 - 1))) := ((Ev.refl ρ5 W).evN k).setCell (i := 2) (.int .i64 (x2 - 1))
      exact HRES.out _ A' ρ5 g _ _ _ U (hR.step hK6 hE6 (fun _ h => h)) (Nat.le_refl _) (HFD.out t ht) (HRS.out _ _ hs rfl)
    have k0 : W5.cell? ⟨k, 0, none⟩ = some (.pointer (some ⟨B, 0, none⟩)) := cell_of_block R4.out.kp.blk rfl
    clear PART hlook k5 hc0 hx0 hx1 HRES HFD HRS HLI
    obtain ⟨hx2a, hx2b⟩ := hx2
    by_cases hrs : s.rsnB i d.lits = true
    · obtain ⟨lv, hlv⟩ := HRB.out hrs
      have HD4 := hide (HDB.out _ W5 R4.out hrs)
      have HB5 := hide (fun (ρ4 : Nat → Rl) (W : World) h1 h2 => HBK.out ρ4 W lv h1 h2 hlv)
      have HD6 : Hid (∀ (ρ4 : Nat → Rl) (W : World), Rm A1 A2 ρ w k B x1 x4 m2 g (s.back 0 lv) x2 (N + 10001) U A' ρ4 W → ∀ m, Calls Try.prog 35 #[.pointer (some ⟨B, 0, none⟩), .int .i64 z] (W.drewN m) fun e w' => e = .returned (.int .i64 0) ∧ ∃ ρ5, Hid (Rm A1 A2 ρ w k B x1 x4 m2 g ((s.back 0 lv).drop i d) x2 (N + 10001) U A' ρ5 w')) := fun ρ4 W h m => HDR.out ρ4 W _ h (HNR.out lv ρ4 W hlv h).2 (HNR.out lv ρ4 W hlv h).1 m
      have HE7 : Hid (∀ (ρ5 : Nat → Rl) (W : World), Rm A1 A2 ρ w k B x1 x4 m2 g ((s.back 0 lv).drop i d) x2 (N + 10001) U A' ρ5 W → W.cell? ⟨k, 2, none⟩ = some (.int .i64 x2) ∧ W.frozen? ⟨k, 2, none⟩ = false ∧ RemG A1 A2 ρ w k B s x1 x2 x4 N m2 c (.returned (.tuple #[])) (W.setCell ⟨k, 2, none⟩ (.int .i64 (x2 - 1)))) := fun ρ5 W h => HEND.out ρ5 W _ (by rw [back_eq]) h (.inr ⟨lv, hlv, rfl⟩)
      clear HDB HDR HBK HNR HEND HRB hlv hrs hnr
      go_upto_region 7 with fail
      go_cut [45] from 37 to 45 (fun y wx => y = .bool true ∧ Hid (Rm A1 A2 ρ w k B x1 x4 m2 g s x2 (N + 10001) U A' (fr ρ1 W3.heap.size) wx) ∧ ∃ n', wx = W5.drewN n')
      case first =>
        go_region_with (first | (go_at_call 35; refine (unhide HD4 _).mono ?_; rintro e w5 ⟨rfl, K5, n5, hn5⟩; replace hn5 := hide hn5))
        all_goals
          go_wp2_with fail
          go_meet
          case rel => exact ⟨rfl, K5, n5, hn5.out⟩
      case rest =>
      obtain ⟨rfl, K5, n5, hn5⟩ := hcut
      have c5 : wc.cell? ⟨b, off, none⟩ = some (.int .i64 z) := by rw [hn5]; exact c4
      have k5 : wc.cell? ⟨k, 0, none⟩ = some (.pointer (some ⟨B, 0, none⟩)) := cell_of_block K5.out.kp.blk rfl
      replace HB5 := hide (HB5.out _ _ K5.out c5)
      clear R4 c4 k0 HD4 hn5
      go_upto_region 9 with (go_at_call 36; refine (unhide HB5).mono ?_; rintro e w6 ⟨rfl, ρ6, K6, c6⟩)
      have HD7 := hide (HD6.out ρ6 w6 K6.out)
      have k6 : w6.cell? ⟨k, 0, none⟩ = some (.pointer (some ⟨B, 0, none⟩)) := cell_of_block K6.out.kp.blk rfl
      clear HB5 HD6 K5 K6 c5 k5
      go_region_with (first | (go_at_call 35; refine (unhide HD7 _).mono ?_; rintro e w7 ⟨rfl, ρ7, K7⟩))
      all_goals
        obtain ⟨c2, z2, HR8⟩ := HE7.out ρ7 w7 K7.out
        replace HR8 := hide HR8
        clear HE7 HD7 K7
        go_wp2
        go_end0
        exact HR8.out
    · have hrs' : s.rsnB i d.lits = false := by simpa using hrs
      have HD4 := hide (HDR.out _ W5 s R4.out rfl hrs')
      have HE7 : Hid (∀ (ρ5 : Nat → Rl) (W : World), Rm A1 A2 ρ w k B x1 x4 m2 g (s.drop i d) x2 (N + 10001) U A' ρ5 W → W.cell? ⟨k, 2, none⟩ = some (.int .i64 x2) ∧ W.frozen? ⟨k, 2, none⟩ = false ∧ RemG A1 A2 ρ w k B s x1 x2 x4 N m2 c (.returned (.tuple #[])) (W.setCell ⟨k, 2, none⟩ (.int .i64 (x2 - 1)))) := fun ρ5 W h => HEND.out ρ5 W s rfl h (.inl rfl)
      clear HDB HDR HBK HNR HEND HRB hrs hnr
      go_upto_region 7 with fail
      go_cut [45] from 37 to 45 (fun y wx => y = .bool false ∧ ∃ ρ5, Hid (Rm A1 A2 ρ w k B x1 x4 m2 g (s.drop i d) x2 (N + 10001) U A' ρ5 wx))
      case first =>
        go_region_with (first | (go_at_call 35; refine (unhide HD4 _).mono ?_; rintro e w5 ⟨rfl, ρ5, K5⟩))
        all_goals
          go_wp2_with fail
          go_meet
          case rel => exact ⟨rfl, ρ5, K5⟩
      case rest =>
      obtain ⟨rfl, ρ5, K5⟩ := hcut
      obtain ⟨c2, z2, HR8⟩ := HE7.out ρ5 wc K5.out
      replace HR8 := hide HR8
      clear R4 c4 k0 HD4 HE7
      go_wp2
      go_end0
      exact HR8.out
end Go.Proofs.Ytlmbgaconjcaiab

namespace Go.Proofs.Ytlmbgaconjcaiab
open Go.RowKit

/-- Roles ahead of a block, and from it on. -/
def sg (g : Nat) : Nat → Rl := fun b => if b < g then tmpR else oth
theorem sg_new {g b : Nat} (h : g ≤ b) : sg g b = oth := if_neg (by omega)
theorem sg_old {g b : Nat} (h : b < g) : sg g b ≠ oth := by
  have : sg g b = tmpR := if_pos h
  rw [this]; exact tmp_ne
theorem rA_sg {g S : Nat} (h : g ≤ S) : rA (newA (fun _ => false) g S) S = sg g := by
  funext b
  by_cases e : b < g
  · have h1 : newA (fun _ => false) g S b = false := by simp [newA]; omega
    have : b < S := by omega
    simp [rA, sg, h1, e, this]
  · by_cases e2 : b < S
    · have h1 : newA (fun _ => false) g S b = true := by simp [newA, e2]; omega
      simp [rA, sg, h1, e]
    · simp [rA, sg, e, e2]
theorem rA_newA {A : Nat → Bool} {S S' : Nat} (h : S ≤ S') : rA (newA A S S') S' = rA A S := by
  funext b
  by_cases e : b < S
  · have h1 : newA A S S' b = A b := by simp [newA]; omega
    have : b < S' := by omega
    simp [rA, h1, e, this]
  · by_cases e2 : b < S'
    · have h1 : newA A S S' b = true := newA_new (by omega) e2
      simp [rA, h1, e]
    · simp [rA, e, e2]

section
variable {k B g base : Nat} {ρ ρ' : Nat → Rl} {A1 A2 : Nat → Bool} {w w' : World} {s : PS} {x1 x2 x4 : Int} {N M : Nat} {m1 m2 m3 : Value} {f : Int → List Int}
/-- The map of literals has turned, and what is new is its. -/
theorem KM.hav (h : KM A1 A2 ρ w k B s x1 x2 x4 N m1 m2) (hN : NA (fun b => A2 b || b == k) w w') (hblk : w'.heap[k]? = some (.cells #[.pointer (some ⟨B, 0, none⟩), .int .i64 x1, .int .i64 x2, .int .i64 (s.cls.length : Int), .int .i64 x4, m1, .map (some g)] 53 (0, 0))) (hG : Gro Try.prog 3 3 (rA A2 w.heap.size) w' g base M (litF f)) (hb : base ≤ w'.heap.size) (hkb : k < base) (hkg : k ≠ g) (hH : HavOk (s.cls.map key) f) (hM : N ≤ M) :
    KM A1 (newA A2 w.heap.size w'.heap.size) ρ w' k B s x1 x2 x4 M m1 (.map (some g)) ∧ EvM k ρ A1 A2 w ρ A1 (newA A2 w.heap.size w'.heap.size) w' := by
  have off : ∀ b, A1 b = true → A2 b = false := fun b hb => (h.mp.d1 b hb).2.2.1
  obtain ⟨H, hR⟩ := h.kp.rep
  refine ⟨⟨⟨⟨H, hR.off (fun b hb hr => hN.keep b hb ?_)⟩, hblk, h.kp.ro, h.kp.inv, h.kp.cnt, h.kp.lits⟩, ⟨?_, ?_, fun b hb => ?_, fun b hb => ?_⟩, fun b hb => h.fre b (Nat.le_trans hN.size hb)⟩, ?_⟩
  · have hbk : b ≠ k := by rintro rfl; exact hr h.kp.ro
    cases e : A2 b with
    | false => simpa using hbk
    | true => exact absurd (h.mp.d2 b e).1 hr
  · rcases h.mp.alk with q | ⟨g', q1, q2⟩
    · exact .inl q
    · exact .inr ⟨g', q1, (q2.same (fun b hb => hN.keep b (q2.lt b hb) (by simp [off b hb, (h.mp.d1 b hb).2.1])) hN.size).mono hM⟩
  · refine .inr ⟨g, base, f, rfl, ?_, hb, hkb, hkg, hH⟩
    rw [rA_newA hN.size]; exact hG
  · obtain ⟨h1, h2, h3, h4⟩ := h.mp.d1 b hb
    refine ⟨h1, h2, ?_, Nat.lt_of_lt_of_le h4 hN.size⟩
    cases e : newA A2 w.heap.size w'.heap.size b with
    | false => rfl
    | true =>
      rcases newA_or e with e | e
      · rw [h3] at e; cases e
      · omega
  · have hk := lt_of_block h.kp.blk
    rcases newA_or hb with e | e
    · obtain ⟨h1, h2, h3⟩ := h.mp.d2 b e
      exact ⟨h1, h2, Nat.lt_of_lt_of_le h3 hN.size⟩
    · exact ⟨h.fre b e.1, by omega, e.2⟩
  · refine ⟨hN.os, hN.tape, hN.output, hN.size, fun _ _ => rfl, fun _ _ e => e, fun b hb e => ?_, fun b hb hbk _ _ e => hN.keep b hb (by simp [e, hbk])⟩
    cases e2 : newA A2 w.heap.size w'.heap.size b with
    | false => rfl
    | true =>
      rcases newA_or e2 with e3 | e3
      · rw [e] at e3; cases e3
      · omega
theorem KM.grown (h : KM A1 A2 ρ w k B s x1 x2 x4 N m1 m2) (hN : N ≤ M) : KM A1 A2 ρ w k B s x1 x2 x4 M m1 m2 := ⟨h.kp, h.mp.mono hN, h.fre⟩
theorem KM.quiet (h : KM A1 A2 ρ w k B s x1 x2 x4 N m1 m2) (hb : Below w.heap.size w w') : KM A1 A2 ρ w' k B s x1 x2 x4 N m1 m2 :=
  ⟨h.kp.below hb, h.mp.evN ⟨hb.os, hb.tape, hb.output, hb.size, fun _ _ => rfl, fun b hl _ _ => hb.block b hl⟩ rfl, fun b hl => h.fre b (Nat.le_trans hb.size hl)⟩
end

/-- What withLiteral tells and leaves. -/
def WithG (A1 A2 : Nat → Bool) (ρ : Nat → Rl) (w : World) (k B : Nat) (s : PS) (x1 x2 x4 : Int) (N : Nat) (m1 : Value) (l : Int) (e : Ending) (w' : World) : Prop :=
  ∃ ρ' A2' g a cap ns, e = .returned (.slice a (List.length ns) cap) ∧ (∀ z, z ∈ ns ↔ z ∈ noteL s.cls 0 (fun _ => []) l) ∧ ns.length ≤ maxLen ∧ RowO ρ' w'.heap.size w' a ns ∧ KM A1 A2' ρ' w' k B s x1 x2 x4 (N + 41000001) m1 (.map (some g)) ∧ EvM k ρ A1 A2 w ρ' A1 A2' w'

set_option maxHeartbeats 4000000 in
set_option maxRecDepth 100000 in
theorem withLiteral_any {A1 A2 : Nat → Bool} {ρ : Nat → Rl} {w : World} {k B : Nat} {s : PS} {x1 x2 x4 : Int} {N : Nat} {m1 m2 : Value} (h : KM A1 A2 ρ w k B s x1 x2 x4 N m1 m2) (hN : N ≤ 3000000000) (hcl : s.cls.length ≤ 10000) (l : Int) (h0 : -1048576 ≤ l) (h1 : l ≤ 1048576) :
    Calls Try.prog 40 #[.pointer (some ⟨k, 0, none⟩), .int .i64 l] w (WithG A1 A2 ρ w k B s x1 x2 x4 N m1 l) := by
  have HKM := hide h
  have hmm := @run_makeMap Try.prog
  clear h
  obtain ⟨mo, rfl⟩ : ∃ mo, m2 = .map mo := by
    rcases HKM.out.mp.hav with ⟨rfl, _⟩ | ⟨g, _, _, rfl, _⟩
    · exact ⟨_, rfl⟩
    · exact ⟨_, rfl⟩
  have c6 : w.cell? ⟨k, 6, none⟩ = some (.map mo) := cell_of_block HKM.out.kp.blk rfl
  have heq := run_eql_map_nil (P := Try.prog) w 51 _ _ mo Try.underlying51
  go_enter Try.func40, Try.ntmps40
  go_upto_if 9 with fail
  go_cut [] from 10 to 17 (fun wx => ∃ A2' ρ' g, Hid (KM A1 A2' ρ' wx k B s x1 x2 x4 (N + 41000000) m1 (.map (some g))) ∧ Hid (EvM k ρ A1 A2 w ρ' A1 A2' wx))
  case first =>
    rcases HKM.out.mp.hav with ⟨e, hA2⟩ | ⟨g, base, f, e, hG, hbs, hkb, hkg, hH⟩ <;> obtain rfl := Value.map.inj e <;> clear e
    · have z6 : w.frozen? ⟨k, 6, none⟩ = false := frz_of_block HKM.out.kp.blk
      have hkl := lt_of_block HKM.out.kp.blk
      have hne : k ≠ w.heap.size := by omega
      have HA2 := hide hA2
      clear hA2
      go_upto_region 3 with fail
      refine forget (P := fun W => Code.wp Try.prog _ _ _ W) (fun W => Hid (KP ρ W k B s x1 x2 (s.cls.length : Int) x4 m1 (.map (some w.heap.size))) ∧ W.heap[w.heap.size]? = some (.map #[] 0) ∧ Hid (EvN k ρ w ρ W) ∧ Hid (w.heap.size + 1 = W.heap.size) ∧ Hid (∀ b, b < w.heap.size → ρ b ≠ oth → W.heap[b]? = w.heap[b]?)) ?_ ?_
      · obtain ⟨o1, o2⟩ := setOff w k 6 (.map (some w.heap.size))
        have hb := below_alloc (w.setCell ⟨k, 6, none⟩ (.map (some w.heap.size))) (.map #[] 0)
        have hK1 := (HKM.out.kp.setMap (.map (some w.heap.size))).below hb
        have hal : ((w.setCell ⟨k, 6, none⟩ (.map (some w.heap.size))).alloc (.map #[] 0)).heap[(w.setCell ⟨k, 6, none⟩ (.map (some w.heap.size))).heap.size]? = some (.map #[] 0) := (MapKept.heap_alloc _ _).1
        have hE := (((Ev.refl ρ w).evN k).setCell (i := 6) (.map (some w.heap.size))).trans ((Ev.below (ρ := ρ) hb).evN k)
        rw [o2] at hal
        refine ⟨hK1, hal, hE, ?_, fun b hb' hr => (hb.block b (by rw [o2]; exact hb')).trans (o1 b (by rintro rfl; exact hr HKM.out.kp.ro))⟩
        show _ = _
        simp [o2]
      rintro W1 ⟨HK1, hg1, HE1, HS1, HRO⟩
      have HGR : Hid (Gro Try.prog 3 3 (sg w.heap.size) W1 w.heap.size (w.heap.size + 1) 0 (fun _ => [])) := gro_empty hg1 (sg_new (Nat.le_refl _)) (Nat.lt_succ_self _)
      obtain ⟨H1, hR1⟩ := HK1.out.rep
      have EA := hide (each_two (ρ := ρ) (σ := sg w.heap.size) (w := W1) (g := w.heap.size) (base := w.heap.size + 1) (k := k) (cell_of_block HK1.out.blk rfl) (cell_of_block HK1.out.blk rfl) (cell_of_block HK1.out.blk rfl) (by omega) hne (lt_of_block HK1.out.blk) hR1 HK1.out.inv HK1.out.lits hcl HGR.out (fun b hb => sg_new (by have := HS1.out; omega)) (fun b hb hr => sg_old (by
        rcases Nat.lt_or_ge b w.heap.size with e | e
        · exact e
        · exact absurd (HKM.out.fre b e) hr)) (by have := HS1.out; omega))
      clear hR1 c6 z6 heq hg1 hmm
      generalize hgg : w.heap.size = g at *
      have HGG := hide hgg
      clear hgg
      go_wp2_with (go_at_call 32; refine (unhide EA).mono ?_; rintro e W2 ⟨rfl, hG2, hN2⟩)
      go_meet
      case rel =>
        have hgs : W1.heap.size = g + 1 := HS1.out.symm
        have hs2 := hN2.size
        have hNA : NA (fun b => A2 b || b == k) w W2 := by
          refine ⟨hN2.os.trans HE1.out.os, hN2.tape.trans HE1.out.tape, hN2.output.trans HE1.out.output, Nat.le_trans HE1.out.size hN2.size, fun b hb hA => ?_⟩
          have hbk : b ≠ k := by
            rintro rfl
            simp at hA
          rw [HGG.out] at hb
          refine (hN2.keep b (by omega) (.inl (sg_old hb))).trans ?_
          by_cases hr : ρ b = oth
          · exact HE1.out.keep b (by rw [HGG.out]; exact hb) hbk hr
          · exact HRO.out b hb hr
        have hblk := (hN2.keep k (lt_of_block HK1.out.blk) (.inl (sg_old hkl))).trans HK1.out.blk
        have hA20 : A2 = fun _ => false := funext HA2.out
        have hr := rA_sg (g := g) (S := g) (Nat.le_refl _)
        have hG3 : Gro Try.prog 3 3 (rA A2 w.heap.size) W2 g (g + 1) (4096 * s.cls.length) (litF (noteL s.cls 0 (fun _ => []))) := by
          have e : rA A2 w.heap.size = sg g := by
            rw [HGG.out, hA20, ← hr]
            congr 1
            funext b
            simp [newA]
          rw [e]; exact hG2
        obtain ⟨q1, q2⟩ := HKM.out.hav (M := N + 41000000) hNA hblk (hG3.mono (by omega)) (by omega) (by omega) hne (HavOk.new s) (by omega)
        exact ⟨_, ρ, g, q1, q2⟩
    · have HR := hide HKM.out.mp
      clear hG hH hmm
      go_wp2_with fail
      go_meet
      case rel => exact ⟨A2, ρ, g, HKM.out.grown (by omega), EvM.refl _ _ _ _ _⟩
  case rest =>
  obtain ⟨A2', ρ1, g, HK, HE⟩ := hcut
  clear hmm c6 heq HKM
  obtain ⟨W, rfl⟩ : ∃ W, W = wc := ⟨_, rfl⟩
  have c6 : W.cell? ⟨k, 6, none⟩ = some (.map (some g)) := cell_of_block HK.out.kp.blk rfl
  obtain ⟨base, F, hG, hbs, hkb, hkg, hH⟩ : ∃ base f, Gro Try.prog 3 3 (rA A2' W.heap.size) W g base (N + 41000000) (litF f) ∧ base ≤ W.heap.size ∧ k < base ∧ k ≠ g ∧ HavOk (s.cls.map key) f := by
    rcases HK.out.mp.hav with ⟨e, _⟩ | ⟨g', base, f, e, q⟩
    · cases e
    · cases e; exact ⟨base, f, q⟩
  have hGd : Gro Try.prog 3 3 (rA A2' W.heap.size) W.drew g base (N + 41000000) (litF F) := hG.ev (fun _ _ => rfl) (fun _ _ _ => rfl)
  obtain ⟨a1, cap1, hlook, hoi, hlen, hro, hback⟩ := gro_at3 hGd (by unfold maxLen; omega) (fun b hb => rA_new hb) l h0 h1
  have hkd := HK.out.quiet (Below.refl W.heap.size W).drew
  have hrow : ∀ b, Value.ownBlock (.slice a1 (F l).length cap1) = some b → A2' b = true ∧ b < W.heap.size := fun b e => by
    have hlt : b < W.heap.size := (hoi.1.lt b e).2
    exact ⟨rA_oth hlt (hro b e), hlt⟩
  have D66 := del66g hkd.kp (by omega) a1 cap1 (F l) hoi (hH.num l) (by omega) (fun b e => by
    obtain ⟨q1, q2⟩ := hrow b e
    obtain ⟨r1, r2, r3⟩ := HK.out.mp.d2 b q1
    exact ⟨r1, r2⟩)
  have hA2g : A2' g = true := rA_oth (by exact hG.lt.1) hG.ro
  have hkA2 : A2' k = false := by
    cases e : A2' k with
    | false => rfl
    | true => exact absurd rfl (HK.out.mp.d2 k e).2.1
  have D67 : Hid (Calls Try.prog 61 #[.slice a1 (F l).length cap1, .func (.func 62) #[.pointer (some ⟨k, 0, none⟩)] #[]] W.drew fun e w' => ∃ Z, e = .returned (.slice a1 Z cap1) ∧ w'.cell? ⟨k, 6, none⟩ = some (.map (some g)) ∧ ∃ w4, (Instr.mapUpdate 51 (.map (some g)) (.int .i64 l) (.slice a1 Z cap1)).run Try.prog w' = .ok () w4 ∧ ∃ A3, Hid (KM A1 A3 ρ1 w4 k B s x1 x2 x4 (N + 41000001) m1 (.map (some g))) ∧ Hid (EvM k ρ A1 A2 w ρ1 A1 A3 w4) ∧ Hid (∃ base f, Gro Try.prog 3 3 (rA A3 w4.heap.size) w4 g base (N + 41000001) (litF f) ∧ ∀ z, z ∈ f l ↔ z ∈ noteL s.cls 0 (fun _ => []) l)) := by
    refine D66.mono ?_
    rintro e w3 ⟨rfl, hg3, hoi3⟩
    obtain ⟨w4, q1, q2, q3⟩ := hback w3 _ ((F l).filter (thB s)) hg3 hoi3 (by have := List.length_filter_le (thB s) (F l); omega) (.inl (by cases a1 <;> rfl))
    have hN34 : NA (fun b => A2' b || b == k) W w3 := NA.grown (w := W) ⟨hg3.os, hg3.tape, hg3.output, hg3.size, hg3.block⟩ (fun b e => by simp [(hrow b e).1])
    have hN : NA (fun b => A2' b || b == k) W w4 := hN34.trans (NA.grown q3 (fun b e => by cases e; simp [hA2g])) (fun _ _ h => h)
    have hk3 : w3.heap[k]? = W.heap[k]? := hg3.block k (lt_of_block HK.out.kp.blk) (fun e => by
      have := (hrow k e.symm).1
      rw [hkA2] at this; cases this)
    have hk4 : w4.heap[k]? = W.heap[k]? := (q3.block k (Nat.lt_of_lt_of_le (lt_of_block HK.out.kp.blk) hN34.size) (by simp; exact hkg)).trans hk3
    obtain ⟨r1, r2⟩ := HK.out.hav hN (hk4.trans HK.out.kp.blk) q2 (Nat.le_trans hbs hN.size) hkb hkg (hH.keep l) (by omega)
    refine ⟨_, rfl, (World.cell?_of_block (a := ⟨k, 6, none⟩) hk3).trans c6, w4, q1, _, r1, HE.out.trans r2, base, _, by rw [rA_newA hN.size]; exact q2, fun z => ?_⟩
    rw [updI_same]
    exact hH.mem l z
  clear D66 hback hrow hro hoi hkd hGd hG hH hA2g hkA2
  generalize (F l).length = Z1 at *
  go_upto_region 4 with fail
  go_cut [] from 18 to 31 (fun wx => ∃ A3, Hid (KM A1 A3 ρ1 wx k B s x1 x2 x4 (N + 41000001) m1 (.map (some g))) ∧ Hid (EvM k ρ A1 A2 w ρ1 A1 A3 wx) ∧ Hid (∃ base f, Gro Try.prog 3 3 (rA A3 wx.heap.size) wx g base (N + 41000001) (litF f) ∧ ∀ z, z ∈ f l ↔ z ∈ noteL s.cls 0 (fun _ => []) l))
  case first =>
    go_region_law (go_simp; go_at_call 61; refine (unhide D67).mono ?_; rintro e w3 ⟨Z, rfl, k63, w4, hr4, A3, K4, E4, G4⟩)
    all_goals
      go_wp2_with fail
      go_meet
      case rel => exact ⟨A3, K4, E4, G4⟩
  case rest =>
  obtain ⟨A3, K4, E4, G4⟩ := hcut
  obtain ⟨base4, f4, hG4, hmem⟩ := G4.out
  obtain ⟨a5, cap5, hlook5, hoi5, hlen5, hro5, _⟩ := gro_at3 hG4 (by unfold maxLen; omega) (fun b hb => rA_new hb) l h0 h1
  have k6 : wc.cell? ⟨k, 6, none⟩ = some (.map (some g)) := cell_of_block K4.out.kp.blk rfl
  have HM := hide hmem
  have hlt5 : ∀ b, Value.ownBlock (.slice a5 (f4 l).length cap5) = some b → b < wc.heap.size := fun b e => (hoi5.1.lt b e).2
  have HRW : Hid (RowO ρ1 wc.heap.size wc a5 (f4 l)) := row_O (ints_row hoi5) (fun b o e hx => by
    subst e
    exact (K4.out.mp.d2 b (rA_oth (hlt5 b rfl) (hro5 b rfl))).1)
  clear hG4 hmem hoi5 hro5 G4 D67 hlook c6 HK HE hlt5
  generalize f4 l = ns at *
  go_wp2
  go_ret
  exact ⟨ρ1, A3, g, a5, cap5, ns, rfl, HM.out, by unfold maxLen; omega, HRW.out, K4.out, E4.out⟩
end Go.Proofs.Ytlmbgaconjcaiab
