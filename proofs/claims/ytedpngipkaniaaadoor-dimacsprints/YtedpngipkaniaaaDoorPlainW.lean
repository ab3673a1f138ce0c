/- Plain mathematics: a line's words, a text's lines, and what is read of them. -/
import Derived.Test.YtedpngipkaniaaaDoorPlainN
set_option linter.unusedVariables false
set_option linter.unusedSimpArgs false
namespace Go.Proofs.YtedpngipkaniaaaDoor

/-- A byte that parts words. -/
def blB (c : UInt8) : Bool := c == 32 || c == 9

/-- A line, and its words. -/
def Wds : List UInt8 → List (List UInt8) → Prop
  | l, [] => l.all blB = true
  | l, v :: ws => ∃ pre post, l = pre ++ (v ++ post) ∧ pre.all blB = true ∧ v ≠ [] ∧ v.all (fun c => !blB c) = true ∧ (post = [] ∨ ∃ c r, post = c :: r ∧ blB c = true) ∧ Wds post ws

theorem Wds.done {l : List UInt8} (h : l.all blB = true) : Wds l [] := h
theorem Wds.word {pre v post : List UInt8} {ws : List (List UInt8)} (h1 : pre.all blB = true) (h2 : v ≠ []) (h3 : v.all (fun c => !blB c) = true) (h4 : post = [] ∨ ∃ c r, post = c :: r ∧ blB c = true) (h5 : Wds post ws) : Wds (pre ++ (v ++ post)) (v :: ws) :=
  ⟨pre, post, rfl, h1, h2, h3, h4, h5⟩
theorem Wds.none {l : List UInt8} (h : Wds l []) : l.all blB = true := h
theorem Wds.some {l v : List UInt8} {ws : List (List UInt8)} (h : Wds l (v :: ws)) : ∃ pre post, l = pre ++ (v ++ post) ∧ pre.all blB = true ∧ v ≠ [] ∧ v.all (fun c => !blB c) = true ∧ (post = [] ∨ ∃ c r, post = c :: r ∧ blB c = true) ∧ Wds post ws := h

/-- What was read so far. -/
structure St where
  headed : Bool
  vars : Int
  count : Int
  cls : List (List Int)
  cl : List Int

/-- What there may be. -/
structure St.Ok (s : St) : Prop where
  vars0 : 0 ≤ s.vars
  vars1 : s.vars ≤ 1048576
  count0 : 0 ≤ s.count
  count1 : s.count ≤ 262144
  cls : (s.cls.length : Int) ≤ s.count
  cl : s.cl.length ≤ 4096

/-- A word behind the head. -/
def WordR (s : St) (v : List UInt8) (f : St) : Prop :=
  (numB v = true ∧ numV v ≠ 0 ∧ -s.vars ≤ numV v ∧ numV v ≤ s.vars ∧ s.cl.length < 4096 ∧ (s.cls.length : Int) < s.count ∧ f = { s with cl := s.cl ++ [numV v] }) ∨
  (numB v = true ∧ numV v = 0 ∧ (s.cls.length : Int) < s.count ∧ f = { s with cls := s.cls ++ [s.cl], cl := [] })

theorem WordR.lit {s : St} {v : List UInt8} (h1 : numB v = true) (h2 : numV v ≠ 0) (h3 : -s.vars ≤ numV v) (h4 : numV v ≤ s.vars) (h5 : s.cl.length < 4096) (h6 : (s.cls.length : Int) < s.count) : WordR s v { s with cl := s.cl ++ [numV v] } := .inl ⟨h1, h2, h3, h4, h5, h6, rfl⟩
theorem WordR.zero {s : St} {v : List UInt8} (h1 : numB v = true) (h2 : numV v = 0) (h3 : (s.cls.length : Int) < s.count) : WordR s v { s with cls := s.cls ++ [s.cl], cl := [] } := .inr ⟨h1, h2, h3, rfl⟩

def WordsR : St → List (List UInt8) → St → Prop
  | s, [], f => s = f
  | s, v :: vs, f => ∃ s', WordR s v s' ∧ WordsR s' vs f

theorem WordsR.nil {s : St} : WordsR s [] s := rfl
theorem WordsR.cons {s s' s'' : St} {v : List UInt8} {vs : List (List UInt8)} (h1 : WordR s v s') (h2 : WordsR s' vs s'') : WordsR s (v :: vs) s'' := ⟨s', h1, h2⟩

/-- A line's words. -/
def LineR (s : St) (ws : List (List UInt8)) (f : St) : Prop :=
  (ws = [] ∧ s = f) ∨ (∃ us, ws = [99] :: us ∧ s = f) ∨
  (∃ v k, ws = [[112], [99, 110, 102], v, k] ∧ s.headed = false ∧ numB v = true ∧ 0 ≤ numV v ∧ numV v ≤ 1048576 ∧ numB k = true ∧ 0 ≤ numV k ∧ numV k ≤ 262144 ∧ f = { s with headed := true, vars := numV v, count := numV k }) ∨
  (∃ v us, ws = v :: us ∧ s.headed = true ∧ v ≠ [99] ∧ WordsR s (v :: us) f)

theorem LineR.none {s : St} : LineR s [] s := .inl ⟨rfl, rfl⟩
theorem LineR.c {s : St} {ws : List (List UInt8)} : LineR s ([99] :: ws) s := .inr (.inl ⟨ws, rfl, rfl⟩)
theorem LineR.head {s : St} {v k : List UInt8} (h1 : s.headed = false) (h2 : numB v = true) (h3 : 0 ≤ numV v) (h4 : numV v ≤ 1048576) (h5 : numB k = true) (h6 : 0 ≤ numV k) (h7 : numV k ≤ 262144) : LineR s [[112], [99, 110, 102], v, k] { s with headed := true, vars := numV v, count := numV k } :=
  .inr (.inr (.inl ⟨v, k, rfl, h1, h2, h3, h4, h5, h6, h7, rfl⟩))
theorem LineR.words {s s' : St} {v : List UInt8} {ws : List (List UInt8)} (h1 : s.headed = true) (h2 : v ≠ [99]) (h3 : WordsR s (v :: ws) s') : LineR s (v :: ws) s' := .inr (.inr (.inr ⟨v, ws, rfl, h1, h2, h3⟩))

/-- A line without the carriage return at its end. -/
def cutCR (l : List UInt8) : List UInt8 := if l.getLast? = some 13 then l.dropLast else l

/-- Lines, and what stands behind the last line feed. -/
def LinesR : St → List (List UInt8) → List UInt8 → St → Prop
  | s, [], last, f => (last = [] ∧ s = f) ∨ (last ≠ [] ∧ (∀ c ∈ last, c ≠ 10) ∧ ∃ ws, Wds last ws ∧ LineR s ws f)
  | s, l :: ls, last, f => (∀ c ∈ l, c ≠ 10) ∧ ∃ ws s', Wds (cutCR l) ws ∧ LineR s ws s' ∧ LinesR s' ls last f

/-- A text's lines. -/
def TextR (s : St) (t : List UInt8) (f : St) : Prop := ∃ ls last, t = ls.flatMap (fun l => l ++ [10]) ++ last ∧ LinesR s ls last f

theorem TextR.nil {s : St} : TextR s [] s := ⟨[], [], rfl, .inl ⟨rfl, rfl⟩⟩
theorem TextR.line {s s' s'' : St} {l rest : List UInt8} {ws : List (List UInt8)} (h1 : ∀ c ∈ l, c ≠ 10) (h2 : Wds (cutCR l) ws) (h3 : LineR s ws s') (h4 : TextR s' rest s'') : TextR s (l ++ 10 :: rest) s'' := by
  obtain ⟨ls, last, e, h⟩ := h4
  exact ⟨l :: ls, last, by rw [e]; simp, h1, ws, s', h2, h3, h⟩
theorem TextR.last {s s' : St} {l : List UInt8} {ws : List (List UInt8)} (h1 : l ≠ []) (h2 : ∀ c ∈ l, c ≠ 10) (h3 : Wds l ws) (h4 : LineR s ws s') : TextR s l s' := ⟨[], l, rfl, .inr ⟨h1, h2, ws, h3, h4⟩⟩

theorem WordR.ok {s s' : St} {v : List UInt8} (h : WordR s v s') (hs : s.Ok) : s'.Ok ∧ s'.headed = s.headed := by
  rcases h with ⟨a, b, c, d, e, f, rfl⟩ | ⟨a, b, c, rfl⟩
  · exact ⟨⟨hs.vars0, hs.vars1, hs.count0, hs.count1, hs.cls, by simp; omega⟩, rfl⟩
  · exact ⟨⟨hs.vars0, hs.vars1, hs.count0, hs.count1, by simp; omega, by simp⟩, rfl⟩

theorem WordsR.ok : ∀ {vs : List (List UInt8)} {s s' : St}, WordsR s vs s' → s.Ok → s'.Ok ∧ s'.headed = s.headed := by
  intro vs
  induction vs with
  | nil =>
    intro s s' h hs
    have e : s = s' := h
    subst e
    exact ⟨hs, rfl⟩
  | cons v vs ih =>
    intro s s' h hs
    obtain ⟨s1, a, b⟩ := h
    obtain ⟨h1, h2⟩ := a.ok hs
    obtain ⟨h3, h4⟩ := ih b h1
    exact ⟨h3, h4.trans h2⟩

/-- The state at the beginning. -/
def St.zero : St := ⟨false, 0, 0, [], []⟩
theorem St.zero_ok : St.zero.Ok := ⟨by decide, by decide, by decide, by decide, by decide, by decide⟩

/-- A state ahead of the head. -/
def St.Fresh (s : St) : Prop := s.headed = false → s = St.zero

theorem LineR.ok {s s' : St} {ws : List (List UInt8)} (h : LineR s ws s') (hs : s.Ok) (hf : s.Fresh) : s'.Ok ∧ s'.Fresh := by
  rcases h with ⟨_, rfl⟩ | ⟨us, _, rfl⟩ | ⟨v, k, _, a, b, c, d, e, f, g, rfl⟩ | ⟨v, us, rfl, a, b, c⟩
  · exact ⟨hs, hf⟩
  · exact ⟨hs, hf⟩
  · have := hf a
    subst this
    exact ⟨⟨c, d, f, g, by simpa [St.zero] using f, by simp [St.zero]⟩, fun h => by cases h⟩
  · obtain ⟨h1, h2⟩ := c.ok hs
    exact ⟨h1, fun h => by rw [h2, a] at h; cases h⟩

theorem indexed {l : List UInt8} {rest : List UInt8} (h : ∀ c ∈ l, c ≠ 10) : (l ++ 10 :: rest).findIdx? (· == 10) = some l.length := by
  induction l with
  | nil => rfl
  | cons c l ih =>
    have h1 := h c (by simp)
    simp only [List.cons_append, List.findIdx?_cons]
    rw [if_neg (by simpa using h1), ih (fun c hc => h c (by simp [hc]))]
    rfl

end Go.Proofs.YtedpngipkaniaaaDoor
