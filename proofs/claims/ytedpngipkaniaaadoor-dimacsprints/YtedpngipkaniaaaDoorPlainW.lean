/- Plain mathematics: a line's words, a text's lines, and what is read of them. -/
import Derived.Test.YtedpngipkaniaaaDoorPlainN
set_option linter.unusedVariables false
set_option linter.unusedSimpArgs false
namespace Go.Proofs.YtedpngipkaniaaaDoor

/-- A byte that parts words. -/
def blB (c : UInt8) : Bool := c == 32 || c == 9

/-- A line, and its words. -/
inductive Wds : List UInt8 → List (List UInt8) → Prop
  | done {l : List UInt8} : l.all blB = true → Wds l []
  | word {pre v post : List UInt8} {ws : List (List UInt8)} : pre.all blB = true → v ≠ [] → v.all (fun c => !blB c) = true → (post = [] ∨ ∃ c r, post = c :: r ∧ blB c = true) → Wds post ws → Wds (pre ++ (v ++ post)) (v :: ws)

/-- What was read so far. -/
structure St where
  headed : Bool
  vars : Int
  count : Int
  cls : List (List Int)
  cl : List Int

/-- What there may be. -/
structure St.Ok (s : St) : Prop where
  vars0 : 0 ≤ s.vars
  vars1 : s.vars ≤ 1048576
  count0 : 0 ≤ s.count
  count1 : s.count ≤ 262144
  cls : (s.cls.length : Int) ≤ s.count
  cl : s.cl.length ≤ 4096

/-- A word behind the head. -/
inductive WordR : St → List UInt8 → St → Prop
  | lit {s : St} {v : List UInt8} : numB v = true → numV v ≠ 0 → -s.vars ≤ numV v → numV v ≤ s.vars → s.cl.length < 4096 → (s.cls.length : Int) < s.count → WordR s v { s with cl := s.cl ++ [numV v] }
  | zero {s : St} {v : List UInt8} : numB v = true → numV v = 0 → (s.cls.length : Int) < s.count → WordR s v { s with cls := s.cls ++ [s.cl], cl := [] }

inductive WordsR : St → List (List UInt8) → St → Prop
  | nil {s : St} : WordsR s [] s
  | cons {s s' s'' : St} {v : List UInt8} {vs : List (List UInt8)} : WordR s v s' → WordsR s' vs s'' → WordsR s (v :: vs) s''

/-- A line's words. -/
inductive LineR : St → List (List UInt8) → St → Prop
  | none {s : St} : LineR s [] s
  | c {s : St} {ws : List (List UInt8)} : LineR s ([99] :: ws) s
  | head {s : St} {v k : List UInt8} : s.headed = false → numB v = true → 0 ≤ numV v → numV v ≤ 1048576 → numB k = true → 0 ≤ numV k → numV k ≤ 262144 → LineR s [[112], [99, 110, 102], v, k] { s with headed := true, vars := numV v, count := numV k }
  | words {s s' : St} {v : List UInt8} {ws : List (List UInt8)} : s.headed = true → v ≠ [99] → WordsR s (v :: ws) s' → LineR s (v :: ws) s'

/-- A line without the carriage return at its end. -/
def cutCR (l : List UInt8) : List UInt8 := if l.getLast? = some 13 then l.dropLast else l

/-- A text's lines. -/
inductive TextR : St → List UInt8 → St → Prop
  | nil {s : St} : TextR s [] s
  | line {s s' s'' : St} {l rest : List UInt8} {ws : List (List UInt8)} : (∀ c ∈ l, c ≠ 10) → Wds (cutCR l) ws → LineR s ws s' → TextR s' rest s'' → TextR s (l ++ 10 :: rest) s''
  | last {s s' : St} {l : List UInt8} {ws : List (List UInt8)} : l ≠ [] → (∀ c ∈ l, c ≠ 10) → Wds l ws → LineR s ws s' → TextR s l s'

theorem WordR.ok {s s' : St} {v : List UInt8} (h : WordR s v s') (hs : s.Ok) : s'.Ok ∧ s'.headed = s.headed := by
  cases h with
  | lit a b c d e f => exact ⟨⟨hs.vars0, hs.vars1, hs.count0, hs.count1, hs.cls, by simp; omega⟩, rfl⟩
  | zero a b c => exact ⟨⟨hs.vars0, hs.vars1, hs.count0, hs.count1, by simp; omega, by simp⟩, rfl⟩

theorem WordsR.ok {s s' : St} {vs : List (List UInt8)} (h : WordsR s vs s') (hs : s.Ok) : s'.Ok ∧ s'.headed = s.headed := by
  induction h with
  | nil => exact ⟨hs, rfl⟩
  | cons a _ ih =>
    obtain ⟨h1, h2⟩ := a.ok hs
    obtain ⟨h3, h4⟩ := ih h1
    exact ⟨h3, h4.trans h2⟩

/-- The state at the beginning. -/
def St.zero : St := ⟨false, 0, 0, [], []⟩
theorem St.zero_ok : St.zero.Ok := ⟨by decide, by decide, by decide, by decide, by decide, by decide⟩

/-- A state ahead of the head. -/
def St.Fresh (s : St) : Prop := s.headed = false → s = St.zero

theorem LineR.ok {s s' : St} {ws : List (List UInt8)} (h : LineR s ws s') (hs : s.Ok) (hf : s.Fresh) : s'.Ok ∧ s'.Fresh := by
  cases h with
  | none => exact ⟨hs, hf⟩
  | c => exact ⟨hs, hf⟩
  | head a b c d e f g =>
    have := hf a
    subst this
    exact ⟨⟨c, d, f, g, by simpa [St.zero] using f, by simp [St.zero]⟩, fun h => by cases h⟩
  | words a b c =>
    obtain ⟨h1, h2⟩ := c.ok hs
    exact ⟨h1, fun h => by rw [h2, a] at h; cases h⟩

theorem indexed {l : List UInt8} {rest : List UInt8} (h : ∀ c ∈ l, c ≠ 10) : (l ++ 10 :: rest).findIdx? (· == 10) = some l.length := by
  induction l with
  | nil => rfl
  | cons c l ih =>
    have h1 := h c (by simp)
    simp only [List.cons_append, List.findIdx?_cons]
    rw [if_neg (by simpa using h1), ih (fun c hc => h c (by simp [hc]))]
    rfl

end Go.Proofs.YtedpngipkaniaaaDoor
