/- What the document's fourth layer says of texts of proofs: words, steps, what is read, or where it is wrong; plain functions on lists, no program is named here. -/
import Derived.Test.YtgklollpajhmlaaDoorPlain
import Derived.Test.YtgklollpajhmlaaDoorPlainN
set_option linter.unusedVariables false
set_option linter.unusedSimpArgs false
namespace Go.Proofs.YtgklollpajhmlaaDoor

/-- A step: whether its clause goes, and its literals. -/
abbrev Stp := Bool × List Int

/-- What was read so far: steps, and what there is of the one behind them. -/
structure Rs where
  steps : List Stp
  del : Bool
  cl : List Int

def Rs.zero : Rs := ⟨[], false, []⟩

/-- A step has begun. -/
def Rs.openB (s : Rs) : Bool := s.del || decide (0 < s.cl.length)

/-- A byte that parts words. -/
def blankB (c : UInt8) : Bool := c == 32 || c == 9 || c == 10 || c == 13

/-- A word is a literal or 0. -/
def cnB (v : List UInt8) : Bool := numB v && (decide (numV v = 0) || litB (numV v) 1048576)
def cnV (v : List UInt8) : Int := if cnB v then numV v else 0

/-- A word is the sign that a clause goes. -/
def delB (s : Rs) (v : List UInt8) : Bool := decide (v = [100]) && !s.openB

/-- What is wrong with a word, or 0. -/
def wordE (s : Rs) (v : List UInt8) : Int :=
  if v = [] then 0 else if cnB v = false ∧ delB s v = false then 2 else if cnV v ≠ 0 ∧ s.cl.length = 4096 then 3 else if s.openB = false ∧ s.steps.length = 262144 then 3 else 0

/-- What was read behind a word. -/
def wordS (s : Rs) (v : List UInt8) : Rs :=
  if v = [] then s else if delB s v = true then ⟨s.steps, true, s.cl⟩ else if cnV v ≠ 0 then ⟨s.steps, s.del, s.cl ++ [cnV v]⟩ else ⟨s.steps ++ [(s.del, s.cl)], false, []⟩

/-- An answer: what is wrong, where, and the proof. -/
abbrev Ans := Int × Nat × List Stp

/-- What is told at a text's end. -/
def endP (s : Rs) (n : Nat) : Ans := if s.openB = true then (2, n, []) else (0, 0, s.steps)

/-- A text's rest is read: 'at' is where the word begins whose bytes so far are 'cur'. -/
def readP (s : Rs) (p : Nat) (cur : List UInt8) : List UInt8 → Ans
  | [] => if wordE s cur = 0 then endP (wordS s cur) (p + cur.length) else (wordE s cur, p, [])
  | c :: r => if blankB c = true then (if wordE s cur = 0 then readP (wordS s cur) (p + cur.length + 1) [] r else (wordE s cur, p, [])) else readP s p (cur ++ [c]) r

/-- A text's words, with their places. -/
def wordsP (p : Nat) (cur : List UInt8) : List UInt8 → List (Nat × List UInt8)
  | [] => if cur = [] then [] else [(p, cur)]
  | c :: r => if blankB c = true then (if cur = [] then [] else [(p, cur)]) ++ wordsP (p + cur.length + 1) [] r else wordsP p (cur ++ [c]) r

/-- Words are read. -/
def runW (s : Rs) (n : Nat) : List (Nat × List UInt8) → Ans
  | [] => endP s n
  | x :: r => if wordE s x.2 = 0 then runW (wordS s x.2) n r else (wordE s x.2, x.1, [])

theorem wordE_nil (s : Rs) : wordE s [] = 0 := rfl
theorem wordS_nil (s : Rs) : wordS s [] = s := rfl

theorem read_run : ∀ (rest : List UInt8) (s : Rs) (p : Nat) (cur : List UInt8), readP s p cur rest = runW s (p + cur.length + rest.length) (wordsP p cur rest)
  | [], s, p, cur => by
    unfold readP wordsP
    by_cases h : cur = []
    · subst h; simp [wordE_nil, wordS_nil, runW]
    · rw [if_neg h]; simp [runW]
  | c :: r, s, p, cur => by
    unfold readP wordsP
    by_cases hb : blankB c = true
    · rw [if_pos hb, if_pos hb]
      have ih := read_run r (wordS s cur) (p + cur.length + 1) []
      have e : p + cur.length + 1 + ([] : List UInt8).length + r.length = p + cur.length + (c :: r).length := by simp; omega
      rw [e] at ih
      by_cases h : cur = []
      · subst h
        rw [wordS_nil] at ih
        rw [if_pos (wordE_nil s), if_pos rfl, wordS_nil, List.nil_append, ih]
      · rw [if_neg h, List.singleton_append]
        unfold runW
        rw [ih]
    · rw [if_neg hb, if_neg hb]
      have ih := read_run r s p (cur ++ [c])
      have e : p + (cur ++ [c]).length + r.length = p + cur.length + (c :: r).length := by simp; omega
      rw [e] at ih
      exact ih

theorem numB_d : numB [100] = false := by decide
theorem numB_nil : numB [] = false := by decide

theorem delB_word {s : Rs} {v : List UInt8} (h : delB s v = true) : v = [100] ∧ s.openB = false := by
  unfold delB at h; simp at h; exact h
theorem cnB_d : cnB [100] = false := by unfold cnB; rw [numB_d]; rfl
theorem cnV_no {v : List UInt8} (h : cnB v = false) : cnV v = 0 := by unfold cnV; simp [h]
theorem delB_cn {s : Rs} {v : List UInt8} (h : delB s v = true) : cnB v = false := by
  obtain ⟨rfl, _⟩ := delB_word h; exact cnB_d
theorem cnV_lit {v : List UInt8} (h : cnV v ≠ 0) : cnB v = true ∧ numV v = cnV v ∧ -1048576 ≤ cnV v ∧ cnV v ≤ 1048576 := by
  cases e : cnB v with
  | false => exact absurd (cnV_no e) h
  | true =>
    have hv : cnV v = numV v := by unfold cnV; simp [e]
    refine ⟨rfl, hv.symm, ?_⟩
    unfold cnB at e
    rw [Bool.and_eq_true, Bool.or_eq_true] at e
    rcases e.2 with g | g
    · exact absurd (hv.trans (of_decide_eq_true g)) h
    · have := litB_true.1 g
      rw [hv]; exact this.2

theorem openB_no {s : Rs} (h : s.openB = false) : s.del = false ∧ s.cl = [] := by
  unfold Rs.openB at h
  simp at h
  exact ⟨h.1, h.2⟩
theorem openB_eta {s : Rs} (h : s.openB = false) : s = ⟨s.steps, false, []⟩ := by
  obtain ⟨h1, h2⟩ := openB_no h
  cases s; simp at h1 h2; subst h1 h2; rfl

/-- Numbers of steps and literals: one word more. -/
theorem wordS_len (s : Rs) (v : List UInt8) : (wordS s v).steps.length + (wordS s v).cl.length ≤ s.steps.length + s.cl.length + 1 := by
  unfold wordS
  split
  · omega
  · split
    · simp only []; omega
    · split
      · simp; omega
      · simp
theorem wordS_steps (s : Rs) (v : List UInt8) : (wordS s v).steps.length ≤ s.steps.length + 1 := by
  unfold wordS
  split
  · omega
  · split
    · simp only []; omega
    · split <;> simp

/-- What is read behind other steps. -/
def Rs.behind (l : List Stp) (s : Rs) : Rs := ⟨l ++ s.steps, s.del, s.cl⟩
def ansBehind (l : List Stp) (d : Nat) (a : Ans) : Ans := if a.1 = 0 then (0, 0, l ++ a.2.2) else (a.1, d + a.2.1, [])

theorem behind_open (l : List Stp) (s : Rs) : (s.behind l).openB = s.openB := rfl
theorem behind_del (l : List Stp) (s : Rs) (v : List UInt8) : delB (s.behind l) v = delB s v := rfl
theorem behind_wordS (l : List Stp) (s : Rs) (v : List UInt8) : wordS (s.behind l) v = (wordS s v).behind l := by
  unfold wordS
  rw [behind_del]
  unfold Rs.behind
  split
  · rfl
  · split
    · rfl
    · split
      · rfl
      · simp
theorem behind_wordE (l : List Stp) (s : Rs) (v : List UInt8) (h : l.length + s.steps.length < 262144) : wordE (s.behind l) v = wordE s v := by
  unfold wordE
  rw [behind_del, behind_open]
  have h1 : ¬ (s.openB = false ∧ (s.behind l).steps.length = 262144) := fun k => by
    have := k.2; unfold Rs.behind at this; simp at this; omega
  have h2 : ¬ (s.openB = false ∧ s.steps.length = 262144) := fun k => by have := k.2; omega
  rw [if_neg h1, if_neg h2]
  rfl
theorem behind_end (l : List Stp) (s : Rs) (n d : Nat) : endP (s.behind l) (d + n) = ansBehind l d (endP s n) := by
  unfold endP
  rw [behind_open]
  cases s.openB <;> simp [ansBehind, Rs.behind]

theorem read_behind (l : List Stp) (d : Nat) : ∀ (rest : List UInt8) (s : Rs) (p : Nat) (cur : List UInt8), l.length + s.steps.length + rest.length < 262144 → readP (s.behind l) (d + p) cur rest = ansBehind l d (readP s p cur rest)
  | [], s, p, cur, h => by
    unfold readP
    rw [behind_wordE l s cur (by simp at h; omega)]
    by_cases hw : wordE s cur = 0
    · rw [if_pos hw, if_pos hw, behind_wordS, Nat.add_assoc, behind_end]
    · rw [if_neg hw, if_neg hw]; simp [ansBehind, hw]
  | c :: r, s, p, cur, h => by
    simp only [List.length_cons] at h
    unfold readP
    rw [behind_wordE l s cur (by omega)]
    by_cases hb : blankB c = true
    · rw [if_pos hb, if_pos hb]
      by_cases hw : wordE s cur = 0
      · rw [if_pos hw, if_pos hw, behind_wordS, show d + p + cur.length + 1 = d + (p + cur.length + 1) by omega]
        exact read_behind l d r _ _ _ (by have := wordS_steps s cur; omega)
      · rw [if_neg hw, if_neg hw]; simp [ansBehind, hw]
    · rw [if_neg hb, if_neg hb]
      exact read_behind l d r _ _ _ (by omega)

theorem readP_nil (s : Rs) (p : Nat) (cur : List UInt8) : readP s p cur [] = if wordE s cur = 0 then endP (wordS s cur) (p + cur.length) else (wordE s cur, p, []) := by rw [readP]
theorem readP_cons (s : Rs) (p : Nat) (cur : List UInt8) (c : UInt8) (r : List UInt8) : readP s p cur (c :: r) = if blankB c = true then (if wordE s cur = 0 then readP (wordS s cur) (p + cur.length + 1) [] r else (wordE s cur, p, [])) else readP s p (cur ++ [c]) r := by rw [readP]

theorem read_join (b : List UInt8) : ∀ (a : List UInt8) (s : Rs) (p : Nat) (cur : List UInt8), (readP s p cur a).1 = 0 → readP s p cur (a ++ 10 :: b) = readP ⟨(readP s p cur a).2.2, false, []⟩ (p + cur.length + a.length + 1) [] b
  | [], s, p, cur, h => by
    rw [readP_nil] at h ⊢
    by_cases hw : wordE s cur = 0
    · rw [if_pos hw] at h ⊢
      cases ho : (wordS s cur).openB with
      | true => unfold endP at h; rw [ho] at h; simp at h
      | false =>
        have e : endP (wordS s cur) (p + cur.length) = (0, 0, (wordS s cur).steps) := by unfold endP; rw [ho]; simp
        rw [e, List.nil_append, readP_cons, if_pos (by decide), if_pos hw]
        conv => lhs; rw [openB_eta ho]
        rfl
    · rw [if_neg hw] at h; exact absurd h hw
  | c :: a, s, p, cur, h => by
    rw [readP_cons] at h ⊢
    rw [List.cons_append, readP_cons]
    by_cases hb : blankB c = true
    · rw [if_pos hb] at h ⊢
      rw [if_pos hb]
      by_cases hw : wordE s cur = 0
      · rw [if_pos hw] at h ⊢
        rw [if_pos hw, read_join b a _ _ _ h]
        congr 1
        simp; omega
      · rw [if_neg hw] at h; exact absurd h hw
    · rw [if_neg hb] at h ⊢
      rw [if_neg hb, read_join b a _ _ _ h]
      congr 1
      simp; omega

end Go.Proofs.YtgklollpajhmlaaDoor
