/- The text of a proof, and that it is read as that proof; plain functions on lists, no program is named here. -/
import Derived.Test.YtgklollpajhmlaaDoorPlainT
set_option linter.unusedVariables false
set_option linter.unusedSimpArgs false
namespace Go.Proofs.YtgklollpajhmlaaDoor

/-- A clause's words, each with a blank; its line. -/
def litsT (c : List Int) : List UInt8 := c.flatMap (fun l => digI l ++ [32])
def clauseT (c : List Int) : List UInt8 := litsT c ++ [48, 10]
/-- The sign that a clause goes. -/
def delT (d : Bool) : List UInt8 := if d then [100, 32] else []
def stepT (s : Stp) : List UInt8 := delT s.1 ++ clauseT s.2
def printT (l : List Stp) : List UInt8 := l.flatMap stepT

/-- Which lists are proofs. -/
def mayL (l : List Stp) : Bool := decide (l.length ≤ 262144) && l.all (fun s => mayB s.2 1048576)

theorem litsT_snoc {c : List Int} {k : Nat} (h : k < c.length) : litsT (c.take (k + 1)) = litsT (c.take k) ++ (digI c[k] ++ [32]) := by
  unfold litsT
  rw [List.take_succ_eq_append_getElem h, List.flatMap_append]
  simp
theorem printT_snoc {l : List Stp} {k : Nat} (h : k < l.length) : printT (l.take (k + 1)) = printT (l.take k) ++ stepT l[k] := by
  unfold printT
  rw [List.take_succ_eq_append_getElem h, List.flatMap_append]
  simp

theorem dig_blank {c : UInt8} (h : digB c = true) : blankB c = false := by
  unfold digB at h
  have h' := of_decide_eq_true h
  unfold blankB
  have e : ∀ k : UInt8, k.toNat < 48 → (c == k) = false := by
    intro k hk
    rw [beq_eq_false_iff_ne]
    intro e
    subst e
    omega
  rw [e 32 (by decide), e 9 (by decide), e 10 (by decide), e 13 (by decide)]
  rfl

theorem digI_blank (n : Int) : (digI n).all (fun c => !blankB c) = true := by
  have h := (digN_props n.natAbs).1
  have h2 : (digN n.natAbs).all (fun c => !blankB c) = true := by
    rw [List.all_eq_true] at h ⊢
    intro c hc
    rw [dig_blank (h c hc)]; rfl
  unfold digI
  split
  · rw [List.all_cons, h2]; rfl
  · exact h2

theorem read_word : ∀ (v : List UInt8) (s : Rs) (p : Nat) (cur : List UInt8) (c : UInt8) (r : List UInt8), v.all (fun c => !blankB c) = true → blankB c = true → wordE s (cur ++ v) = 0 →
    readP s p cur (v ++ c :: r) = readP (wordS s (cur ++ v)) (p + (cur ++ v).length + 1) [] r
  | [], s, p, cur, c, r, _, hb, he => by
    simp only [List.append_nil] at he
    rw [List.nil_append, readP_cons, if_pos hb, if_pos he, List.append_nil]
  | x :: v, s, p, cur, c, r, hv, hb, he => by
    rw [List.all_cons, Bool.and_eq_true] at hv
    have hx : ¬ blankB x = true := by simpa using hv.1
    have e : cur ++ x :: v = (cur ++ [x]) ++ v := by simp
    rw [e] at he ⊢
    rw [List.cons_append, readP_cons, if_neg hx]
    exact read_word v s p (cur ++ [x]) c r hv.2 hb he

theorem digI_ne (n : Int) : digI n ≠ [] := by
  have h := (digN_props n.natAbs).2.2.1
  unfold digI
  split
  · simp
  · intro e; rw [e] at h; simp at h

theorem digI_cn {n : Int} (h : n = 0 ∨ litB n 1048576 = true) : cnB (digI n) = true ∧ cnV (digI n) = n := by
  have hb : -9999999999 ≤ n ∧ n ≤ 9999999999 := by
    rcases h with rfl | h
    · omega
    · have := litB_true.1 h; omega
  obtain ⟨h1, h2⟩ := digI_num hb.1 hb.2
  have hc : cnB (digI n) = true := by
    unfold cnB
    rw [h1, h2]
    rcases h with rfl | h
    · rfl
    · rw [h]; simp
  refine ⟨hc, ?_⟩
  unfold cnV
  rw [hc]
  exact h2

theorem del_no {s : Rs} {v : List UInt8} (h : cnB v = true) : delB s v = false := by
  unfold delB
  by_cases e : v = [100]
  · subst e; rw [cnB_d] at h; cases h
  · simp [e]

theorem word_lit {s : Rs} {n : Int} (h : litB n 1048576 = true) (h1 : s.cl.length < 4096) (h2 : s.steps.length < 262144) : wordE s (digI n) = 0 ∧ wordS s (digI n) = ⟨s.steps, s.del, s.cl ++ [n]⟩ := by
  obtain ⟨c1, c2⟩ := digI_cn (.inr h)
  have hn := (litB_true.1 h).1
  constructor
  · unfold wordE
    rw [if_neg (digI_ne n), if_neg (by rintro ⟨e, _⟩; rw [c1] at e; cases e), if_neg (by rintro ⟨_, e⟩; omega), if_neg (by rintro ⟨_, e⟩; omega)]
  · unfold wordS
    rw [if_neg (digI_ne n), del_no c1, if_neg (by simp), c2, if_pos hn]

theorem digI_zero : digI 0 = [48] := by decide

theorem word_zero {s : Rs} (h2 : s.steps.length < 262144) : wordE s [48] = 0 ∧ wordS s [48] = ⟨s.steps ++ [(s.del, s.cl)], false, []⟩ := by
  obtain ⟨c1, c2⟩ := digI_cn (n := 0) (.inl rfl)
  rw [digI_zero] at c1 c2
  constructor
  · unfold wordE
    rw [if_neg (by simp), if_neg (by rintro ⟨e, _⟩; rw [c1] at e; cases e), if_neg (by rintro ⟨e, _⟩; exact e c2), if_neg (by rintro ⟨_, e⟩; omega)]
  · unfold wordS
    rw [if_neg (by simp), del_no c1, if_neg (by simp), if_neg (by rw [c2]; simp)]

theorem word_d {l : List Stp} (h2 : l.length < 262144) : wordE ⟨l, false, []⟩ [100] = 0 ∧ wordS ⟨l, false, []⟩ [100] = ⟨l, true, []⟩ := by
  have hd : delB ⟨l, false, []⟩ [100] = true := by simp [delB, Rs.openB]
  have hc := cnV_no cnB_d
  constructor
  · unfold wordE
    rw [if_neg (by simp), if_neg (by rintro ⟨_, e⟩; rw [hd] at e; cases e), if_neg (by rintro ⟨e, _⟩; exact e hc), if_neg (by rintro ⟨_, e⟩; simp only at e; omega)]
  · unfold wordS
    rw [if_neg (by simp), if_pos hd]

theorem read_lits (l : List Stp) (d : Bool) (r : List UInt8) (hl : l.length < 262144) : ∀ (c done : List Int) (p : Nat), (∀ x ∈ c, litB x 1048576 = true) → done.length + c.length ≤ 4096 →
    ∃ q, readP ⟨l, d, done⟩ p [] (litsT c ++ r) = readP ⟨l, d, done ++ c⟩ q [] r
  | [], done, p, _, _ => ⟨p, by simp [litsT]⟩
  | x :: c, done, p, hc, hn => by
    simp only [List.length_cons] at hn
    obtain ⟨h1, h2⟩ := word_lit (s := ⟨l, d, done⟩) (hc x (by simp)) (by show done.length < 4096; omega) hl
    have e : litsT (x :: c) ++ r = digI x ++ 32 :: (litsT c ++ r) := by simp [litsT]
    rw [e, read_word (digI x) _ p [] 32 _ (digI_blank x) (by decide) (by simpa using h1)]
    rw [List.nil_append, h2]
    obtain ⟨q, hq⟩ := read_lits l d r hl c (done ++ [x]) (p + (digI x).length + 1) (fun y hy => hc y (by simp [hy])) (by simp; omega)
    exact ⟨q, by rw [hq]; simp⟩

theorem read_clause (l : List Stp) (d : Bool) (r : List UInt8) (hl : l.length < 262144) (c : List Int) (p : Nat) (hc : mayB c 1048576 = true) : ∃ q, readP ⟨l, d, []⟩ p [] (clauseT c ++ r) = readP ⟨l ++ [(d, c)], false, []⟩ q [] r := by
  have e : clauseT c ++ r = litsT c ++ ([48] ++ 10 :: r) := by simp [clauseT]
  rw [e]
  obtain ⟨q, hq⟩ := read_lits l d ([48] ++ 10 :: r) hl c [] p (fun x hx => mayB_lit hc x hx) (by have := mayB_len hc; simp; exact this)
  rw [hq, List.nil_append]
  obtain ⟨h1, h2⟩ := word_zero (s := ⟨l, d, c⟩) hl
  rw [read_word [48] _ q [] 10 r (by decide) (by decide) (by simpa using h1), List.nil_append, h2]
  exact ⟨_, rfl⟩

theorem read_step (l : List Stp) (r : List UInt8) (hl : l.length < 262144) (s : Stp) (p : Nat) (hc : mayB s.2 1048576 = true) : ∃ q, readP ⟨l, false, []⟩ p [] (stepT s ++ r) = readP ⟨l ++ [s], false, []⟩ q [] r := by
  obtain ⟨d, c⟩ := s
  cases d with
  | false =>
    have e : stepT (false, c) ++ r = clauseT c ++ r := by simp [stepT, delT]
    rw [e]
    exact read_clause l false r hl c p hc
  | true =>
    have e : stepT (true, c) ++ r = [100] ++ 32 :: (clauseT c ++ r) := by simp [stepT, delT]
    rw [e]
    obtain ⟨h1, h2⟩ := word_d (l := l) hl
    rw [read_word [100] _ p [] 32 _ (by decide) (by decide) (by simpa using h1), List.nil_append, h2]
    exact read_clause l true r hl c _ hc

theorem read_steps : ∀ (m l : List Stp) (p : Nat), (∀ s ∈ m, mayB s.2 1048576 = true) → l.length + m.length ≤ 262144 → readP ⟨l, false, []⟩ p [] (printT m) = (0, 0, l ++ m)
  | [], l, p, _, _ => by
    simp [printT, readP_nil, wordE_nil, wordS_nil, endP, Rs.openB]
  | s :: m, l, p, hm, hl => by
    simp only [List.length_cons] at hl
    have e : printT (s :: m) = stepT s ++ printT m := by simp [printT]
    rw [e]
    obtain ⟨q, hq⟩ := read_step l (printT m) (by omega) s p (hm s (by simp))
    rw [hq, read_steps m (l ++ [s]) q (fun x hx => hm x (by simp [hx])) (by simp; omega)]
    simp

theorem mayL_parts {l : List Stp} (h : mayL l = true) : l.length ≤ 262144 ∧ ∀ s ∈ l, mayB s.2 1048576 = true := by
  unfold mayL at h
  rw [Bool.and_eq_true, List.all_eq_true] at h
  exact ⟨of_decide_eq_true h.1, h.2⟩

/-- What is printed is read. -/
theorem print_read {l : List Stp} (h : mayL l = true) : readP Rs.zero 0 [] (printT l) = (0, 0, l) := by
  obtain ⟨h1, h2⟩ := mayL_parts h
  have := read_steps l [] 0 h2 (by simpa using h1)
  rw [List.nil_append] at this
  exact this

end Go.Proofs.YtgklollpajhmlaaDoor
