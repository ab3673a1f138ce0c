/- Plain mathematics: a formula's words, and its text, however it is parted into lines. -/
import Derived.Test.YtedpngipkaniaaaDoorPlainW
import Derived.Test.YtedpngipkaniaaaDoorPlain
set_option linter.unusedVariables false
set_option linter.unusedSimpArgs false
namespace Go.Proofs.YtedpngipkaniaaaDoor

/-- A formula's numbers: each clause's literals, and 0. -/
def nums (css : List (List Int)) : List Int := css.flatMap (fun c => c ++ [0])

theorem nums_nil : nums [] = [] := rfl
theorem nums_cons (c : List Int) (css : List (List Int)) : nums (c :: css) = c ++ (0 :: nums css) := by simp [nums]
theorem nums_snoc (css : List (List Int)) (c : List Int) : nums (css ++ [c]) = nums css ++ (c ++ [0]) := by simp [nums]

/-- A literal of a formula with so many variables. -/
def LitOk (n l : Int) : Prop := l ≠ 0 ∧ -n ≤ l ∧ l ≤ n

theorem words_clause {n m : Int} (hn : n ≤ 1048576) : ∀ (c : List Int) (cls : List (List Int)) (cl : List Int), (∀ l ∈ c, LitOk n l) → cl.length + c.length ≤ 4096 → (cls.length : Int) < m →
    ∀ (ws : List (List UInt8)) (f : St), WordsR ⟨true, n, m, cls, cl ++ c⟩ ws f → WordsR ⟨true, n, m, cls, cl⟩ (c.map digI ++ ws) f := by
  intro c
  induction c with
  | nil => intro cls cl _ _ _ ws f h; simpa using h
  | cons l c ih =>
    intro cls cl hl hlen hm ws f h
    obtain ⟨h1, h2, h3⟩ := hl l (by simp)
    obtain ⟨g1, g2⟩ := digI_num (n := l) (by omega) (by omega)
    have hw : WordR ⟨true, n, m, cls, cl⟩ (digI l) ⟨true, n, m, cls, cl ++ [l]⟩ := by
      have := WordR.lit (s := ⟨true, n, m, cls, cl⟩) (v := digI l) g1 (by rw [g2]; exact h1) (by rw [g2]; exact h2) (by rw [g2]; exact h3) (by simp at hlen; show cl.length < 4096; omega) hm
      rw [g2] at this
      exact this
    refine .cons hw (ih cls (cl ++ [l]) (fun x hx => hl x (by simp [hx])) (by simp at hlen ⊢; omega) hm ws f ?_)
    simpa using h

theorem words_all {n m : Int} (hn0 : 0 ≤ n) (hn : n ≤ 1048576) : ∀ (css cls : List (List Int)), (∀ c ∈ css, c.length ≤ 4096 ∧ ∀ l ∈ c, LitOk n l) → (cls.length : Int) + css.length ≤ m →
    WordsR ⟨true, n, m, cls, []⟩ ((nums css).map digI) ⟨true, n, m, cls ++ css, []⟩ := by
  intro css
  induction css with
  | nil => intro cls _ _; simp [nums]; exact .nil
  | cons c css ih =>
    intro cls hc hm
    rw [nums_cons, List.map_append, List.map_cons]
    obtain ⟨h1, h2⟩ := hc c (by simp)
    refine words_clause hn c cls [] h2 (by simpa using h1) (by simp at hm; omega) _ _ ?_
    obtain ⟨g1, g2⟩ := digI_num (n := 0) (by omega) (by omega)
    refine .cons (WordR.zero (s := ⟨true, n, m, cls, [] ++ c⟩) g1 g2 (by simp at hm; show (cls.length : Int) < m; omega)) ?_
    have := ih (cls ++ [c]) (fun x hx => hc x (by simp [hx])) (by simp at hm ⊢; omega)
    simpa using this

/-- What may stand between two words. -/
def gapOf : Nat → List UInt8
  | 0 => [32]
  | 1 => [10]
  | 2 => [32, 9, 32]
  | 3 => [13, 10]
  | 4 => [10, 99, 32, 49, 32, 48, 10]
  | _ => [10, 10]
def gapAt (xs : List UInt8) (k : Nat) : List UInt8 := match xs[k]? with
  | some c => gapOf (c.toNat % 6)
  | none => [32]

/-- The words of numbers, with what stands between. -/
def bodyI (xs : List UInt8) : Nat → List Int → List UInt8
  | _, [] => []
  | k, n :: ns => digI n ++ (gapAt xs k ++ bodyI xs (k + 1) ns)

theorem bodyI_snoc (xs : List UInt8) (n : Int) : ∀ (ns : List Int) (k : Nat), bodyI xs k (ns ++ [n]) = bodyI xs k ns ++ (digI n ++ gapAt xs (k + ns.length)) := by
  intro ns
  induction ns with
  | nil => intro k; simp [bodyI]
  | cons m ns ih =>
    intro k
    simp only [List.cons_append, bodyI, ih, List.length_cons, List.append_assoc]
    rw [show k + 1 + ns.length = k + (ns.length + 1) by omega]

theorem gapAt_len (xs : List UInt8) (k : Nat) : (gapAt xs k).length ≤ 7 := by
  unfold gapAt
  split
  · unfold gapOf; split <;> simp
  · simp

theorem bodyI_len (xs : List UInt8) : ∀ (ns : List Int) (k : Nat), (∀ n ∈ ns, (digI n).length ≤ 20) → (bodyI xs k ns).length ≤ 27 * ns.length := by
  intro ns
  induction ns with
  | nil => intro k _; simp [bodyI]
  | cons m ns ih =>
    intro k h
    have h1 := h m (by simp)
    have h2 := ih (k + 1) (fun n hn => h n (by simp [hn]))
    have h3 := gapAt_len xs k
    simp only [bodyI, List.length_append, List.length_cons]
    omega

/-- The bytes of a number's word. -/
theorem digI_bytes (n : Int) : ∀ c ∈ digI n, c = 45 ∨ digB c = true := by
  have := (digN_props n.natAbs).1
  rw [List.all_eq_true] at this
  intro c hc
  unfold digI at hc
  split at hc
  · simp only [List.mem_cons] at hc
    rcases hc with rfl | hc
    · exact .inl rfl
    · exact .inr (this c hc)
  · exact .inr (this c hc)

theorem digI_ne (n : Int) : digI n ≠ [] := by
  have := (digN_props n.natAbs).2.2.1
  unfold digI
  split
  · simp
  · intro e; rw [e] at this; simp at this

theorem dig_not {c : UInt8} (h : c = 45 ∨ digB c = true) : blB c = false ∧ c ≠ 10 ∧ c ≠ 13 ∧ c ≠ 99 := by
  rcases h with rfl | h
  · decide
  · unfold digB at h
    simp at h
    refine ⟨?_, ?_, ?_, ?_⟩
    · unfold blB
      rw [Bool.or_eq_false_iff, beq_eq_false_iff_ne, beq_eq_false_iff_ne]
      constructor <;> (intro e; subst e; simp at h)
    all_goals (intro e; subst e; simp at h)

theorem digI_word (n : Int) : (digI n).all (fun c => !blB c) = true ∧ (∀ c ∈ digI n, c ≠ 10) ∧ (digI n).getLast? ≠ some 13 ∧ digI n ≠ [99] := by
  refine ⟨?_, ?_, ?_, ?_⟩
  · rw [List.all_eq_true]
    intro c hc
    simp [(dig_not (digI_bytes n c hc)).1]
  · intro c hc
    exact (dig_not (digI_bytes n c hc)).2.1
  · intro e
    have := List.mem_of_getLast? e
    exact (dig_not (digI_bytes n _ this)).2.2.1 rfl
  · intro e
    have h : (99 : UInt8) ∈ digI n := by rw [e]; simp
    exact (dig_not (digI_bytes n _ h)).2.2.2 rfl

theorem Wds.blank {pre l : List UInt8} {ws : List (List UInt8)} (hp : pre.all blB = true) (h : Wds l ws) : Wds (pre ++ l) ws := by
  cases ws with
  | nil => exact .done (by rw [List.all_append, hp, h.none]; rfl)
  | cons v ws =>
    obtain ⟨p, q, rfl, h1, h2, h3, h4, h5⟩ := h.some
    rw [← List.append_assoc]
    exact .word (by rw [List.all_append, hp, h1]; rfl) h2 h3 h4 h5

theorem cutCR_append {a l : List UInt8} (h : a.getLast? ≠ some 13) : cutCR (a ++ l) = a ++ cutCR l := by
  cases l with
  | nil =>
    have e : cutCR [] = [] := by decide
    rw [e, List.append_nil]
    unfold cutCR
    rw [if_neg h]
  | cons c l =>
    have e : (a ++ c :: l).getLast? = (c :: l).getLast? := by
      rw [List.getLast?_append, List.getLast?_cons]; rfl
    by_cases g : (c :: l).getLast? = some 13
    · have g' := e.trans g
      unfold cutCR
      rw [if_pos g, if_pos g', List.dropLast_append_of_ne_nil (by simp)]
    · have g' : (a ++ c :: l).getLast? ≠ some 13 := by rw [e]; exact g
      unfold cutCR
      rw [if_neg g, if_neg g']

/-- Words behind the head, as a line. -/
theorem line_of {s f : St} {ns : List Int} (h : WordsR s (ns.map digI) f) (hs : s.headed = true) : LineR s (ns.map digI) f := by
  cases ns with
  | nil =>
    have e : s = f := h
    subst e
    exact .none
  | cons n ns => exact .words hs (digI_word n).2.2.2 h

theorem wordsR_append {s f : St} : ∀ {ws us : List (List UInt8)}, WordsR s (ws ++ us) f → ∃ s1, WordsR s ws s1 ∧ WordsR s1 us f := by
  intro ws
  induction ws generalizing s with
  | nil => intro us h; exact ⟨s, .nil, h⟩
  | cons w ws ih =>
    intro us h
    obtain ⟨s0, h1, h2⟩ := h
    obtain ⟨s1, g1, g2⟩ := ih h2
    exact ⟨s1, .cons h1 g1, g2⟩

/-- What stands between two words: blanks, or a line's end, and what says nothing behind it. -/
def Gap (g : List UInt8) : Prop :=
  (g ≠ [] ∧ g.all blB = true) ∨ ∃ (cr : Bool) (tail : List UInt8), g = (if cr then [13] else []) ++ 10 :: tail ∧ ∀ s r f, TextR s r f → TextR s (tail ++ r) f

theorem Gap.blank {g : List UInt8} (h1 : g ≠ []) (h2 : g.all blB = true) : Gap g := .inl ⟨h1, h2⟩
theorem Gap.line {g : List UInt8} (cr : Bool) (tail : List UInt8) (h1 : g = (if cr then [13] else []) ++ 10 :: tail) (h2 : ∀ s r f, TextR s r f → TextR s (tail ++ r) f) : Gap g := .inr ⟨cr, tail, h1, h2⟩

theorem text_none {s f : St} {r : List UInt8} (h : TextR s r f) : TextR s (10 :: r) f :=
  TextR.line (l := []) (rest := r) (by simp) (ws := []) (.done rfl) .none h

theorem text_c {s f : St} {r : List UInt8} (h : TextR s r f) : TextR s ([99, 32, 49, 32, 48, 10] ++ r) f := by
  refine TextR.line (l := [99, 32, 49, 32, 48]) (rest := r) (by decide) (ws := [[99], [49], [48]]) ?_ .c h
  show Wds ([] ++ ([99] ++ ([32] ++ ([49] ++ ([32] ++ ([48] ++ [])))))) _
  exact .word rfl (by decide) (by decide) (.inr ⟨_, _, rfl, by decide⟩) (.word (by decide) (by decide) (by decide) (.inr ⟨_, _, rfl, by decide⟩) (.word (by decide) (by decide) (by decide) (.inl rfl) (.done rfl)))

theorem gapOf_gap (k : Nat) : Gap (gapOf k) := by
  unfold gapOf
  split
  · exact .blank (by decide) (by decide)
  · exact .line false [] rfl (fun s r f h => h)
  · exact .blank (by decide) (by decide)
  · exact .line true [] rfl (fun s r f h => h)
  · exact .line false [99, 32, 49, 32, 48, 10] rfl (fun s r f h => text_c h)
  · exact .line false [10] rfl (fun s r f h => text_none h)

theorem gapAt_gap (xs : List UInt8) (k : Nat) : Gap (gapAt xs k) := by
  unfold gapAt
  split
  · exact gapOf_gap _
  · exact .blank (by decide) (by decide)

/-- A row of words with what stands between, from the first line on. -/
def Rest (s f : St) (B : List UInt8) : Prop :=
  ∃ (l : List UInt8) (us : List Int) (s1 : St), (∀ c ∈ l, c ≠ 10) ∧ WordsR s (us.map digI) s1 ∧ ((B = l ∧ Wds l (us.map digI) ∧ s1 = f ∧ (l = [] → s = f)) ∨ ∃ r, B = l ++ 10 :: r ∧ Wds (cutCR l) (us.map digI) ∧ TextR s1 r f)

theorem Rest.text {s f : St} {B : List UInt8} (h : Rest s f B) (hs : s.headed = true) : TextR s B f := by
  obtain ⟨l, us, s1, hl, hw, ⟨rfl, hd, rfl, h0⟩ | ⟨r, rfl, hd, ht⟩⟩ := h
  · by_cases e : B = []
    · subst e
      rw [h0 rfl]; exact .nil
    · exact .last e hl hd (line_of hw hs)
  · exact .line hl hd (line_of hw hs) ht

theorem body_rest (xs : List UInt8) : ∀ (ns : List Int) (k : Nat) (s f : St), s.Ok → s.headed = true → WordsR s (ns.map digI) f → Rest s f (bodyI xs k ns) := by
  intro ns
  induction ns with
  | nil =>
    intro k s f hok hs h
    have e : s = f := h
    subst e
    exact ⟨[], [], s, by simp, .nil, .inl ⟨rfl, .done rfl, rfl, fun _ => rfl⟩⟩
  | cons n ns ih =>
    intro k s f hok hs h
    obtain ⟨s', hw, hr⟩ := h
    obtain ⟨ok', hd'⟩ := hw.ok hok
    have hs' : s'.headed = true := hd'.trans hs
    obtain ⟨d1, d2, d3, d4⟩ := digI_word n
    have hI := ih (k + 1) s' f ok' hs' hr
    show Rest s f (digI n ++ (gapAt xs k ++ bodyI xs (k + 1) ns))
    generalize bodyI xs (k + 1) ns = B at *
    rcases gapAt_gap xs k with ⟨h1, h2⟩ | ⟨cr, tail, h1, h2⟩
    · skip
      generalize gapAt xs k = g at *
      obtain ⟨l, us, s1, hl, hw', hcase⟩ := hI
      have hgl : (digI n ++ g).getLast? ≠ some 13 := by
        rw [List.getLast?_append]
        intro e
        cases hgg : g.getLast? with
        | none => rw [List.getLast?_eq_none_iff] at hgg; exact h1 hgg
        | some c =>
          rw [hgg] at e
          simp at e
          subst e
          have := List.all_eq_true.1 h2 _ (List.mem_of_getLast? hgg)
          exact absurd this (by decide)
      have hpost : ∀ x : List UInt8, g ++ x = [] ∨ ∃ c r, g ++ x = c :: r ∧ blB c = true := by
        intro x
        cases g with
        | nil => exact absurd rfl h1
        | cons c g => exact .inr ⟨c, g ++ x, rfl, by simp at h2; exact h2.1⟩
      have hng : ∀ c ∈ g, c ≠ 10 := by
        intro c hc e
        subst e
        exact absurd (List.all_eq_true.1 h2 _ hc) (by decide)
      have hnl : ∀ c ∈ digI n ++ (g ++ l), c ≠ 10 := by
        intro c hc
        simp only [List.mem_append] at hc
        rcases hc with hc | hc | hc
        · exact d2 c hc
        · exact hng c hc
        · exact hl c hc
      refine ⟨digI n ++ (g ++ l), n :: us, s1, hnl, .cons hw hw', ?_⟩
      rcases hcase with ⟨rfl, e2, rfl, _⟩ | ⟨r, rfl, e2, e3⟩
      · refine .inl ⟨rfl, ?_, rfl, fun e => ?_⟩
        · exact Wds.word (pre := []) rfl (digI_ne n) d1 (hpost _) (Wds.blank h2 e2)
        · exact absurd (List.append_eq_nil_iff.1 e).1 (digI_ne n)
      · refine .inr ⟨r, by simp, ?_, e3⟩
        rw [← List.append_assoc, cutCR_append hgl, List.append_assoc]
        exact Wds.word (pre := []) rfl (digI_ne n) d1 (hpost _) (Wds.blank h2 e2)
    · skip
      have hT := hI.text hs'
      rw [h1]
      cases cr with
      | false =>
        refine ⟨digI n, [n], s', d2, .cons hw .nil, .inr ⟨tail ++ B, by simp, ?_, h2 _ _ _ hT⟩⟩
        have := cutCR_append (l := []) d3
        simp [cutCR] at this
        unfold cutCR
        rw [if_neg d3]
        have h := Wds.word (pre := []) (post := []) rfl (digI_ne n) d1 (.inl rfl) (.done rfl)
        simpa using h
      | true =>
        refine ⟨digI n ++ [13], [n], s', ?_, .cons hw .nil, .inr ⟨tail ++ B, by simp, ?_, h2 _ _ _ hT⟩⟩
        · intro c hc
          simp only [List.mem_append, List.mem_singleton] at hc
          rcases hc with hc | rfl
          · exact d2 c hc
          · decide
        · rw [cutCR_append d3]
          have e : cutCR [13] = [] := by decide
          rw [e]
          exact Wds.word (pre := []) (post := []) rfl (digI_ne n) d1 (.inl rfl) (.done rfl)

/-- The head's line, by its words. -/
theorem head_line {n m : Int} (hn0 : 0 ≤ n) (hn : n ≤ 1048576) (hm0 : 0 ≤ m) (hm : m ≤ 262144) : LineR St.zero [[112], [99, 110, 102], digI n, digI m] ⟨true, n, m, [], []⟩ := by
  obtain ⟨g1, g2⟩ := digI_num (n := n) (by omega) (by omega)
  obtain ⟨k1, k2⟩ := digI_num (n := m) (by omega) (by omega)
  have := LineR.head (s := St.zero) (v := digI n) (k := digI m) rfl g1 (by rw [g2]; exact hn0) (by rw [g2]; exact hn) k1 (by rw [k2]; exact hm0) (by rw [k2]; exact hm)
  rw [g2, k2] at this
  exact this

/-- c all of it, its line's end, p cnf and both numbers. -/
def linesHead (n m : Int) : List UInt8 := [99, 32, 97, 108, 108, 32, 111, 102, 32, 105, 116, 13, 10, 32, 112, 32, 32, 99, 110, 102, 9] ++ digI n ++ [32] ++ digI m ++ [32, 10]

theorem lines_text {n : Int} {css : List (List Int)} (xs : List UInt8) (hn0 : 0 ≤ n) (hn : n ≤ 1048576) (hl : css.length ≤ 262144) (hc : ∀ c ∈ css, c.length ≤ 4096 ∧ ∀ l ∈ c, LitOk n l) :
    TextR St.zero (linesHead n css.length ++ bodyI xs 0 (nums css)) ⟨true, n, css.length, css, []⟩ := by
  have hB := (body_rest xs (nums css) 0 ⟨true, n, css.length, [], []⟩ ⟨true, n, css.length, css, []⟩ ⟨hn0, hn, by show (0 : Int) ≤ css.length; omega, by show (css.length : Int) ≤ 262144; omega, by show (([] : List (List Int)).length : Int) ≤ css.length; simp, by simp⟩ rfl (by
    have := words_all (n := n) (m := css.length) hn0 hn css [] hc (by simp)
    simpa using this)).text rfl
  generalize bodyI xs 0 (nums css) = B at *
  obtain ⟨a1, a2, a3, a4⟩ := digI_word n
  obtain ⟨b1, b2, b3, b4⟩ := digI_word (css.length : Int)
  have e : linesHead n css.length ++ B = [99, 32, 97, 108, 108, 32, 111, 102, 32, 105, 116, 13] ++ 10 :: (([32, 112, 32, 32, 99, 110, 102, 9] ++ (digI n ++ ([32] ++ (digI css.length ++ [32])))) ++ 10 :: B) := by
    simp [linesHead]
  rw [e]
  refine TextR.line (by decide) (ws := [[99], [97, 108, 108], [111, 102], [105, 116]]) ?_ .c (TextR.line ?_ (ws := [[112], [99, 110, 102], digI n, digI css.length]) ?_ (head_line hn0 hn (by omega) (by omega)) hB)
  · show Wds ([] ++ ([99] ++ ([32] ++ ([97, 108, 108] ++ ([32] ++ ([111, 102] ++ ([32] ++ ([105, 116] ++ [])))))))) _
    exact .word rfl (by decide) (by decide) (.inr ⟨_, _, rfl, by decide⟩) (.word (by decide) (by decide) (by decide) (.inr ⟨_, _, rfl, by decide⟩) (.word (by decide) (by decide) (by decide) (.inr ⟨_, _, rfl, by decide⟩) (.word (by decide) (by decide) (by decide) (.inl rfl) (.done rfl))))
  · intro c hc
    simp only [List.mem_append] at hc
    rcases hc with hc | hc | hc | hc | hc
    · revert c; decide
    · exact a2 c hc
    · revert c; decide
    · exact b2 c hc
    · revert c; decide
  · have hcr : cutCR ([32, 112, 32, 32, 99, 110, 102, 9] ++ (digI n ++ ([32] ++ (digI css.length ++ [32])))) = [32, 112, 32, 32, 99, 110, 102, 9] ++ (digI n ++ ([32] ++ (digI css.length ++ [32]))) := by
      rw [cutCR_append (by decide), cutCR_append a3, cutCR_append (by decide), cutCR_append b3]
      rfl
    rw [hcr]
    show Wds ([32] ++ ([112] ++ ([32, 32] ++ ([99, 110, 102] ++ ([9] ++ (digI n ++ ([32] ++ (digI css.length ++ [32])))))))) _
    exact .word (by decide) (by decide) (by decide) (.inr ⟨_, _, rfl, by decide⟩) (.word (by decide) (by decide) (by decide) (.inr ⟨_, _, rfl, by decide⟩) (.word (by decide) (digI_ne n) a1 (.inr ⟨_, _, rfl, by decide⟩) (.word (by decide) (digI_ne _) b1 (.inr ⟨_, _, rfl, by decide⟩) (.done (by decide)))))

end Go.Proofs.YtedpngipkaniaaaDoor
