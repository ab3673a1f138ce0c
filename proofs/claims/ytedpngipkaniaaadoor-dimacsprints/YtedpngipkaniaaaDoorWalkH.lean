/- What is printed is a text of the formula; contract: the document's own printing. -/
import Derived.Test.YtedpngipkaniaaaDoorWalkG
set_option linter.unusedVariables false
set_option linter.unusedSimpArgs false
namespace Go.Proofs.YtedpngipkaniaaaDoor
open Go.RowKit Go.Maps

attribute [local go_sem ↓] Go.wp_at_zero Go.wp_at_succ

theorem clause_wds (c : List Int) : Wds (litsT c ++ [48]) ((c ++ [0]).map digI) := by
  induction c with
  | nil =>
    show Wds ([] ++ ([48] ++ [])) [digI 0]
    rw [digI_zero]
    exact .word rfl (by decide) (by decide) (.inl rfl) (.done rfl)
  | cons l c ih =>
    obtain ⟨d1, d2, d3, d4⟩ := digI_word l
    have e : litsT (l :: c) ++ [48] = [] ++ (digI l ++ ([32] ++ (litsT c ++ [48]))) := by simp [litsT]
    rw [e]
    exact .word rfl (digI_ne l) d1 (.inr ⟨32, litsT c ++ [48], rfl, by decide⟩) (Wds.blank (by decide) ih)

theorem clause_nolf (c : List Int) : ∀ x ∈ litsT c ++ [48], x ≠ 10 := by
  intro x hx
  simp only [litsT, List.mem_append, List.mem_flatMap, List.mem_singleton] at hx
  rcases hx with ⟨l, _, hx | rfl⟩ | rfl
  · exact (digI_word l).2.1 x hx
  · decide
  · decide

theorem clause_cut (c : List Int) : cutCR (litsT c ++ [48]) = litsT c ++ [48] := by
  unfold cutCR
  rw [if_neg]
  rw [List.getLast?_append]
  simp

theorem clauses_text {n m : Int} (hn0 : 0 ≤ n) (hn : n ≤ 1048576) (hm0 : 0 ≤ m) (hm1 : m ≤ 262144) : ∀ (css cls : List (List Int)), (∀ c ∈ css, c.length ≤ 4096 ∧ ∀ l ∈ c, LitOk n l) → (cls.length : Int) + css.length ≤ m →
    TextR ⟨true, n, m, cls, []⟩ (css.flatMap clauseT) ⟨true, n, m, cls ++ css, []⟩ := by
  intro css
  induction css with
  | nil => intro cls _ _; simp; exact .nil
  | cons c css ih =>
    intro cls hc hm
    obtain ⟨h1, h2⟩ := hc c (by simp)
    simp only [List.length_cons] at hm
    have hw : WordsR ⟨true, n, m, cls, []⟩ ((c ++ [0]).map digI) ⟨true, n, m, cls ++ [c], []⟩ := by
      rw [List.map_append]
      refine words_clause hn c cls [] h2 (by simpa using h1) (by omega) _ _ ?_
      obtain ⟨g1, g2⟩ := digI_num (n := 0) (by omega) (by omega)
      exact .cons (WordR.zero (s := ⟨true, n, m, cls, [] ++ c⟩) g1 g2 (by show (cls.length : Int) < m; omega)) .nil
    have e : (c :: css).flatMap clauseT = (litsT c ++ [48]) ++ 10 :: css.flatMap clauseT := by simp [clauseT_lits]
    rw [e]
    refine TextR.line (clause_nolf c) (ws := (c ++ [0]).map digI) (by rw [clause_cut]; exact clause_wds c) (line_of hw rfl) ?_
    have := ih (cls ++ [c]) (fun x hx => hc x (by simp [hx])) (by simp; omega)
    simpa using this

theorem print_text {n : Int} {css : List (List Int)} (hn0 : 0 ≤ n) (hn : n ≤ 1048576) (hl : css.length ≤ 262144) (hc : ∀ c ∈ css, c.length ≤ 4096 ∧ ∀ l ∈ c, LitOk n l) :
    TextR St.zero (printT n css) ⟨true, n, css.length, css, []⟩ := by
  have hB := clauses_text (m := css.length) hn0 hn (by omega) (by omega) css [] hc (by simp)
  obtain ⟨a1, a2, a3, a4⟩ := digI_word n
  obtain ⟨b1, b2, b3, b4⟩ := digI_word (css.length : Int)
  have e : printT n css = ([112, 32, 99, 110, 102, 32] ++ (digI n ++ ([32] ++ digI css.length))) ++ 10 :: css.flatMap clauseT := by simp [printT, headT]
  rw [e]
  refine TextR.line ?_ (ws := [[112], [99, 110, 102], digI n, digI css.length]) ?_ (head_line hn0 hn (by omega) (by omega)) (by simpa using hB)
  · intro c hc
    simp only [List.mem_append] at hc
    rcases hc with hc | hc | hc | hc
    · revert c; decide
    · exact a2 c hc
    · revert c; decide
    · exact b2 c hc
  · have hcr : cutCR ([112, 32, 99, 110, 102, 32] ++ (digI n ++ ([32] ++ digI css.length))) = [112, 32, 99, 110, 102, 32] ++ (digI n ++ ([32] ++ digI css.length)) := by
      rw [cutCR_append (by decide), cutCR_append a3, cutCR_append (by decide)]
      unfold cutCR
      rw [if_neg b3]
    rw [hcr]
    show Wds ([] ++ ([112] ++ ([32] ++ ([99, 110, 102] ++ ([32] ++ (digI n ++ ([32] ++ digI css.length))))))) _
    have hlast : Wds ([32] ++ (digI css.length ++ [])) [digI css.length] := .word (by decide) (digI_ne _) b1 (.inl rfl) (.done rfl)
    rw [List.append_nil] at hlast
    exact .word rfl (by decide) (by decide) (.inr ⟨_, _, rfl, by decide⟩) (.word (by decide) (by decide) (by decide) (.inr ⟨_, _, rfl, by decide⟩) (.word (by decide) (digI_ne n) a1 (.inr ⟨32, digI css.length, rfl, by decide⟩) hlast))

set_option maxHeartbeats 2000000 in
theorem refClause_any (a : Option Addr) (ca : Nat) (c : List Int) (w : World) (hr : Row w a c) (hc : c.length ≤ 4096) (hb : ∀ l ∈ c, -1048576 ≤ l ∧ l ≤ 1048576) :
    Calls Tryd.prog 17 #[.slice a c.length ca] w fun e w' => e = .returned (.string (str (clauseT c))) ∧ w' = w := by
  have HLL : Hid (∀ k, (litsT (c.take k)).length ≤ 21 * 4096) := by
    intro k
    have := litsT_len (c.take k) (fun l hl => hb l (List.mem_of_mem_take hl))
    have h2 : (c.take k).length ≤ c.length := List.length_take_le' k c
    omega
  go_enter Tryd.func17, Tryd.ntmps17
  go_wp2
  go_loop [3, 4] (fun zs zi => ∃ k : Nat, k ≤ c.length ∧ zi = .int .i64 (k : Int) ∧ zs = .string (str (litsT (c.take k)))) (fun _ zi => c.length - (intOf zi).toNat)
  case atStart => exact ⟨0, Nat.zero_le _, rfl, rfl⟩
  case round =>
    obtain ⟨k, hk, rfl, rfl⟩ := hrel
    have hkl := HLL.out k
    have hss := str_size (litsT (c.take k))
    by_cases hlt : k < c.length
    · obtain ⟨b, off, rfl, hb1, hcell⟩ := hr k hlt
      obtain ⟨hl0, hl1⟩ := hb c[k] (List.getElem_mem hlt)
      have HS := hide (litsT_snoc hlt)
      have CD := hide (digits_any c[k] w (by omega) (by omega))
      have hdl : (str (digI c[k])).size ≤ 20 := by rw [str_size]; exact digI_len (by omega) (by omega)
      generalize c[k] = x at *
      generalize hT : litsT (c.take k) = T at *
      have hki : (k : Int) < c.length := by omega
      clear hr hT
      go_wp2_with (go_at_call 16; refine (unhide CD).mono ?_; rintro e w0 ⟨rfl, hw0⟩; subst w0)
      go_round
      case rel => exact ⟨k + 1, by omega, by go_num, by rw [HS.out, ← str_append, ← str_append, ByteArray.append_assoc]; rfl⟩
      case measure => simp [intOf]; omega
    · have hte : c.take k = c := List.take_of_length_le (by omega)
      rw [hte] at hkl hss
      have HTE : Hid (litsT (c.take k) = litsT c) := by show _ = _; rw [hte]
      have hki : ¬ (k : Int) < c.length := by omega
      clear hr hte
      rw [HTE.out]
      go_wp2
      go_ret
      exact ⟨ret_string (by unfold clauseT; exact str_append (litsT c) [48, 10]), rfl⟩

end Go.Proofs.YtedpngipkaniaaaDoor
