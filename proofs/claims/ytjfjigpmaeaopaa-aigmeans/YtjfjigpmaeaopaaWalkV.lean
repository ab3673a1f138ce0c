/- The document's And, Or, Xor, Ite. -/
import Derived.Test.YtjfjigpmaeaopaaWalkU
set_option linter.unusedVariables false
set_option linter.unusedSimpArgs false
namespace Go.Proofs.Ytjfjigpmaeaopaa
open Go.RowKit Go.Maps

set_option maxHeartbeats 4000000 in
set_option maxRecDepth 100000 in
theorem refAnd_swap (w : World) (q off cap : Nat) (g : List Gt) (a b : Int) (Z : List Gt × Int) (hl : g.length ≤ 999) (hgt : b < a)
    (IS : Hid (∀ W l, Calls Try.prog 42 #[.slice (some ⟨q, off, none⟩) g.length cap, .int .i64 l] W fun e w' => e = .returned (.bool (isB g l)) ∧ w' = W)) (h0 : isB g a = true) (hb : isB g b = true)
    (CL : Hid (Calls Try.prog 21 #[.slice (some ⟨q, off, none⟩) g.length cap, .int .i64 b, .int .i64 a] w (RefP w q Z))) :
    Calls Try.prog 21 #[.slice (some ⟨q, off, none⟩) g.length cap, .int .i64 a, .int .i64 b] w (RefP w q Z) := by
  go_enter Try.func21, Try.ntmps21
  go_wp2_with (first | (go_at_call 42; refine (unhide IS _ _).mono ?_; rintro e w0 ⟨rfl, hw0⟩; subst w0) | (go_at_call 21; refine (unhide CL).mono ?_; rintro e w1 ⟨q', off', cap', rfl, s1, s2, s3⟩))
  all_goals exact bodyPost_ret (v := .tuple #[.slice (some ⟨q', off', none⟩) Z.1.length cap', .int .i64 Z.2]) (by simp [results, Try.results21, go_sem]) rfl ⟨q', off', cap', rfl, s1, s2, s3⟩

set_option maxHeartbeats 4000000 in
set_option maxRecDepth 100000 in
theorem refAnd_no (w : World) (q off cap : Nat) (g : List Gt) (a b : Int) (hs : GS w (some ⟨q, off, none⟩) g) (hl : g.length ≤ 999) (hn : (isB g a && isB g b) = false) :
    Calls Try.prog 21 #[.slice (some ⟨q, off, none⟩) g.length cap, .int .i64 a, .int .i64 b] w (RefP w q (g, -1)) := by
  have IS : Hid (∀ W l, Calls Try.prog 42 #[.slice (some ⟨q, off, none⟩) g.length cap, .int .i64 l] W fun e w' => e = .returned (.bool (isB g l)) ∧ w' = W) := fun W l => refIs_any W _ cap g l (by omega)
  have HE := hide (refq_same (cap := cap) (Z := (g, -1)) rfl hs (Below.refl _ _))
  clear hs
  cases hpa : isB g a with
  | false =>
    clear hn
    go_enter Try.func21, Try.ntmps21
    go_wp2_with (first | (go_at_call 42; refine (unhide IS _ _).mono ?_; rintro e w0 ⟨rfl, hw0⟩; subst w0))
    all_goals exact bodyPost_ret (v := .tuple #[.slice (some ⟨q, off, none⟩) g.length cap, .int .i64 (-1)]) (by simp [results, Try.results21, go_sem]) rfl HE.out
  | true =>
    have hpb : isB g b = false := by simpa [hpa] using hn
    clear hn
    go_enter Try.func21, Try.ntmps21
    go_wp2_with (first | (go_at_call 42; refine (unhide IS _ _).mono ?_; rintro e w0 ⟨rfl, hw0⟩; subst w0))
    all_goals exact bodyPost_ret (v := .tuple #[.slice (some ⟨q, off, none⟩) g.length cap, .int .i64 (-1)]) (by simp [results, Try.results21, go_sem]) rfl HE.out

theorem refAnd_le (n : Nat) (IH : ∀ (w : World) (q off cap : Nat) (g : List Gt) (a b : Int), GS w (some ⟨q, off, none⟩) g → g.length ≤ 999 → May g → Ord g → isB g a = true → isB g b = true → a + b < (n : Int) →
      Calls Try.prog 21 #[.slice (some ⟨q, off, none⟩) g.length cap, .int .i64 a, .int .i64 b] w (RefP w q (andF g a b)))
    (w : World) (q off cap : Nat) (g : List Gt) (a b : Int) (hs : GS w (some ⟨q, off, none⟩) g) (hl : g.length ≤ 999) (hm : May g) (ho : Ord g) (ha : isB g a = true) (hb : isB g b = true) (hn : a + b < (n : Int) + 1) (hab : a ≤ b) :
    Calls Try.prog 21 #[.slice (some ⟨q, off, none⟩) g.length cap, .int .i64 a, .int .i64 b] w (RefP w q (andF g a b)) := by
  have IS : Hid (∀ W l, Calls Try.prog 42 #[.slice (some ⟨q, off, none⟩) g.length cap, .int .i64 l] W fun e w' => e = .returned (.bool (isB g l)) ∧ w' = W) := fun W l => refIs_any W _ cap g l (by omega)
  have NT : Hid (∀ W l, 0 ≤ l → l ≤ 5000000 → Calls Try.prog 43 #[.int .i64 l] W fun e w' => e = .returned (.int .i64 (notI l)) ∧ w' = W) := fun W l h h' => by
    have := refNot_any W l (by unfold inI64; omega); rwa [notR_nn h] at this
  obtain ⟨ia, la, na⟩ := lit_i64 ha (by omega)
  obtain ⟨ib, lb, nb⟩ := lit_i64 hb (by omega)
  have hB := isB_iff.1 hb
  have same : ∀ l, andF g a b = (g, l) → ∀ W, Below w.heap.size w W → RefP w q (andF g a b) (.returned (.tuple #[.slice (some ⟨q, off, none⟩) g.length cap, .int .i64 l])) W := fun l h W hW => refq_same h hs hW
  by_cases h1 : a = 0
  · subst h1
    have hZ : andF g 0 b = (g, 0) := by
      have hz : shortF g 0 b = 0 := by unfold shortF; rw [if_pos (.inl rfl)]
      rw [and_short hm ha hb hab (by omega), hz]
    exact refAnd_e1 w q off cap g b _ hl nb IS ha hb (same 0 hZ w (Below.refl _ _))
  by_cases h2 : b = notI a
  · have hZ : andF g a b = (g, 0) := by
      have hz : shortF g a b = 0 := by unfold shortF; rw [if_pos (.inr (by rw [h2, notI_notI]))]
      rw [and_short hm ha hb hab (by omega), hz]
    exact refAnd_e2 w q off cap g a b _ hl (by omega) IS ha hb (fun W => by have := NT.out W a na la; rwa [← h2] at this) (by simpa using h1) (same 0 hZ w (Below.refl _ _))
  have h2' : ¬ a = notI b := fun e => h2 (by rw [e, notI_notI])
  by_cases h3 : a = 1
  · subst h3
    have hZ : andF g 1 b = (g, b) := by
      have hz : shortF g 1 b = b := by unfold shortF; rw [if_neg (by rintro (h | h); omega; exact h2' h), if_pos (.inl rfl)]
      rw [and_short hm ha hb hab (by omega), hz]
    exact refAnd_e3 w q off cap g b _ _ hl (by omega) IS ha hb (fun W => NT.out W 1 (by omega) (by omega)) (by simpa using h2) (same b hZ w (Below.refl _ _))
  by_cases h4 : a = b
  · subst h4
    have hZ : andF g a a = (g, a) := by
      have hz : shortF g a a = a := by unfold shortF; rw [if_neg (by rintro (h | h); exact h1 h; exact h2' h), if_pos (.inr rfl)]
      rw [and_short hm ha hb hab (by omega), hz]
    exact refAnd_e4 w q off cap g a _ _ hl IS ha (fun W => NT.out W a na la) (by simpa using h1) (by simpa using h2) (by simpa using h3) (same a hZ w (Below.refl _ _))
  have KC : Hid (∀ W l neg, Below w.heap.size w W → isB g l = true → Calls Try.prog 44 #[.slice (some ⟨q, off, none⟩) g.length cap, .int .i64 l, .bool neg] W fun e w' => e = .returned (.tuple #[.int .i64 (kidsF g l neg).1, .int .i64 (kidsF g l neg).2.1, .bool (kidsF g l neg).2.2]) ∧ ∃ n, w' = W.drewN n) :=
    fun W l neg hW hl' => kids_any W _ cap g l neg (hs.below hW) (by omega) hm hl'
  obtain ⟨c1, d1, o1, c3, d3, o3, k1, k3, r1, r2, r3, r4, r5, r6⟩ := rules hm ha hb h1 h2 h3 h4 hab
  have hlt : a < b := by omega
  have less : ∀ neg c d o, kidsF g a neg = (c, d, o) → o = true → b ≠ c ∧ b ≠ d ∧ notI b ≠ c ∧ notI b ≠ d := fun neg c d o h e => (kids_less hm ha hb hlt (by rw [h, e])).resolve_right h2'
  have REC : ∀ l, 0 ≤ l → isB g l = true → l < b → andF g a b = andF g a l → ∀ W, Below w.heap.size w W → Calls Try.prog 21 #[.slice (some ⟨q, off, none⟩) g.length cap, .int .i64 a, .int .i64 l] W (RefP w q (andF g a b)) := by
    intro l hl0 hll hlb e W hW
    refine (IH W q off cap g a l (hs.below hW) hl hm ho ha hll (by omega)).mono ?_
    rintro e' w' ⟨q', off', cap', rfl, s1, s2, s3⟩
    rw [e]
    exact ⟨q', off', cap', rfl, s1, hW.trans (s2.mono hW.size), s3.imp id (fun h => ⟨Nat.le_trans hW.size h.1, h.2⟩)⟩
  have bnd : ∀ l, 0 ≤ l → isB g (notI l) = true → 0 ≤ l ∧ l ≤ 5000000 := by
    intro l h h'
    rw [isB_not] at h'
    have := (lit_i64 h' (by omega)).2.1
    exact ⟨h, this⟩
  exact refAnd_mid w q off cap g a b (notI a) (notI b) (andF g a b) hl (by omega) IS ha hb NT ⟨na, la⟩ ⟨nb, lb⟩ rfl rfl (by simpa using h1) (by simpa using h2) (by simpa using h3) (by simpa using h4) KC
    c1 d1 (kidsF g a false).1 (kidsF g a false).2.1 c3 d3 (kidsF g a true).1 (kidsF g a true).2.1 o1 (kidsF g a false).2.2 o3 (kidsF g a true).2.2 k1 rfl k3 rfl
    (less false _ _ _ rfl) (less true _ _ _ rfl)
    (fun h h' => same _ (r1 h h')) (fun h h' h'' => same _ (r2 h h' h''))
    (fun hN h h' => same _ (r3 hN h h'))
    (fun hN h h' h'' => by obtain ⟨t1, t2, t3, t4⟩ := r4 hN h h' h''; exact ⟨bnd _ t1 t2, REC _ (notI_nn.2 t1) t2 t3 t4⟩)
    (fun hN h h' h'' h3' => by obtain ⟨t1, t2, t3, t4⟩ := r5 hN h h' h'' h3'; exact ⟨bnd _ t1 t2, REC _ (notI_nn.2 t1) t2 t3 t4⟩)
    (fun hN h => r6 hN h) ho hs

theorem refAnd_all : ∀ (n : Nat) (w : World) (q off cap : Nat) (g : List Gt) (a b : Int), GS w (some ⟨q, off, none⟩) g → g.length ≤ 999 → May g → Ord g → isB g a = true → isB g b = true → a + b < (n : Int) →
      Calls Try.prog 21 #[.slice (some ⟨q, off, none⟩) g.length cap, .int .i64 a, .int .i64 b] w (RefP w q (andF g a b))
  | 0, w, q, off, cap, g, a, b, hs, hl, hm, ho, ha, hb, hn => by
    have := isB_iff.1 ha
    have := isB_iff.1 hb
    omega
  | n + 1, w, q, off, cap, g, a, b, hs, hl, hm, ho, ha, hb, hn => by
    have P := refAnd_le n (refAnd_all n)
    by_cases hab : a ≤ b
    · exact P w q off cap g a b hs hl hm ho ha hb (by omega) hab
    · have h := P w q off cap g b a hs hl hm ho hb ha (by omega) (by omega)
      rw [and_comm' g b a] at h
      exact refAnd_swap w q off cap g a b _ hl (by omega) (fun W l => refIs_any W _ cap g l (by omega)) ha hb h

theorem refAnd_any (w : World) (q off cap : Nat) (g : List Gt) (a b : Int) (hs : GS w (some ⟨q, off, none⟩) g) (hl : g.length ≤ 999) (hm : May g) (ho : Ord g) :
    Calls Try.prog 21 #[.slice (some ⟨q, off, none⟩) g.length cap, .int .i64 a, .int .i64 b] w (RefP w q (andF g a b)) := by
  by_cases h : (isB g a && isB g b) = true
  · simp at h
    have := isB_iff.1 h.1
    have := isB_iff.1 h.2
    exact refAnd_all (a + b + 1).toNat w q off cap g a b hs hl hm ho h.1 h.2 (by omega)
  · have h' : (isB g a && isB g b) = false := by simpa using h
    rw [(and_grow hm a b).2.2 h']
    exact refAnd_no w q off cap g a b hs hl h'
end Go.Proofs.Ytjfjigpmaeaopaa
