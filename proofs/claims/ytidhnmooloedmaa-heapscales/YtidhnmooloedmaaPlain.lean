/- Plain mathematics of a heap: its state, what is better, putting, rising and sinking. -/
set_option linter.unusedVariables false
namespace Go.Proofs.Ytidhnmooloedmaa

/-- One value of a function is another one. -/
def upd {α : Type} (f : Nat → α) (i : Nat) (v : α) : Nat → α := fun j => if j = i then v else f j
theorem upd_same {α : Type} (f : Nat → α) (i : Nat) (v : α) : upd f i v i = v := by simp [upd]
theorem upd_other {α : Type} {f : Nat → α} {i j : Nat} {v : α} (h : j ≠ i) : upd f i v j = f j := by simp [upd, h]

/-- A heap: how many are in it, scores, places, the order, the step. -/
structure HS where
  k : Nat
  sc : Nat → Int
  pl : Nat → Int
  od : Nat → Nat
  st : Int

def bet (sc : Nat → Int) (a b : Nat) : Prop := sc a > sc b ∨ (sc a = sc b ∧ a < b)
def betB (sc : Nat → Int) (a b : Nat) : Bool := if sc a ≠ sc b then decide (sc a > sc b) else decide (a < b)
theorem betB_iff (sc : Nat → Int) (a b : Nat) : betB sc a b = true ↔ bet sc a b := by
  unfold betB bet
  by_cases h : sc a = sc b <;> simp [h]
theorem betB_no (sc : Nat → Int) (a b : Nat) : betB sc a b = false ↔ ¬ bet sc a b := by
  rw [← betB_iff]; simp
theorem bet_asym {sc : Nat → Int} {a b : Nat} (h : bet sc a b) : ¬ bet sc b a := by unfold bet at *; omega
theorem bet_total {sc : Nat → Int} {a b : Nat} (h : a ≠ b) (h1 : ¬ bet sc a b) : bet sc b a := by unfold bet at *; omega
theorem nbet_trans {sc : Nat → Int} {a b c : Nat} (h : ¬ bet sc c b) (h1 : ¬ bet sc b a) : ¬ bet sc c a := by unfold bet at *; omega

/-- How many of the first ones are in it. -/
def cnt (pl : Nat → Int) : Nat → Nat
  | 0 => 0
  | m + 1 => cnt pl m + if pl (m + 1) = -1 then 0 else 1
theorem cnt_congr {p q : Nat → Int} {n : Nat} (h : ∀ v, 1 ≤ v → v ≤ n → (p v = -1 ↔ q v = -1)) : cnt p n = cnt q n := by
  induction n with
  | zero => rfl
  | succ m ih =>
    simp only [cnt]
    rw [ih (fun v a b => h v a (by omega))]
    have := h (m + 1) (by omega) (by omega)
    by_cases e : p (m + 1) = -1
    · rw [if_pos e, if_pos (this.1 e)]
    · rw [if_neg e, if_neg (fun x => e (this.2 x))]
theorem cnt_le (p : Nat → Int) (n : Nat) : cnt p n ≤ n := by
  induction n with
  | zero => simp [cnt]
  | succ m ih => simp only [cnt]; split <;> omega
theorem cnt_out {p : Nat → Int} {n v : Nat} (h1 : 1 ≤ v) (h2 : v ≤ n) (h : p v ≠ -1) : cnt (upd p v (-1)) n + 1 = cnt p n := by
  induction n with
  | zero => omega
  | succ m ih =>
    simp only [cnt]
    by_cases e : v = m + 1
    · subst e
      rw [upd_same, if_pos rfl, if_neg h, cnt_congr (q := p) (fun u a b => by rw [upd_other (by omega)])]
    · rw [upd_other (by omega)]
      have := ih (by omega)
      omega
theorem cnt_in {p : Nat → Int} {n v : Nat} {x : Int} (h1 : 1 ≤ v) (h2 : v ≤ n) (h : p v = -1) (hx : x ≠ -1) : cnt (upd p v x) n = cnt p n + 1 := by
  induction n with
  | zero => omega
  | succ m ih =>
    simp only [cnt]
    by_cases e : v = m + 1
    · subst e
      rw [upd_same, if_neg hx, if_pos h, cnt_congr (q := p) (fun u a b => by rw [upd_other (by omega)])]
    · rw [upd_other (by omega)]
      have := ih (by omega)
      omega

/-- Places and the order belong together. -/
structure WF (n : Nat) (s : HS) : Prop where
  at' : ∀ i, i < s.k → 1 ≤ s.od i ∧ s.od i ≤ n ∧ s.pl (s.od i) = i
  back : ∀ v, 1 ≤ v → v ≤ n → s.pl v = -1 ∨ ∃ i, i < s.k ∧ s.pl v = (i : Int) ∧ s.od i = v
  cnt : s.k = cnt s.pl n

theorem WF.kn {n : Nat} {s : HS} (h : WF n s) : s.k ≤ n := by rw [h.cnt]; exact cnt_le _ _
theorem WF.inj {n : Nat} {s : HS} (h : WF n s) {i j : Nat} (hi : i < s.k) (hj : j < s.k) (e : s.od i = s.od j) : i = j := by
  have a := (h.at' i hi).2.2
  have b := (h.at' j hj).2.2
  rw [e] at a; omega

def HS.put (s : HS) (i v : Nat) : HS := { s with od := upd s.od i v, pl := upd s.pl v (i : Int) }

theorem put_self {n : Nat} {s : HS} (h : WF n s) {i : Nat} (hi : i < s.k) : s.put i (s.od i) = s := by
  have e := (h.at' i hi).2.2
  unfold HS.put
  have e1 : upd s.od i (s.od i) = s.od := by
    funext j; unfold upd; split
    · rename_i h; rw [h]
    · rfl
  have e2 : upd s.pl (s.od i) (i : Int) = s.pl := by
    funext j; unfold upd; split
    · rename_i h; rw [h, e]
    · rfl
  rw [e1, e2]

theorem put_put (r : HS) (i c v u : Nat) : ((r.put i v).put i u).put c v = (r.put i u).put c v := by
  unfold HS.put
  simp only
  congr 1
  · funext j; unfold upd; repeat' split
    all_goals rfl
  · funext j; unfold upd; repeat' split
    all_goals rfl

/-- Two heaps of the same scores, the same step, with the same ones in it. -/
structure Like (n : Nat) (s t : HS) : Prop where
  k : t.k = s.k
  sc : t.sc = s.sc
  st : t.st = s.st
  out : ∀ v, 1 ≤ v → v ≤ n → (t.pl v = -1 ↔ s.pl v = -1)
theorem Like.refl (n : Nat) (s : HS) : Like n s s := ⟨rfl, rfl, rfl, fun _ _ _ => Iff.rfl⟩
theorem Like.trans {n : Nat} {s t u : HS} (h : Like n s t) (g : Like n t u) : Like n s u :=
  ⟨g.k.trans h.k, g.sc.trans h.sc, g.st.trans h.st, fun v a b => (g.out v a b).trans (h.out v a b)⟩

/-- Two ones change places. -/
theorem swap_ok {n : Nat} {s : HS} (h : WF n s) {i c : Nat} (hi : i < s.k) (hc : c < s.k) (hne : i ≠ c) :
    WF n ((s.put i (s.od c)).put c (s.od i)) ∧ Like n s ((s.put i (s.od c)).put c (s.od i)) := by
  obtain ⟨i1, i2, i3⟩ := h.at' i hi
  obtain ⟨c1, c2, c3⟩ := h.at' c hc
  have hvu : s.od i ≠ s.od c := fun e => hne (h.inj hi hc e)
  generalize hv : s.od i = v at *
  generalize hu : s.od c = u at *
  have hout : ∀ x, 1 ≤ x → x ≤ n → (((s.put i u).put c v).pl x = -1 ↔ s.pl x = -1) := by
    intro x a b
    show upd (upd s.pl u (i : Int)) v (c : Int) x = -1 ↔ _
    by_cases e : x = v
    · subst e; rw [upd_same, i3]; omega
    · rw [upd_other e]
      by_cases e2 : x = u
      · subst e2; rw [upd_same, c3]; omega
      · rw [upd_other e2]
  refine ⟨⟨?_, ?_, ?_⟩, ⟨rfl, rfl, rfl, hout⟩⟩
  · intro j hj
    show 1 ≤ upd (upd s.od i u) c v j ∧ upd (upd s.od i u) c v j ≤ n ∧ upd (upd s.pl u (i : Int)) v (c : Int) (upd (upd s.od i u) c v j) = j
    by_cases e : j = c
    · subst e; rw [upd_same, upd_same]; exact ⟨i1, i2, rfl⟩
    · rw [upd_other e]
      by_cases e2 : j = i
      · subst e2; rw [upd_same, upd_other (fun x => hvu x.symm), upd_same]; exact ⟨c1, c2, rfl⟩
      · rw [upd_other e2]
        have hj' : j < s.k := hj
        obtain ⟨j1, j2, j3⟩ := h.at' j hj'
        refine ⟨j1, j2, ?_⟩
        rw [upd_other, upd_other, j3]
        · intro x; rw [← hu] at x; exact e (h.inj hj' hc x)
        · intro x; rw [← hv] at x; exact e2 (h.inj hj' hi x)
  · intro x a b
    show upd (upd s.pl u (i : Int)) v (c : Int) x = -1 ∨ ∃ j, j < s.k ∧ upd (upd s.pl u (i : Int)) v (c : Int) x = (j : Int) ∧ upd (upd s.od i u) c v j = x
    by_cases e : x = v
    · subst e; exact .inr ⟨c, hc, upd_same _ _ _, upd_same _ _ _⟩
    · rw [upd_other e]
      by_cases e2 : x = u
      · subst e2; exact .inr ⟨i, hi, upd_same _ _ _, by rw [upd_other hne, upd_same]⟩
      · rw [upd_other e2]
        rcases h.back x a b with h' | ⟨j, h1, h2, h3⟩
        · exact .inl h'
        · refine .inr ⟨j, h1, h2, ?_⟩
          rw [upd_other, upd_other, h3]
          · intro ee; rw [ee, hv] at h3; exact e h3.symm
          · intro ee; rw [ee, hu] at h3; exact e2 h3.symm
  · show s.k = _
    rw [h.cnt]
    exact (cnt_congr hout).symm

/-- The one at place j is not better than the one at place i. -/
def ok (s : HS) (i j : Nat) : Prop := ¬ bet s.sc (s.od j) (s.od i)
def par (j : Nat) : Nat := (j - 1) / 2
/-- From a place on, none is better than the one above it. -/
def Hpf (s : HS) (m : Nat) : Prop := ∀ j, 0 < j → j < s.k → m ≤ par j → ok s (par j) j

/-- So but for the one at a place, which may be too far down. -/
def HpR (s : HS) (i : Nat) : Prop := (∀ j, 0 < j → j < s.k → j ≠ i → ok s (par j) j) ∧ (0 < i → ∀ j, 0 < j → j < s.k → par j = i → ok s (par i) j)
/-- So but for the one at a place, which may be too far up. -/
def HpS (s : HS) (m i : Nat) : Prop := (∀ j, 0 < j → j < s.k → m ≤ par j → par j ≠ i → ok s (par j) j) ∧ (0 < i → m ≤ par i → ∀ j, 0 < j → j < s.k → par j = i → ok s (par i) j)

theorem par_lt {j : Nat} (h : 0 < j) : par j < j := by unfold par; omega

theorem HpR.done {s : HS} {i : Nat} (h : HpR s i) (hd : i = 0 ∨ ¬ bet s.sc (s.od i) (s.od (par i))) : Hpf s 0 := by
  intro j h0 hk _
  by_cases e : j = i
  · subst e; rcases hd with x | x
    · omega
    · exact x
  · exact h.1 j h0 hk e

theorem swap_at_i (s : HS) {i c : Nat} (h : i ≠ c) : ((s.put i (s.od c)).put c (s.od i)).od i = s.od c := by
  show upd (upd s.od i _) c _ i = _
  rw [upd_other h, upd_same]
theorem swap_at_c (s : HS) (i c : Nat) : ((s.put i (s.od c)).put c (s.od i)).od c = s.od i := by
  show upd (upd s.od i _) c _ c = _
  rw [upd_same]
theorem swap_at_o (s : HS) {i c j : Nat} (h : j ≠ i) (h2 : j ≠ c) : ((s.put i (s.od c)).put c (s.od i)).od j = s.od j := by
  show upd (upd s.od i _) c _ j = _
  rw [upd_other h2, upd_other h]

theorem HpR.up {n : Nat} {s : HS} {i : Nat} (h : HpR s i) (hi0 : 0 < i) (hi : i < s.k) (hb : bet s.sc (s.od i) (s.od (par i))) :
    HpR ((s.put i (s.od (par i))).put (par i) (s.od i)) (par i) := by
  have hp := par_lt hi0
  have hne : i ≠ par i := by omega
  have e1 := swap_at_i s hne
  have e2 := swap_at_c s i (par i)
  have e3 := fun j (a : j ≠ i) (b : j ≠ par i) => swap_at_o s a b
  refine ⟨?_, ?_⟩
  · intro j h0 hk hj
    have hk' : j < s.k := hk
    unfold ok
    show ¬ bet s.sc _ _
    by_cases ej : j = i
    · subst ej; rw [e1, e2]; exact bet_asym hb
    · rw [e3 j ej hj]
      by_cases e4 : par j = i
      · rw [e4, e1]; exact h.2 hi0 j h0 hk' e4
      · by_cases e5 : par j = par i
        · rw [e5, e2]
          have := h.1 j h0 hk' ej
          rw [e5] at this
          exact nbet_trans this (bet_asym hb)
        · rw [e3 _ e4 e5]; exact h.1 j h0 hk' ej
  · intro hp0 j h0 hk hpj
    have hk' : j < s.k := hk
    have hpp := par_lt hp0
    unfold ok
    show ¬ bet s.sc _ _
    rw [e3 (par (par i)) (by omega) (by omega)]
    have hpar := h.1 (par i) hp0 (by omega) (by omega)
    by_cases ej : j = i
    · subst ej; rw [e1]; exact hpar
    · have := par_lt h0
      rw [e3 j ej (by omega)]
      have h1 := h.1 j h0 hk' ej
      rw [hpj] at h1
      exact nbet_trans h1 hpar

/-- The child that goes up. -/
theorem HpS.done {s : HS} {m i c : Nat} (h : HpS s m i) (hc : c = 2 * i + 1 ∨ c = 2 * i + 2) (hbest : ∀ j, 0 < j → j < s.k → par j = i → c < s.k ∧ ok s c j) (hd : c ≥ s.k ∨ ok s i c) : Hpf s m := by
  intro j h0 hk hm
  by_cases e : par j = i
  · obtain ⟨a, b⟩ := hbest j h0 hk e
    rcases hd with x | x
    · omega
    · rw [e]; exact nbet_trans b x
  · exact h.1 j h0 hk hm e

theorem HpS.down {s : HS} {m i c : Nat} (h : HpS s m i) (hm : m ≤ i) (hi : i < s.k) (hc : c < s.k) (hci : c = 2 * i + 1 ∨ c = 2 * i + 2) (hbest : ∀ j, 0 < j → j < s.k → par j = i → ok s c j) (hd : ¬ ok s i c ∨ ¬ bet s.sc (s.od i) (s.od c)) :
    HpS ((s.put i (s.od c)).put c (s.od i)) m c := by
  have hpc : par c = i := by unfold par; omega
  have hne : i ≠ c := by omega
  have hnb : ¬ bet s.sc (s.od i) (s.od c) := by
    rcases hd with x | x
    · unfold ok at x; intro y; exact x (bet_asym y)
    · exact x
  have e1 := swap_at_i s hne
  have e2 := swap_at_c s i c
  have e3 := fun j (a : j ≠ i) (b : j ≠ c) => swap_at_o s a b
  refine ⟨?_, ?_⟩
  · intro j h0 hk hmj hj
    have hk' : j < s.k := hk
    unfold ok
    show ¬ bet s.sc _ _
    by_cases ej : j = c
    · subst ej; rw [hpc, e1, e2]; exact hnb
    · by_cases e4 : par j = i
      · have : j ≠ i := by have := par_lt h0; omega
        rw [e4, e1, e3 j this ej]; exact hbest j h0 hk' e4
      · by_cases e5 : j = i
        · subst e5
          have := par_lt h0
          rw [e1, e3 (par j) (by omega) (by omega)]
          exact h.2 h0 hmj c (by omega) hc hpc
        · rw [e3 j e5 ej, e3 (par j) e4 hj]; exact h.1 j h0 hk' hmj e4
  · intro hc0 hmc j h0 hk hpj
    have hk' : j < s.k := hk
    unfold ok
    show ¬ bet s.sc _ _
    have hlt := par_lt h0
    rw [hpc, e1, e3 j (by omega) (by omega)]
    have := h.1 j h0 hk' (by omega) (by omega)
    rw [hpj] at this; exact this

/-- The first one is the best one. -/
theorem root_best {s : HS} (h : Hpf s 0) : ∀ j, j < s.k → ¬ bet s.sc (s.od j) (s.od 0) := by
  intro j
  induction j using Nat.strongRecOn with
  | _ j ih =>
    intro hj
    by_cases e : j = 0
    · subst e; unfold bet; omega
    · have hp := par_lt (j := j) (by omega)
      exact nbet_trans (h j (by omega) hj (Nat.zero_le _)) (ih _ hp (by omega))

end Go.Proofs.Ytidhnmooloedmaa
