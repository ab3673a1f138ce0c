/- A table of places, in which a variable is looked for from a slot on: what is found is where it stands. -/
import Derived.Test.YtaepanmkofhgoaaPlainT
set_option linter.unusedVariables false
set_option linter.unusedSimpArgs false
namespace Go.Proofs.Ytaepanmkofhgoaa

/-- The next slot. -/
def nxt (M i : Nat) : Nat := if i + 1 = M then 0 else i + 1
theorem nxt_lt {M i : Nat} (h : i < M) : nxt M i < M := by unfold nxt; split <;> omega
/-- So many slots on. -/
def stp (M i : Nat) : Nat → Nat
  | 0 => i
  | d + 1 => nxt M (stp M i d)
theorem stp_lt {M i : Nat} (h : i < M) : ∀ d, stp M i d < M
  | 0 => h
  | d + 1 => nxt_lt (stp_lt h d)

/-- How far it is to a slot. -/
def dst (M z i : Nat) : Nat := if i ≤ z then z - i else z + M - i
theorem dst_nxt {M z i : Nat} (hi : i < M) (hz : z < M) (hne : i ≠ z) : dst M z (nxt M i) < dst M z i := by
  unfold dst nxt
  split <;> split <;> split <;> omega

/-- How many slots are taken. -/
def nz (s : Nat → Int) : Nat → Nat
  | 0 => 0
  | m + 1 => nz s m + (if s m = 0 then 0 else 1)

theorem nz_zero (s : Nat → Int) (h : ∀ i, s i = 0) : ∀ m, nz s m = 0
  | 0 => rfl
  | m + 1 => by unfold nz; rw [nz_zero s h m, if_pos (h m)]

theorem nz_free (s : Nat → Int) : ∀ m, nz s m < m → ∃ i, i < m ∧ s i = 0
  | 0, h => by omega
  | m + 1, h => by
    unfold nz at h
    by_cases e : s m = 0
    · exact ⟨m, by omega, e⟩
    · rw [if_neg e] at h
      obtain ⟨i, hi, hs⟩ := nz_free s m (by omega)
      exact ⟨i, by omega, hs⟩

/-- A slot is set. -/
def upd (s : Nat → Int) (r : Nat) (v : Int) : Nat → Int := fun i => if i = r then v else s i
theorem upd_same (s : Nat → Int) (r : Nat) (v : Int) : upd s r v r = v := by simp [upd]
theorem upd_other (s : Nat → Int) {r i : Nat} (v : Int) (h : i ≠ r) : upd s r v i = s i := by simp [upd, h]

theorem nz_upd (s : Nat → Int) (r : Nat) (v : Int) : ∀ m, nz (upd s r v) m ≤ nz s m + (if r < m then 1 else 0)
  | 0 => by simp [nz]
  | m + 1 => by
    have ih := nz_upd s r v m
    unfold nz
    by_cases e : m = r
    · subst e
      rw [if_neg (by omega)] at ih
      rw [if_pos (by omega : m < m + 1)]
      split <;> split <;> omega
    · rw [upd_other s v e]
      have : (if r < m + 1 then 1 else 0) = (if r < m then 1 else 0) := by
        by_cases hr : r < m
        · rw [if_pos hr, if_pos (by omega)]
        · rw [if_neg hr, if_neg (by omega)]
      rw [this]
      omega

/-- Where a variable is looked for first, of 2 ^ wd slots. -/
def hsh (wd : Nat) (v : Int) : Nat := ((v % 4294967296 * 2654435769 % 4294967296) / 2 ^ (32 - wd)).toNat

theorem hsh_lt (wd : Nat) (v : Int) (hw : wd ≤ 32) : hsh wd v < 2 ^ wd := by
  unfold hsh
  have h0 : 0 ≤ v % 4294967296 * 2654435769 % 4294967296 := Int.emod_nonneg _ (by decide)
  have h1 : v % 4294967296 * 2654435769 % 4294967296 < 4294967296 := Int.emod_lt_of_pos _ (by decide)
  generalize v % 4294967296 * 2654435769 % 4294967296 = x at *
  have hp : (2 : Int) ^ (32 - wd) * 2 ^ wd = 4294967296 := by
    rw [← Int.pow_add]
    have : 32 - wd + wd = 32 := by omega
    rw [this]; decide
  have hpos : (0 : Int) < 2 ^ (32 - wd) := Int.pow_pos (by decide)
  have hq : x / 2 ^ (32 - wd) < 2 ^ wd := by
    rw [Int.ediv_lt_iff_lt_mul hpos, Int.mul_comm, hp]
    exact h1
  have hq0 : 0 ≤ x / 2 ^ (32 - wd) := Int.ediv_nonneg h0 (by omega)
  have hc : ((2 ^ wd : Nat) : Int) = (2 : Int) ^ wd := by simp
  omega

/-- What a slot's place is of: not this variable, and it is taken. -/
def Past (ts : List As) (s : Nat → Int) (v : Int) (i : Nat) : Prop := s i ≠ 0 ∧ varI (nth ts ((s i).toNat - 1)).lit ≠ v

/-- The table of the first k places. -/
structure Tab (ts : List As) (k wd : Nat) (s : Nat → Int) : Prop where
  wd6 : wd ≤ 6
  kl : k ≤ ts.length
  room : ts.length < 2 ^ wd
  ent : ∀ i, i < 2 ^ wd → s i = 0 ∨ (1 ≤ s i ∧ s i ≤ k)
  nzl : nz s (2 ^ wd) ≤ k
  fnd : ∀ j, j < k → ∃ d, s (stp (2 ^ wd) (hsh wd (varI (nth ts j).lit)) d) = j + 1 ∧ ∀ e, e < d → Past ts s (varI (nth ts j).lit) (stp (2 ^ wd) (hsh wd (varI (nth ts j).lit)) e)

theorem Tab.free {ts : List As} {k wd : Nat} {s : Nat → Int} (h : Tab ts k wd s) : ∃ z, z < 2 ^ wd ∧ s z = 0 :=
  nz_free s _ (by have := h.nzl; have := h.kl; have := h.room; omega)

theorem pow6 {wd : Nat} (h : wd ≤ 6) : 1 ≤ 2 ^ wd ∧ 2 ^ wd ≤ 64 := by
  match wd, h with
  | 0, _ | 1, _ | 2, _ | 3, _ | 4, _ | 5, _ | 6, _ => decide

/-- A slot at which the looking ends. -/
structure End (ts : List As) (wd : Nat) (s : Nat → Int) (v : Int) (r : Nat) : Prop where
  lt : r < 2 ^ wd
  way : ∃ d, r = stp (2 ^ wd) (hsh wd v) d ∧ ∀ e, e < d → Past ts s v (stp (2 ^ wd) (hsh wd v) e)
  stop : s r = 0 ∨ varI (nth ts ((s r).toNat - 1)).lit = v

/-- What is found. -/
theorem Tab.place {ts : List As} {k wd : Nat} {s : Nat → Int} {v : Int} {r : Nat} (h : Tab ts k wd s) (hd : Dst (ts.take k)) (he : End ts wd s v r) : s r - 1 = atI (ts.take k) v := by
  have hlk : (ts.take k).length = k := len_take h.kl
  by_cases e0 : s r = 0
  · obtain ⟨d, er, hp⟩ := he.way
    rw [e0]
    rw [atI_none]
    · rfl
    intro j hj e
    rw [hlk] at hj
    rw [nth_take hj] at e
    obtain ⟨dj, h1, h2⟩ := h.fnd j hj
    rw [e] at h1 h2
    rcases Nat.lt_trichotomy d dj with hlt | heq | hlt
    · have := (h2 d hlt).1
      rw [← er] at this
      exact this e0
    · rw [← heq, ← er] at h1
      omega
    · have := (hp dj hlt).2
      rw [h1] at this
      apply this
      have : ((j : Int) + 1).toNat - 1 = j := by omega
      rw [this]; exact e
  · have hs := he.stop.resolve_left e0
    have hb := (h.ent r he.lt).resolve_left e0
    have hj : ((s r).toNat - 1) < k := by omega
    rw [atI_one hd (by rw [hlk]; exact hj) (by rw [nth_take hj]; exact hs)]
    omega

/-- One more is read. -/
theorem Tab.more {ts : List As} {k wd : Nat} {s : Nat → Int} {r : Nat} (h : Tab ts k wd s) (hk : k < ts.length) (he : End ts wd s (varI (nth ts k).lit) r) (h0 : s r = 0) :
    Tab ts (k + 1) wd (upd s r (k + 1)) where
  wd6 := h.wd6
  kl := hk
  room := h.room
  ent i hi := by
    by_cases e : i = r
    · subst e; rw [upd_same]; right; omega
    · rw [upd_other _ _ e]
      have := h.ent i hi
      omega
  nzl := by
    have := nz_upd s r (k + 1) (2 ^ wd)
    have := h.nzl
    split at * <;> omega
  fnd j hj := by
    by_cases e : j = k
    · subst e
      obtain ⟨d, er, hp⟩ := he.way
      refine ⟨d, by rw [← er, upd_same], fun q hq => ?_⟩
      have := hp q hq
      have hne : stp (2 ^ wd) (hsh wd (varI (nth ts j).lit)) q ≠ r := fun e2 => by rw [e2] at this; exact this.1 h0
      unfold Past at *
      rw [upd_other _ _ hne]
      exact this
    · obtain ⟨d, h1, h2⟩ := h.fnd j (by omega)
      have hne : ∀ i, s i ≠ 0 → i ≠ r := fun i hi e2 => by rw [e2] at hi; exact hi h0
      refine ⟨d, by rw [upd_other _ _ (hne _ (by rw [h1]; omega))]; exact h1, fun q hq => ?_⟩
      have := h2 q hq
      unfold Past at *
      rw [upd_other _ _ (hne _ this.1)]
      exact this

theorem Tab.zero {ts : List As} {wd : Nat} (h6 : wd ≤ 6) (hr : ts.length < 2 ^ wd) : Tab ts 0 wd (fun _ => 0) where
  wd6 := h6
  kl := Nat.zero_le _
  room := hr
  ent i _ := .inl rfl
  nzl := by rw [nz_zero _ (fun _ => rfl)]; omega
  fnd j hj := by omega

theorem End.go {ts : List As} {wd : Nat} {s : Nat → Int} {v : Int} {i : Nat} (h : ∃ d, i = stp (2 ^ wd) (hsh wd v) d ∧ ∀ e, e < d → Past ts s v (stp (2 ^ wd) (hsh wd v) e)) (hp : Past ts s v i) :
    ∃ d, nxt (2 ^ wd) i = stp (2 ^ wd) (hsh wd v) d ∧ ∀ e, e < d → Past ts s v (stp (2 ^ wd) (hsh wd v) e) := by
  obtain ⟨d, e, h⟩ := h
  refine ⟨d + 1, by rw [e]; rfl, fun q hq => ?_⟩
  by_cases e2 : q = d
  · subst e2; rw [← e]; exact hp
  · exact h q (by omega)

theorem End.one {ts : List As} {wd : Nat} {s : Nat → Int} {v : Int} {r r' : Nat} (h : End ts wd s v r) (h' : End ts wd s v r') : r = r' := by
  obtain ⟨d, e, hp⟩ := h.way
  obtain ⟨d', e', hp'⟩ := h'.way
  rcases Nat.lt_trichotomy d d' with hlt | heq | hlt
  · have := hp' d hlt
    rw [← e] at this
    rcases h.stop with h1 | h1
    · exact absurd h1 this.1
    · exact absurd h1 this.2
  · rw [e, e', heq]
  · have := hp d' hlt
    rw [← e'] at this
    rcases h'.stop with h1 | h1
    · exact absurd h1 this.1
    · exact absurd h1 this.2

theorem Tab.end_ex {ts : List As} {k wd : Nat} {s : Nat → Int} (h : Tab ts k wd s) (v : Int) : ∃ r, End ts wd s v r := by
  obtain ⟨z, hz, hz0⟩ := h.free
  have go : ∀ m i, dst (2 ^ wd) z i ≤ m → i < 2 ^ wd → (∃ d, i = stp (2 ^ wd) (hsh wd v) d ∧ ∀ e, e < d → Past ts s v (stp (2 ^ wd) (hsh wd v) e)) → ∃ r, End ts wd s v r := by
    intro m
    induction m with
    | zero =>
      intro i hm hi hw
      have : i = z := by unfold dst at hm; split at hm <;> omega
      subst this
      exact ⟨i, hi, hw, .inl hz0⟩
    | succ m ih =>
      intro i hm hi hw
      by_cases hp : Past ts s v i
      · have hne : i ≠ z := fun e => by rw [e] at hp; exact hp.1 hz0
        exact ih _ (by have := dst_nxt hi hz hne; omega) (nxt_lt hi) (End.go hw hp)
      · refine ⟨i, hi, hw, ?_⟩
        unfold Past at hp
        by_cases e0 : s i = 0
        · exact .inl e0
        · right
          by_cases e1 : varI (nth ts ((s i).toNat - 1)).lit = v
          · exact e1
          · exact absurd ⟨e0, e1⟩ hp
  exact go _ _ (Nat.le_refl _) (hsh_lt wd v (by have := h.wd6; omega)) ⟨0, rfl, fun e he => by omega⟩

end Go.Proofs.Ytaepanmkofhgoaa
