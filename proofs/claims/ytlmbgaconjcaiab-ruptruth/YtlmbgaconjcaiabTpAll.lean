/- Joined: What a proof proves: nothing makes the formula hold: plain. Models of few variables: plain. Contracts of the document: values of clauses and formulas by a model. Contracts of the document: the model of a number; whether a formula holds by some model. The law of what a proof proves, walked. -/
import Derived.Test.YtlmbgaconjcaiabJhAll
import Derived.Test.YtlmbgaconjcaiabRIAll
import Derived.Test.YtlmbgaconjcaiabJjAll
import Derived.Test.YtlmbgaconjcaiabRkAll
set_option linter.unusedVariables false
set_option linter.unusedSimpArgs false
namespace Go.Proofs.Ytlmbgaconjcaiab

/-- Values of literals. -/
structure Vv (v : Int → Int) : Prop where
  neg : ∀ x, v (-x) = - v x
  one : ∀ x, x ≠ 0 → v x = 1 ∨ v x = -1
def SatC (css : List (List Int)) (v : Int → Int) : Prop := ∀ c ∈ css, ∃ x ∈ c, v x = 1

section
variable {v : Int → Int} {css : List (List Int)} {c t : List Int}
theorem Vv.no (h : Vv v) {x : Int} (h0 : x ≠ 0) (h1 : v x ≠ 1) : v (-x) = 1 := by
  rw [h.neg]
  rcases h.one x h0 with q | q
  · exact absurd q h1
  · rw [q]; rfl
theorem Vv.both (h : Vv v) {x : Int} (h1 : v x = 1) (h2 : v (-x) = 1) : False := by
  rw [h.neg, h1] at h2; omega
/-- What follows by units is true. -/
theorem follows_sound (hv : Vv v) (h : SatC css v) (h0 : ∀ c ∈ css, (0 : Int) ∉ c) : ∀ (fuel : Nat) (t : List Int), (∀ x ∈ t, v x = 1) → (followsP css fuel t).2 = false
  | 0, t, ht => rfl
  | k + 1, t, ht => by
    unfold followsP
    cases e : nextP t css 0 with
    | none =>
      obtain ⟨c, hc, hb⟩ := nextP_none css 0 e
      obtain ⟨x, hx, hx1⟩ := h c hc
      unfold brokenP at hb
      rw [List.all_eq_true] at hb
      exact (hv.both hx1 (ht _ (by simpa using hb x hx))).elim
    | some u =>
      simp only
      by_cases hu : u = 0
      · rw [if_pos hu]
      · rw [if_neg hu]
        obtain ⟨a1, a2, a3⟩ := nextP_some css 0 u e
        refine follows_sound hv h h0 k _ (fun x hx => ?_)
        rcases List.mem_append.1 hx with hx | hx
        · exact ht x hx
        · obtain rfl : x = u := by simpa using hx
          rcases a3 hu with q | ⟨c, hc, q⟩
          · exact absurd q hu
          · have hne : unitR t c 0 ≠ 0 := by rw [← q]; exact hu
            obtain ⟨b1, b2, b3, b4⟩ := unit_ne (h0 c hc) hne
            obtain ⟨y, hy, hy1⟩ := h c hc
            rcases b4 y hy with r | r
            · rw [q, ← r]; exact hy1
            · exact (hv.both hy1 (ht _ r)).elim
/-- A clause that is at hand by units is true. -/
theorem refU_sound (hv : Vv v) (h : SatC css v) (h0 : ∀ c ∈ css, (0 : Int) ∉ c) (hc : (0 : Int) ∉ c) (hU : refU css c = true) : ∃ x ∈ c, v x = 1 := by
  by_cases hx : ∃ x ∈ c, v x = 1
  · exact hx
  · have hall : ∀ x ∈ c, v (-x) = 1 := fun x hm => hv.no (fun e => hc (e ▸ hm)) (fun e => hx ⟨x, hm, e⟩)
    unfold refU at hU
    cases ht : tautB c with
    | true =>
      unfold tautB at ht
      rw [List.any_eq_true] at ht
      obtain ⟨x, hm, hh⟩ := ht
      have hm2 := (hasB_i c (-x)).1 hh
      exact ⟨-x, hm2, hall x hm⟩
    | false =>
      rw [ht] at hU
      have := follows_sound hv h h0 100001 (c.map fun x => -x) (fun x hx => by
        obtain ⟨y, hy, rfl⟩ := List.mem_map.1 hx
        exact hall y hy)
      rw [this] at hU
      cases hU
def turnV (v : Int → Int) (l : Int) : Int → Int := fun x => if x = l then 1 else if x = -l then -1 else v x
theorem turnV_ok (hv : Vv v) {l : Int} (h0 : l ≠ 0) : Vv (turnV v l) ∧ turnV v l l = 1 ∧ ∀ x, x ≠ l → x ≠ -l → turnV v l x = v x := by
  refine ⟨⟨fun x => ?_, fun x hx => ?_⟩, by simp [turnV], fun x h1 h2 => by simp [turnV, h1, h2]⟩
  · unfold turnV
    by_cases e1 : x = l
    · subst e1
      rw [if_neg (by omega), if_pos rfl, if_pos rfl]
    · by_cases e2 : x = -l
      · subst e2
        rw [if_pos (by omega), if_neg (by omega), if_pos rfl]; rfl
      · rw [if_neg (by omega), if_neg (by omega), if_neg e1, if_neg e2]; exact hv.neg x
  · unfold turnV
    split
    · exact .inl rfl
    · split
      · exact .inr rfl
      · exact hv.one x hx
/-- A clause that is at hand by its first literal may turn the values, but some are left. -/
theorem refF_sound (hv : Vv v) (h : SatC css v) (h0 : ∀ c ∈ css, (0 : Int) ∉ c) (hc : (0 : Int) ∉ c) (hF : refF css c = true) : ∃ v', Vv v' ∧ SatC (css ++ [c]) v' := by
  by_cases hx : ∃ x ∈ c, v x = 1
  · exact ⟨v, hv, fun d hd => by
      rcases List.mem_append.1 hd with hd | hd
      · exact h d hd
      · obtain rfl : d = c := by simpa using hd
        exact hx⟩
  · cases c with
    | nil => cases hF
    | cons l0 r =>
      have hl0 : l0 ≠ 0 := fun e => hc (by simp [e])
      obtain ⟨t1, t2, t3⟩ := turnV_ok hv hl0
      have hnl : v l0 ≠ 1 := fun e => hx ⟨l0, by simp, e⟩
      refine ⟨turnV v l0, t1, fun d hd => ?_⟩
      rcases List.mem_append.1 hd with hd | hd
      · by_cases hm : -l0 ∈ d
        · have hF1 : refF1 css (l0 :: r) (-l0) d = true := by
            have hF' : css.all (refF1 css (l0 :: r) (-l0)) = true := hF
            rw [List.all_eq_true] at hF'
            exact hF' d hd
          unfold refF1 at hF1
          rw [(hasB_i d _).2 hm] at hF1
          simp only [Bool.not_true, Bool.false_or, Bool.and_eq_true, decide_eq_true_eq] at hF1
          obtain ⟨x, hx1, hx2⟩ := refU_sound hv h h0 (c := (l0 :: r) ++ wo d (-l0)) (by
            intro hz
            rcases List.mem_append.1 hz with hz | hz
            · exact hc hz
            · exact h0 d hd (List.mem_filter.1 hz).1) hF1.2
          rcases List.mem_append.1 hx1 with hx1 | hx1
          · exact absurd ⟨x, hx1, hx2⟩ hx
          · obtain ⟨y1, y2⟩ := List.mem_filter.1 hx1
            have hne : x ≠ -l0 := by simpa using y2
            have hne2 : x ≠ l0 := fun e => hnl (e ▸ hx2)
            exact ⟨x, y1, by rw [t3 x hne2 hne]; exact hx2⟩
        · obtain ⟨x, hx1, hx2⟩ := h d hd
          have hne : x ≠ -l0 := fun e => hm (e ▸ hx1)
          have hne2 : x ≠ l0 := fun e => hnl (e ▸ hx2)
          exact ⟨x, hx1, by rw [t3 x hne2 hne]; exact hx2⟩
      · obtain rfl : d = l0 :: r := by simpa using hd
        exact ⟨l0, by simp, t2⟩
end

theorem remO_subT (c : List Int) : ∀ css : List (List Int), ∀ d ∈ remO css c, d ∈ css
  | [], d, h => by simp [remO] at h
  | e :: r, d, h => by
    unfold remO at h
    split at h
    · exact List.mem_cons_of_mem _ h
    · rcases List.mem_cons.1 h with h | h
      · rw [h]; exact List.mem_cons_self
      · exact List.mem_cons_of_mem _ (remO_subT c r d h)
/-- What a proof proves. -/
theorem proves_sound : ∀ (l : List StD) (V : Nat) (css : List (List Int)) (i : Int), (∀ x ∈ l, (0 : Int) ∉ x.c) → (∀ c ∈ css, (0 : Int) ∉ c) → (provesP V css l i).2 = 0 → ∀ v, Vv v → ¬ SatC css v
  | [], V, css, i, _, _, h => by simp [provesP] at h
  | x :: r, V, css, i, hl, h0, h => by
    intro v hv hS
    have hx0 := hl x List.mem_cons_self
    have hlr : ∀ y ∈ r, (0 : Int) ∉ y.c := fun y hy => hl y (List.mem_cons_of_mem _ hy)
    unfold provesP at h
    by_cases hE : docE css x.d x.c ≠ 0
    · rw [if_pos hE] at h
      exact hE h
    · rw [if_neg hE] at h
      have hE0 : docE css x.d x.c = 0 := Classical.not_not.1 hE
      cases hd : x.d with
      | true =>
        rw [if_neg (by rw [hd]; simp)] at h
        have hC : docC css x.d x.c = remO css x.c := by unfold docC; rw [hd]; rfl
        rw [hC] at h
        exact proves_sound r _ _ _ hlr (fun d hd => h0 d (remO_subT _ _ d hd)) h v hv (fun d hd => hS d (remO_subT _ _ d hd))
      | false =>
        have hor : (refU css x.c || refF css x.c) = true := by
          cases e : (refU css x.c || refF css x.c) with
          | true => rfl
          | false =>
            unfold docE at hE0
            rw [hd, e] at hE0
            simp at hE0
        have hC : docC css x.d x.c = css ++ [x.c] := by unfold docC; rw [hd, hor]; rfl
        by_cases hc : x.c = []
        · rw [hc] at hor
          have hU : refU css [] = true := by
            cases e : refU css [] with
            | true => rfl
            | false => rw [e] at hor; cases hor
          obtain ⟨y, hy, _⟩ := refU_sound hv hS h0 (by simp) hU
          simp at hy
        · rw [if_neg (fun q => hc q.2), hC] at h
          have h0' : ∀ d ∈ css ++ [x.c], (0 : Int) ∉ d := fun d hd => by
            rcases List.mem_append.1 hd with hd | hd
            · exact h0 d hd
            · obtain rfl : d = x.c := by simpa using hd
              exact hx0
          rcases Bool.or_eq_true_iff.1 hor with hU | hF
          · obtain hy := refU_sound hv hS h0 hx0 hU
            refine proves_sound r _ _ _ hlr h0' h v hv (fun d hd => ?_)
            rcases List.mem_append.1 hd with hd | hd
            · exact hS d hd
            · obtain rfl : d = x.c := by simpa using hd
              exact hy
          · obtain ⟨v', hv', hS'⟩ := refF_sound hv hS h0 hx0 hF
            exact proves_sound r _ _ _ hlr h0' h v' hv' hS'
end Go.Proofs.Ytlmbgaconjcaiab

namespace Go.Proofs.Ytlmbgaconjcaiab

/-- The model of a number. -/
def modelL : Nat → Nat → List Int
  | 0, _ => []
  | V + 1, n => (if n % 2 = 1 then 1 else -1) :: modelL V (n / 2)
theorem modelL_len : ∀ V n : Nat, (modelL V n).length = V
  | 0, _ => rfl
  | V + 1, n => by simp [modelL, modelL_len V]
theorem modelL_mem : ∀ (V n : Nat), ∀ x ∈ modelL V n, x = 1 ∨ x = -1
  | 0, _, x, h => by simp [modelL] at h
  | V + 1, n, x, h => by
    simp only [modelL, List.mem_cons] at h
    rcases h with h | h
    · split at h
      · exact .inl h
      · exact .inr h
    · exact modelL_mem V _ x h
theorem modelL_sur : ∀ m : List Int, (∀ x ∈ m, x = 1 ∨ x = -1) → ∃ n, n < 2 ^ m.length ∧ modelL m.length n = m
  | [], _ => ⟨0, by simp, rfl⟩
  | x :: r, h => by
    obtain ⟨n, hn, e⟩ := modelL_sur r (fun y hy => h y (List.mem_cons_of_mem _ hy))
    have hp : 2 ^ (x :: r).length = 2 * 2 ^ r.length := by simp [Nat.pow_succ]; omega
    rcases h x (by simp) with rfl | rfl
    · refine ⟨2 * n + 1, by omega, ?_⟩
      show (if (2 * n + 1) % 2 = 1 then (1 : Int) else -1) :: modelL r.length ((2 * n + 1) / 2) = _
      rw [if_pos (by omega), show (2 * n + 1) / 2 = n by omega, e]
    · refine ⟨2 * n, by omega, ?_⟩
      show (if (2 * n) % 2 = 1 then (1 : Int) else -1) :: modelL r.length ((2 * n) / 2) = _
      rw [if_neg (by omega), show (2 * n) / 2 = n by omega, e]

/-- Whether a formula of few variables holds by some model. -/
def satB (V : Nat) (css : List (List Int)) : Bool := (List.range (2 ^ V)).any (fun n => holdsB (modelL V n) css)
theorem satB_iff (V : Nat) (css : List (List Int)) : satB V css = true ↔ ∃ m : List Int, m.length = V ∧ (∀ x ∈ m, x = 1 ∨ x = -1) ∧ holdsB m css = true := by
  unfold satB
  rw [List.any_eq_true]
  constructor
  · rintro ⟨n, _, h⟩
    exact ⟨modelL V n, modelL_len V n, modelL_mem V n, h⟩
  · rintro ⟨m, rfl, h1, h2⟩
    obtain ⟨n, hn, e⟩ := modelL_sur m h1
    exact ⟨n, List.mem_range.2 hn, by rw [e]; exact h2⟩

theorem holds_mk {m : List Int} {css : List (List Int)} (h : ∀ c ∈ css, ∃ x ∈ c, valI m x = 1) : holdsB m css = true := by
  unfold holdsB
  rw [List.all_eq_true]
  intro c hc
  obtain ⟨x, hx, hv⟩ := h c hc
  have : clauseI m c = 1 := clauseI_one (by rw [List.any_eq_true]; exact ⟨x, hx, by simp [hv]⟩)
  simp [this]

/-- A literal's value by a model of all variables. -/
theorem valI_tot {m : List Int} (h1 : ∀ x ∈ m, x = 1 ∨ x = -1) {l : Int} (h0 : l ≠ 0) (hl : l.natAbs ≤ m.length) (hm : m.length ≤ 1000) : valI m l = m.getD (l.natAbs - 1) 0 * sgn l ∧ (valI m l = 1 ∨ valI m l = -1) := by
  have hv : varI l = l.natAbs := by unfold varI; split <;> omega
  have hlb : litB l 1048576 = true := by unfold litB; simp; omega
  have hi : l.natAbs - 1 < m.length := by omega
  have hg : m.getD (l.natAbs - 1) 0 = m[l.natAbs - 1] := by rw [List.getD_eq_getElem?_getD, List.getElem?_eq_getElem hi]; rfl
  have hx := h1 _ (List.getElem_mem hi)
  have hs : sgn m[l.natAbs - 1] = m[l.natAbs - 1] := by
    rcases hx with h | h <;> rw [h] <;> rfl
  have e : valI m l = m.getD (l.natAbs - 1) 0 * sgn l := by
    unfold valI
    rw [if_pos (by simp [hlb, hv]; omega), hv, Int.toNat_natCast, hg, hs]
  refine ⟨e, ?_⟩
  rw [e, hg]
  have hsl : sgn l = 1 ∨ sgn l = -1 := by unfold sgn; split <;> (try split) <;> omega
  rcases hx with h | h <;> rcases hsl with h' | h' <;> rw [h, h'] <;> simp

/-- Where no values make a formula hold, no model does. -/
theorem sat_not {V : Nat} {css : List (List Int)} (hc : cnfB V css = true) (hV : V ≤ 8) (h : ∀ v, Vv v → ¬ SatC css v) : satB V css = false := by
  cases e : satB V css with
  | false => rfl
  | true =>
    exfalso
    obtain ⟨m, hm, h1, h2⟩ := (satB_iff V css).1 e
    have hlt := cnf_lt hc
    refine h (fun x => if x.natAbs ≤ V then valI m x else if 0 < x then 1 else -1) ⟨fun x => ?_, fun x hx => ?_⟩ (fun c hcm => ?_)
    · simp only [Int.natAbs_neg]
      by_cases hb : x.natAbs ≤ V
      · rw [if_pos hb, if_pos hb, valI_neg]
      · rw [if_neg hb, if_neg hb]
        split <;> split <;> omega
    · by_cases hb : x.natAbs ≤ V
      · rw [if_pos hb]; exact (valI_tot h1 hx (by omega) (by omega)).2
      · rw [if_neg hb]
        split
        · exact .inl rfl
        · exact .inr rfl
    · obtain ⟨x, hx, hv⟩ := holds_all h2 c hcm
      refine ⟨x, hx, ?_⟩
      have := (hlt c hcm).2 x hx
      unfold Lt at this
      show (if x.natAbs ≤ V then valI m x else if 0 < x then 1 else -1) = 1
      rw [if_pos (by omega)]; exact hv
end Go.Proofs.Ytlmbgaconjcaiab

namespace Go.Proofs.Ytlmbgaconjcaiab
open Go.RowKit

set_option maxHeartbeats 400000 in
theorem refValue_any (a : Option Addr) (cap : Nat) (m : List Int) (l : Int) (w : World) (hr : Row w a m) (hl : m.length ≤ maxLen) :
    Calls Try.prog 45 #[.slice a m.length cap, .int .i64 l] w fun e w' => e = .returned (.int .i64 (valI m l)) ∧ w' = w := by
  unfold maxLen at hl
  by_cases h0 : litB l 1048576 = true
  case neg =>
    have h0' : litB l 1048576 = false := by simpa using h0
    clear h0
    have HV := hide (valI_none (m := m) h0')
    clear hr
    go_enter Try.func45, Try.ntmps45
    go_wp2_with (go_at_call 18; refine (lit_any _ _).mono ?_; rintro e w' ⟨rfl, rfl⟩)
    go_ret
    exact ⟨ret_int HV.out.symm, rfl⟩
  have hb := litB_true.1 h0
  obtain ⟨hb0, hb1, hb2⟩ := hb
  have hv1 := varI_pos hb0
  have hv2 := (varI_bd hb1 hb2).2
  by_cases h1 : varI l ≤ m.length
  case neg =>
    have HV := hide (valI_beyond (m := m) (l := l) (by omega))
    have h1' : (m.length : Int) < varI l := by omega
    clear hr h1 hb0
    go_enter Try.func45, Try.ntmps45
    go_wp2_with (first | (go_at_call 18; refine (lit_any _ _).mono ?_; rintro e w' ⟨rfl, rfl⟩) | (go_at_call 12; refine (var_any _ _ hb1 hb2).mono ?_; rintro e w' ⟨rfl, rfl⟩))
    go_ret
    exact ⟨ret_int HV.out.symm, rfl⟩
  have HV := hide (valI_at h0 h1)
  obtain ⟨b, off, rfl, hb, hc⟩ := hr.at (varI l) hv1 h1
  clear hr
  generalize hxx : m.getD ((varI l).toNat - 1) 0 = x at *
  clear hxx
  have HL := hide hb0
  clear hb0
  by_cases hx : x = 0
  · have hx0 : (x == 0) = true := by simp [hx]
    have HS : Hid (sgn x = 0) := by rw [hx]; rfl
    clear hx
    go_enter Try.func45, Try.ntmps45
    go_wp2_with (first | (go_at_call 18; refine (lit_any _ _).mono ?_; rintro e w' ⟨rfl, rfl⟩) | (go_at_call 12; refine (var_any _ _ hb1 hb2).mono ?_; rintro e w' ⟨rfl, rfl⟩))
    go_ret
    exact ⟨ret_int (by rw [HV.out, HS.out]; simp), rfl⟩
  · have hx0 : (x == 0) = false := by simpa using hx
    clear hx
    go_enter Try.func45, Try.ntmps45
    go_wp2_with (first | (go_at_call 18; refine (lit_any _ _).mono ?_; rintro e w' ⟨rfl, rfl⟩) | (go_at_call 12; refine (var_any _ _ hb1 hb2).mono ?_; rintro e w' ⟨rfl, rfl⟩))
    · go_ret
      exact ⟨ret_int (by rw [HV.out]; exact sgn_same ‹_› hx0 HL.out), rfl⟩
    · go_ret
      exact ⟨ret_int (by rw [HV.out]; exact sgn_other ‹_› hx0 HL.out), rfl⟩

set_option maxHeartbeats 400000 in
theorem refClause_any (a b : Option Addr) (ca cb : Nat) (m c : List Int) (w : World) (hr : Row w a m) (hs : Row w b c) (hl : m.length ≤ maxLen) (hm : c.length ≤ maxLen) :
    Calls Try.prog 28 #[.slice a m.length ca, .slice b c.length cb] w fun e w' => e = .returned (.int .i64 (clauseI m c)) ∧ w' = w := by
  have hval := hide (fun l => refValue_any a ca m l w hr hl)
  clear hr
  unfold maxLen at hl hm
  go_enter Try.func28, Try.ntmps28
  go_wp2
  go_loop [5, 6] (fun v i => ∃ k : Nat, k ≤ c.length ∧ i = .int .i64 k ∧ v = .bool ((c.take k).any (fun l => valI m l == 0)) ∧ (c.take k).any (fun l => valI m l == 1) = false) (fun _ i => c.length - (intOf i).toNat)
  case atStart => exact ⟨0, Nat.zero_le _, rfl, rfl, rfl⟩
  case round =>
    obtain ⟨k, hk, rfl, rfl, hno⟩ := hrel
    have HN := hide hno
    clear hno
    by_cases hlt : k < c.length
    · obtain ⟨b1, off1, rfl, hb1, hc1⟩ := hs k hlt
      clear hs
      have HO := hide (any_take_or (fun l => valI m l == 0) c k hlt)
      generalize hv : valI m c[k] = v at *
      have HV := hide hv
      have HVV : Hid ((fun l => valI m l == 0) c[k] = (v == 0)) := by show (valI m c[k] == 0) = _; rw [hv]
      have hval' : Calls Try.prog 45 #[.slice a m.length ca, .int .i64 c[k]] w fun e w' => e = .returned (.int .i64 v) ∧ w' = w := by rw [← hv]; exact unhide hval _
      have hcl := hide hval'
      clear hval hval' hv
      by_cases h1 : v = 1
      · have h1' : (v == 1) = true := by simp [h1]
        have HF : Hid (clauseI m c = 1) := clauseI_one (any_true_at _ c k hlt (by have := HV.out; show (valI m c[k] == 1) = true; rw [this]; exact h1'))
        clear h1
        go_wp2_with (go_at_call 45; refine (unhide hcl).mono ?_; rintro e w' ⟨rfl, rfl⟩)
        go_ret
        exact ⟨ret_int HF.out.symm, rfl⟩
      · have h1' : (v == 1) = false := by simp [h1]
        have HF : Hid ((c.take (k + 1)).any (fun l => valI m l == 1) = false) := any_take_snoc _ c k hlt HN.out (by have := HV.out; show (valI m c[k] == 1) = false; rw [this]; exact h1')
        clear h1
        generalize hop : (c.take k).any (fun l => valI m l == 0) = op at *
        have HOP := hide hop
        clear hop
        cases op
        all_goals
          go_wp2_with (go_at_call 45; refine (unhide hcl).mono ?_; rintro e w' ⟨rfl, rfl⟩)
          go_round
          case rel => exact ⟨k + 1, by omega, by go_num, by rw [HO.out]; first | rfl | simp, HF.out⟩
          case measure => simp [intOf]; omega
    · clear hs
      have hz : c.length ≤ k := by omega
      have HN' := hide (any_of_take hz HN.out)
      have HO : Hid ((c.take k).any (fun l => valI m l == 0) = c.any (fun l => valI m l == 0)) := by show _ = _; rw [List.take_of_length_le hz]
      generalize hop : (c.take k).any (fun l => valI m l == 0) = op at *
      clear hop
      cases op
      · go_wp2
        go_ret
        exact ⟨ret_int (clauseI_low HN'.out HO.out.symm).symm, rfl⟩
      · go_wp2
        go_ret
        exact ⟨ret_int (clauseI_zero HN'.out HO.out.symm).symm, rfl⟩

set_option maxHeartbeats 1000000 in
theorem refHolds_any (a am : Option Addr) (cap cm : Nat) (n : Int) (css : List (List Int)) (m : List Int) (w : World) (hg : Grid w a css) (hl : css.length ≤ maxLen) (hq : Row w am m) (hml : m.length ≤ maxLen) :
    Calls Try.prog 16 #[.agg #[.int .i64 n, .slice a css.length cap], .slice am m.length cm] w fun e w' => e = .returned (.bool (holdsB m css)) ∧ Below w.heap.size w w' := by
  have hbW := below_alloc w (.cells #[.int .i64 n, .slice a css.length cap] 24)
  have hg' := hg.below hbW
  have hq' := hq.below hbW
  clear hg hq
  have HB := hide hbW
  have HQ := hide hq'
  have HML := hide hml
  clear hbW hq' hml
  unfold maxLen at hl
  go_enter Try.func16, Try.ntmps16
  go_wp2
  go_loop [5] (fun i => ∃ k : Nat, k ≤ css.length ∧ i = .int .i64 k ∧ (css.take k).all (fun c => clauseI m c == 1) = true) (fun i => css.length - (intOf i).toNat)
  case atStart => exact ⟨0, Nat.zero_le _, rfl, rfl⟩
  case round =>
    obtain ⟨k, hk, rfl, hno⟩ := hrel
    have HN := hide hno
    clear hno
    by_cases hlt : k < css.length
    · obtain ⟨b, off, ai, ci, rfl, hb, hc, hr, hm⟩ := hg' k hlt
      have C1 := hide (refClause_any am ai cm ci m css[k] _ HQ.out hr HML.out hm)
      clear hg' hr
      unfold maxLen at hm
      by_cases h5 : clauseI m css[k] = 1
      · have h5' : (clauseI m css[k] != 1) = false := by simp [h5]
        have HF := hide (allL_take_snoc (fun c => clauseI m c == 1) css k hlt HN.out (by simp [h5]))
        clear h5
        generalize clauseI m css[k] = q at *
        go_wp2_with (go_at_call 28; refine (unhide C1).mono ?_; rintro e w' ⟨rfl, rfl⟩)
        go_round
        case rel => exact ⟨k + 1, by omega, by go_num, HF.out⟩
        case measure => simp [intOf]; omega
      · have h5' : (clauseI m css[k] != 1) = true := by simp [h5]
        have HF := hide (allL_false_at (fun c => clauseI m c == 1) css k hlt (by simp [h5]))
        clear h5
        generalize clauseI m css[k] = q at *
        go_wp2_with (go_at_call 28; refine (unhide C1).mono ?_; rintro e w' ⟨rfl, rfl⟩)
        go_ret
        exact ⟨ret_bool HF.out.symm, HB.out⟩
    · clear hg'
      have HF := hide (allL_of_take (p := fun c => clauseI m c == 1) (xs := css) (k := k) (by omega) HN.out)
      go_wp2
      go_ret
      exact ⟨ret_bool HF.out.symm, HB.out⟩

end Go.Proofs.Ytlmbgaconjcaiab

namespace Go.Proofs.Ytlmbgaconjcaiab
open Go.RowKit

set_option maxHeartbeats 1000000 in
theorem model_any (V n : Nat) (w : World) (hV : V ≤ 20) (hn : n ≤ 1048576) :
    Calls Try.prog 17 #[.int .i64 (V : Int), .int .i64 (n : Int)] w fun e w' => ∃ g cap, e = .returned (.slice (some ⟨g, 0, none⟩) V cap) ∧ Row w' (some ⟨g, 0, none⟩) (modelL V n) ∧ Below w.heap.size w w' := by
  obtain ⟨i0, hi, hz0, hz1, hz2⟩ := info_parts Try.info3
  go_enter Try.func17, Try.ntmps17
  go_wp2
  go_loopw [1, 5, 6] (fun q v j wr => ∃ (i nn : Nat) (pre : List Int), i ≤ V ∧ nn ≤ 1048576 ∧ q = .int .i64 (nn : Int) ∧ j = .int .i64 (i : Int) ∧ Own w.heap.size wr v pre ∧ v ≠ .slice none 0 0 ∧ Hid (pre.length = i) ∧ Hid (modelL V n = pre ++ modelL (V - i) nn) ∧ Below w.heap.size w wr) (fun _ _ j _ => V - (intOf j).toNat)
  case atStart => exact ⟨0, n, [], Nat.zero_le _, hn, rfl, rfl, World.ownsRow_lit (e := 3) (size := 1) w #[] 0 (Nat.le_refl _) (Nat.zero_le _) rfl, (by simp), rfl, rfl, (Below.refl _ _).alloc (Nat.le_refl _) _⟩
  case round =>
    obtain ⟨i, nn, pre, hi', hnn', rfl, rfl, hown, hnn, HL, HM, hbel⟩ := hrel
    by_cases hlt : i < V
    · have HM2 : Hid (modelL V n = (pre ++ [if nn % 2 = 1 then 1 else -1]) ++ modelL (V - (i + 1)) (nn / 2)) := by
        unfold Hid
        rw [HM.out, show V - i = (V - (i + 1)) + 1 by omega]
        simp [modelL]
      have hpl : pre.length ≤ 20 := by rw [HL.out]; omega
      by_cases ho : nn % 2 = 1
      · have hoi : (nn : Int) % 2 = 1 := by omega
        have hob : (((nn : Int) % 2) == 1) = true := by simpa using hoi
        rw [if_pos ho] at HM2
        go_wp2_with (at_builtin; refine wpList_append_own _ rfl _ _ 32 rfl w.heap.size 3 i0 (.int .i64 0) 1 8 Try.underlying32 hi hz0 hz1 hz2 rfl (by decide) _ _ _ rfl (hown.alloc _) ⟨wr.heap.size, 0, none⟩ 1 1 [.int .i64 1] rfl rfl (cell_one_new _ _ _) (fun y hy => by simp at hy; subst hy; rfl) (by unfold maxLen; omega) (by omega) (by have := hbel.size; simp; omega) ?_; intro v' w2 hown2 hgrow2 hnil)
        have hnn2 : v' ≠ .slice none 0 0 := fun h => absurd (hnil.1 h).2 (by decide)
        have hown3 := own_snoc (ys := pre ++ [1]) hown2 rfl
        have hbel3 := ((hbel.alloc hbel.size (.cells #[.int .i64 1] 3)).grown hgrow2 (by have := hbel.size; simp; omega) (fun g hg => (hown.lt g hg).1))
        clear hown2 hgrow2 hnil
        go_wp2
        go_roundw
        case rel => exact ⟨i + 1, nn / 2, pre ++ [1], by omega, by omega, by go_num, by go_num, hown3, hnn2, by unfold Hid; rw [List.length_append, HL.out]; rfl, HM2, hbel3⟩
        case measure => simp [intOf]; omega
      · have hoi : ¬ (nn : Int) % 2 = 1 := by omega
        have hob : (((nn : Int) % 2) == 1) = false := by simpa using hoi
        rw [if_neg ho] at HM2
        go_wp2_with (at_builtin; refine wpList_append_own _ rfl _ _ 32 rfl w.heap.size 3 i0 (.int .i64 0) 1 8 Try.underlying32 hi hz0 hz1 hz2 rfl (by decide) _ _ _ rfl (hown.alloc _) ⟨wr.heap.size, 0, none⟩ 1 1 [.int .i64 (-1)] rfl rfl (cell_one_new _ _ _) (fun y hy => by simp at hy; subst hy; rfl) (by unfold maxLen; omega) (by omega) (by have := hbel.size; simp; omega) ?_; intro v' w2 hown2 hgrow2 hnil)
        have hnn2 : v' ≠ .slice none 0 0 := fun h => absurd (hnil.1 h).2 (by decide)
        have hown3 := own_snoc (ys := pre ++ [-1]) hown2 rfl
        have hbel3 := ((hbel.alloc hbel.size (.cells #[.int .i64 (-1)] 3)).grown hgrow2 (by have := hbel.size; simp; omega) (fun g hg => (hown.lt g hg).1))
        clear hown2 hgrow2 hnil
        go_wp2
        go_roundw
        case rel => exact ⟨i + 1, nn / 2, pre ++ [-1], by omega, by omega, by go_num, by go_num, hown3, hnn2, by unfold Hid; rw [List.length_append, HL.out]; rfl, HM2, hbel3⟩
        case measure => simp [intOf]; omega
    · obtain rfl : i = V := by omega
      have e : modelL i n = pre := by rw [HM.out, Nat.sub_self]; simp [modelL]
      obtain ⟨a2, cap2, rfl, hrow2, _⟩ := hown.row
      obtain ⟨a3, cap3, e3, _, _, h3⟩ := own_form hown
      simp at e3
      obtain ⟨rfl, rfl⟩ := e3
      have HE := hide e
      have HROW := hide hrow2
      clear e hrow2 hown
      rcases h3 with ⟨rfl, h4, rfl⟩ | ⟨g, rfl, _⟩
      · exact absurd (by rw [h4]) hnn
      · go_wp2
        go_ret
        exact ⟨g, cap2, by rw [HL.out]; rfl, by rw [HE.out]; exact HROW.out, hbel⟩

/-- A formula in its box, behind what was there. -/
structure Bx7 (w W : World) (X : Nat) (n : Int) (v : Value) : Prop where
  box : W.heap[X]? = some (.cells #[.int .i64 n, v] 24 (0, 0))
  bel : Below w.heap.size w W
section
variable {w W W' : World} {X : Nat} {n : Int} {v : Value}
theorem Bx7.c0 (h : Bx7 w W X n v) : W.cell? ⟨X, 0, none⟩ = some (.int .i64 n) := cell_of_block h.box rfl
theorem Bx7.c1 (h : Bx7 w W X n v) : W.cell? ⟨X, 1, none⟩ = some v := cell_of_block h.box rfl
theorem Bx7.below (h : Bx7 w W X n v) (hb : Below W.heap.size W W') : Bx7 w W' X n v := ⟨(hb.block X (lt_of_block h.box)).trans h.box, h.bel.trans (hb.mono h.bel.size)⟩
theorem Bx7.drew (h : Bx7 w W X n v) : Bx7 w W.drew X n v := ⟨h.box, h.bel.drew⟩
end
theorem bx7_new (w : World) (n : Int) (v : Value) : Bx7 w (w.alloc (.cells #[.int .i64 n, v] 24)) w.heap.size n v := ⟨heap_alloc_new w _, below_alloc w _⟩

set_option maxHeartbeats 4000000 in
set_option maxRecDepth 100000 in
theorem satV_any (V : Nat) (hV : V ≤ 8) (a : Option Addr) (cap : Nat) (css : List (List Int)) (w : World) (hg : Grid w a css) (hl : css.length ≤ maxLen) :
    Calls Try.prog 9 #[.agg #[.int .i64 (V : Int), .slice a css.length cap]] w fun e w' => ∃ v, e = .returned (.tuple #[v, .bool (satB V css)]) ∧ Below w.heap.size w w' := by
  obtain ⟨P, hP⟩ : ∃ P, 2 ^ V = P := ⟨_, rfl⟩
  have hPI : (2 : Int) ^ V = (P : Int) := by rw [← hP]; simp
  have hPb : P ≤ 256 := by rw [← hP]; exact Nat.pow_le_pow_right (n := 2) (by omega) hV
  have HP := hide hP
  clear hP
  have HG := hide hg
  have HB0 := hide (bx7_new w (V : Int) (.slice a css.length cap))
  clear hg
  go_enter Try.func9, Try.ntmps9
  go_wp2
  refine forget (P := fun W => Code.wp Try.prog _ _ _ W) (fun W => Hid (Bx7 w W w.heap.size (V : Int) (.slice a css.length cap))) HB0 ?_
  clear HB0
  intro W0 HB0
  generalize hX : w.heap.size = X at HB0
  have HX := hide hX
  clear hX
  go_loopw [4] (fun j wr => ∃ k : Nat, k ≤ P ∧ j = .int .i64 (k : Int) ∧ Hid (∀ i, i < k → holdsB (modelL V i) css = false) ∧ Hid (Bx7 w wr X (V : Int) (.slice a css.length cap))) (fun j _ => P - (intOf j).toNat)
  case atStart => exact ⟨0, by omega, rfl, fun i hi => by omega, HB0⟩
  case round =>
    obtain ⟨k, hk, rfl, HA, HB⟩ := hrel
    clear HB0
    have c0 := HB.out.c0
    have c1 := HB.out.c1
    by_cases hlt : k < P
    · have hki : (k : Int) < (P : Int) := by omega
      have GM : Hid (∀ W, Bx7 w W X (V : Int) (.slice a css.length cap) → Calls Try.prog 17 #[.int .i64 (V : Int), .int .i64 (k : Int)] W fun e w' => ∃ g5 cap5, e = .returned (.slice (some ⟨g5, 0, none⟩) V cap5) ∧ Hid (Row w' (some ⟨g5, 0, none⟩) (modelL V k)) ∧ Hid (Bx7 w w' X (V : Int) (.slice a css.length cap))) := fun W hW => by
        refine (model_any V k W (by omega) (by omega)).mono ?_
        rintro e w' ⟨g5, cap5, rfl, h1, h2⟩
        exact ⟨g5, cap5, rfl, h1, hW.below h2⟩
      have GH : Hid (∀ W g5 cap5, Bx7 w W X (V : Int) (.slice a css.length cap) → Row W (some ⟨g5, 0, none⟩) (modelL V k) → Calls Try.prog 16 #[.agg #[.int .i64 (V : Int), .slice a css.length cap], .slice (some ⟨g5, 0, none⟩) V cap5] W fun e w' => e = .returned (.bool (holdsB (modelL V k) css)) ∧ Hid (Bx7 w w' X (V : Int) (.slice a css.length cap))) := fun W g5 cap5 hW hr => by
        have hlen := modelL_len V k
        have q := refHolds_any a (some ⟨g5, 0, none⟩) cap cap5 (V : Int) css (modelL V k) W (HG.out.below hW.bel) hl hr (by rw [hlen]; unfold maxLen; omega)
        rw [hlen] at q
        exact q.mono fun e w' ⟨h1, h2⟩ => ⟨h1, hW.below h2⟩
      cases hh : holdsB (modelL V k) css with
      | true =>
        rw [hh] at GH
        have HS : Hid (satB V css = true) := by
          unfold Hid satB
          rw [List.any_eq_true]
          exact ⟨k, List.mem_range.2 (by rw [HP.out]; exact hlt), hh⟩
        clear hh HA
        go_wp2
        go_region_held3 (fun q => q.cell? ⟨X, 0, none⟩ = some (.int .i64 (V : Int)) ∧ q.cell? ⟨X, 1, none⟩ = some (.slice a css.length cap)) (first | exact ⟨by assumption, by assumption⟩ | go_keep) (first
          | (go_at_call 17; refine (unhide GM _ (by first | exact HB.out.drew | exact HB.out)).mono ?_; rintro e w1 ⟨g5, cap5, rfl, HR1, HB1⟩; have d0 := HB1.out.c0; have d1 := HB1.out.c1)
          | (go_at_call 16; refine (unhide GH _ _ _ HB1.out HR1.out).mono ?_; rintro e w2 ⟨rfl, HB2⟩; have e0 := HB2.out.c0; have e1 := HB2.out.c1))
        all_goals
          clear GH c0 c1 d0 d1 HB HB1 HR1
          go_wp2_with (go_at_call 17; refine (unhide GM _ HB2.out).mono ?_; rintro e w3 ⟨g6, cap6, rfl, HR3, HB3⟩)
          go_ret2
          exact ⟨_, by rw [HS.out]; rfl, HB3.out.bel⟩
      | false =>
        rw [hh] at GH
        have HA2 : Hid (∀ i, i < k + 1 → holdsB (modelL V i) css = false) := fun i hi => by
          by_cases e : i = k
          · subst e; exact hh
          · exact HA.out i (by omega)
        clear hh HA
        go_wp2
        go_region_held3 (fun q => q.cell? ⟨X, 0, none⟩ = some (.int .i64 (V : Int)) ∧ q.cell? ⟨X, 1, none⟩ = some (.slice a css.length cap)) (first | exact ⟨by assumption, by assumption⟩ | go_keep) (first
          | (go_at_call 17; refine (unhide GM _ (by first | exact HB.out.drew | exact HB.out)).mono ?_; rintro e w1 ⟨g5, cap5, rfl, HR1, HB1⟩; have d0 := HB1.out.c0; have d1 := HB1.out.c1)
          | (go_at_call 16; refine (unhide GH _ _ _ HB1.out HR1.out).mono ?_; rintro e w2 ⟨rfl, HB2⟩; have e0 := HB2.out.c0; have e1 := HB2.out.c1))
        all_goals
          clear GH GM c0 c1 d0 d1 HB HB1 HR1
          go_wp2
          go_roundw
          case rel => exact ⟨k + 1, by omega, by go_num, HA2, HB2⟩
          case measure => simp [intOf]; omega
    · have HS : Hid (satB V css = false) := by
        unfold Hid satB
        rw [List.any_eq_false]
        intro i hi
        rw [HA.out i (by have := List.mem_range.1 hi; rw [HP.out] at this; omega)]
        simp
      go_wp2
      go_ret2
      exact ⟨_, by rw [HS.out]; rfl, HB.out.bel⟩
end Go.Proofs.Ytlmbgaconjcaiab

namespace Go.Proofs.Ytlmbgaconjcaiab
open Go.RowKit

theorem proof_zero {l : List StD} (h : proofB l = true) : ∀ x ∈ l, (0 : Int) ∉ x.c := fun x hx hz => by
  unfold proofB at h
  rw [List.all_eq_true] at h
  exact (may_lits (h x hx) 0 hz).1 rfl
theorem cnf_zero {n : Nat} {css : List (List Int)} (h : cnfB n css = true) : ∀ c ∈ css, (0 : Int) ∉ c := fun c hc hz => ((cnf_lt h c hc).2 0 hz).1 rfl

set_option maxHeartbeats 4000000 in
set_option maxRecDepth 100000 in
theorem truth_any (w : World) (a al : Option Addr) (cap cal : Nat) (n : Int) (css : List (List Int)) (l : List StD) (hg : GridC w a css) (hl : css.length ≤ maxLen) (hs : Sts w al l) (hll : l.length ≤ maxLen) :
    Calls Try.prog 3 #[.agg #[.int .i64 n, .slice a css.length cap], .slice al l.length cal] w fun e w' => e = .returned (.bool true) ∧ Below w.heap.size w w' := by
  have B0 := bx7_new w n (.slice a css.length cap)
  have G1 := small_any a cap n css _ (hg.grid.below B0.bel) hl
  have GL : Hid (∀ W, Bx7 w W w.heap.size n (.slice a css.length cap) → Calls Try.prog 5 #[.slice al l.length cal] W fun e w' => (∃ r : Bool, e = .returned (.bool r)) ∧ w' = W) := fun W hW => lightS_any W al cal l (hs.below hW.bel) hll
  have GA : Hid (∀ W, Calls Try.prog 7 #[] W fun e w' => e = .returned (.bool true) ∧ Below W.heap.size W w') := fun W => rupAwake_any W
  have GC : ∀ W, Bx7 w W w.heap.size n (.slice a css.length cap) → Calls Try.prog 6 #[.agg #[.int .i64 n, .slice a css.length cap]] W fun e w' => e = .returned (.bool (cnfB n css)) ∧ Hid (Bx7 w w' w.heap.size n (.slice a css.length cap)) := fun W hW => (refCnf_any a cap n css W ((hg.below hW.bel).grid) hl).mono fun e w' ⟨h1, h2⟩ => ⟨h1, hW.below h2⟩
  have HG := hide hg
  have HS := hide hs
  have HB0 := hide B0
  clear hg hs B0
  go_enter Try.func3, Try.ntmps3
  go_upto_region 1 with fail
  go_cut [31] from 9 to 31 (fun y wx => ∃ r : Bool, y = .bool r ∧ Hid (Bx7 w wx w.heap.size n (.slice a css.length cap)) ∧ (r = false → l.length ≤ 30 ∧ css.length ≤ 40 ∧ cnfB n css = true ∧ n ≤ 8))
  case first =>
    cases hsm : (lightB css && decide (css.length ≤ 40)) with
    | false =>
      rw [hsm] at G1
      replace G1 := hide G1
      clear GL GC hsm
      go_wp2_with (go_at_call 4; refine (unhide G1).mono ?_; rintro e w1 ⟨rfl, hb1⟩; have B1 := hide (HB0.out.below hb1); have x0 := B1.out.c0; have x1 := B1.out.c1; clear hb1)
      go_meet
      case rel => exact ⟨true, rfl, B1, fun h => by cases h⟩
    | true =>
      rw [hsm] at G1
      replace G1 := hide G1
      have hcss : css.length ≤ 40 := by simp at hsm; exact hsm.2
      clear hsm
      by_cases h30 : l.length ≤ 30
      · have h30' : ¬ (30 : Int) < l.length := by omega
        cases hc : cnfB n css with
        | false =>
          rw [hc] at GC
          replace GC := hide GC
          go_wp2_with (first
            | (go_at_call 4; refine (unhide G1).mono ?_; rintro e w1 ⟨rfl, hb1⟩; have B1 := hide (HB0.out.below hb1); have x0 := B1.out.c0; have x1 := B1.out.c1; clear hb1)
            | (go_at_call 5; refine (GL.out _ B1.out).mono ?_; rintro e w2 ⟨⟨r, rfl⟩, hw2⟩; subst w2; cases r)
            | (go_at_call 6; refine (GC.out _ B1.out).mono ?_; rintro e w3 ⟨rfl, B3⟩))
          all_goals
            go_meet
            case rel => first | exact ⟨true, (by first | rfl | simp [h30']), B3, fun h => by cases h⟩ | exact ⟨true, rfl, B1, fun h => by cases h⟩
        | true =>
          rw [hc] at GC
          replace GC := hide GC
          by_cases h8 : n ≤ 8
          · have h8' : ¬ (8 : Int) < n := by omega
            go_wp2_with (first
              | (go_at_call 4; refine (unhide G1).mono ?_; rintro e w1 ⟨rfl, hb1⟩; have B1 := hide (HB0.out.below hb1); have x0 := B1.out.c0; have x1 := B1.out.c1; clear hb1)
              | (go_at_call 5; refine (GL.out _ B1.out).mono ?_; rintro e w2 ⟨⟨r, rfl⟩, hw2⟩; subst w2; cases r)
              | (go_at_call 6; refine (GC.out _ B1.out).mono ?_; rintro e w3 ⟨rfl, B3⟩; have q0 := B3.out.c0))
            all_goals
              go_meet
              case rel => first | exact ⟨false, (by first | rfl | simp [h30', h8']), B3, fun _ => ⟨h30, hcss, by first | rfl | assumption, h8⟩⟩ | exact ⟨true, rfl, B1, fun h => by cases h⟩
          · have h8' : (8 : Int) < n := by omega
            go_wp2_with (first
              | (go_at_call 4; refine (unhide G1).mono ?_; rintro e w1 ⟨rfl, hb1⟩; have B1 := hide (HB0.out.below hb1); have x0 := B1.out.c0; have x1 := B1.out.c1; clear hb1)
              | (go_at_call 5; refine (GL.out _ B1.out).mono ?_; rintro e w2 ⟨⟨r, rfl⟩, hw2⟩; subst w2; cases r)
              | (go_at_call 6; refine (GC.out _ B1.out).mono ?_; rintro e w3 ⟨rfl, B3⟩; have q0 := B3.out.c0))
            all_goals
              go_meet
              case rel => first | exact ⟨true, (by first | rfl | simp [h30', h8']), B3, fun h => by cases h⟩ | exact ⟨true, rfl, B1, fun h => by cases h⟩
      · have h30' : (30 : Int) < l.length := by omega
        clear GC
        go_wp2_with (first
          | (go_at_call 4; refine (unhide G1).mono ?_; rintro e w1 ⟨rfl, hb1⟩; have B1 := hide (HB0.out.below hb1); have x0 := B1.out.c0; have x1 := B1.out.c1; clear hb1)
          | (go_at_call 5; refine (GL.out _ B1.out).mono ?_; rintro e w2 ⟨⟨r, rfl⟩, hw2⟩; subst w2; cases r))
        all_goals
          go_meet
          case rel => exact ⟨true, rfl, B1, fun h => by cases h⟩
  case rest =>
  obtain ⟨r, rfl, B1, h30⟩ := hcut
  clear G1 GL HB0 GC
  cases r with
  | true =>
    clear h30
    go_wp2_with (go_at_call 7; refine (unhide GA _).mono ?_; rintro e w2 ⟨rfl, hb2⟩)
    go_ret
    exact ⟨rfl, (B1.out.below hb2).bel⟩
  | false =>
    obtain ⟨hl30, hcss, hcn, h8⟩ := h30 rfl
    clear h30
    obtain ⟨V, rfl⟩ : ∃ V : Nat, n = (V : Int) := ⟨n.toNat, by have h1 := hcn; unfold cnfB at h1; simp only [Bool.and_eq_true, decide_eq_true_eq] at h1; omega⟩
    have hV : V ≤ 8 := by omega
    have x0 := B1.out.c0
    have x1 := B1.out.c1
    have GS : Hid (∀ W, Bx7 w W w.heap.size V (.slice a css.length cap) → Calls Try.prog 9 #[.agg #[.int .i64 (V : Int), .slice a css.length cap]] W fun e w' => ∃ v, e = .returned (.tuple #[v, .bool (satB V css)]) ∧ Hid (Bx7 w w' w.heap.size V (.slice a css.length cap))) := fun W hW => (satV_any V hV a cap css W ((HG.out.below hW.bel).grid) hl).mono fun e w' ⟨v, h1, h2⟩ => ⟨v, h1, hW.below h2⟩
    cases hp : proofB l with
    | false =>
      have GP : Hid (∀ W, Bx7 w W w.heap.size V (.slice a css.length cap) → Calls Try.prog 8 #[.agg #[.int .i64 V, .slice a css.length cap], .slice al l.length cal] W fun e w' => e = .returned (.tuple #[.int .i64 0, .int .i64 1]) ∧ Hid (Bx7 w w' w.heap.size V (.slice a css.length cap))) := fun W hW => (rupProves_no a al cap cal V css l W ((HG.out.below hW.bel).grid) hl (HS.out.below hW.bel) hl30 (.inr ⟨hcn, hp⟩)).mono fun e w' ⟨h1, h2⟩ => ⟨h1, hW.below h2⟩
      clear hp hcn
      go_wp2_with (first
        | (go_at_call 8; refine (GP.out _ B1.out).mono ?_; rintro e w2 ⟨rfl, B2⟩; have y0 := B2.out.c0; have y1 := B2.out.c1)
        | (go_at_call 9; refine (GS.out _ B2.out).mono ?_; rintro e w3 ⟨v, rfl, B3⟩)
        | (go_at_call 7; refine (unhide GA _).mono ?_; rintro e w5 ⟨rfl, hb5⟩))
      go_ret
      exact ⟨rfl, (B3.out.below hb5).bel⟩
    | true =>
      have hlx : ∀ x ∈ l, x.c.length ≤ 4096 := fun x hx => by
        have h3 := hp
        unfold proofB at h3
        rw [List.all_eq_true] at h3
        have := h3 x hx
        unfold mayB at this
        simp only [Bool.and_eq_true, decide_eq_true_eq] at this
        exact this.1
      have GP : Hid (∀ W, Bx7 w W w.heap.size V (.slice a css.length cap) → Calls Try.prog 8 #[.agg #[.int .i64 V, .slice a css.length cap], .slice al l.length cal] W fun e w' => e = .returned (.tuple #[.int .i64 (provesP V css l 0).1, .int .i64 (provesP V css l 0).2]) ∧ Hid (Bx7 w w' w.heap.size V (.slice a css.length cap))) := fun W hW => (rupProves_yes a al cap cal V css l W (HG.out.below hW.bel) (by omega) (HS.out.below hW.bel) hl30 hlx hcn hp).mono fun e w' ⟨h1, h2⟩ => ⟨h1, hW.below h2⟩
      have hsat : (provesP V css l 0).2 = 0 → satB V css = false := fun h0 => sat_not hcn hV (proves_sound l V css 0 (proof_zero hp) (cnf_zero hcn) h0)
      clear hp hlx hcn
      generalize provesP V css l 0 = r at *
      obtain ⟨r1, r2⟩ := r
      simp only at GP hsat
      by_cases hr : r2 = 0
      · rw [hsat hr] at GS
        subst hr
        clear hsat
        go_wp2_with (first
          | (go_at_call 8; refine (GP.out _ B1.out).mono ?_; rintro e w2 ⟨rfl, B2⟩; have y0 := B2.out.c0; have y1 := B2.out.c1)
          | (go_at_call 9; refine (GS.out _ B2.out).mono ?_; rintro e w3 ⟨v, rfl, B3⟩)
          | (go_at_call 7; refine (unhide GA _).mono ?_; rintro e w5 ⟨rfl, hb5⟩))
        go_ret
        exact ⟨rfl, (B3.out.below hb5).bel⟩
      · have hr' : (r2 != 0) = true := by simpa using hr
        have hr2 : (r2 == 0) = false := by simpa using hr
        clear hsat
        go_wp2_with (first
          | (go_at_call 8; refine (GP.out _ B1.out).mono ?_; rintro e w2 ⟨rfl, B2⟩; have y0 := B2.out.c0; have y1 := B2.out.c1)
          | (go_at_call 9; refine (GS.out _ B2.out).mono ?_; rintro e w3 ⟨v, rfl, B3⟩)
          | (go_at_call 7; refine (unhide GA _).mono ?_; rintro e w5 ⟨rfl, hb5⟩))
        go_ret
        exact ⟨rfl, (B3.out.below hb5).bel⟩
end Go.Proofs.Ytlmbgaconjcaiab
