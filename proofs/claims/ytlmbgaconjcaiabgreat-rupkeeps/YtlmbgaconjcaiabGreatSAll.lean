/- Joined: A clause that is at hand by its first literal can be added: plain. Contracts of the document: the model of a number; whether a formula holds by some model. The law of first literals, walked. -/
import Derived.Test.YtlmbgaconjcaiabGreatRCll
import Derived.Test.YtlmbgaconjcaiabGreatRAll
import Derived.Test.YtlmbgaconjcaiabGreatRBll
set_option linter.unusedVariables false
set_option linter.unusedSimpArgs false
namespace Go.Proofs.YtlmbgaconjcaiabGreat

/-- The model of a number. -/
def modelL : Nat → Nat → List Int
  | 0, _ => []
  | V + 1, n => (if n % 2 = 1 then 1 else -1) :: modelL V (n / 2)
theorem modelL_len : ∀ V n : Nat, (modelL V n).length = V
  | 0, _ => rfl
  | V + 1, n => by simp [modelL, modelL_len V]
theorem modelL_mem : ∀ (V n : Nat), ∀ x ∈ modelL V n, x = 1 ∨ x = -1
  | 0, _, x, h => by simp [modelL] at h
  | V + 1, n, x, h => by
    simp only [modelL, List.mem_cons] at h
    rcases h with h | h
    · split at h
      · exact .inl h
      · exact .inr h
    · exact modelL_mem V _ x h
theorem modelL_sur : ∀ m : List Int, (∀ x ∈ m, x = 1 ∨ x = -1) → ∃ n, n < 2 ^ m.length ∧ modelL m.length n = m
  | [], _ => ⟨0, by simp, rfl⟩
  | x :: r, h => by
    obtain ⟨n, hn, e⟩ := modelL_sur r (fun y hy => h y (List.mem_cons_of_mem _ hy))
    have hp : 2 ^ (x :: r).length = 2 * 2 ^ r.length := by simp [Nat.pow_succ]; omega
    rcases h x (by simp) with rfl | rfl
    · refine ⟨2 * n + 1, by omega, ?_⟩
      show (if (2 * n + 1) % 2 = 1 then (1 : Int) else -1) :: modelL r.length ((2 * n + 1) / 2) = _
      rw [if_pos (by omega), show (2 * n + 1) / 2 = n by omega, e]
    · refine ⟨2 * n, by omega, ?_⟩
      show (if (2 * n) % 2 = 1 then (1 : Int) else -1) :: modelL r.length ((2 * n) / 2) = _
      rw [if_neg (by omega), show (2 * n) / 2 = n by omega, e]

/-- Whether a formula of few variables holds by some model. -/
def satB (V : Nat) (css : List (List Int)) : Bool := (List.range (2 ^ V)).any (fun n => holdsB (modelL V n) css)
theorem satB_iff (V : Nat) (css : List (List Int)) : satB V css = true ↔ ∃ m : List Int, m.length = V ∧ (∀ x ∈ m, x = 1 ∨ x = -1) ∧ holdsB m css = true := by
  unfold satB
  rw [List.any_eq_true]
  constructor
  · rintro ⟨n, _, h⟩
    exact ⟨modelL V n, modelL_len V n, modelL_mem V n, h⟩
  · rintro ⟨m, rfl, h1, h2⟩
    obtain ⟨n, hn, e⟩ := modelL_sur m h1
    exact ⟨n, List.mem_range.2 hn, by rw [e]; exact h2⟩

theorem holds_mk {m : List Int} {css : List (List Int)} (h : ∀ c ∈ css, ∃ x ∈ c, valI m x = 1) : holdsB m css = true := by
  unfold holdsB
  rw [List.all_eq_true]
  intro c hc
  obtain ⟨x, hx, hv⟩ := h c hc
  have : clauseI m c = 1 := clauseI_one (by rw [List.any_eq_true]; exact ⟨x, hx, by simp [hv]⟩)
  simp [this]

/-- A literal's value by a model of all variables. -/
theorem valI_tot {m : List Int} (h1 : ∀ x ∈ m, x = 1 ∨ x = -1) {l : Int} (h0 : l ≠ 0) (hl : l.natAbs ≤ m.length) (hm : m.length ≤ 1000) : valI m l = m.getD (l.natAbs - 1) 0 * sgn l ∧ (valI m l = 1 ∨ valI m l = -1) := by
  have hv : varI l = l.natAbs := by unfold varI; split <;> omega
  have hlb : litB l 1048576 = true := by unfold litB; simp; omega
  have hi : l.natAbs - 1 < m.length := by omega
  have hg : m.getD (l.natAbs - 1) 0 = m[l.natAbs - 1] := by rw [List.getD_eq_getElem?_getD, List.getElem?_eq_getElem hi]; rfl
  have hx := h1 _ (List.getElem_mem hi)
  have hs : sgn m[l.natAbs - 1] = m[l.natAbs - 1] := by
    rcases hx with h | h <;> rw [h] <;> rfl
  have e : valI m l = m.getD (l.natAbs - 1) 0 * sgn l := by
    unfold valI
    rw [if_pos (by simp [hlb, hv]; omega), hv, Int.toNat_natCast, hg, hs]
  refine ⟨e, ?_⟩
  rw [e, hg]
  have hsl : sgn l = 1 ∨ sgn l = -1 := by unfold sgn; split <;> (try split) <;> omega
  rcases hx with h | h <;> rcases hsl with h' | h' <;> rw [h, h'] <;> simp

/-- A literal is made true. -/
def turnL (m : List Int) (l : Int) : List Int := m.set (l.natAbs - 1) (sgn l)
theorem turnL_ok {m : List Int} (h1 : ∀ x ∈ m, x = 1 ∨ x = -1) {l : Int} (h0 : l ≠ 0) : (turnL m l).length = m.length ∧ ∀ x ∈ turnL m l, x = 1 ∨ x = -1 := by
  refine ⟨by simp [turnL], fun x hx => ?_⟩
  rcases List.mem_or_eq_of_mem_set hx with h | h
  · exact h1 x h
  · rw [h]; unfold sgn; split <;> (try split) <;> omega
theorem turnL_val {m : List Int} (h1 : ∀ x ∈ m, x = 1 ∨ x = -1) {l : Int} (h0 : l ≠ 0) (hl : l.natAbs ≤ m.length) (hm : m.length ≤ 1000) : valI (turnL m l) l = 1 ∧ ∀ x : Int, x ≠ 0 → x.natAbs ≤ m.length → x ≠ l → x ≠ -l → valI (turnL m l) x = valI m x := by
  obtain ⟨e1, e2⟩ := turnL_ok h1 h0
  constructor
  · rw [(valI_tot e2 h0 (by omega) (by omega)).1]
    have : (turnL m l).getD (l.natAbs - 1) 0 = sgn l := by
      unfold turnL
      rw [List.getD_eq_getElem?_getD, List.getElem?_set_self (by omega)]; rfl
    rw [this]
    unfold sgn; split <;> (try split) <;> first | rfl | omega
  · intro x hx0 hx h2 h3
    rw [(valI_tot e2 hx0 (by omega) (by omega)).1, (valI_tot h1 hx0 hx hm).1]
    congr 1
    unfold turnL
    rw [List.getD_eq_getElem?_getD, List.getD_eq_getElem?_getD, List.getElem?_set_ne (by omega)]

/-- What is told of a clause holds by each model by which the formula does. -/
theorem te_implied {sp : Nat} {css : List (List Int)} {cl m : List Int} (h : TE sp css cl true) (hh : holdsB m css = true) (hs : ∀ d ∈ css, ∀ x ∈ d, sp ≠ 0 → x.natAbs < sp) (hc : ∀ x ∈ cl, sp ≠ 0 → x.natAbs < sp) (h1 : ∀ x ∈ cl, valI m x = 1 ∨ valI m x = -1) : ∃ x ∈ cl, valI m x = 1 := by
  by_cases hany : ∃ x ∈ cl, valI m x = 1
  · exact hany
  exfalso
  obtain ⟨t, ds, hI, hk, hd1, hd0, hd, hT⟩ := h
  have hlow : ∀ x ∈ cl, vSp m sp x = -1 := fun x hx => by
    rw [vSp_low (hc x hx)]
    rcases h1 x hx with h | h
    · exact (hany ⟨x, hx, h⟩).elim
    · exact h
  refine told_no hI hk (vSp m sp) (vSp_neg m sp) (fun d hd' => ?_) (fun l hl => ?_) (fun l hl => by rw [hlow l hl]; decide) hT
  · obtain ⟨x, hx, hv⟩ := holds_all hh d hd'
    exact ⟨x, hx, (vSp_low (hs d hd' x hx)).trans hv⟩
  · have hds : ∀ l ∈ ds, vSp m sp l = 1 := fun l hl => by
      have := hlow _ (hd l hl)
      rw [vSp_neg] at this; omega
    by_cases hz : sp = 0
    · rw [hd0 hz] at hl; exact hds l hl
    · rw [hd1 hz] at hl
      rcases List.mem_cons.1 hl with rfl | hl
      · unfold vSp; rw [if_pos ⟨by omega, hz⟩, if_pos (by omega)]
      · exact hds l hl

/-- What is at hand by its first literal can be added. -/
theorem first_keeps {sp V : Nat} {css : List (List Int)} {c : List Int} {l0 : Int} (hV : V ≤ 1000) (hF : FirstE sp css c (-l0) true) (hl0 : c[0]? = some l0) (hs : ∀ d ∈ css, ∀ x ∈ d, x ≠ 0 ∧ x.natAbs ≤ V ∧ (sp ≠ 0 → x.natAbs < sp)) (hc : ∀ x ∈ c, x ≠ 0 ∧ x.natAbs ≤ V ∧ (sp ≠ 0 → x.natAbs < sp)) : satB V css = satB V (css ++ [c]) := by
  rw [Bool.eq_iff_iff, satB_iff, satB_iff]
  constructor
  · rintro ⟨m, rfl, h1, hh⟩
    by_cases hcm : ∃ x ∈ c, valI m x = 1
    · refine ⟨m, rfl, h1, holds_mk (fun d hd => ?_)⟩
      rcases List.mem_append.1 hd with hd | hd
      · exact holds_all hh d hd
      · obtain rfl : d = c := by simpa using hd
        exact hcm
    · have hm0 := List.mem_of_getElem? hl0
      obtain ⟨n0, n1, n2⟩ := hc l0 hm0
      obtain ⟨e1, e2⟩ := turnL_ok h1 n0
      obtain ⟨v1, v2⟩ := turnL_val h1 n0 n1 hV
      have hlf : valI m l0 ≠ 1 := fun e => hcm ⟨l0, hm0, e⟩
      refine ⟨turnL m l0, e1, e2, holds_mk (fun d hd => ?_)⟩
      rcases List.mem_append.1 hd with hd | hd
      · by_cases hld : -l0 ∈ d
        · rcases hF with ⟨_, hF⟩ | ⟨hF, _⟩
          · obtain ⟨_, hT⟩ := hF d hd hld
            have hx' : ∀ x ∈ c ++ wo d (-l0), x ≠ 0 ∧ x.natAbs ≤ m.length ∧ (sp ≠ 0 → x.natAbs < sp) := fun x hx => by
              rcases List.mem_append.1 hx with hx | hx
              · exact hc x hx
              · exact hs d hd x (List.mem_filter.1 hx).1
            obtain ⟨x, hx, hv⟩ := te_implied hT hh (fun d hd x hx => (hs d hd x hx).2.2) (fun x hx => (hx' x hx).2.2) (fun x hx => (valI_tot h1 (hx' x hx).1 (hx' x hx).2.1 hV).2)
            rcases List.mem_append.1 hx with hxc | hxd
            · exact (hcm ⟨x, hxc, hv⟩).elim
            · have hq := List.mem_filter.1 hxd
              have hne : x ≠ -l0 := by simpa using hq.2
              exact ⟨x, hq.1, (v2 x (hx' x hx).1 (hx' x hx).2.1 (fun e => hlf (e ▸ hv)) hne).trans hv⟩
          · cases hF
        · obtain ⟨x, hx, hv⟩ := holds_all hh d hd
          refine ⟨x, hx, (v2 x (hs d hd x hx).1 (hs d hd x hx).2.1 (fun e => hlf (e ▸ hv)) (fun e => hld (e ▸ hx))).trans hv⟩
      · obtain rfl : d = c := by simpa using hd
        exact ⟨l0, hm0, v1⟩
  · rintro ⟨m, h0, h1, hh⟩
    exact ⟨m, h0, h1, holds_mk (fun d hd => holds_all hh d (List.mem_append_left _ hd))⟩
end Go.Proofs.YtlmbgaconjcaiabGreat

namespace Go.Proofs.YtlmbgaconjcaiabGreat
open Go.RowKit

set_option maxHeartbeats 1000000 in
theorem model_any (V n : Nat) (w : World) (hV : V ≤ 20) (hn : n ≤ 1048576) :
    Calls Tryz.prog 18 #[.int .i64 (V : Int), .int .i64 (n : Int)] w fun e w' => ∃ g cap, e = .returned (.slice (some ⟨g, 0, none⟩) V cap) ∧ Row w' (some ⟨g, 0, none⟩) (modelL V n) ∧ Below w.heap.size w w' := by
  obtain ⟨i0, hi, hz0, hz1, hz2⟩ := info_parts Tryz.info3
  go_enter Tryz.func18, Tryz.ntmps18
  go_wp2
  go_loopw [1, 5, 6] (fun q v j wr => ∃ (i nn : Nat) (pre : List Int), i ≤ V ∧ nn ≤ 1048576 ∧ q = .int .i64 (nn : Int) ∧ j = .int .i64 (i : Int) ∧ Own w.heap.size wr v pre ∧ v ≠ .slice none 0 0 ∧ Hid (pre.length = i) ∧ Hid (modelL V n = pre ++ modelL (V - i) nn) ∧ Below w.heap.size w wr) (fun _ _ j _ => V - (intOf j).toNat)
  case atStart => exact ⟨0, n, [], Nat.zero_le _, hn, rfl, rfl, World.ownsRow_lit (e := 3) (size := 1) w #[] 0 (Nat.le_refl _) (Nat.zero_le _) rfl, (by simp), rfl, rfl, (Below.refl _ _).alloc (Nat.le_refl _) _⟩
  case round =>
    obtain ⟨i, nn, pre, hi', hnn', rfl, rfl, hown, hnn, HL, HM, hbel⟩ := hrel
    by_cases hlt : i < V
    · have HM2 : Hid (modelL V n = (pre ++ [if nn % 2 = 1 then 1 else -1]) ++ modelL (V - (i + 1)) (nn / 2)) := by
        unfold Hid
        rw [HM.out, show V - i = (V - (i + 1)) + 1 by omega]
        simp [modelL]
      have hpl : pre.length ≤ 20 := by rw [HL.out]; omega
      by_cases ho : nn % 2 = 1
      · have hoi : (nn : Int) % 2 = 1 := by omega
        have hob : (((nn : Int) % 2) == 1) = true := by simpa using hoi
        rw [if_pos ho] at HM2
        go_wp2_with (at_builtin; refine wpList_append_own _ rfl _ _ 25 rfl w.heap.size 3 i0 (.int .i64 0) 1 8 Tryz.underlying25 hi hz0 hz1 hz2 rfl (by decide) _ _ _ rfl (hown.alloc _) ⟨wr.heap.size, 0, none⟩ 1 1 [.int .i64 1] rfl rfl (cell_one_new _ _ _) (fun y hy => by simp at hy; subst hy; rfl) (by unfold maxLen; omega) (by omega) (by have := hbel.size; simp; omega) ?_; intro v' w2 hown2 hgrow2 hnil)
        have hnn2 : v' ≠ .slice none 0 0 := fun h => absurd (hnil.1 h).2 (by decide)
        have hown3 := own_snoc (ys := pre ++ [1]) hown2 rfl
        have hbel3 := ((hbel.alloc hbel.size (.cells #[.int .i64 1] 3)).grown hgrow2 (by have := hbel.size; simp; omega) (fun g hg => (hown.lt g hg).1))
        clear hown2 hgrow2 hnil
        go_wp2
        go_roundw
        case rel => exact ⟨i + 1, nn / 2, pre ++ [1], by omega, by omega, by go_num, by go_num, hown3, hnn2, by unfold Hid; rw [List.length_append, HL.out]; rfl, HM2, hbel3⟩
        case measure => simp [intOf]; omega
      · have hoi : ¬ (nn : Int) % 2 = 1 := by omega
        have hob : (((nn : Int) % 2) == 1) = false := by simpa using hoi
        rw [if_neg ho] at HM2
        go_wp2_with (at_builtin; refine wpList_append_own _ rfl _ _ 25 rfl w.heap.size 3 i0 (.int .i64 0) 1 8 Tryz.underlying25 hi hz0 hz1 hz2 rfl (by decide) _ _ _ rfl (hown.alloc _) ⟨wr.heap.size, 0, none⟩ 1 1 [.int .i64 (-1)] rfl rfl (cell_one_new _ _ _) (fun y hy => by simp at hy; subst hy; rfl) (by unfold maxLen; omega) (by omega) (by have := hbel.size; simp; omega) ?_; intro v' w2 hown2 hgrow2 hnil)
        have hnn2 : v' ≠ .slice none 0 0 := fun h => absurd (hnil.1 h).2 (by decide)
        have hown3 := own_snoc (ys := pre ++ [-1]) hown2 rfl
        have hbel3 := ((hbel.alloc hbel.size (.cells #[.int .i64 (-1)] 3)).grown hgrow2 (by have := hbel.size; simp; omega) (fun g hg => (hown.lt g hg).1))
        clear hown2 hgrow2 hnil
        go_wp2
        go_roundw
        case rel => exact ⟨i + 1, nn / 2, pre ++ [-1], by omega, by omega, by go_num, by go_num, hown3, hnn2, by unfold Hid; rw [List.length_append, HL.out]; rfl, HM2, hbel3⟩
        case measure => simp [intOf]; omega
    · obtain rfl : i = V := by omega
      have e : modelL i n = pre := by rw [HM.out, Nat.sub_self]; simp [modelL]
      obtain ⟨a2, cap2, rfl, hrow2, _⟩ := hown.row
      obtain ⟨a3, cap3, e3, _, _, h3⟩ := own_form hown
      simp at e3
      obtain ⟨rfl, rfl⟩ := e3
      have HE := hide e
      have HROW := hide hrow2
      clear e hrow2 hown
      rcases h3 with ⟨rfl, h4, rfl⟩ | ⟨g, rfl, _⟩
      · exact absurd (by rw [h4]) hnn
      · go_wp2
        go_ret
        exact ⟨g, cap2, by rw [HL.out]; rfl, by rw [HE.out]; exact HROW.out, hbel⟩

/-- A formula in its box, behind what was there. -/
structure Bx7 (w W : World) (X : Nat) (n : Int) (v : Value) : Prop where
  box : W.heap[X]? = some (.cells #[.int .i64 n, v] 24 (0, 0))
  bel : Below w.heap.size w W
section
variable {w W W' : World} {X : Nat} {n : Int} {v : Value}
theorem Bx7.c0 (h : Bx7 w W X n v) : W.cell? ⟨X, 0, none⟩ = some (.int .i64 n) := cell_of_block h.box rfl
theorem Bx7.c1 (h : Bx7 w W X n v) : W.cell? ⟨X, 1, none⟩ = some v := cell_of_block h.box rfl
theorem Bx7.below (h : Bx7 w W X n v) (hb : Below W.heap.size W W') : Bx7 w W' X n v := ⟨(hb.block X (lt_of_block h.box)).trans h.box, h.bel.trans (hb.mono h.bel.size)⟩
theorem Bx7.drew (h : Bx7 w W X n v) : Bx7 w W.drew X n v := ⟨h.box, h.bel.drew⟩
end
theorem bx7_new (w : World) (n : Int) (v : Value) : Bx7 w (w.alloc (.cells #[.int .i64 n, v] 24)) w.heap.size n v := ⟨heap_alloc_new w _, below_alloc w _⟩

set_option maxHeartbeats 4000000 in
set_option maxRecDepth 100000 in
theorem sat7_any (a : Option Addr) (cap : Nat) (css : List (List Int)) (w : World) (hg : Grid w a css) (hl : css.length ≤ maxLen) :
    Calls Tryz.prog 9 #[.agg #[.int .i64 7, .slice a css.length cap]] w fun e w' => ∃ v, e = .returned (.tuple #[v, .bool (satB 7 css)]) ∧ Below w.heap.size w w' := by
  have HG := hide hg
  have HB0 := hide (bx7_new w 7 (.slice a css.length cap))
  clear hg
  go_enter Tryz.func9, Tryz.ntmps9
  go_wp2
  refine forget (P := fun W => Code.wp Tryz.prog _ _ _ W) (fun W => Hid (Bx7 w W w.heap.size 7 (.slice a css.length cap))) HB0 ?_
  clear HB0
  intro W0 HB0
  generalize hX : w.heap.size = X at HB0
  have HX := hide hX
  clear hX
  go_loopw [4] (fun j wr => ∃ k : Nat, k ≤ 128 ∧ j = .int .i64 (k : Int) ∧ Hid (∀ i, i < k → holdsB (modelL 7 i) css = false) ∧ Hid (Bx7 w wr X 7 (.slice a css.length cap))) (fun j _ => 128 - (intOf j).toNat)
  case atStart => exact ⟨0, by omega, rfl, fun i hi => by omega, HB0⟩
  case round =>
    obtain ⟨k, hk, rfl, HA, HB⟩ := hrel
    clear HB0
    have c0 := HB.out.c0
    have c1 := HB.out.c1
    by_cases hlt : k < 128
    · have hki : (k : Int) < 128 := by omega
      have GM : Hid (∀ W, Bx7 w W X 7 (.slice a css.length cap) → Calls Tryz.prog 18 #[.int .i64 7, .int .i64 (k : Int)] W fun e w' => ∃ g5 cap5, e = .returned (.slice (some ⟨g5, 0, none⟩) 7 cap5) ∧ Hid (Row w' (some ⟨g5, 0, none⟩) (modelL 7 k)) ∧ Hid (Bx7 w w' X 7 (.slice a css.length cap))) := fun W hW => by
        refine (model_any 7 k W (by omega) (by omega)).mono ?_
        rintro e w' ⟨g5, cap5, rfl, h1, h2⟩
        exact ⟨g5, cap5, rfl, h1, hW.below h2⟩
      have GH : Hid (∀ W g5 cap5, Bx7 w W X 7 (.slice a css.length cap) → Row W (some ⟨g5, 0, none⟩) (modelL 7 k) → Calls Tryz.prog 17 #[.agg #[.int .i64 7, .slice a css.length cap], .slice (some ⟨g5, 0, none⟩) 7 cap5] W fun e w' => e = .returned (.bool (holdsB (modelL 7 k) css)) ∧ Hid (Bx7 w w' X 7 (.slice a css.length cap))) := fun W g5 cap5 hW hr => by
        have hlen := modelL_len 7 k
        have q := refHolds_any a (some ⟨g5, 0, none⟩) cap cap5 7 css (modelL 7 k) W (HG.out.below hW.bel) hl hr (by rw [hlen]; unfold maxLen; omega)
        rw [hlen] at q
        exact q.mono fun e w' ⟨h1, h2⟩ => ⟨h1, hW.below h2⟩
      cases hh : holdsB (modelL 7 k) css with
      | true =>
        rw [hh] at GH
        have HS : Hid (satB 7 css = true) := by
          unfold Hid satB
          rw [List.any_eq_true]
          exact ⟨k, List.mem_range.2 hlt, hh⟩
        clear hh HA
        go_wp2
        go_region_held3 (fun q => q.cell? ⟨X, 0, none⟩ = some (.int .i64 7) ∧ q.cell? ⟨X, 1, none⟩ = some (.slice a css.length cap)) (first | exact ⟨by assumption, by assumption⟩ | go_keep) (first
          | (go_at_call 18; refine (unhide GM _ (by first | exact HB.out.drew | exact HB.out)).mono ?_; rintro e w1 ⟨g5, cap5, rfl, HR1, HB1⟩; have d0 := HB1.out.c0; have d1 := HB1.out.c1)
          | (go_at_call 17; refine (unhide GH _ _ _ HB1.out HR1.out).mono ?_; rintro e w2 ⟨rfl, HB2⟩; have e0 := HB2.out.c0; have e1 := HB2.out.c1))
        all_goals
          clear GH c0 c1 d0 d1 HB HB1 HR1
          go_wp2_with (go_at_call 18; refine (unhide GM _ HB2.out).mono ?_; rintro e w3 ⟨g6, cap6, rfl, HR3, HB3⟩)
          go_ret2
          exact ⟨_, by rw [HS.out]; rfl, HB3.out.bel⟩
      | false =>
        rw [hh] at GH
        have HA2 : Hid (∀ i, i < k + 1 → holdsB (modelL 7 i) css = false) := fun i hi => by
          by_cases e : i = k
          · subst e; exact hh
          · exact HA.out i (by omega)
        clear hh HA
        go_wp2
        go_region_held3 (fun q => q.cell? ⟨X, 0, none⟩ = some (.int .i64 7) ∧ q.cell? ⟨X, 1, none⟩ = some (.slice a css.length cap)) (first | exact ⟨by assumption, by assumption⟩ | go_keep) (first
          | (go_at_call 18; refine (unhide GM _ (by first | exact HB.out.drew | exact HB.out)).mono ?_; rintro e w1 ⟨g5, cap5, rfl, HR1, HB1⟩; have d0 := HB1.out.c0; have d1 := HB1.out.c1)
          | (go_at_call 17; refine (unhide GH _ _ _ HB1.out HR1.out).mono ?_; rintro e w2 ⟨rfl, HB2⟩; have e0 := HB2.out.c0; have e1 := HB2.out.c1))
        all_goals
          clear GH GM c0 c1 d0 d1 HB HB1 HR1
          go_wp2
          go_roundw
          case rel => exact ⟨k + 1, by omega, by go_num, HA2, HB2⟩
          case measure => simp [intOf]; omega
    · have HS : Hid (satB 7 css = false) := by
        unfold Hid satB
        rw [List.any_eq_false]
        intro i hi
        rw [HA.out i (by have := List.mem_range.1 hi; omega)]
        simp
      go_wp2
      go_ret2
      exact ⟨_, by rw [HS.out]; rfl, HB.out.bel⟩
end Go.Proofs.YtlmbgaconjcaiabGreat

namespace Go.Proofs.YtlmbgaconjcaiabGreat
open Go.RowKit

/-- One clause as a formula of its own. -/
theorem one_grid {w : World} {ac : Option Addr} {cac : Nat} {c : List Int} (hr : Row w ac c) (hl : c.length ≤ maxLen) : Grid (w.alloc (.cells #[.slice ac c.length cac] 25)) (some ⟨w.heap.size, 0, none⟩) [c] := by
  intro i hi
  obtain rfl : i = 0 := by simp at hi; omega
  refine ⟨w.heap.size, 0, ac, cac, rfl, by simp, ?_, hr.below (below_alloc w _), hl⟩
  exact cell_of_block (heap_alloc_new w _) rfl

/-- Slices of clauses are a source of an append. -/
theorem gv_src {ρ : Nat → Rl} {N : Nat} {w : World} {a : Option Addr} {cap : Nat} {css : List (List Int)} {vs : List Value} (h : GV ρ N w a css vs) (hn : a = none → cap = 0) (o : Obj) : (a = none ∧ css.length = 0 ∧ cap = 0 ∧ vs = []) ∨ ∃ ad, a = some ad ∧ vs.length = css.length * 1 ∧ ∀ j u, vs[j]? = some u → (w.alloc o).cell? (ad.add j) = some u := by
  cases ha : a with
  | none =>
    left
    have h0 : vs = [] := by
      cases vs with
      | nil => rfl
      | cons u r => obtain ⟨b, off, e, _⟩ := h.cell 0 u rfl; rw [ha] at e; cases e
    have hl := h.len
    rw [h0] at hl
    exact ⟨rfl, by simpa using hl.symm, hn ha, h0⟩
  | some ad =>
    right
    refine ⟨ad, rfl, by rw [h.len, Nat.mul_one], fun j u hj => ?_⟩
    obtain ⟨b, off, e, hb, _, _, hc⟩ := h.cell j u hj
    rw [ha] at e
    cases e
    rw [Addr.add_lit]
    exact (World.cell?_of_block (a := ⟨b, off + j, none⟩) (Below.heap_alloc w o b hb)).trans hc
theorem gv_one {ρ : Nat → Rl} {N : Nat} {w : World} {a : Option Addr} {css : List (List Int)} {vs : List Value} (h : GV ρ N w a css vs) : ∀ u ∈ vs, u.oneCell' = true := by
  intro u hu
  obtain ⟨j, hj⟩ := List.mem_iff_getElem?.1 hu
  have hjl : j < css.length := by rw [← h.len]; exact (List.getElem?_eq_some_iff.1 hj).1
  obtain ⟨ai, ci, e, _⟩ := h.row j hjl
  rw [hj] at e
  cases e
  rfl

/-- Whether the clauses and one more hold by some model. -/
theorem sat_join {ρ : Nat → Rl} {N : Nat} {w6 w8 : World} {a ac : Option Addr} {cac g8 cap8 : Nat} {css : List (List Int)} {c : List Int} {vs : List Value} {sb : Bool} (hv : GV ρ N w6 a css vs) (hr : Row w6 ac c) (hlc : c.length ≤ maxLen) (hl : css.length ≤ 40) (hB : Below w6.heap.size w6 w8) (ho : w8.ownsRow w6.heap.size 25 1 (.slice (some ⟨g8, 0, none⟩) (css.length + 1) cap8) (css.length + 1) (vs ++ [.slice ac c.length cac])) (hsb : satB 7 (css ++ [c]) = sb) :
    Calls Tryz.prog 9 #[.agg #[.int .i64 7, .slice (some ⟨g8, 0, none⟩) (css.length + 1) cap8]] w8 fun e w' => ∃ v, e = .returned (.tuple #[v, .bool sb]) ∧ Below w8.heap.size w8 w' := by
  have hlen : (css ++ [c]).length = css.length + 1 := by simp
  have q := sat7_any (some ⟨g8, 0, none⟩) cap8 (css ++ [c]) w8 (fun i hi => ?_) (by rw [hlen]; unfold maxLen; omega)
  · rw [hlen, hsb] at q
    exact q
  · have hlt := ((World.ownsRow.lt ho) g8 rfl).2
    by_cases hi2 : i < css.length
    · obtain ⟨ai, ci, h1, h2, h3, _⟩ := hv.row i hi2
      have hcell := own_cell (i := i) ho rfl (u := .slice ai css[i].length ci) (by rw [List.getElem?_append_left (by rw [hv.len]; exact hi2)]; exact h1)
      refine ⟨g8, 0, ai, ci, rfl, hlt, ?_, ?_, ?_⟩
      · rw [Nat.zero_add, List.getElem_append_left hi2]; exact hcell
      · rw [List.getElem_append_left hi2]; exact h2.row.below hB
      · rw [List.getElem_append_left hi2]; exact h3
    · obtain rfl : i = css.length := by rw [hlen] at hi; omega
      have hcell := own_cell (i := css.length) ho rfl (u := .slice ac c.length cac) (by rw [List.getElem?_append_right (by rw [hv.len]; exact Nat.le_refl _), hv.len, Nat.sub_self]; rfl)
      have e : (css ++ [c])[css.length] = c := by simp
      refine ⟨g8, 0, ac, cac, rfl, hlt, ?_, ?_, ?_⟩
      · rw [Nat.zero_add, e]; exact hcell
      · rw [e]; exact hr.below hB
      · rw [e]; exact hlc

/-- What Keeps asks of the clause. -/
theorem keeps_sat {V : Nat} {css : List (List Int)} {c : List Int} (hc : cnfB V css = true) (hV : V ≤ 7) (h7 : cnfB 7 [c] = true) (hF : (c = [] ∧ true = false) ∨ ∃ l0, c[0]? = some l0 ∧ FirstE (spareN V [⟨false, c⟩]) css c (-l0) true) : satB 7 css = satB 7 (css ++ [c]) := by
  rcases hF with ⟨_, h⟩ | ⟨l0, hl0, hF⟩
  · cases h
  · have hlt := cnf_lt hc
    have hlc := (cnf_lt (V := 7) h7) c (by simp)
    have hle := le_topN V [⟨false, c⟩]
    refine first_keeps (V := 7) (by omega) hF hl0 (fun d hd x hx => ?_) (fun x hx => ?_)
    · have q := (hlt d hd).2 x hx
      unfold Lt at q
      refine ⟨q.1, by omega, fun hs => ?_⟩
      have := spare_top hs
      have := hle.1
      omega
    · have q := hlc.2 x hx
      unfold Lt at q
      refine ⟨q.1, by omega, fun hs => ?_⟩
      have := spare_top hs
      have q1 := le_gtN x hx
      have q2 := hle.2 _ (List.mem_singleton_self _)
      simp only at q2
      omega

theorem cnf_one {c : List Int} (h7 : cnfB 7 [c] = true) : mayB c 1048576 = true := by
  unfold cnfB at h7
  simp only [Bool.and_eq_true, decide_eq_true_eq, List.all_eq_true] at h7
  have hm := h7.2 c (by simp)
  unfold mayB at hm ⊢
  simp only [Bool.and_eq_true, decide_eq_true_eq, List.all_eq_true] at hm ⊢
  refine ⟨hm.1, fun x hx => ?_⟩
  have := hm.2 x hx
  unfold litB at this ⊢
  simp only [decide_eq_true_eq] at this ⊢
  omega

set_option maxHeartbeats 8000000 in
set_option maxRecDepth 100000 in
theorem keeps_any (w : World) (a ac : Option Addr) (cap cac : Nat) (n : Int) (css : List (List Int)) (c : List Int) (hg : GridC w a css) (hl : css.length ≤ maxLen) (hr : Row w ac c) (hlc : c.length ≤ maxLen) (hn : ac = none → cac = 0) (han : a = none → cap = 0) :
    Calls Tryz.prog 3 #[.agg #[.int .i64 n, .slice a css.length cap], .slice ac c.length cac] w fun e w' => e = .returned (.bool true) ∧ Below w.heap.size w w' := by
  have B0 := bx7_new w n (.slice a css.length cap)
  have G1 := small_any a cap n css _ (hg.grid.below B0.bel) hl
  have GS : ∀ W, Calls Tryz.prog 5 #[.slice ac c.length cac] W fun e w' => e = .returned (.bool (decide ((c.length : Int) ≤ 60))) ∧ w' = W := fun W => short_any ac cac c W hlc
  have GA : Hid (∀ W, Calls Tryz.prog 8 #[] W fun e w' => e = .returned (.bool true) ∧ Below W.heap.size W w') := fun W => rupAwake_any W
  have GC : ∀ W, Bx7 w W w.heap.size n (.slice a css.length cap) → Calls Tryz.prog 6 #[.agg #[.int .i64 n, .slice a css.length cap]] W fun e w' => e = .returned (.bool (cnfB n css)) ∧ Below W.heap.size W w' := fun W hW => refCnf_any a cap n css W ((hg.below hW.bel).grid) hl
  have GO : ∀ W, Bx7 w W w.heap.size n (.slice a css.length cap) → Calls Tryz.prog 6 #[.agg #[.int .i64 7, .slice (some ⟨W.heap.size, 0, none⟩) 1 1]] (W.alloc (.cells #[.slice ac c.length cac] 25)) fun e w' => e = .returned (.bool (cnfB 7 [c])) ∧ Below W.heap.size W w' := fun W hW => by
    have q := refCnf_any (some ⟨W.heap.size, 0, none⟩) 1 7 [c] (W.alloc (.cells #[.slice ac c.length cac] 25)) (one_grid (hr.below hW.bel) hlc) (by simp [maxLen])
    exact q.mono fun e w' ⟨h1, h2⟩ => ⟨h1, (below_alloc W _).trans (h2.mono (by simp))⟩
  have HAN := hide han
  have HG := hide hg
  have HR := hide hr
  have HB0 := hide B0
  clear hg hr B0
  cases hsm : (lightB css && decide (css.length ≤ 40)) with
  | false =>
    rw [hsm] at G1
    replace G1 := hide G1
    clear GS hsm GC GO
    go_enter Tryz.func3, Tryz.ntmps3
    go_wp2_with (first | (go_at_call 4; refine (unhide G1).mono ?_; rintro e w1 ⟨rfl, hb1⟩) | (go_at_call 8; refine (unhide GA _).mono ?_; rintro e w2 ⟨rfl, hb2⟩))
    go_ret
    have h1 := (HB0.out.below hb1).below hb2
    exact ⟨rfl, h1.bel⟩
  | true =>
  rw [hsm] at G1
  replace G1 := hide G1
  have hcss : css.length ≤ 40 := by simp at hsm; exact hsm.2
  clear hsm
  by_cases hsh : (c.length : Int) ≤ 60
  case neg =>
    rw [decide_eq_false hsh] at GS
    replace GS := hide GS
    clear hsh GC GO
    go_enter Tryz.func3, Tryz.ntmps3
    go_wp2_with (first | (go_at_call 4; refine (unhide G1).mono ?_; rintro e w1 ⟨rfl, hb1⟩) | (go_at_call 5; refine (unhide GS _).mono ?_; rintro e w0 ⟨rfl, hw0⟩; subst w0) | (go_at_call 8; refine (unhide GA _).mono ?_; rintro e w2 ⟨rfl, hb2⟩))
    go_ret
    have h1 := (HB0.out.below hb1).below hb2
    exact ⟨rfl, h1.bel⟩
  case pos =>
  have hc60 : c.length ≤ 60 := by omega
  rw [decide_eq_true hsh] at GS
  replace GS := hide GS
  clear hsh
  cases hcn : cnfB n css with
  | false =>
    rw [hcn] at GC
    replace GC := hide GC
    clear hcn GO
    go_enter Tryz.func3, Tryz.ntmps3
    go_wp2_with (first
      | (go_at_call 4; refine (unhide G1).mono ?_; rintro e w1 ⟨rfl, hb1⟩; have B1 := hide (HB0.out.below hb1); have x0 := B1.out.c0; have x1 := B1.out.c1; clear hb1)
      | (go_at_call 5; refine (unhide GS _).mono ?_; rintro e w0 ⟨rfl, hw0⟩; subst w0)
      | (go_at_call 6; refine (unhide GC _ B1.out).mono ?_; rintro e w2 ⟨rfl, hb2⟩; have B2 := hide (B1.out.below hb2); clear hb2)
      | (go_at_call 8; refine (unhide GA _).mono ?_; rintro e w5 ⟨rfl, hb5⟩))
    go_ret
    exact ⟨rfl, (B2.out.below hb5).bel⟩
  | true =>
  rw [hcn] at GC
  replace GC := hide GC
  obtain ⟨V, rfl⟩ : ∃ V : Nat, n = (V : Int) := ⟨n.toNat, by unfold cnfB at hcn; simp only [Bool.and_eq_true, decide_eq_true_eq] at hcn; omega⟩
  by_cases h7 : 7 < V
  · have h7i : (7 : Int) < V := by omega
    clear hcn GO h7
    go_enter Tryz.func3, Tryz.ntmps3
    go_wp2_with (first
      | (go_at_call 4; refine (unhide G1).mono ?_; rintro e w1 ⟨rfl, hb1⟩; have B1 := hide (HB0.out.below hb1); have x0 := B1.out.c0; have x1 := B1.out.c1; clear hb1)
      | (go_at_call 5; refine (unhide GS _).mono ?_; rintro e w0 ⟨rfl, hw0⟩; subst w0)
      | (go_at_call 6; refine (unhide GC _ B1.out).mono ?_; rintro e w2 ⟨rfl, hb2⟩; have B2 := hide (B1.out.below hb2); have y0 := B2.out.c0; have y1 := B2.out.c1; clear hb2)
      | (go_at_call 8; refine (unhide GA _).mono ?_; rintro e w5 ⟨rfl, hb5⟩))
    go_ret
    exact ⟨rfl, (B2.out.below hb5).bel⟩
  have h7i : ¬ (7 : Int) < V := by omega
  cases hco : cnfB 7 [c] with
  | false =>
    rw [hco] at GO
    replace GO := hide GO
    clear hcn hco h7
    go_enter Tryz.func3, Tryz.ntmps3
    go_upto_region 2 with (first
      | (go_at_call 4; refine (unhide G1).mono ?_; rintro e w1 ⟨rfl, hb1⟩; have B1 := hide (HB0.out.below hb1); have x0 := B1.out.c0; have x1 := B1.out.c1; clear hb1)
      | (go_at_call 5; refine (unhide GS _).mono ?_; rintro e w0 ⟨rfl, hw0⟩; subst w0)
      | (go_at_call 6; refine (unhide GC _ B1.out).mono ?_; rintro e w2 ⟨rfl, hb2⟩; have B2 := hide (B1.out.below hb2); have y0 := B2.out.c0; have y1 := B2.out.c1; clear hb2 GC)
      | (go_at_call 6; refine (unhide GO _ B2.out).mono ?_; rintro e w3 ⟨rfl, hb3⟩; have B3 := hide (B2.out.below hb3); clear hb3))
    clear GO HG
    go_wp2_with (go_at_call 8; refine (unhide GA _).mono ?_; rintro e w5 ⟨rfl, hb5⟩)
    go_ret
    exact ⟨rfl, (B3.out.below hb5).bel⟩
  | true =>
  rw [hco] at GO
  replace GO := hide GO
  have hm := cnf_one hco
  have GF : Hid (∀ W, Bx7 w W w.heap.size V (.slice a css.length cap) → Calls Tryz.prog 7 #[.agg #[.int .i64 V, .slice a css.length cap], .slice ac c.length cac] W fun e w' => ∃ b, e = .returned (.bool b) ∧ Hid (b = true → satB 7 css = satB 7 (css ++ [c])) ∧ Below W.heap.size W w') := fun W hW => by
    refine (first_yes a ac cap cac V css c W (HG.out.below hW.bel) (by omega) (HR.out.below hW.bel) (by omega) hn hcn hm).mono ?_
    rintro e w' ⟨b, rfl, h1, h2⟩
    refine ⟨b, rfl, fun hb => ?_, h2⟩
    subst hb
    exact keeps_sat hcn (by omega) hco h1
  clear hcn hco hm
  go_enter Tryz.func3, Tryz.ntmps3
  go_upto_region 3 with (first
    | (go_at_call 4; refine (unhide G1).mono ?_; rintro e w1 ⟨rfl, hb1⟩; have B1 := hide (HB0.out.below hb1); have x0 := B1.out.c0; have x1 := B1.out.c1; clear hb1)
    | (go_at_call 5; refine (unhide GS _).mono ?_; rintro e w0 ⟨rfl, hw0⟩; subst w0)
    | (go_at_call 6; refine (unhide GC _ B1.out).mono ?_; rintro e w2 ⟨rfl, hb2⟩; have B2 := hide (B1.out.below hb2); have y0 := B2.out.c0; have y1 := B2.out.c1; clear hb2 GC)
    | (go_at_call 6; refine (unhide GO _ B2.out).mono ?_; rintro e w3 ⟨rfl, hb3⟩; have B3 := hide (B2.out.below hb3); have z0 := B3.out.c0; have z1 := B3.out.c1; clear hb3 GO)
    | (go_at_call 7; refine (unhide GF _ B3.out).mono ?_; rintro e w4 ⟨b, rfl, HSAT, hb4⟩; have B4 := hide (B3.out.below hb4); clear hb4 GF; cases b)
    | (go_at_call 8; refine (unhide GA _).mono ?_; rintro e w5 ⟨rfl, hb5⟩))
  · go_ret
    exact ⟨rfl, (B4.out.below hb5).bel⟩
  · have HS2 := hide (HSAT.out (by first | rfl | trivial))
    have s0 := B4.out.c0
    have f0 : w4.frozen? ⟨w.heap.size, 0, none⟩ = false := frz_of_block B4.out.box
    clear x0 x1 y0 y1 z0 z1 B1 B2 B3 HSAT G1 GS
    go_upto_region 4 with fail
    refine forget (P := fun W => Code.wp Tryz.prog _ _ _ W) (fun W => Hid (Bx7 w W w.heap.size 7 (.slice a css.length cap))) ⟨(setBlk B4.out.box _).trans (by simp), B4.out.bel.setCell (p := ⟨w.heap.size, 0, none⟩) (Nat.le_refl _) _⟩ ?_
    clear s0 f0 B4
    intro W5 B5
    have c0 := B5.out.c0
    have c1 := B5.out.c1
    have GT := hide (sat7_any a cap css W5 ((HG.out.below B5.out.bel).grid) hl)
    go_upto_region 5 with (go_at_call 9; refine (unhide GT).mono ?_; rintro e w6 ⟨v6, rfl, hb6⟩; have B6 := hide (B5.out.below hb6); clear hb6)
    clear c0 c1 B5 GT
    have d1 := B6.out.c1
    obtain ⟨vs, hvs⟩ := (HG.out.below B6.out.bel).gv (Ev.refl free _)
    obtain ⟨i0, hi, hz0, hz1, hz2⟩ := info_parts Tryz.info25
    have hvl : vs.length ≤ 40 := by rw [hvs.len]; exact hcss
    have HVS := hide hvs
    generalize hX : w.heap.size = X at *
    have HX := hide hX
    clear hX
    have hXlt : X < w6.heap.size := lt_of_block B6.out.box
    have d1a : ∀ o : Obj, (w6.alloc o).cell? ⟨X, 1, none⟩ = some (.slice a css.length cap) := fun o => (World.cell?_of_block (a := ⟨X, 1, none⟩) (Below.heap_alloc w6 o X hXlt)).trans d1
    have HR6 := hide (HR.out.below B6.out.bel)
    rw [HS2.out]
    generalize hsb : satB 7 (css ++ [c]) = sb
    have HSB := hide hsb
    clear hsb HS2
    cases sb
    all_goals
      go_wp2_with (first
        | (at_builtin; refine wpList_append_any rfl (.tmp 48) (.tmp 50) 22 rfl w6.heap.size 25 i0 (.slice none 0 0) 1 24 Tryz.underlying22 hi hz0 hz1 hz2 rfl (by decide) (.slice (some ⟨w6.heap.size, 0, none⟩) 0 0) 0 [] rfl (World.ownsRow_lit (e := 25) (size := 1) w6 #[] 0 (Nat.le_refl _) (Nat.zero_le _) rfl) (by simp) a css.length cap vs rfl (gv_src HVS.out HAN.out _) (gv_one HVS.out) (by unfold maxLen; omega) (by omega) (by simp) ?_; intro g7 cap7 w7 ho7 hgr7 hat7 hlt7; simp only [Nat.zero_add, List.nil_append] at ho7; have HB7 := hide (((Below.refl w6.heap.size w6).alloc (Nat.le_refl _) (.cells #[] 25)).grown hgr7 (by simp) (fun b e => by simp [Value.ownBlock] at e; omega)); have hs7 := HB7.out.size)
        | (at_builtin; refine wpList_append_any rfl (.tmp 51) (.tmp 53) 22 rfl w6.heap.size 25 i0 (.slice none 0 0) 1 24 Tryz.underlying22 hi hz0 hz1 hz2 rfl (by decide) (.slice (some ⟨g7, 0, none⟩) css.length cap7) css.length vs rfl (World.ownsRow.alloc ho7 _) (by simp) (some ⟨w7.heap.size, 0, none⟩) 1 1 [.slice ac c.length cac] rfl (.inr ⟨_, rfl, rfl, cell_one_new _ _ _⟩) (by simp [Value.oneCell']) (by unfold maxLen; omega) (by omega) (by simp; omega) ?_; intro g8 cap8 w8 ho8 hgr8 hat8 hlt8; have HB8 := hide ((HB7.out.alloc hs7 (.cells #[.slice ac c.length cac] 25)).grown hgr8 (by simp; omega) (fun b e => (World.ownsRow.lt ho7 b e).1)); have GT8 := hide (sat_join (cac := cac) HVS.out HR6.out hlc hcss HB8.out ho8 HSB.out))
        | (go_at_call 9; refine (unhide GT8).mono ?_; rintro e w9 ⟨v9, rfl, hb9⟩)
        | (go_at_call 8; refine (unhide GA _).mono ?_; rintro e w10 ⟨rfl, hb10⟩))
      go_ret
      have h8 := B6.out.below HB8.out
      have h10 := (h8.below hb9).below hb10
      have hbel := h10.bel
      rw [HX.out] at hbel ⊢
      exact ⟨rfl, hbel⟩
end Go.Proofs.YtlmbgaconjcaiabGreat
