/- Contracts: isInput, Check, Value. -/
import Derived.Test.YtbilhiklfficoaaWalkI
import Derived.Deep.QuietTactic
import Derived.Test.YtbilhiklfficoaaPlainD
import Derived.Deep.RegionHeld3
set_option linter.unusedVariables false
set_option linter.unusedSimpArgs false
namespace Go.Proofs.Ytbilhiklfficoaa
open Go.RowKit Go.Maps

theorem isIn_eq (a b : Int) : isInB (a, b) = ((a == -1) && (b == -1)) := rfl
set_option maxHeartbeats 2000000 in
theorem isInput_case (w : World) (a b : Int) (r : Bool) (hc : (a = -1 ∧ b = -1 ∧ r = true) ∨ (¬ a = -1 ∧ r = false) ∨ (a = -1 ∧ ¬ b = -1 ∧ r = false)) :
    Calls Try.prog 33 #[.agg #[.int .i64 a, .int .i64 b]] w fun e w' => e = .returned (.bool r) ∧ Below w.heap.size w w' := by
  have hb := box2 w (.int .i64 a) (.int .i64 b) 60
  have k0 : (w.alloc (.cells #[.int .i64 a, .int .i64 b] 60)).cell? ⟨w.heap.size, 0, none⟩ = some (.int .i64 a) := hb.1
  have k1 : (w.alloc (.cells #[.int .i64 a, .int .i64 b] 60)).cell? ⟨w.heap.size, 1, none⟩ = some (.int .i64 b) := hb.2.1
  have HB := hide (below_alloc w (.cells #[.int .i64 a, .int .i64 b] 60))
  have hsz : w.heap.size < (w.alloc (.cells #[.int .i64 a, .int .i64 b] 60)).heap.size := by simp
  have HSZ := hide hsz
  have IN : Hid (∀ W, Calls Try.prog 49 #[] W fun e w' => e = .returned (.agg #[.int .i64 (-1), .int .i64 (-1)]) ∧ Below W.heap.size W w') := fun W => input_any W
  clear hb hsz
  go_enter Try.func33, Try.ntmps33
  go_upto_region 1 with fail
  refine forget (P := fun W => Code.wp Try.prog _ _ _ W) (fun W => (W.cell? ⟨w.heap.size, 0, none⟩ = some (.int .i64 a) ∧ W.cell? ⟨w.heap.size, 1, none⟩ = some (.int .i64 b)) ∧ Hid (Below w.heap.size w W) ∧ Hid (w.heap.size < W.heap.size)) ⟨⟨k0, k1⟩, HB, HSZ⟩ ?_
  clear k0 k1 HB HSZ
  rintro W ⟨⟨k0, k1⟩, HB, HSZ⟩
  generalize hS : w.heap.size = S at k0 k1 HSZ ⊢
  have HS := hide hS
  clear hS
  have fin : ∀ w1, Below W.heap.size W w1 → Hid (Below S w w1) := fun w1 h => by unfold Hid; rw [← HS.out]; exact HB.out.trans (h.mono HB.out.size)
  have FIN := hide fin
  clear fin
  rcases hc with ⟨rfl, rfl, rfl⟩ | ⟨h1, rfl⟩ | ⟨rfl, h2, rfl⟩
  · go_wp2
    go_region_held3 (fun z => z.cell? ⟨S, 0, none⟩ = some (.int .i64 (-1)) ∧ z.cell? ⟨S, 1, none⟩ = some (.int .i64 (-1))) (go_keep) (first | (go_at_call 49; refine (unhide IN _).mono ?_; rintro e w1 ⟨rfl, hb1⟩; have t0 := (hb1.cell (p := ⟨S, 0, none⟩) HSZ.out).trans k0; have t1 := (hb1.cell (p := ⟨S, 1, none⟩) HSZ.out).trans k1))
    all_goals
      go_wp2
      go_ret
      have hf := FIN.out w1 ((below_drewN (Below.refl _ _) 1).trans hb1)
      rw [HS.out]
      exact ⟨rfl, hf⟩
  · go_wp2
    go_region_held3 (fun z => z.cell? ⟨S, 0, none⟩ = some (.int .i64 (a)) ∧ z.cell? ⟨S, 1, none⟩ = some (.int .i64 (b))) (go_keep) (first | (go_at_call 49; refine (unhide IN _).mono ?_; rintro e w1 ⟨rfl, hb1⟩; have t0 := (hb1.cell (p := ⟨S, 0, none⟩) HSZ.out).trans k0; have t1 := (hb1.cell (p := ⟨S, 1, none⟩) HSZ.out).trans k1))
    all_goals
      go_wp2
      go_ret
      have hf := FIN.out w1 ((below_drewN (Below.refl _ _) 1).trans hb1)
      rw [HS.out]
      exact ⟨rfl, hf⟩
  · go_wp2
    go_region_held3 (fun z => z.cell? ⟨S, 0, none⟩ = some (.int .i64 (-1)) ∧ z.cell? ⟨S, 1, none⟩ = some (.int .i64 (b))) (go_keep) (first | (go_at_call 49; refine (unhide IN _).mono ?_; rintro e w1 ⟨rfl, hb1⟩; have t0 := (hb1.cell (p := ⟨S, 0, none⟩) HSZ.out).trans k0; have t1 := (hb1.cell (p := ⟨S, 1, none⟩) HSZ.out).trans k1))
    all_goals
      go_wp2
      go_ret
      have hf := FIN.out w1 ((below_drewN (Below.refl _ _) 1).trans hb1)
      rw [HS.out]
      exact ⟨rfl, hf⟩

theorem isInput_any (w : World) (a b : Int) :
    Calls Try.prog 33 #[.agg #[.int .i64 a, .int .i64 b]] w fun e w' => e = .returned (.bool (isInB (a, b))) ∧ Below w.heap.size w w' := by
  refine isInput_case w a b _ ?_
  by_cases h1 : a = -1
  · by_cases h2 : b = -1
    · exact .inl ⟨h1, h2, by simp [isInB, h1, h2]⟩
    · exact .inr (.inr ⟨h1, h2, by simp [isInB, h2]⟩)
  · exact .inr (.inl ⟨h1, by simp [isInB, h1]⟩)

set_option maxHeartbeats 4000000 in
set_option maxRecDepth 100000 in
theorem check_any (w : World) (al : Option Addr) (cap : Nat) (g : List Gt) (hs : GS w al g) (hl : g.length ≤ 1000000) (hm : May g) :
    Calls Try.prog 32 #[.slice al g.length cap] w fun e w' => e = .returned (.int .i64 0) ∧ Below w.heap.size w w' := by
  have HGS := hide hs
  have HM := hide hm
  have IS : Hid (∀ W a b, Calls Try.prog 33 #[.agg #[.int .i64 a, .int .i64 b]] W fun e w' => e = .returned (.bool (isInB (a, b))) ∧ Below W.heap.size W w') := fun W a b => isInput_any W a b
  clear hs hm
  go_enter Try.func32, Try.ntmps32
  go_wp2
  go_loopw [11] (fun i W => ∃ k : Nat, k ≤ g.length ∧ i = .int .i64 (k : Int) ∧ Hid (Below w.heap.size w W)) (fun i _ => g.length - (intOf i).toNat)
  case atStart => exact ⟨0, Nat.zero_le _, rfl, Below.refl _ _⟩
  case round =>
    obtain ⟨k, hk, rfl, HB⟩ := hrel
    by_cases hlt : k < g.length
    · obtain ⟨q, off, rfl, hq, z0, z1⟩ := (HGS.out.below HB.out) k hlt
      have hok := HM.out k hlt
      have hx : g[k] = (g[k].1, g[k].2) := rfl
      rw [hx] at hok
      generalize g[k].1 = a at *
      generalize g[k].2 = b at *
      clear hx
      have LT := hide (fun W => literal_any W (k : Int) (by omega) (by omega))
      unfold okAt at hok
      obtain ⟨mn, mx⟩ : (∀ W, Sem.run Try.prog (Builtin.min_ #[3, 3] 3 #[.int .i64 a, .int .i64 b]) W = .ok (.int .i64 (min a b)) W) ∧ (∀ W, Sem.run Try.prog (Builtin.max_ #[3, 3] 3 #[.int .i64 a, .int .i64 b]) W = .ok (.int .i64 (max a b)) W) := ⟨fun W => (run_minmax a b W).1, fun W => (run_minmax a b W).2⟩
      have hbx := box2 wr (.int .i64 a) (.int .i64 b) 60
      have k0 : (wr.alloc (.cells #[.int .i64 a, .int .i64 b] 60)).cell? ⟨wr.heap.size, 0, none⟩ = some (.int .i64 a) := hbx.1
      have k1 : (wr.alloc (.cells #[.int .i64 a, .int .i64 b] 60)).cell? ⟨wr.heap.size, 1, none⟩ = some (.int .i64 b) := hbx.2.1
      have HB1 := hide (HB.out.trans ((below_alloc wr (.cells #[.int .i64 a, .int .i64 b] 60)).mono HB.out.size))
      clear hbx
      go_upto_region 6 with fail
      refine forget (P := fun W => Code.wp Try.prog _ _ _ W) (fun W => (W.cell? ⟨wr.heap.size, 0, none⟩ = some (.int .i64 a) ∧ W.cell? ⟨wr.heap.size, 1, none⟩ = some (.int .i64 b)) ∧ Hid (Below w.heap.size w W)) ⟨⟨k0, k1⟩, HB1⟩ ?_
      clear k0 k1 HB1 z0 z1
      rintro W ⟨⟨k0, k1⟩, HB1⟩
      generalize wr.heap.size = S at *
      rcases hok with hin | ⟨h0, h1, h2, h3⟩
      · have hmn : min a b = -1 := by unfold isInB at hin; simp at hin; omega
        rw [hmn] at mn
        have hin2 : isInB (a, b) = true := hin
        clear hmn mx hin
        go_wp2
        go_quiet ((go_at_call 41; exact Calls.quiet_of_same (unhide LT _)))
        go_wp2_with (first | (go_at_call 33; refine (unhide IS _ _ _).mono ?_; rintro e w2 ⟨rfl, hb2⟩))
        have hbd := below_drewN HB1.out nq
        go_roundw
        case rel => exact ⟨k + 1, by omega, by go_num, hbd.trans (hb2.mono hbd.size)⟩
        case measure => simp [intOf]; omega
      · have g1 : decide (0 ≤ min a b) = true := by simp; omega
        have g2 : decide (max a b < 2 * ((k : Int) + 1)) = true := by simp; omega
        have g3 : isInB (a, b) = false := kid_in (.inl h0)
        clear h0 h1 h2 h3
        generalize min a b = lo at *
        generalize max a b = hi at *
        go_wp2
        go_quiet ((go_at_call 41; exact Calls.quiet_of_same (unhide LT _)))
        go_wp2_with (first | (go_at_call 33; refine (unhide IS _ _ _).mono ?_; rintro e w2 ⟨rfl, hb2⟩))
        have hbd := below_drewN HB1.out nq
        go_roundw
        case rel => exact ⟨k + 1, by omega, by go_num, hbd.trans (hb2.mono hbd.size)⟩
        case measure => simp [intOf]; omega
    · go_wp2
      go_ret
      exact ⟨rfl, HB.out⟩

/-- Truth values behind a slice. -/
def Vs (w : World) (a : Option Addr) (v : List Bool) : Prop := ∀ k (h : k < v.length), ∃ b off, a = some ⟨b, off, none⟩ ∧ b < w.heap.size ∧ w.cell? ⟨b, off + k, none⟩ = some (.bool v[k])
theorem Vs.below {w W : World} {a : Option Addr} {v : List Bool} (h : Vs w a v) (hb : Below w.heap.size w W) : Vs W a v := by
  intro k hk
  obtain ⟨b, off, e, hlt, hc⟩ := h k hk
  exact ⟨b, off, e, Nat.lt_of_lt_of_le hlt hb.size, (World.cell?_of_block (hb.block b hlt)).trans hc⟩

set_option maxHeartbeats 2000000 in
theorem value_any (w : World) (al : Option Addr) (cap : Nat) (v : List Bool) (l : Int) (hv : Vs w al v) (hl : v.length ≤ 1000000) :
    Calls Try.prog 19 #[.slice al v.length cap, .int .i64 l] w fun e w' => e = .returned (.bool (valF v l)) ∧ ∃ n, w' = w.drewN n := by
  have LT := hide (literal_any w (v.length : Int) (by omega) (by omega))
  by_cases h1 : l = 1
  · subst h1
    rw [val_one]
    go_enter Try.func19, Try.ntmps19
    go_wp2
    all_goals
      go_ret
      exact ⟨rfl, 0, rfl⟩
  have e1 : (l == 1) = false := by simpa using h1
  by_cases h2 : l ≤ 0
  · have e : valF v l = false := by unfold valF; rw [if_neg h1, if_pos (.inl h2)]
    rw [e]
    clear hv e
    have d2 : decide (l ≤ 0) = true := by simpa using h2
    go_enter Try.func19, Try.ntmps19
    go_wp2_with (first | (go_at_call 41; refine (unhide LT).mono ?_; rintro e w1 ⟨rfl, hw1⟩; subst w1))
    all_goals
      go_ret
      exact ⟨rfl, 0, rfl⟩
  have d2 : decide (l ≤ 0) = false := by simpa using h2
  by_cases h3 : 2 * ((v.length : Int) + 1) ≤ l
  · have e : valF v l = false := by unfold valF; rw [if_neg h1, if_pos (.inr h3)]
    rw [e]
    clear hv e
    have d3 : decide (2 * ((v.length : Int) + 1) ≤ l) = true := by simpa using h3
    go_enter Try.func19, Try.ntmps19
    go_wp2_with (first | (go_at_call 41; refine (unhide LT).mono ?_; rintro e w1 ⟨rfl, hw1⟩; subst w1))
    all_goals
      go_ret
      exact ⟨rfl, 0, rfl⟩
  · have d3 : decide (2 * ((v.length : Int) + 1) ≤ l) = false := by simpa using h3
    obtain ⟨i, hi, ei⟩ : ∃ i : Nat, i < v.length ∧ (i : Int) = l / 2 - 1 := ⟨(l / 2 - 1).toNat, by omega, by omega⟩
    obtain ⟨b, off, rfl, hlt, hc⟩ := hv i hi
    have e : valF v l = (v[i] != oddB l) := by
      unfold valF
      rw [if_neg h1, if_neg (by omega), show (l / 2 - 1).toNat = i by omega, List.getD_eq_getElem?_getD, List.getElem?_eq_getElem hi]
      rfl
    rw [e]
    have PL : Hid (Calls Try.prog 42 #[.int .i64 l] w fun e w' => e = .returned (.int .i64 (i : Int)) ∧ w' = w) := by rw [ei]; exact place_any w l (by omega) (by omega)
    have PL2 : Hid (∀ n, Calls Try.prog 42 #[.int .i64 l] (w.drewN n) fun e w' => e = .returned (.int .i64 (i : Int)) ∧ w' = w.drewN n) := fun n => by rw [ei]; exact place_any _ l (by omega) (by omega)
    have NG : Hid (∀ W, Calls Try.prog 43 #[.int .i64 l] W fun e w' => e = .returned (.bool (oddB l)) ∧ w' = W) := fun W => isNegation_any W l (by omega) (by omega)
    generalize v[i] = x at *
    generalize oddB l = y at *
    clear hv e ei
    go_enter Try.func19, Try.ntmps19
    go_wp2_with (first | (go_at_call 41; refine (unhide LT).mono ?_; rintro e w1 ⟨rfl, hw1⟩; subst w1))
    go_quiet ((first | (go_at_call 42; exact Calls.quiet_of_same (unhide PL2 _)) | (go_at_call 43; exact Calls.quiet_of_same (unhide NG _))))
    go_wp2
    go_ret
    exact ⟨rfl, _, rfl⟩
end Go.Proofs.Ytbilhiklfficoaa
