/- Contract: by which models a formula holds (the program's own). -/
import Derived.Test.YtiddcpemckifmaaWalkN
import Derived.WalkMore
set_option linter.unusedVariables false
set_option linter.unusedSimpArgs false
namespace Go.Proofs.Ytiddcpemckifmaa
open Go.RowKit

set_option maxHeartbeats 1000000 in
theorem litHolds_no (a am : Option Addr) (cap cm : Nat) (n : Int) (css : List (List Int)) (m : List Int) (w : World) (hg : Grid w a css) (hl : css.length ≤ maxLen) (h : cnfB n css = false) :
    Calls Try.prog 25 #[.agg #[.int .i64 n, .slice a css.length cap], .slice am m.length cm] w fun e w' => e = .returned (.bool false) ∧ Below w.heap.size w w' := by
  have hbW := below_alloc w (.cells #[.int .i64 n, .slice a css.length cap] 36)
  have C1 := checkCnf_any a cap n css _ (hg.below hbW) hl
  rw [h] at C1
  replace C1 := hide C1
  have HB := hide hbW
  clear hbW hg h hl
  go_enter Try.func25, Try.ntmps25
  go_wp2
  go_step3
  go_wp2_with fail
  refine (unhide C1).mono ?_
  rintro e w1 ⟨rfl, hb1⟩
  simp only [errI, Bool.false_eq_true, if_false]
  go_wp2
  (try rw [Exit.noGoto_ret])
  go_ret
  exact ⟨rfl, HB.out.trans (hb1.mono (by simp))⟩

set_option maxHeartbeats 2000000 in
theorem litHolds_yes (a am : Option Addr) (cap cm : Nat) (n : Int) (css : List (List Int)) (m : List Int) (w : World) (hg : Grid w a css) (hl : css.length ≤ maxLen) (hq : Row w am m) (hml : m.length ≤ maxLen) (h : cnfB n css = true) :
    Calls Try.prog 25 #[.agg #[.int .i64 n, .slice a css.length cap], .slice am m.length cm] w fun e w' => e = .returned (.bool (holdsB m css)) ∧ Below w.heap.size w w' := by
  have hbW := below_alloc w (.cells #[.int .i64 n, .slice a css.length cap] 36)
  have C1 := checkCnf_any a cap n css _ (hg.below hbW) hl
  rw [h] at C1
  replace C1 := hide C1
  have HB := hide hbW
  have HG := hide hg
  have HQ := hide hq
  have HML := hide hml
  clear hbW hg h hq hml
  unfold maxLen at hl
  go_enter Try.func25, Try.ntmps25
  go_wp2
  go_step3
  go_wp2_with fail
  refine (unhide C1).mono ?_
  rintro e w1 ⟨rfl, hb1⟩
  simp only [errI, if_true]
  have hcell1 : w1.cell? ⟨w.heap.size, 1, none⟩ = some (.slice a css.length cap) := by
    rw [hb1.cell (p := ⟨w.heap.size, 1, none⟩) (by simp), World.cell?_alloc_at _ _ _ _ rfl]; rfl
  have hbel := HB.out.trans (hb1.mono (by simp))
  have hg1 := HG.out.below hbel
  have CV := hide (fun l => litValue_any am cm m l w1 (HQ.out.below hbel) HML.out)
  clear C1 HB HG HQ HML hb1
  go_wp2
  go_step3
  go_wp2
  go_loop [15] (fun i => ∃ k : Nat, k ≤ css.length ∧ i = .int .i64 k ∧ (css.take k).all (fun c => clauseI m c == 1) = true) (fun i => css.length - (intOf i).toNat)
  case atStart => exact ⟨0, Nat.zero_le _, rfl, rfl⟩
  case round =>
    obtain ⟨k, hk, rfl, hno⟩ := hrel
    have HN := hide hno
    clear hno
    by_cases hlt : k < css.length
    · obtain ⟨b, off, ai, ci, rfl, hb, hc, hr, hm⟩ := hg1 k hlt
      have HAT := hide (allL_take_snoc (fun c => clauseI m c == 1) css k hlt HN.out)
      have HAF := hide (allL_false_at (fun c => clauseI m c == 1) css k hlt)
      generalize hck : css[k] = c at *
      clear hg1 hck
      unfold maxLen at hm
      have hki : (k : Int) < css.length := by omega
      go_wp2
      go_loop [21] (fun j => ∃ p : Nat, p ≤ c.length ∧ j = .int .i64 p ∧ (c.take p).any (fun l => valI m l == 1) = false) (fun j => c.length - (intOf j).toNat)
      case atStart => exact ⟨0, Nat.zero_le _, rfl, rfl⟩
      case round =>
        obtain ⟨p, hp, rfl, hno2⟩ := hrel
        have HN2 := hide hno2
        clear hno2
        by_cases hplt : p < c.length
        · obtain ⟨b2, off2, rfl, hb2, hc2⟩ := hr p hplt
          have HAS := hide (any_take_snoc (fun l => valI m l == 1) c p hplt HN2.out)
          have HAY := hide (any_true_at (fun l => valI m l == 1) c p hplt)
          have hpi : (p : Int) < c.length := by omega
          have CV1 := unhide CV c[p]
          clear hr CV
          generalize valI m c[p] = v at *
          replace CV1 := hide CV1
          by_cases h6 : v = 1
          · have h6' : (v == 1) = true := by simp [h6]
            have HF := hide (HAT.out (by show (clauseI m c == 1) = true; rw [clauseI_one (HAY.out h6')]; rfl))
            clear HAS HAY h6 HAT HAF
            go_wp2_with (go_at_call 16; refine (unhide CV1).mono ?_; rintro e w' ⟨rfl, rfl⟩)
            go_round
            case rel => exact ⟨k + 1, by omega, by go_num, HF.out⟩
            case measure => simp [intOf]; omega
          · have h6' : (v == 1) = false := by simp [h6]
            have HF := hide (HAS.out h6')
            clear HAS HAY h6
            go_wp2_with (go_at_call 16; refine (unhide CV1).mono ?_; rintro e w' ⟨rfl, rfl⟩)
            go_round
            case rel => exact ⟨p + 1, by omega, by go_num, HF.out⟩
            case measure => simp [intOf]; omega
        · have HF : Hid (holdsB m css = false) := HAF.out (by
            have h := any_of_take (p := fun l => valI m l == 1) (xs := c) (k := p) (by omega) HN2.out
            show (clauseI m c == 1) = false
            unfold clauseI; rw [h]; cases (c.any fun l => valI m l == 0) <;> rfl)
          clear hr HN2 HAT HAF CV
          go_wp2
          (try rw [Exit.noGoto_ret])
          go_ret
          exact ⟨ret_bool HF.out.symm, hbel⟩
    · clear hg1
      have HF := hide (allL_of_take (p := fun c => clauseI m c == 1) (xs := css) (k := k) (by omega) HN.out)
      go_wp2
      (try rw [Exit.noGoto_ret])
      go_ret
      exact ⟨ret_bool HF.out.symm, hbel⟩

end Go.Proofs.Ytiddcpemckifmaa
