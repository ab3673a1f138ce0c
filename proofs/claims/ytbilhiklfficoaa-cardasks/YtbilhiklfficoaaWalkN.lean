/- The document's May. -/
import Derived.Test.YtbilhiklfficoaaWalkI
set_option linter.unusedVariables false
set_option linter.unusedSimpArgs false
namespace Go.Proofs.Ytbilhiklfficoaa
open Go.RowKit Go.Maps

/-- What the document's May tells. -/
def MayR (w : World) (g : List Gt) (e : Ending) (w' : World) : Prop := ∃ r, e = .returned (.bool r) ∧ (r = true ↔ May g) ∧ ∃ n, w' = w.drewN n
theorem mayR_mk {w w' : World} {g : List Gt} {r : Bool} (h : r = true ↔ May g) (hw : ∃ n, w' = w.drewN n) : MayR w g (.returned (.bool r)) w' := ⟨r, rfl, h, hw⟩

set_option maxHeartbeats 4000000 in
set_option maxRecDepth 100000 in
theorem refMay_any (w : World) (al : Option Addr) (cap : Nat) (g : List Gt) (hs : GS w al g) (hl : g.length ≤ 1000000) :
    Calls Try.prog 23 #[.slice al g.length cap] w (MayR w g) := by
  have HGS := hide hs
  clear hs
  have hle : decide ((g.length : Int) ≤ 1048576) = true := by simp; omega
  go_enter Try.func23, Try.ntmps23
  go_wp2
  go_loopw [3] (fun i W => ∃ k : Nat, k ≤ g.length ∧ i = .int .i64 (k : Int) ∧ Hid (∀ j (hj : j < g.length), j < k → okAt j g[j]) ∧ ∃ n, W = w.drewN n) (fun i _ => g.length - (intOf i).toNat)
  case atStart => exact ⟨0, Nat.zero_le _, rfl, (fun j hj h => by omega), 0, rfl⟩
  case round =>
    obtain ⟨k, hk, rfl, HO, n, rfl⟩ := hrel
    by_cases hlt : k < g.length
    · obtain ⟨q, off, rfl, hq, z0, z1⟩ := HGS.out k hlt
      have y0 : (w.drewN n).cell? ⟨q, off + k * 2, none⟩ = _ := z0
      have y1 : (w.drewN n).cell? ⟨q, off + k * 2 + 1, none⟩ = _ := z1
      have hgood : Hid (okAt k (g[k].1, g[k].2) → ∀ j (hj : j < g.length), j < k + 1 → okAt j g[j]) := by
        intro h j hj hjk
        by_cases e : j = k
        · subst e; exact h
        · exact HO.out j hj (by omega)
      have hbad : Hid (¬ okAt k (g[k].1, g[k].2) → ¬ May g) := fun h hm => h (hm k hlt)
      generalize g[k].1 = a at *
      generalize g[k].2 = b at *
      clear z0 z1
      by_cases hin : a = -1 ∧ b = -1
      · obtain ⟨rfl, rfl⟩ := hin
        have HG := hide (hgood.out (.inl rfl))
        clear hgood hbad
        go_wp2
        go_roundw
        case rel => exact ⟨k + 1, by omega, by go_num, HG, by first | exact ⟨_, rfl⟩ | exact ⟨_, World.drewN_drewN _ _ _⟩⟩
        case measure => simp [intOf]; omega
      · have HI : Hid (isInB (a, b) = false) := by unfold Hid isInB; simp; omega
        by_cases w1 : a = -1
        · have w1' : (a == -1) = true := by simpa using w1
          have w2 : ¬ b = -1 := fun h => hin ⟨w1, h⟩
          have w2' : (b == -1) = false := by simpa using w2
          have hno : ¬ okAt k (a, b) := by unfold okAt; rw [HI.out]; simp; omega
          have HB := hide (hbad.out hno)
          have d1 : decide (a < 0) = true := by simp; omega
          subst w1
          clear hgood hbad hno hin
          go_wp2
          all_goals
            go_ret
            exact mayR_mk (r := false) ⟨fun h => (by cases h), fun h => absurd h HB.out⟩ ⟨_, rfl⟩
        have w1' : (a == -1) = false := by simpa using w1
        clear hin
        have hi0 : isInB (a, b) = false := HI
        by_cases p1 : a < 0
        · have hno : ¬ okAt k (a, b) := by unfold okAt; rw [hi0]; simp; omega
          have HB := hide (hbad.out hno)
          clear hgood hbad hno
          go_wp2
          all_goals
            go_ret
            exact mayR_mk (r := false) ⟨fun h => (by cases h), fun h => absurd h HB.out⟩ ⟨_, rfl⟩
        by_cases p2 : b < 0
        · have hno : ¬ okAt k (a, b) := by unfold okAt; rw [hi0]; simp; omega
          have d1 : decide (a < 0) = false := by simp; omega
          have HB := hide (hbad.out hno)
          clear hgood hbad hno
          go_wp2
          all_goals
            go_ret
            exact mayR_mk (r := false) ⟨fun h => (by cases h), fun h => absurd h HB.out⟩ ⟨_, rfl⟩
        by_cases p3 : 2 * (k : Int) + 1 < a
        · have hno : ¬ okAt k (a, b) := by unfold okAt; rw [hi0]; simp; omega
          have d1 : decide (a < 0) = false := by simp; omega
          have d2 : decide (b < 0) = false := by simp; omega
          have d3 : decide (2 * (k : Int) + 1 < a) = true := by simp; omega
          have HB := hide (hbad.out hno)
          clear hgood hbad hno
          go_wp2
          all_goals
            go_ret
            exact mayR_mk (r := false) ⟨fun h => (by cases h), fun h => absurd h HB.out⟩ ⟨_, rfl⟩
        by_cases p4 : 2 * (k : Int) + 1 < b
        · have hno : ¬ okAt k (a, b) := by unfold okAt; rw [hi0]; simp; omega
          have d1 : decide (a < 0) = false := by simp; omega
          have d2 : decide (b < 0) = false := by simp; omega
          have d3 : decide (2 * (k : Int) + 1 < a) = false := by simp; omega
          have d4 : decide (2 * (k : Int) + 1 < b) = true := by simp; omega
          have HB := hide (hbad.out hno)
          clear hgood hbad hno
          go_wp2
          all_goals
            go_ret
            exact mayR_mk (r := false) ⟨fun h => (by cases h), fun h => absurd h HB.out⟩ ⟨_, rfl⟩
        have d1 : decide (a < 0) = false := by simp; omega
        have d2 : decide (b < 0) = false := by simp; omega
        have d3 : decide (2 * (k : Int) + 1 < a) = false := by simp; omega
        have d4 : decide (2 * (k : Int) + 1 < b) = false := by simp; omega
        have HG := hide (hgood.out (by unfold okAt; right; dsimp only; omega))
        clear hgood hbad p1 p2 p3 p4
        go_wp2
        go_roundw
        case rel => exact ⟨k + 1, by omega, by go_num, HG, by first | exact ⟨_, rfl⟩ | exact ⟨_, World.drewN_drewN _ _ _⟩⟩
        case measure => simp [intOf]; omega
    · have hm : May g := fun j hj => HO.out j hj (by omega)
      have HM := hide hm
      clear hm HO
      go_wp2
      go_ret
      exact mayR_mk (r := true) ⟨fun _ => HM.out, fun _ => rfl⟩ ⟨n, rfl⟩
end Go.Proofs.Ytbilhiklfficoaa
