/- The statement on any proof's bytes, walked. -/
import Derived.Test.YtgklollpajhmlaaWalkV
import Derived.Test.YtgklollpajhmlaaWalkX
import Derived.Test.YtgklollpajhmlaaWalkBj
import Derived.Test.YtgklollpajhmlaaWalkAp
set_option linter.unusedVariables false
set_option linter.unusedSimpArgs false
namespace Go.Proofs.Ytgklollpajhmlaa
open Go.RowKit Go.Maps

attribute [local go_sem ↓] Go.wp_at_zero Go.wp_at_succ

set_option maxHeartbeats 4000000 in
theorem encodes_no (a : Option Addr) (cap : Nat) (l : List Stp) (w : World) (hA : Steps w a l) (hl : l.length ≤ maxLen) (hm : mayL l = false) :
    Calls Try.prog 3 #[.slice a l.length cap] w fun e w' => e = .returned (.bool true) ∧ Below w.heap.size w w' := by
  have C1 := hide (light_any w a cap l hA hl)
  have CA : Hid (∀ x, Below w.heap.size w x → Calls Try.prog 7 #[] x fun e w' => e = .returned (.bool true) ∧ Below w.heap.size w w') := fun x hx => (awake_any x).mono fun e w' ⟨h1, h2⟩ => ⟨h1, hx.trans (h2.mono hx.size)⟩
  have CA0 := hide (CA.out w (Below.refl _ _))
  have CP := hide (encode_no a cap l w hA hl hm)
  have CM : Hid (∀ x, Below w.heap.size w x → Calls Try.prog 9 #[.slice a l.length cap] x fun e w' => e = .returned (.bool false) ∧ w' = x) := fun x hx => by
    have := refMay_any a cap l x (hA.below hx) hl
    rw [hm] at this
    exact this
  clear hA hm
  unfold maxLen at hl
  go_enter Try.func3, Try.ntmps3
  go_wp2_with fail
  refine (unhide C1).mono ?_
  rintro e w0 ⟨⟨r1, rfl, hr1⟩, hw0⟩
  subst w0
  clear hr1
  cases r1
  · go_wp2_with (go_at_call 7; refine (unhide CA0).mono ?_; rintro e w1 ⟨rfl, hb1⟩)
    go_ret
    exact ⟨rfl, hb1⟩
  go_wp2_with (first
    | (go_at_call 8; refine (unhide CP).mono ?_; rintro e w1 ⟨rfl, hb1⟩; replace hb1 := hide hb1)
    | (go_at_call 9; refine (unhide CM _ hb1.out).mono ?_; rintro e w0 ⟨rfl, hw0⟩; subst w0)
    | (go_at_call 7; refine (unhide CA _ hb1.out).mono ?_; rintro e w3 ⟨rfl, hb3⟩))
  go_ret
  exact ⟨rfl, hb3⟩

/-- What is told of bytes that were encoded: these steps, and that they are alike. -/
def Back (w : World) (a : Option Addr) (cap g n c : Nat) (l : List Stp) (e : Ending) (w' : World) : Prop :=
  ∃ (a1 : Option Addr) (c1 : Nat), e = .returned (.tuple #[.slice a1 l.length c1, .int .i64 0, .int .i64 0]) ∧ Hid (Below w.heap.size w w') ∧ Hid (Br w.heap.size w' (.slice (some ⟨g, 0, none⟩) n c) (encY l)) ∧ Hid (Calls Try.prog 12 #[.slice a l.length cap, .slice a1 l.length c1] w' fun e w'' => e = .returned (.bool true) ∧ ∃ k, w'' = w'.drewN k)

theorem back_of {w x : World} {a : Option Addr} {cap g n c : Nat} {l : List Stp} {A : Ans} (hA : Steps w a l) (hl : l.length ≤ maxLen) (hx : Below w.heap.size w x) (hbr : Br w.heap.size x (.slice (some ⟨g, 0, none⟩) n c) (encY l)) (e : A = (0, 0, l)) {en : Ending} {y : World} (h : Told x.heap.size x A en y) : Back w a cap g n c l en y := by
  subst e
  obtain ⟨v, he, hog, hbl⟩ := h
  obtain ⟨a1, c1, rfl, hst, hml, -⟩ := hog.steps
  have hB := hx.trans (hbl.mono hx.size)
  refine ⟨a1, c1, he, hB, hbr.kept hbl, ?_⟩
  refine Calls.mono (refSame_any a a1 cap c1 l l y (hA.below hB) hst hl hml) ?_
  rintro e z ⟨r1, n1, r2⟩
  exact ⟨by rw [r1]; exact congrArg _ (congrArg _ (sameB_self l)), n1, r2⟩

theorem encY_le {l : List Stp} (h1 : l.length ≤ 300) (h2 : litsN l ≤ 6000) : (encY l).length ≤ 30000 := by
  have := encY_take h1 h2 l.length
  rwa [List.take_length] at this

set_option maxRecDepth 100000 in
set_option maxHeartbeats 8000000 in
theorem encodes_yes (a : Option Addr) (cap : Nat) (l : List Stp) (w : World) (hA : Steps w a l) (hl : l.length ≤ maxLen) (hm : mayL l = true) :
    Calls Try.prog 3 #[.slice a l.length cap] w fun e w' => e = .returned (.bool true) ∧ Below w.heap.size w w' := by
  have C1 := hide (light_any w a cap l hA hl)
  have CA : Hid (∀ x, Below w.heap.size w x → Calls Try.prog 7 #[] x fun e w' => e = .returned (.bool true) ∧ Below w.heap.size w w') := fun x hx => (awake_any x).mono fun e w' ⟨h1, h2⟩ => ⟨h1, hx.trans (h2.mono hx.size)⟩
  have CA0 := hide (CA.out w (Below.refl _ _))
  have CM : Hid (∀ x, Below w.heap.size w x → Calls Try.prog 9 #[.slice a l.length cap] x fun e w' => e = .returned (.bool true) ∧ w' = x) := fun x hx => by
    have := refMay_any a cap l x (hA.below hx) hl
    rw [hm] at this
    exact this
  have HL := hide hl
  have HA := hide hA
  have HM := hide hm
  clear hA hm
  unfold maxLen at hl
  go_enter Try.func3, Try.ntmps3
  go_wp2_with fail
  refine (unhide C1).mono ?_
  rintro e w0 ⟨⟨r1, rfl, hr1⟩, hw0⟩
  subst w0
  cases r1
  · clear hr1
    go_wp2_with (go_at_call 7; refine (unhide CA0).mono ?_; rintro e w1 ⟨rfl, hb1⟩)
    go_ret
    exact ⟨rfl, hb1⟩
  obtain ⟨h300, h6000⟩ := hr1 rfl
  clear hr1
  have CP : Hid (Calls Try.prog 8 #[.slice a l.length cap] w fun e w' => ∃ g n c, e = .returned (.tuple #[.slice (some ⟨g, 0, none⟩) n c, .int .i64 0]) ∧ Hid (Br w.heap.size w' (.slice (some ⟨g, 0, none⟩) n c) (encY l)) ∧ Hid (Below w.heap.size w w')) := Calls.mono (encode_yes a cap l w HA.out HM.out h300 h6000) fun e w' ⟨v, h1, h2, h3⟩ => by
    obtain ⟨g, c, e2, -⟩ := h2.shape
    exact ⟨g, _, c, by rw [h1, e2], by rw [← e2]; exact h2, h3⟩
  have CF : Hid (∀ x, Below w.heap.size w x → Calls Try.prog 10 #[.slice a l.length cap] x fun e w' => ∃ g n c, e = .returned (.slice (some ⟨g, 0, none⟩) n c) ∧ Hid (Br w.heap.size w' (.slice (some ⟨g, 0, none⟩) n c) (encY l)) ∧ Below x.heap.size x w') := fun x hx => Calls.mono (refEncode_any a cap l x (HA.out.below hx) HM.out h300 h6000) fun e w' ⟨v, h1, h2, h3⟩ => by
    obtain ⟨g, c, e2, -⟩ := h2.shape
    exact ⟨g, _, c, by rw [h1, e2], by rw [← e2]; exact h2.mono hx.size, h3⟩
  have CD : Hid (∀ x g n c, Below w.heap.size w x → Br w.heap.size x (.slice (some ⟨g, 0, none⟩) n c) (encY l) → Calls Try.prog 11 #[.slice (some ⟨g, 0, none⟩) n c] x (Back w a cap g n c l)) := fun x g n c hx hbr => by
    obtain ⟨g', c', e, htx, hcg⟩ := hbr.txt
    simp at e
    obtain ⟨rfl, rfl, rfl⟩ := e
    have hpl := encY_le h300 h6000
    exact Calls.mono (decode_any x (some ⟨g, 0, none⟩) c (encY l) htx (by omega) hcg) fun e y h => back_of HA.out HL.out hx hbr (dec_enc HM.out) h
  have CL : Hid ((∀ x r, l = x :: r → x.1 = false) → ∀ x g n c, Below w.heap.size w x → Br w.heap.size x (.slice (some ⟨g, 0, none⟩) n c) (encY l) → Calls Try.prog 13 #[.slice (some ⟨g, 0, none⟩) n c] x (Back w a cap g n c l)) := fun h0 x g n c hx hbr => by
    obtain ⟨g', c', e, htx, hcg⟩ := hbr.txt
    simp at e
    obtain ⟨rfl, rfl, rfl⟩ := e
    have hpl := encY_le h300 h6000
    exact Calls.mono (load_any (some ⟨g, 0, none⟩) c (encY l) x htx (by omega) hcg (by simp)) fun e y h => back_of HA.out HL.out hx hbr (load_enc HM.out h0) h
  have HFST : Hid (l = [] ∨ (∃ b off d, a = some ⟨b, off, none⟩ ∧ (0 : Int) < l.length ∧ (d = false → ∀ x r, l = x :: r → x.1 = false) ∧ ∀ y, Below w.heap.size w y → b < y.heap.size ∧ y.cell? ⟨b, off, none⟩ = some (.bool d))) := by
    have hA := HA.out
    cases l with
    | nil => exact .inl rfl
    | cons x r =>
      obtain ⟨b, off, ai, ci, e, hb, q0, -⟩ := hA 0 (by simp)
      refine .inr ⟨b, off, x.1, e, by simp, fun h y s he => ?_, fun y hy => ⟨Nat.lt_of_lt_of_le hb hy.size, ?_⟩⟩
      · simp at he; rw [← he.1]; exact h
      · have := (hy.cell (p := ⟨b, off + 0 * 2, none⟩) hb).trans q0
        simpa using this
  clear h300 h6000 HM
  go_wp2_with fail
  refine (unhide CP).mono ?_
  rintro e w1 ⟨g, n, c, rfl, HBR, HB1⟩
  go_wp2_with fail
  refine (unhide CM _ HB1.out).mono ?_
  rintro e w0 ⟨rfl, hw0⟩
  subst w0
  have hsz1 := HB1.out.size
  have hcu : ∀ k, (convert 25 9 (.slice (some ⟨g, 0, none⟩) n c)).run Try.prog (w1.drewN k) = .ok (.string (str (encY l))) (w1.drewN k) := fun k => br_string HBR.out k
  have hcu0 : (convert 25 9 (.slice (some ⟨g, 0, none⟩) n c)).run Try.prog w1 = .ok (.string (str (encY l))) w1 := hcu 0
  have hcu1 : (convert 25 9 (.slice (some ⟨g, 0, none⟩) n c)).run Try.prog w1.drew = .ok (.string (str (encY l))) w1.drew := hcu 1
  generalize hY : encY l = Y at *
  have HY := hide hY
  clear hY
  go_wp2_with fail
  go_region_law (go_simp; go_at_call 10; refine (unhide CF _ (below_drewN HB1.out)).mono ?_; rintro e w2 ⟨g2, n2, c2, rfl, HBR2, hb2⟩; have HBR1 := hide (Br.kept (w := w1.drewN _) HBR.out hb2); have HB2 := hide (HB1.out.trans (Below.mono (below_undrew hb2) hsz1)); have hcy : ∀ k, (convert 25 9 (.slice (some ⟨g2, 0, none⟩) n2 c2)).run Try.prog (w2.drewN k) = .ok (.string (str Y)) (w2.drewN k) := fun k => br_string HBR2.out k; have hcy0 : (convert 25 9 (.slice (some ⟨g2, 0, none⟩) n2 c2)).run Try.prog w2 = .ok (.string (str Y)) w2 := hcy 0; have hcy1 : (convert 25 9 (.slice (some ⟨g2, 0, none⟩) n2 c2)).run Try.prog w2.drew = .ok (.string (str Y)) w2.drew := hcy 1; have hcz : ∀ k, (convert 25 9 (.slice (some ⟨g, 0, none⟩) n c)).run Try.prog (w2.drewN k) = .ok (.string (str Y)) (w2.drewN k) := fun k => br_string HBR1.out k; have hcz0 : (convert 25 9 (.slice (some ⟨g, 0, none⟩) n c)).run Try.prog w2 = .ok (.string (str Y)) w2 := hcz 0; have hcz1 : (convert 25 9 (.slice (some ⟨g, 0, none⟩) n c)).run Try.prog w2.drew = .ok (.string (str Y)) w2.drew := hcz 1; clear hb2)
  all_goals
    clear hcu hcu0 hcu1 hcy hcy0 hcy1 hcz hcz0 hcz1
    go_wp2_with fail
    refine (unhide CD _ _ _ _ (by first | exact HB2.out | exact below_drewN HB2.out | exact HB2.out.drew) HBR1.out).mono ?_
    rintro e w3 ⟨a3, c3, rfl, HB3, HBR3, CS3⟩
    go_wp2_with fail
    refine (unhide CS3).mono ?_
    rintro e w0 ⟨rfl, k0, hw0⟩
    subst w0
    have HB3' := hide (below_drewN (n := k0) HB3.out)
    have HBR3' : Hid (Br w.heap.size (w3.drewN k0) (.slice (some ⟨g, 0, none⟩) n c) Y) := by show Br _ _ _ _; rw [← HY.out]; exact HBR3.out
    clear HB3 HBR3 CS3
    rcases HFST.out with rfl | ⟨b, off, d, rfl, hpos, hd, hcl⟩
    · have CL2 := hide (CL.out (by simp))
      go_wp2_with (first
        | (go_at_call 13; refine (unhide CL2 _ _ _ _ HB3'.out HBR3'.out).mono ?_; rintro e w4 ⟨a4, c4, rfl, HB4, HBR4, CS4⟩)
        | (go_at_call 12; refine (unhide CS4).mono ?_; rintro e w0 ⟨rfl, k4, hw0⟩; subst w0; have HB5 := hide (below_drewN (n := k4) HB4.out))
        | (go_at_call 7; refine (unhide CA _ HB5.out).mono ?_; rintro e w6 ⟨rfl, hb6⟩))
      go_ret
      exact ⟨rfl, hb6⟩
    · obtain ⟨hbw, hcell⟩ := hcl _ HB3'.out
      cases d
      · have CL2 := hide (CL.out (hd rfl))
        clear hcl hd
        go_wp2_with (first
          | (go_at_call 13; refine (unhide CL2 _ _ _ _ HB3'.out HBR3'.out).mono ?_; rintro e w4 ⟨a4, c4, rfl, HB4, HBR4, CS4⟩)
          | (go_at_call 12; refine (unhide CS4).mono ?_; rintro e w0 ⟨rfl, k4, hw0⟩; subst w0; have HB5 := hide (below_drewN (n := k4) HB4.out))
          | (go_at_call 7; refine (unhide CA _ HB5.out).mono ?_; rintro e w6 ⟨rfl, hb6⟩))
        go_ret
        exact ⟨rfl, hb6⟩
      · clear hcl hd
        go_wp2_with (go_at_call 7; refine (unhide CA _ HB3'.out).mono ?_; rintro e w6 ⟨rfl, hb6⟩)
        go_ret
        exact ⟨rfl, hb6⟩

theorem encodes_any (a : Option Addr) (cap : Nat) (l : List Stp) (w : World) (hA : Steps w a l) (hl : l.length ≤ maxLen) :
    Calls Try.prog 3 #[.slice a l.length cap] w fun e w' => e = .returned (.bool true) ∧ Below w.heap.size w w' := by
  cases hm : mayL l with
  | false => exact encodes_no a cap l w hA hl hm
  | true => exact encodes_yes a cap l w hA hl hm

end Go.Proofs.Ytgklollpajhmlaa
