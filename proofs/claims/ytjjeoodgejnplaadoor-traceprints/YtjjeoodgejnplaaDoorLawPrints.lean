/- The statement on which proofs there may be, and their texts, walked. -/
import Derived.Test.YtjjeoodgejnplaaDoorWalkS
set_option linter.unusedVariables false
set_option linter.unusedSimpArgs false
namespace Go.Proofs.YtjjeoodgejnplaaDoor
open Go.RowKit Go.Maps

attribute [local go_sem ↓] Go.wp_at_zero Go.wp_at_succ

theorem br_string {base : Nat} {w : World} {g n cap : Nat} {xs : List UInt8} (h : Br base w (.slice (some ⟨g, 0, none⟩) n cap) xs) (k : Nat) : (convert 25 9 (.slice (some ⟨g, 0, none⟩) n cap)).run Tryd.prog (w.drewN k) = .ok (.string (str xs)) (w.drewN k) := by
  have hn : n = xs.length := by
    obtain ⟨g', cap', e, -⟩ := h.shape
    simp at e
    exact e.2.1
  subst hn
  refine run_convert_bytes_back (P := Tryd.prog) (w.drewN k) 25 9 5 ⟨g, 0, none⟩ cap xs Tryd.underlying25 Tryd.underlying5 Tryd.underlying9 ?_
  intro j hj
  exact h.cells j _ (by simp [byteL, hj])

theorem sameB_self (l : List Stp) : sameB l l = true := by simp [sameB]

set_option maxHeartbeats 4000000 in
theorem prints_no (a : Option Addr) (cap : Nat) (l : List Stp) (w : World) (hA : Steps w a l) (hl : l.length ≤ maxLen) (hm : mayL l = false) :
    Calls Tryd.prog 3 #[.slice a l.length cap] w fun e w' => e = .returned (.bool true) ∧ Below w.heap.size w w' := by
  have C1 := hide (light_any w a cap l hA hl)
  have CA : Hid (∀ x, Below w.heap.size w x → Calls Tryd.prog 5 #[] x fun e w' => e = .returned (.bool true) ∧ Below w.heap.size w w') := fun x hx => (awake_any x).mono fun e w' ⟨h1, h2⟩ => ⟨h1, hx.trans (h2.mono hx.size)⟩
  have CA0 := hide (CA.out w (Below.refl _ _))
  have CP := hide (print_no a cap l w hA hl hm)
  have CM : Hid (∀ x, Below w.heap.size w x → Calls Tryd.prog 7 #[.slice a l.length cap] x fun e w' => e = .returned (.bool false) ∧ w' = x) := fun x hx => by
    have := refMay_any a cap l x (hA.below hx) hl
    rw [hm] at this
    exact this
  have CC : Hid (∀ x, Below w.heap.size w x → Calls Tryd.prog 8 #[.slice a l.length cap] x fun e w' => e = .returned (.int .i64 1) ∧ Below w.heap.size w w') := fun x hx => by
    have := checkL_any a cap l x (hA.below hx) hl
    rw [hm] at this
    exact this.mono fun e w' ⟨h1, h2⟩ => ⟨h1, hx.trans (h2.mono hx.size)⟩
  clear hA hm
  unfold maxLen at hl
  go_enter Tryd.func3, Tryd.ntmps3
  go_wp2_with fail
  refine (unhide C1).mono ?_
  rintro e w0 ⟨⟨r1, rfl, hr1⟩, hw0⟩
  subst w0
  clear hr1
  cases r1
  · go_wp2_with (go_at_call 5; refine (unhide CA0).mono ?_; rintro e w1 ⟨rfl, hb1⟩)
    go_ret
    exact ⟨rfl, hb1⟩
  go_wp2_with (first
    | (go_at_call 6; refine (unhide CP).mono ?_; rintro e w1 ⟨rfl, hb1⟩; replace hb1 := hide hb1)
    | (go_at_call 7; refine (unhide CM _ hb1.out).mono ?_; rintro e w0 ⟨rfl, hw0⟩; subst w0)
    | (go_at_call 8; refine (unhide CC _ hb1.out).mono ?_; rintro e w2 ⟨rfl, hb2⟩; replace hb2 := hide hb2)
    | (go_at_call 5; refine (unhide CA _ hb2.out).mono ?_; rintro e w3 ⟨rfl, hb3⟩))
  go_ret
  exact ⟨rfl, hb3⟩

set_option maxRecDepth 100000 in
set_option maxHeartbeats 8000000 in
theorem prints_yes (a : Option Addr) (cap : Nat) (l : List Stp) (w : World) (hA : Steps w a l) (hl : l.length ≤ maxLen) (hm : mayL l = true) (ht : Lib.TabIs Tryd.prog w "internal/strconv.uint64pow10" .u64 Lib.pow10Tab) :
    Calls Tryd.prog 3 #[.slice a l.length cap] w fun e w' => e = .returned (.bool true) ∧ Below w.heap.size w w' := by
  have C1 := hide (light_any w a cap l hA hl)
  have CA : Hid (∀ x, Below w.heap.size w x → Calls Tryd.prog 5 #[] x fun e w' => e = .returned (.bool true) ∧ Below w.heap.size w w') := fun x hx => (awake_any x).mono fun e w' ⟨h1, h2⟩ => ⟨h1, hx.trans (h2.mono hx.size)⟩
  have CA0 := hide (CA.out w (Below.refl _ _))
  have CM : Hid (∀ x, Below w.heap.size w x → Calls Tryd.prog 7 #[.slice a l.length cap] x fun e w' => e = .returned (.bool true) ∧ w' = x) := fun x hx => by
    have := refMay_any a cap l x (hA.below hx) hl
    rw [hm] at this
    exact this
  have CC : Hid (∀ x, Below w.heap.size w x → Calls Tryd.prog 8 #[.slice a l.length cap] x fun e w' => e = .returned (.int .i64 0) ∧ Below x.heap.size x w') := fun x hx => by
    have := checkL_any a cap l x (hA.below hx) hl
    rw [hm] at this
    exact this
  have HL := hide hl
  have HA := hide hA
  have HM := hide hm
  have HTAB := hide ht
  clear hA hm ht
  unfold maxLen at hl
  go_enter Tryd.func3, Tryd.ntmps3
  go_wp2_with fail
  refine (unhide C1).mono ?_
  rintro e w0 ⟨⟨r1, rfl, hr1⟩, hw0⟩
  subst w0
  cases r1
  · clear hr1
    go_wp2_with (go_at_call 5; refine (unhide CA0).mono ?_; rintro e w1 ⟨rfl, hb1⟩)
    go_ret
    exact ⟨rfl, hb1⟩
  obtain ⟨h300, h6000⟩ := hr1 rfl
  clear hr1
  have CP : Hid (Calls Tryd.prog 6 #[.slice a l.length cap] w fun e w' => ∃ g n c, e = .returned (.tuple #[.slice (some ⟨g, 0, none⟩) n c, .int .i64 0]) ∧ Hid (Br w.heap.size w' (.slice (some ⟨g, 0, none⟩) n c) (printT l)) ∧ Hid (Below w.heap.size w w')) := Calls.mono (print_yes a cap l w HA.out HM.out h300 h6000 HTAB.out) fun e w' ⟨v, h1, h2, h3⟩ => by
    obtain ⟨g, c, e2, -⟩ := h2.shape
    exact ⟨g, _, c, by rw [h1, e2], by rw [← e2]; exact h2, h3⟩
  have CF : Hid (∀ x, Below w.heap.size w x → Calls Tryd.prog 9 #[.slice a l.length cap] x fun e w' => e = .returned (.string (str (printT l))) ∧ w' = x) := fun x hx => refPrint_any a cap l x (HA.out.below hx) HM.out h300 h6000
  have CR : Hid (∀ x g n c, Below w.heap.size w x → Br w.heap.size x (.slice (some ⟨g, 0, none⟩) n c) (printT l) → Calls Tryd.prog 10 #[.slice (some ⟨g, 0, none⟩) n c] x fun e w' => ∃ a1 c1, e = .returned (.tuple #[.slice a1 l.length c1, .int .i64 0, .int .i64 0]) ∧ Hid (Below w.heap.size w w') ∧ Hid (Calls Tryd.prog 11 #[.slice a l.length cap, .slice a1 l.length c1] w' fun e w'' => e = .returned (.bool true) ∧ Below w.heap.size w w'')) := fun x g n c hx hbr => by
    obtain ⟨g', c', e, htx, hcg⟩ := hbr.txt
    simp at e
    obtain ⟨rfl, rfl, rfl⟩ := e
    have hpl := printT_take HM.out h300 h6000 l.length
    rw [List.take_length] at hpl
    have := read_any x (some ⟨g, 0, none⟩) c (printT l) htx (by omega) hcg (by simp)
    rw [print_read HM.out] at this
    refine this.mono ?_
    rintro e y ⟨v, he, hog, hbl⟩
    obtain ⟨a1, c1, rfl, hst, hml, -⟩ := hog.steps
    have hB := hx.trans (hbl.mono hx.size)
    refine ⟨a1, c1, he, hB, ?_⟩
    refine Calls.mono (refSame_any a a1 cap c1 l l y (HA.out.below hB) hst HL.out hml) ?_
    rintro e z ⟨r1, n1, r2⟩
    exact ⟨by rw [r1]; exact congrArg _ (congrArg _ (sameB_self l)), by rw [r2]; exact below_drewN hB⟩
  clear h300 h6000 HM HTAB HA
  generalize printT l = T at *
  go_wp2_with fail
  refine (unhide CP).mono ?_
  rintro e w1 ⟨g, n, c, rfl, HBR, HB1⟩
  go_wp2_with fail
  refine (unhide CM _ HB1.out).mono ?_
  rintro e w0 ⟨rfl, hw0⟩
  subst w0
  go_wp2_with fail
  go_region_law (first
    | (go_simp; go_at_call 8; refine (unhide CC _ (below_drewN HB1.out)).mono ?_; rintro e w2 ⟨rfl, hb2⟩; have HBR2 := hide (Br.kept (w := w1.drewN _) HBR.out hb2); have HB2 := hide (HB1.out.trans (Below.mono (below_undrew hb2) HB1.out.size)); have hcv : ∀ k, (convert 25 9 (.slice (some ⟨g, 0, none⟩) n c)).run Tryd.prog (w2.drewN k) = .ok (.string (str T)) (w2.drewN k) := fun k => br_string HBR2.out k; have hcv0 : (convert 25 9 (.slice (some ⟨g, 0, none⟩) n c)).run Tryd.prog w2 = .ok (.string (str T)) w2 := br_string HBR2.out 0; have hcv1 : (convert 25 9 (.slice (some ⟨g, 0, none⟩) n c)).run Tryd.prog w2.drew = .ok (.string (str T)) w2.drew := br_string HBR2.out 1)
    | (go_simp; go_at_call 9; refine (unhide CF _ (by first | exact HB2.out | exact below_drewN HB2.out | exact HB2.out.drew)).mono ?_; rintro e w0 ⟨rfl, hw0⟩; subst w0))
  all_goals
    clear hcv hcv0 hcv1
    go_wp2_with (first
      | (go_at_call 10; refine (unhide CR _ _ _ _ (by first | exact HB2.out | exact below_drewN HB2.out | exact HB2.out.drew) HBR2.out).mono ?_; rintro e w3 ⟨a1, c1, rfl, HB3, CS⟩)
      | (go_at_call 11; refine (unhide CS).mono ?_; rintro e w4 ⟨rfl, hb4⟩; replace hb4 := hide hb4)
      | (go_at_call 5; refine (unhide CA _ hb4.out).mono ?_; rintro e w5 ⟨rfl, hb5⟩))
    go_ret
    exact ⟨rfl, hb5⟩

theorem prints_any (a : Option Addr) (cap : Nat) (l : List Stp) (w : World) (hA : Steps w a l) (hl : l.length ≤ maxLen) (ht : Lib.TabIs Tryd.prog w "internal/strconv.uint64pow10" .u64 Lib.pow10Tab) :
    Calls Tryd.prog 3 #[.slice a l.length cap] w fun e w' => e = .returned (.bool true) ∧ Below w.heap.size w w' := by
  cases hm : mayL l with
  | false => exact prints_no a cap l w hA hl hm
  | true => exact prints_yes a cap l w hA hl hm ht

end Go.Proofs.YtjjeoodgejnplaaDoor
