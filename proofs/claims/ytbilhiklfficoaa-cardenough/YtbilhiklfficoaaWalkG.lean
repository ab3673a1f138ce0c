/- Contract: And. -/
import Derived.Test.YtbilhiklfficoaaWalkF
set_option linter.unusedVariables false
set_option linter.unusedSimpArgs false
namespace Go.Proofs.Ytbilhiklfficoaa
open Go.RowKit Go.Maps

set_option maxHeartbeats 2000000 in
theorem and_no (w : World) (B M : Nat) (v : Value) (g : List Gt) (a b : Int) (hA : Gr w B M v g) (hn : (isB g a && isB g b) = false) :
    Calls Try.prog 61 #[.pointer (some ⟨B, 0, none⟩), .int .i64 a, .int .i64 b] w fun e w' => e = .returned (.int .i64 (-1)) ∧ w' = w := by
  have IS : Hid (∀ l, Calls Try.prog 46 #[.pointer (some ⟨B, 0, none⟩), .int .i64 l] w fun e w' => e = .returned (.bool (isB g l)) ∧ w' = w) := fun l => isLit_any w B M v g l hA
  clear hA
  cases hpa : isB g a with
  | false =>
    clear hn
    go_enter Try.func61, Try.ntmps61
    go_wp2_with (first | (go_at_call 46; refine (unhide IS _).mono ?_; rintro e w0 ⟨rfl, hw0⟩; subst w0))
    all_goals
      go_ret
      exact ⟨rfl, rfl⟩
  | true =>
    have hpb : isB g b = false := by simpa [hpa] using hn
    clear hn
    go_enter Try.func61, Try.ntmps61
    go_wp2_with (first | (go_at_call 46; refine (unhide IS _).mono ?_; rintro e w0 ⟨rfl, hw0⟩; subst w0))
    all_goals
      go_ret
      exact ⟨rfl, rfl⟩

set_option maxHeartbeats 2000000 in
theorem and_yes (w : World) (B M : Nat) (v : Value) (g : List Gt) (a b : Int) (hA : Gr w B M v g) (hl : g.length ≤ 999999) (ha : isB g a = true) (hb : isB g b = true) :
    Calls Try.prog 61 #[.pointer (some ⟨B, 0, none⟩), .int .i64 a, .int .i64 b] w fun e w' => e = .returned (.int .i64 (andF g a b).2) ∧ GrP w B M v (andF g a b).1 w' := by
  have hZ : (redF (a + b + 1).toNat g a b).1 ≠ -1 → andF g a b = (g, (redF (a + b + 1).toNat g a b).1) := fun h => by unfold andF; simp only [ha, hb, Bool.and_self, if_true]; rw [if_pos h]
  have hZ2 : (redF (a + b + 1).toNat g a b).1 = -1 → andF g a b = nodeF g (redF (a + b + 1).toNat g a b).2.1 (redF (a + b + 1).toNat g a b).2.2 := fun h => by unfold andF; simp only [ha, hb, Bool.and_self, if_true]; rw [if_neg (by omega)]
  have IS : Hid (∀ l, Calls Try.prog 46 #[.pointer (some ⟨B, 0, none⟩), .int .i64 l] w fun e w' => e = .returned (.bool (isB g l)) ∧ w' = w) := fun l => isLit_any w B M v g l hA
  have HA := hide hA
  have hR0 : Hid (redF (a + b + 1).toNat g a b = redF (a + b + 1).toNat g a b) := rfl
  generalize andF g a b = Z at *
  generalize hRR : redF (a + b + 1).toNat g a b = R at hZ hZ2
  have HR0 := hide hRR
  have HZ := hide hZ
  have HZ2 := hide hZ2
  clear hRR hZ hZ2 hA hR0
  go_enter Try.func61, Try.ntmps61
  go_upto_region 3 with (first | (go_at_call 46; refine (unhide IS _).mono ?_; rintro e w0 ⟨rfl, hw0⟩; subst w0))
  have HI : Hid ((isB g a = true ∧ isB g b = true) ∧ redF (a + b + 1).toNat g a b = R) := ⟨⟨ha, hb⟩, HR0.out⟩
  have hnn : 0 ≤ a ∧ 0 ≤ b := by
    have h1 := isB_iff.1 ha
    have h2 := isB_iff.1 hb
    exact ⟨h1.1, h2.1⟩
  have HN := hide hnn
  clear ha hb HR0 IS hnn
  go_loopw [1, 2] (fun x y W => ∃ a b : Int, x = .int .i64 a ∧ y = .int .i64 b ∧ Hid (0 ≤ a ∧ 0 ≤ b) ∧ Hid ((isB g a = true ∧ isB g b = true) ∧ redF (a + b + 1).toNat g a b = R) ∧ Hid (Below w.heap.size w W)) (fun x y _ => (intOf x + intOf y).toNat)
  case atStart => exact ⟨a, b, rfl, rfl, HN, HI, Below.refl _ _⟩
  case round =>
    clear HI HN
    obtain ⟨c, d, rfl, rfl, HN, HI, HB⟩ := hrel
    obtain ⟨⟨ha, hb⟩, hR⟩ := HI.out
    have hA := isB_iff.1 ha
    have hB := isB_iff.1 hb
    have hG := HA.out.below HB.out
    have hfu : c + d < ((c + d + 1).toNat : Int) := by omega
    obtain ⟨mn, mx⟩ : (∀ W, Sem.run Try.prog (Builtin.min_ #[3, 3] 3 #[.int .i64 c, .int .i64 d]) W = .ok (.int .i64 (min c d)) W) ∧ (∀ W, Sem.run Try.prog (Builtin.max_ #[3, 3] 3 #[.int .i64 c, .int .i64 d]) W = .ok (.int .i64 (max c d)) W) := ⟨fun W => (run_minmax c d W).1, fun W => (run_minmax c d W).2⟩
    obtain ⟨hlo, hhi⟩ := isB_minmax ha hb
    have hle : min c d ≤ max c d := by omega
    have hsh := short_any wr B M v g (min c d) (max c d) hG hlo hhi hle
    have SH := hide hsh
    by_cases hs : shortF g (min c d) (max c d) = -1
    · obtain ⟨h2, hlt, hr'⟩ := rest_lit hG.may hlo hhi hle hs
      have RS : Hid (∀ W, Below wr.heap.size wr W → Calls Try.prog 64 #[.pointer (some ⟨B, 0, none⟩), .int .i64 (min c d), .int .i64 (max c d)] W fun e w' => e = .returned (.int .i64 (restF g (min c d) (max c d))) ∧ Below W.heap.size W w') := fun W hW => rest_any W B M v g _ _ (hG.below hW) (by omega) hlo hhi
      by_cases hr : restF g (min c d) (max c d) = -1
      · have ND : Hid (∀ W, Below wr.heap.size wr W → Calls Try.prog 65 #[.pointer (some ⟨B, 0, none⟩), .int .i64 (min c d), .int .i64 (max c d)] W fun e w' => e = .returned (.int .i64 (nodeF g (min c d) (max c d)).2) ∧ GrP W B M v (nodeF g (min c d) (max c d)).1 w') := fun W hW => node_any W B M v g _ _ (hG.below hW) hl hlo hhi hle
        have hend := red_end ha hb hfu hs hr
        rw [hR] at hend
        have hZn : Z = nodeF g (min c d) (max c d) := by
          have := HZ2.out (by rw [hend])
          rw [this, hend]
        have HZN := hide hZn
        rw [hs] at SH
        rw [hr] at RS
        clear hZn hend hr hs hlt h2 hr' hsh hR ha hb hA hB HI HN hfu hlo hhi hle hG
        generalize min c d = lo at *
        generalize max c d = hi at *
        go_wp2_with (first
          | (go_at_call 63; refine (unhide SH).mono ?_; rintro e w1 ⟨rfl, hb1⟩)
          | (go_at_call 64; refine (unhide RS _ hb1).mono ?_; rintro e w2 ⟨rfl, hb2⟩)
          | (go_at_call 65; refine (unhide ND _ (hb1.trans (hb2.mono hb1.size))).mono ?_; rintro e w3 ⟨rfl, hg3⟩))
        go_ret
        obtain ⟨v', q1, q2, q3⟩ := hg3
        have hbb := HB.out.trans ((hb1.trans (hb2.mono hb1.size)).mono HB.out.size)
        rw [HZN.out]
        exact ⟨rfl, v', q1, (Kp.of_below hbb).trans q2 (fun _ _ h => h), by rcases q3 with h | ⟨q, h, h'⟩; exact .inl h; exact .inr ⟨q, h, by have := hbb.size; omega⟩⟩
      · obtain ⟨n1, n2, n3, n4⟩ := red_next hG.may ha hb hfu hs hr
        rw [hs] at SH
        have HX : Hid ((isB g (min c d) = true ∧ isB g (restF g (min c d) (max c d)) = true) ∧ redF (min c d + restF g (min c d) (max c d) + 1).toNat g (min c d) (restF g (min c d) (max c d)) = R) := ⟨⟨n2, n3⟩, by rw [← n1]; exact hR⟩
        have HN2 : Hid (0 ≤ min c d ∧ 0 ≤ restF g (min c d) (max c d)) := ⟨by omega, (isB_iff.1 n3).1⟩
        have hrr : (restF g (min c d) (max c d) == -1) = false := by simpa using hr
        have hr2 : decide (restF g (min c d) (max c d) = -1) = false := by simpa using hr
        have HM4 := hide n4
        have HC := hide hA.1
        have HD := hide hB.1
        clear hs hlt h2 hr' hsh hR ha hb hA hB HI HN hfu hlo hhi hle hG n1 n2 n3 n4
        generalize restF g (min c d) (max c d) = r at *
        generalize min c d = lo at *
        generalize max c d = hi at *
        go_wp2_with (first
          | (go_at_call 63; refine (unhide SH).mono ?_; rintro e w1 ⟨rfl, hb1⟩)
          | (go_at_call 64; refine (unhide RS _ hb1).mono ?_; rintro e w2 ⟨rfl, hb2⟩))
        go_roundw
        case rel => exact ⟨lo, r, rfl, rfl, HN2, HX, HB.out.trans ((hb1.trans (hb2.mono hb1.size)).mono HB.out.size)⟩
        case measure => have := HM4.out; have := HN2.out; have := HC.out; have := HD.out; simp [intOf]; omega
    · have hsh2 := red_short ha hb hfu hs
      rw [hR] at hsh2
      have hZn : Z = (g, shortF g (min c d) (max c d)) := by
        have := HZ.out (by rw [hsh2]; exact hs)
        rw [this, hsh2]
      have HZN := hide hZn
      have hss : (shortF g (min c d) (max c d) == -1) = false := by simpa using hs
      have hss2 : decide (shortF g (min c d) (max c d) = -1) = false := by simpa using hs
      clear hZn hsh2 hsh hR ha hb hA hB HI HN hfu hlo hhi hle hG
      generalize shortF g (min c d) (max c d) = s at *
      generalize min c d = lo at *
      generalize max c d = hi at *
      go_wp2_with (first
        | (go_at_call 63; refine (unhide SH).mono ?_; rintro e w1 ⟨rfl, hb1⟩))
      go_ret
      rw [HZN.out]
      exact ⟨rfl, GrP.of_below HA.out (HB.out.trans (hb1.mono HB.out.size))⟩
end Go.Proofs.Ytbilhiklfficoaa
