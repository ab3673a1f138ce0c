/- The statement on how many clauses follow, and go, and on which proofs are alike, walked. -/
import Derived.Test.YtjjeoodgejnplaaWalkJ
set_option linter.unusedVariables false
set_option linter.unusedSimpArgs false
namespace Go.Proofs.Ytjjeoodgejnplaa
open Go.RowKit Go.Maps

attribute [local go_sem ↓] Go.wp_at_zero Go.wp_at_succ

theorem sameB_self (l : List Stp) : sameB l l = true := by simp [sameB]

set_option maxHeartbeats 4000000 in
theorem counts_any (a b : Option Addr) (ca cb : Nat) (l m : List Stp) (w : World) (hr : Steps w a l) (hs : Steps w b m) (hl : l.length ≤ maxLen) (hm : m.length ≤ maxLen) :
    Calls Try.prog 4 #[.slice a l.length ca, .slice b m.length cb] w fun e w' => e = .returned (.bool true) ∧ Below w.heap.size w w' := by
  have C1 := hide (light_any w a ca l hr hl)
  have C2 := hide (light_any w b cb m hs hm)
  have CA : Hid (∀ x, Below w.heap.size w x → Calls Try.prog 6 #[] x fun e w' => e = .returned (.bool true) ∧ Below w.heap.size w w') := fun x hx => (awake_any x).mono fun e w' ⟨h1, h2⟩ => ⟨h1, hx.trans (h2.mono hx.size)⟩
  have CC : Hid (∀ x, Below w.heap.size w x → Calls Try.prog 11 #[.slice a l.length ca] x fun e w' => e = .returned (.tuple #[.int .i64 ((l.length : Int) - delsN l), .int .i64 (delsN l : Int)]) ∧ Below w.heap.size w w') := fun x hx => (count_any x a ca l (hr.below hx) hl).mono fun e w' ⟨h1, h2⟩ => ⟨h1, hx.trans (h2.mono hx.size)⟩
  have CS : Hid (∀ x, Below w.heap.size w x → Calls Try.prog 12 #[.slice a l.length ca, .slice b m.length cb] x fun e w' => e = .returned (.bool (sameB l m)) ∧ Below w.heap.size w w') := fun x hx => (same_any a b ca cb l m x (hr.below hx) (hs.below hx) hl hm).mono fun e w' ⟨h1, h2⟩ => ⟨h1, hx.trans (h2.mono hx.size)⟩
  have CT : Hid (∀ x, Below w.heap.size w x → Calls Try.prog 12 #[.slice a l.length ca, .slice a l.length ca] x fun e w' => e = .returned (.bool true) ∧ Below w.heap.size w w') := fun x hx => (same_any a a ca ca l l x (hr.below hx) (hr.below hx) hl hl).mono fun e w' ⟨h1, h2⟩ => ⟨by rw [h1, sameB_self], hx.trans (h2.mono hx.size)⟩
  have CR : Hid (∀ x, Below w.heap.size w x → Calls Try.prog 9 #[.slice a l.length ca, .slice b m.length cb] x fun e w' => e = .returned (.bool (sameB l m)) ∧ Below w.heap.size w w') := fun x hx => (refSame_any a b ca cb l m x (hr.below hx) (hs.below hx) hl hm).mono fun e w' ⟨h1, n, h2⟩ => ⟨h1, by rw [h2]; exact below_drewN hx⟩
  have HR := hide hr
  have CA0 := hide (CA.out w (Below.refl _ _))
  clear hr hs
  unfold maxLen at hl hm
  go_enter Try.func4, Try.ntmps4
  go_wp2_with fail
  refine (unhide C1).mono ?_
  rintro e w0 ⟨⟨r1, rfl, hr1⟩, hw0⟩
  subst w0
  cases r1
  · go_wp2_with (go_at_call 6; refine (unhide CA0).mono ?_; rintro e w1 ⟨rfl, hb1⟩)
    go_ret
    exact ⟨rfl, hb1⟩
  obtain ⟨h1, -⟩ := hr1 rfl
  clear hr1
  go_wp2_with fail
  refine (unhide C2).mono ?_
  rintro e w0 ⟨⟨r2, rfl, hr2⟩, hw0⟩
  subst w0
  clear hr2
  cases r2
  · go_wp2_with (go_at_call 6; refine (unhide CA0).mono ?_; rintro e w1 ⟨rfl, hb1⟩)
    go_ret
    exact ⟨rfl, hb1⟩
  go_wp2
  go_loop [5, 6, 7] (fun n d i => ∃ k : Nat, k ≤ l.length ∧ i = .int .i64 k ∧ n = .int .i64 ((k : Int) - (delsN (l.take k) : Nat)) ∧ d = .int .i64 ((delsN (l.take k) : Nat) : Int)) (fun _ _ i => l.length - (intOf i).toNat)
  case atStart => exact ⟨0, Nat.zero_le _, rfl, rfl, rfl⟩
  case round =>
    obtain ⟨k, hk, rfl, rfl, rfl⟩ := hrel
    have hd := delsN_le l k
    by_cases hlt : k < l.length
    · obtain ⟨b1, off, ai, ci, rfl, hb, c0, c1, -, hlen⟩ := HR.out k hlt
      have HS := hide (delsN_snoc hlt)
      have hlt' : (k : Int) < l.length := by omega
      clear HR CC CS CT CR CA CA0
      generalize delsN (l.take k) = D at *
      generalize l[k].2.length = M at *
      cases he : l[k].1
      all_goals
        rw [he] at c0 HS
        clear he
        go_wp2
        go_round
        case rel => exact ⟨k + 1, by omega, by go_num, by rw [HS.out]; go_num, by rw [HS.out]; go_num⟩
        case measure => simp [intOf]; omega
    · have hte : l.take k = l := List.take_of_length_le (by omega)
      rw [hte] at hd ⊢
      clear hte HR
      have hlt' : ¬ (k : Int) < l.length := by omega
      have hke : k = l.length := by omega
      subst hke
      have hz0 := hide (Below.refl w.heap.size w)
      generalize delsN l = D at *
      generalize hsm : sameB l m = sb at *
      clear hsm
      go_wp2_with (first
        | (go_at_call 11; refine (unhide CC _ hz0.out).mono ?_; rintro e w1 ⟨rfl, hb1⟩; replace hb1 := hide hb1)
        | (go_at_call_of 12 (Value.slice b m.length cb); refine (unhide CS _ hb1.out).mono ?_; rintro e w2 ⟨rfl, hb2⟩; replace hb2 := hide hb2)
        | (go_at_call 9; refine (unhide CR _ hb2.out).mono ?_; rintro e w3 ⟨rfl, hb3⟩; replace hb3 := hide hb3)
        | (go_at_call 12; refine (unhide CT _ hb3.out).mono ?_; rintro e w4 ⟨rfl, hb4⟩; replace hb4 := hide hb4)
        | (go_at_call 6; refine (unhide CA _ hb4.out).mono ?_; rintro e w5 ⟨rfl, hb5⟩; replace hb5 := hide hb5))
      go_ret
      exact ⟨rfl, hb5.out⟩

end Go.Proofs.Ytjjeoodgejnplaa
