/- The law of what is made, walked. -/
import Derived.Test.YtjfjigpmaeaopaaWalkZ
set_option linter.unusedVariables false
set_option linter.unusedSimpArgs false
namespace Go.Proofs.Ytjfjigpmaeaopaa
open Go.RowKit Go.Maps

theorem play_len (l : List ActD) : (playF [] (l.take 25)).length ≤ 75 := by
  have := (play_grow (l.take 25) (g := []) (fun i hi => by simp at hi) (fun i hi => by simp at hi)).1.len.2
  simp at this; omega

set_option maxHeartbeats 4000000 in
theorem makes_any (w : World) (al : Option Addr) (cap : Nat) (l : List ActD) (hl : Acts w al l) (hll : l.length ≤ maxLen) :
    Calls Try.prog 3 #[.slice al l.length cap] w fun e w' => e = .returned (.bool true) ∧ Below w.heap.size w w' := by
  have GP := hide (play_any w al cap l hl hll)
  have hg75 := play_len l
  clear hl
  unfold PlayP at GP
  generalize playF [] (l.take 25) = g at *
  generalize l.length = L at *
  go_enter Try.func3, Try.ntmps3
  go_upto_region 2 with (first | (go_at_call 8; refine (unhide GP).mono ?_; rintro e w1 ⟨B, M, v, q, off, cq, rfl, hp⟩))
  have HP := hide hp
  have NB : Hid (Calls Try.prog 10 #[.pointer (some ⟨B, 0, none⟩)] w1 (NewG w1 g)) := nodes_any w1 B M v g hp.gr
  have SM : Hid (∀ W al' ca, Below w1.heap.size w1 W → GS W al' g → Calls Try.prog 9 #[.slice al' g.length ca, .slice (some ⟨q, off, none⟩) g.length cq] W fun e w' => e = .returned (.bool true) ∧ ∃ n, w' = W.drewN n) := fun W al' ca hW h => same_any W al' _ ca cq g h (hp.gs.below hW) (by omega)
  have LN : Hid (∀ W, Below w1.heap.size w1 W → Calls Try.prog 11 #[.pointer (some ⟨B, 0, none⟩)] W fun e w' => e = .returned (.int .i64 (g.length : Int)) ∧ w' = W) := fun W hW => len_any W B M v g (hp.gr.below hW)
  have IL : Hid (∀ W x, Below w1.heap.size w1 W → Calls Try.prog 12 #[.pointer (some ⟨B, 0, none⟩), .int .i64 x] W fun e w' => e = .returned (.bool (isB g x)) ∧ w' = W) := fun W x hW => isLit_any W B M v g x (hp.gr.below hW)
  have AW : Hid (∀ W, Calls Try.prog 13 #[] W fun e w' => e = .returned (.bool true) ∧ Below W.heap.size W w') := fun W => awake_any W
  have i1 : isB g (2 * (g.length : Int) + 1) = true := by rw [isB_iff]; omega
  have i2 : isB g (2 * (g.length : Int) + 2) = false := by unfold isB; simp; omega
  have i3 : isB g (-1) = false := isB_neg (by omega)
  have HBL := hide hp.bel
  clear hp GP HP
  go_wp2_with (first
    | (go_at_call 10; refine (unhide NB).mono ?_; rintro e w2 ⟨al', ca', rfl, s1, s2, s3⟩)
    | (go_at_call 9; refine (unhide SM _ _ _ s2 s1).mono ?_; rintro e w3 ⟨rfl, n3, hw3⟩; subst w3; have HB3 := hide (below_drewN s2 n3))
    | (go_at_call 11; refine (unhide LN _ HB3.out).mono ?_; rintro e w4 ⟨rfl, hw4⟩; subst w4)
    | (go_at_call 12; refine (unhide IL _ _ HB3.out).mono ?_; rintro e w5 ⟨rfl, hw5⟩; subst w5)
    | (go_at_call 13; refine (unhide AW _).mono ?_; rintro e w6 ⟨rfl, hb6⟩))
  go_ret
  have h2 := HBL.out.trans (HB3.out.mono HBL.out.size)
  exact ⟨by first | rfl | simp, h2.trans (hb6.mono h2.size)⟩
end Go.Proofs.Ytjfjigpmaeaopaa
