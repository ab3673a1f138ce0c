/- The document's Or, Xor, Ite. -/
import Derived.Test.YtjfjigpmaeaopaaWalkV
set_option linter.unusedVariables false
set_option linter.unusedSimpArgs false
namespace Go.Proofs.Ytjfjigpmaeaopaa
open Go.RowKit Go.Maps

theorem isB_neg {g : List Gt} {l : Int} (h : l < 0) : isB g l = false := by unfold isB; simp; omega
theorem and_notl (g : List Gt) (a x : Int) : andF g (notR a) x = andF g (notI a) x := by
  by_cases h : a < 0
  · have e1 : isB g (notR a) = false := isB_neg (by unfold notR; rw [if_pos h]; omega)
    have e2 : isB g (notI a) = false := by rw [isB_not]; exact isB_neg h
    unfold andF
    simp [e1, e2]
  · rw [notR_nn (by omega)]
theorem and_notr (g : List Gt) (a x : Int) : andF g x (notR a) = andF g x (notI a) := by rw [and_comm', and_notl, and_comm']
theorem notR_i64 {l : Int} (h : inI64 l) : inI64 (notR l) := by
  unfold notR; split
  · unfold inI64; omega
  · exact notI_i64 h
theorem notR_neg {l : Int} (h : -1 ≤ l) : notR l = negF l := by
  unfold notR negF
  split <;> split <;> first | rfl | omega

theorem RefP.seq {w w1 w2 : World} {q q1 : Nat} {Z : List Gt × Int} {e : Ending} (hb : Below w.heap.size w w1) (hq : q1 = q ∨ (w.heap.size ≤ q1 ∧ q1 < w1.heap.size)) (k : RefP w1 q1 Z e w2) : RefP w q Z e w2 := by
  obtain ⟨q', off', cap', he, s1, s2, s3⟩ := k
  refine ⟨q', off', cap', he, s1, hb.trans (s2.mono hb.size), ?_⟩
  have := hb.size
  have := s2.size
  rcases s3 with h | ⟨h, h'⟩
  · rw [h]
    rcases hq with e | ⟨e, e'⟩
    · exact .inl e
    · exact .inr ⟨e, by omega⟩
  · exact .inr ⟨by omega, h'⟩

set_option maxHeartbeats 2000000 in
theorem refOr_any (w : World) (q off cap : Nat) (g : List Gt) (a b : Int) (hs : GS w (some ⟨q, off, none⟩) g) (hl : g.length ≤ 999) (hm : May g) (ho : Ord g) (ha : inI64 a) (hb : inI64 b) :
    Calls Try.prog 29 #[.slice (some ⟨q, off, none⟩) g.length cap, .int .i64 a, .int .i64 b] w (RefP w q (orF g a b)) := by
  have AN := refAnd_any w q off cap g (notR a) (notR b) hs hl hm ho
  rw [and_notl, and_notr] at AN
  replace AN := hide AN
  obtain ⟨hi, hn1, _⟩ := and_i64 hm hl (notI a) (notI b)
  have hR : orF g a b = ((andF g (notI a) (notI b)).1, negF (andF g (notI a) (notI b)).2) := rfl
  rw [hR, ← notR_neg hn1]
  have NN : Hid (∀ W x, inI64 x → Calls Try.prog 43 #[.int .i64 x] W fun e w' => e = .returned (.int .i64 (notR x)) ∧ w' = W) := fun W x hx => refNot_any W x hx
  clear hR hs
  generalize andF g (notI a) (notI b) = R at *
  obtain ⟨g', l⟩ := R
  dsimp only at *
  go_enter Try.func29, Try.ntmps29
  go_wp2_with (first
    | (go_at_call 43; refine (unhide NN _ _ (by assumption)).mono ?_; rintro e w0 ⟨rfl, hw0⟩; subst w0)
    | (go_at_call 21; refine (unhide AN).mono ?_; rintro e w1 ⟨q', off', cap', rfl, s1, s2, s3⟩))
  exact bodyPost_ret (v := .tuple #[.slice (some ⟨q', off', none⟩) g'.length cap', .int .i64 (notR l)]) (by simp [results, Try.results29, go_sem]) rfl ⟨q', off', cap', rfl, s1, s2, s3⟩

set_option maxHeartbeats 2000000 in
theorem refXor_any (w : World) (q off cap : Nat) (g : List Gt) (a b : Int) (hs : GS w (some ⟨q, off, none⟩) g) (hl : g.length ≤ 997) (hm : May g) (ho : Ord g) (ha : inI64 a) (hb : inI64 b) :
    Calls Try.prog 30 #[.slice (some ⟨q, off, none⟩) g.length cap, .int .i64 a, .int .i64 b] w (RefP w q (xorF g a b)) := by
  have h1 := and_i64 hm (by omega) a (notI b)
  have m1 := (and_grow hm a (notI b)).1.may
  have o1 := ord_and hm ho a (notI b)
  have h2 := and_i64 m1 (by omega) (notI a) b
  have m2 := (and_grow m1 (notI a) b).1.may
  have o2 := ord_and m1 o1 (notI a) b
  have A1 := refAnd_any w q off cap g a (notR b) hs (by omega) hm ho
  rw [and_notr] at A1
  replace A1 := hide A1
  have A2 : Hid (∀ W q' off' cap', GS W (some ⟨q', off', none⟩) (andF g a (notI b)).1 → Calls Try.prog 21 #[.slice (some ⟨q', off', none⟩) (andF g a (notI b)).1.length cap', .int .i64 (notR a), .int .i64 b] W (RefP W q' (andF (andF g a (notI b)).1 (notI a) b))) := fun W q' off' cap' h => by
    have := refAnd_any W q' off' cap' _ (notR a) b h (by omega) m1 o1
    rwa [and_notl] at this
  have A3 : Hid (∀ W q' off' cap', GS W (some ⟨q', off', none⟩) (andF (andF g a (notI b)).1 (notI a) b).1 → Calls Try.prog 29 #[.slice (some ⟨q', off', none⟩) (andF (andF g a (notI b)).1 (notI a) b).1.length cap', .int .i64 (andF g a (notI b)).2, .int .i64 (andF (andF g a (notI b)).1 (notI a) b).2] W (RefP W q' (xorF g a b))) := fun W q' off' cap' h => refOr_any W q' off' cap' _ _ _ h (by omega) m2 o2 h1.1 h2.1
  have NN : Hid (∀ W x, inI64 x → Calls Try.prog 43 #[.int .i64 x] W fun e w' => e = .returned (.int .i64 (notR x)) ∧ w' = W) := fun W x hx => refNot_any W x hx
  clear hs h1 m1 h2 m2 o1 o2 hl hm ho
  generalize xorF g a b = Z at *
  generalize andF (andF g a (notI b)).1 (notI a) b = R2 at *
  generalize andF g a (notI b) = R1 at *
  obtain ⟨g1, l1⟩ := R1
  obtain ⟨g2, l2⟩ := R2
  dsimp only at *
  go_enter Try.func30, Try.ntmps30
  go_upto_region 2 with (first
    | (go_at_call 43; refine (unhide NN _ _ (by assumption)).mono ?_; rintro e w0 ⟨rfl, hw0⟩; subst w0)
    | (go_at_call 21; refine (unhide A1).mono ?_; rintro e w1 ⟨q1, off1, cap1, rfl, s1, s2, s3⟩))
  clear A1
  go_upto_region 3 with (first
    | (go_at_call 43; refine (unhide NN _ _ (by assumption)).mono ?_; rintro e w0 ⟨rfl, hw0⟩; subst w0)
    | (go_at_call 21; refine (unhide A2 _ _ _ _ s1).mono ?_; rintro e w2 ⟨q2, off2, cap2, rfl, t1, t2, t3⟩))
  go_wp2_with (first
    | (go_at_call 29; refine (unhide A3 _ _ _ _ t1).mono ?_; rintro e w3 ⟨q3, off3, cap3, rfl, u1, u2, u3⟩))
  have hfin : RefP w q Z (.returned (.tuple #[.slice (some ⟨q3, off3, none⟩) Z.1.length cap3, .int .i64 Z.2])) w3 := RefP.seq s2 s3 (RefP.seq t2 t3 ⟨q3, off3, cap3, rfl, u1, u2, u3⟩)
  exact bodyPost_ret (v := .tuple #[.slice (some ⟨q3, off3, none⟩) Z.1.length cap3, .int .i64 Z.2]) (by simp [results, Try.results30, go_sem]) rfl hfin

set_option maxHeartbeats 2000000 in
theorem refIte_any (w : World) (q off cap : Nat) (g : List Gt) (c a b : Int) (hs : GS w (some ⟨q, off, none⟩) g) (hl : g.length ≤ 997) (hm : May g) (ho : Ord g) (hc : inI64 c) :
    Calls Try.prog 31 #[.slice (some ⟨q, off, none⟩) g.length cap, .int .i64 c, .int .i64 a, .int .i64 b] w (RefP w q (iteF g c a b)) := by
  have h1 := and_i64 hm (by omega) c a
  have m1 := (and_grow hm c a).1.may
  have o1 := ord_and hm ho c a
  have h2 := and_i64 m1 (by omega) (notI c) b
  have m2 := (and_grow m1 (notI c) b).1.may
  have o2 := ord_and m1 o1 (notI c) b
  have A1 := hide (refAnd_any w q off cap g c a hs (by omega) hm ho)
  have A2 : Hid (∀ W q' off' cap', GS W (some ⟨q', off', none⟩) (andF g c a).1 → Calls Try.prog 21 #[.slice (some ⟨q', off', none⟩) (andF g c a).1.length cap', .int .i64 (notR c), .int .i64 b] W (RefP W q' (andF (andF g c a).1 (notI c) b))) := fun W q' off' cap' h => by
    have := refAnd_any W q' off' cap' _ (notR c) b h (by omega) m1 o1
    rwa [and_notl] at this
  have A3 : Hid (∀ W q' off' cap', GS W (some ⟨q', off', none⟩) (andF (andF g c a).1 (notI c) b).1 → Calls Try.prog 29 #[.slice (some ⟨q', off', none⟩) (andF (andF g c a).1 (notI c) b).1.length cap', .int .i64 (andF g c a).2, .int .i64 (andF (andF g c a).1 (notI c) b).2] W (RefP W q' (iteF g c a b))) := fun W q' off' cap' h => refOr_any W q' off' cap' _ _ _ h (by omega) m2 o2 h1.1 h2.1
  have NN : Hid (∀ W x, inI64 x → Calls Try.prog 43 #[.int .i64 x] W fun e w' => e = .returned (.int .i64 (notR x)) ∧ w' = W) := fun W x hx => refNot_any W x hx
  clear hs h1 m1 h2 m2 o1 o2 hl hm ho
  generalize iteF g c a b = Z at *
  generalize andF (andF g c a).1 (notI c) b = R2 at *
  generalize andF g c a = R1 at *
  obtain ⟨g1, l1⟩ := R1
  obtain ⟨g2, l2⟩ := R2
  dsimp only at *
  go_enter Try.func31, Try.ntmps31
  go_upto_region 2 with (first
    | (go_at_call 21; refine (unhide A1).mono ?_; rintro e w1 ⟨q1, off1, cap1, rfl, s1, s2, s3⟩))
  clear A1
  go_upto_region 3 with (first
    | (go_at_call 43; refine (unhide NN _ _ (by assumption)).mono ?_; rintro e w0 ⟨rfl, hw0⟩; subst w0)
    | (go_at_call 21; refine (unhide A2 _ _ _ _ s1).mono ?_; rintro e w2 ⟨q2, off2, cap2, rfl, t1, t2, t3⟩))
  go_wp2_with (first
    | (go_at_call 29; refine (unhide A3 _ _ _ _ t1).mono ?_; rintro e w3 ⟨q3, off3, cap3, rfl, u1, u2, u3⟩))
  have hfin : RefP w q Z (.returned (.tuple #[.slice (some ⟨q3, off3, none⟩) Z.1.length cap3, .int .i64 Z.2])) w3 := RefP.seq s2 s3 (RefP.seq t2 t3 ⟨q3, off3, cap3, rfl, u1, u2, u3⟩)
  exact bodyPost_ret (v := .tuple #[.slice (some ⟨q3, off3, none⟩) Z.1.length cap3, .int .i64 Z.2]) (by simp [results, Try.results31, go_sem]) rfl hfin
end Go.Proofs.Ytjfjigpmaeaopaa
