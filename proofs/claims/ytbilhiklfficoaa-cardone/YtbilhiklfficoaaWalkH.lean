/- Contracts: In, Or, Xor, Ite, All. -/
import Derived.Test.YtbilhiklfficoaaWalkG
set_option linter.unusedVariables false
set_option linter.unusedSimpArgs false
namespace Go.Proofs.Ytbilhiklfficoaa
open Go.RowKit Go.Maps

/-- What an act tells and leaves. -/
def ActP (w : World) (B M : Nat) (v : Value) (R : List Gt × Int) (e : Ending) (w' : World) : Prop := e = .returned (.int .i64 R.2) ∧ GrP w B M v R.1 w'

theorem GrP.seq {w w1 w2 : World} {B M : Nat} {v v1 : Value} {g : List Gt} (q2 : Kp (Sv B M v) w w1) (q3 : NewV w v v1) (k : GrP w1 B M v1 g w2) : GrP w B M v g w2 := by
  obtain ⟨v2, b1, b2, b3⟩ := k
  exact ⟨v2, b1, q2.trans b2 (sv_new q3), q3.trans b3 q2.size⟩

theorem and_any (w : World) (B M : Nat) (v : Value) (g : List Gt) (a b : Int) (hA : Gr w B M v g) (hl : g.length ≤ 999999) :
    Calls Try.prog 61 #[.pointer (some ⟨B, 0, none⟩), .int .i64 a, .int .i64 b] w (ActP w B M v (andF g a b)) := by
  by_cases h : (isB g a && isB g b) = true
  · simp at h
    exact and_yes w B M v g a b hA hl h.1 h.2
  · have h' : (isB g a && isB g b) = false := by simpa using h
    refine (and_no w B M v g a b hA h').mono ?_
    rintro e w' ⟨rfl, rfl⟩
    rw [(and_grow hA.may a b).2.2 h']
    exact ⟨rfl, GrP.of_below hA (Below.refl _ _)⟩

theorem and_i64 {g : List Gt} (hm : May g) (hl : g.length ≤ 999999) (a b : Int) : inI64 (andF g a b).2 ∧ -1 ≤ (andF g a b).2 ∧ (andF g a b).1.length ≤ g.length + 1 := by
  have h := and_grow hm a b
  have hlen := h.1.len
  by_cases hc : (isB g a && isB g b) = true
  · simp at hc
    have := isB_iff.1 (h.2.1 hc.1 hc.2)
    unfold inI64; omega
  · have h' : (isB g a && isB g b) = false := by simpa using hc
    rw [h.2.2 h']
    unfold inI64; simp

set_option maxHeartbeats 2000000 in
theorem or_any (w : World) (B M : Nat) (v : Value) (g : List Gt) (a b : Int) (hA : Gr w B M v g) (hl : g.length ≤ 999999) (ha : inI64 a) (hb : inI64 b) :
    Calls Try.prog 59 #[.pointer (some ⟨B, 0, none⟩), .int .i64 a, .int .i64 b] w (ActP w B M v (orF g a b)) := by
  have AN := hide (and_any w B M v g (notI a) (notI b) hA hl)
  have hi := (and_i64 hA.may hl (notI a) (notI b)).1
  have hR : orF g a b = ((andF g (notI a) (notI b)).1, negF (andF g (notI a) (notI b)).2) := rfl
  rw [hR]
  have NN : Hid (∀ W x, inI64 x → Calls Try.prog 62 #[.int .i64 x] W fun e w' => e = .returned (.int .i64 (notI x)) ∧ w' = W) := fun W x hx => not_any W x hx
  clear hA hR
  generalize andF g (notI a) (notI b) = R at *
  obtain ⟨g', l⟩ := R
  dsimp only at *
  by_cases hl1 : l = -1
  · have hn : negF l = -1 := by unfold negF; rw [if_pos hl1]
    rw [hn]
    subst hl1
    clear hn hi
    go_enter Try.func59, Try.ntmps59
    go_wp2_with (first
      | (go_at_call 62; refine (unhide NN _ _ (by assumption)).mono ?_; rintro e w0 ⟨rfl, hw0⟩; subst w0)
      | (go_at_call 61; refine (unhide AN).mono ?_; rintro e w1 ⟨rfl, hg1⟩))
    go_ret
    exact ⟨rfl, hg1⟩
  · have hn : negF l = notI l := by unfold negF; rw [if_neg hl1]
    rw [hn]
    have e1 : (l == -1) = false := by simpa using hl1
    have e2 : decide (l = -1) = false := by simpa using hl1
    clear hn
    go_enter Try.func59, Try.ntmps59
    go_wp2_with (first
      | (go_at_call 62; refine (unhide NN _ _ (by assumption)).mono ?_; rintro e w0 ⟨rfl, hw0⟩; subst w0)
      | (go_at_call 61; refine (unhide AN).mono ?_; rintro e w1 ⟨rfl, hg1⟩))
    go_ret
    exact ⟨rfl, hg1⟩

theorem or_i64 {g : List Gt} (hm : May g) (hl : g.length ≤ 999999) (a b : Int) : (orF g a b).1.length ≤ g.length + 1 := (or_grow hm a b).1.len.2

set_option maxHeartbeats 2000000 in
theorem xor_any (w : World) (B M : Nat) (v : Value) (g : List Gt) (a b : Int) (hA : Gr w B M v g) (hl : g.length ≤ 999997) (ha : inI64 a) (hb : inI64 b) :
    Calls Try.prog 55 #[.pointer (some ⟨B, 0, none⟩), .int .i64 a, .int .i64 b] w (ActP w B M v (xorF g a b)) := by
  have h1 := and_i64 hA.may (by omega) a (notI b)
  have m1 := (and_grow hA.may a (notI b)).1.may
  have h2 := and_i64 m1 (by omega) (notI a) b
  have m2 := (and_grow m1 (notI a) b).1.may
  have A1 := hide (and_any w B M v g a (notI b) hA (by omega))
  have A2 : Hid (∀ W v', Gr W B M v' (andF g a (notI b)).1 → Calls Try.prog 61 #[.pointer (some ⟨B, 0, none⟩), .int .i64 (notI a), .int .i64 b] W (ActP W B M v' (andF (andF g a (notI b)).1 (notI a) b))) := fun W v' h => and_any W B M v' _ _ _ h (by omega)
  have A3 : Hid (∀ W v', Gr W B M v' (andF (andF g a (notI b)).1 (notI a) b).1 → Calls Try.prog 59 #[.pointer (some ⟨B, 0, none⟩), .int .i64 (andF g a (notI b)).2, .int .i64 (andF (andF g a (notI b)).1 (notI a) b).2] W (ActP W B M v' (xorF g a b))) := fun W v' h => or_any W B M v' _ _ _ h (by omega) h1.1 h2.1
  have NN : Hid (∀ W x, inI64 x → Calls Try.prog 62 #[.int .i64 x] W fun e w' => e = .returned (.int .i64 (notI x)) ∧ w' = W) := fun W x hx => not_any W x hx
  clear hA h1 m1 h2 m2 hl
  generalize xorF g a b = Z at *
  generalize andF (andF g a (notI b)).1 (notI a) b = R2 at *
  generalize andF g a (notI b) = R1 at *
  obtain ⟨g1, l1⟩ := R1
  obtain ⟨g2, l2⟩ := R2
  dsimp only at *
  go_enter Try.func55, Try.ntmps55
  go_upto_region 2 with (first
    | (go_at_call 62; refine (unhide NN _ _ (by assumption)).mono ?_; rintro e w0 ⟨rfl, hw0⟩; subst w0)
    | (go_at_call 61; refine (unhide A1).mono ?_; rintro e w1 ⟨rfl, v1, q1, q2, q3⟩))
  clear A1
  go_upto_region 3 with (first
    | (go_at_call 62; refine (unhide NN _ _ (by assumption)).mono ?_; rintro e w0 ⟨rfl, hw0⟩; subst w0)
    | (go_at_call 61; refine (unhide A2 _ _ q1).mono ?_; rintro e w2 ⟨rfl, v2, r1, r2, r3⟩))
  go_wp2_with (first
    | (go_at_call 59; refine (unhide A3 _ _ r1).mono ?_; rintro e w3 ⟨rfl, hg3⟩))
  go_ret
  exact ⟨rfl, (hg3.seq r2 r3).seq q2 q3⟩

/-- Numbers behind a slice. -/
def Row (w : World) (a : Option Addr) (l : List Int) : Prop := ∀ k (h : k < l.length), ∃ b off, a = some ⟨b, off, none⟩ ∧ b < w.heap.size ∧ w.cell? ⟨b, off + k, none⟩ = some (.int .i64 l[k])

theorem Row.kp {w W : World} {al : Option Addr} {l : List Int} {S : Nat → Prop} (h : Row w al l) (hk : Kp S w W) (ho : ∀ b off, al = some ⟨b, off, none⟩ → ¬ S b) : Row W al l := by
  intro k hk'
  obtain ⟨b, off, e, hb, hc⟩ := h k hk'
  exact ⟨b, off, e, Nat.lt_of_lt_of_le hb hk.size, (World.cell?_of_block (hk.block b hb (ho b off e))).trans hc⟩
theorem Row.below {w W : World} {al : Option Addr} {l : List Int} (h : Row w al l) (hb : Below w.heap.size w W) : Row W al l := h.kp (S := fun _ => False) (Kp.of_below hb) (fun _ _ _ e => e)
theorem all_next (g : List Gt) (x k : Int) (l : List Int) : allF g x (k :: l) = allF (andF g x k).1 (andF g x k).2 l := rfl
theorem all_snoc : ∀ (l : List Int) (g : List Gt) (x k : Int), allF g x (l ++ [k]) = andF (allF g x l).1 (allF g x l).2 k
  | [], g, x, k => rfl
  | j :: l, g, x, k => by simp only [List.cons_append, all_next]; exact all_snoc l _ _ _

set_option maxHeartbeats 2000000 in
theorem all_any (w : World) (B M : Nat) (v : Value) (g : List Gt) (al : Option Addr) (cap : Nat) (l : List Int) (hA : Gr w B M v g) (hl : g.length + l.length ≤ 999998) (hr : Row w al l) (hoff : ∀ b off, al = some ⟨b, off, none⟩ → ¬ Sv B M v b) :
    Calls Try.prog 53 #[.pointer (some ⟨B, 0, none⟩), .slice al l.length cap] w (ActP w B M v (allF (andF g 1 1).1 (andF g 1 1).2 l)) := by
  have AN : Hid (∀ W v' g' x y, Gr W B M v' g' → g'.length ≤ 999999 → Calls Try.prog 61 #[.pointer (some ⟨B, 0, none⟩), .int .i64 x, .int .i64 y] W (ActP W B M v' (andF g' x y))) := fun W v' g' x y h h2 => and_any W B M v' g' x y h h2
  have HA := hide hA
  have HR := hide hr
  have HO := hide hoff
  have hm1 := (and_grow hA.may 1 1).1
  have hl1 := hm1.len
  have HM1 := hide hm1.may
  have hlx : l.length ≤ 999998 := by omega
  clear hA hr hoff hm1
  generalize hg1 : andF g 1 1 = R1 at *
  have HG1 := hide hg1
  clear hg1
  obtain ⟨g1, x1⟩ := R1
  dsimp only at *
  go_enter Try.func53, Try.ntmps53
  go_upto_region 2 with (first
    | (go_at_call 61; refine (unhide AN _ _ _ _ _ HA.out (by omega)).mono ?_; rintro e w1 ⟨rfl, hgp⟩))
  rw [HG1.out] at hgp ⊢
  dsimp only at hgp ⊢
  have HGP := hide hgp
  clear hgp
  clear HG1
  go_wp2
  go_loopw [5, 12] (fun x i W => ∃ k : Nat, k ≤ l.length ∧ i = .int .i64 (k : Int) ∧ x = .int .i64 (allF g1 x1 (l.take k)).2 ∧ Hid (GrP w B M v (allF g1 x1 (l.take k)).1 W)) (fun _ i _ => l.length - (intOf i).toNat)
  case atStart => exact ⟨0, Nat.zero_le _, rfl, rfl, HGP⟩
  case round =>
    clear HGP
    obtain ⟨k, hk, rfl, rfl, HK⟩ := hrel
    obtain ⟨v', q1, q2, q3⟩ := HK.out
    by_cases hlt : k < l.length
    · obtain ⟨b, off, rfl, hb, hcell⟩ := (HR.out.kp q2 HO.out) k hlt
      have hgr := (all_grow (l.take k) x1 HM1.out).1
      have hll := hgr.len
      have htk : (l.take k).length = k := by simp; omega
      rw [htk] at hll
      have hsn : allF g1 x1 (l.take (k + 1)) = andF (allF g1 x1 (l.take k)).1 (allF g1 x1 (l.take k)).2 l[k] := by rw [List.take_succ_eq_append_getElem hlt, all_snoc]
      have HSN := hide hsn
      have A := hide (unhide AN wr v' _ (allF g1 x1 (l.take k)).2 l[k] q1 (by omega))
      have Q2 := hide q2
      have Q3 := hide q3
      clear hsn hgr hll htk q1 q2 q3
      generalize allF g1 x1 (l.take k) = R at *
      generalize l[k] = y at *
      obtain ⟨g2, z⟩ := R
      dsimp only at *
      go_wp2_with (first
        | (go_at_call 61; refine (unhide A).mono ?_; rintro e w2 ⟨rfl, hg2⟩))
      go_roundw
      case rel => exact ⟨k + 1, by omega, by go_num, by rw [HSN.out], by rw [HSN.out]; exact hg2.seq Q2.out Q3.out⟩
      case measure => simp [intOf]; omega
    · have hke : k = l.length := by omega
      subst hke
      rw [List.take_length] at HK ⊢
      go_wp2
      go_ret
      exact ⟨rfl, HK.out⟩
end Go.Proofs.Ytbilhiklfficoaa
